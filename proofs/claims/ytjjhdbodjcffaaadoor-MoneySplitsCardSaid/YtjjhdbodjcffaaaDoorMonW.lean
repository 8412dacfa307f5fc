/-
  Rows of integers of the call's own.
-/
import Derived.Test.YtjjhdbodjcffaaaDoorMonV
import Derived.Test.YtjjhdbodjcffaaaDoorMonU
import Derived.RegionTactic
import Derived.ChangeAlike
import Derived.Laws.MakeOwn
import Derived.Laws.OwnMore
import Derived.Deep.Draws
namespace Go.Proofs.YtjjhdbodjcffaaaDoor
open Go.RowKit
open IntWalk

/-- A block that is just these integers. -/
def Row (w : World) (g : Nat) (t : TypeId) (k : IntKind) (l : List Int) : Prop := w.heap[g]? = some (.cells ((l.map (Value.int k)).toArray) t (0, 0))
theorem Row.low {w : World} {g : Nat} {t : TypeId} {k : IntKind} {l : List Int} (h : Row w g t k l) : g < w.heap.size := by
  rcases Nat.lt_or_ge g w.heap.size with hl | hl
  · exact hl
  · unfold Row at h; rw [Array.getElem?_eq_none hl] at h; cases h
theorem Row.get {w : World} {g : Nat} {t : TypeId} {k : IntKind} {l : List Int} (h : Row w g t k l) (i : Nat) (hi : i < l.length) : w.cell? ⟨g, i, none⟩ = some (.int k (l[i]'hi)) := by
  rw [cell_of_row w g i _ t (0, 0) h]; simp [hi]
theorem Row.free {w : World} {g : Nat} {t : TypeId} {k : IntKind} {l : List Int} (h : Row w g t k l) (i : Nat) : w.frozen? ⟨g, i, none⟩ = false := by
  unfold Row at h; simp [World.frozen?, h]
theorem Row.put {w : World} {g : Nat} {t : TypeId} {k : IntKind} {l : List Int} (h : Row w g t k l) (i : Nat) (x : Int) : Row (w.setCell ⟨g, i, none⟩ (.int k x)) g t k (l.set i x) := by
  unfold Row at h ⊢
  simp only [World.setCell, Array.getElem?_modify, h]
  simp [List.map_set]
theorem Row.far {w : World} {g : Nat} {t : TypeId} {k : IntKind} {l : List Int} (h : Row w g t k l) {p : Addr} (hp : g ≠ p.block) (u : Value) : Row (w.setCell p u) g t k l := (Below.heap_setCell w p u g hp).trans h
theorem Row.draws {w : World} {g : Nat} {t : TypeId} {k : IntKind} {l : List Int} (h : Row w g t k l) (n : Nat) : Row (w.drewN n) g t k l := h
theorem Row.more {w : World} {g : Nat} {t : TypeId} {k : IntKind} {l : List Int} (h : Row w g t k l) (o : Obj) : Row (w.alloc o) g t k l := (Below.heap_alloc w o g h.low).trans h
theorem Row.kept {w w' : World} {B g : Nat} {t : TypeId} {k : IntKind} {l : List Int} (h : Row w g t k l) (hb : Below B w w') (hg : g < B) : Row w' g t k l := (hb.block g hg).trans h
theorem Row.ne {w : World} {g g' : Nat} {t t' : TypeId} {k k' : IntKind} {l l' : List Int} (h : Row w g t k l) (h' : Row w g' t' k' l') (hne : t ≠ t') : g ≠ g' := by
  rintro rfl
  unfold Row at h h'
  rw [h] at h'
  injection h' with h'
  injection h' with _ ht
  exact hne ht
theorem Row.fresh (w : World) (t : TypeId) (k : IntKind) (n : Nat) : Row (w.alloc (.cells ((List.replicate n (Value.int k 0)).toArray) t)) w.heap.size t k (List.replicate n 0) := by
  unfold Row
  rw [heap_alloc_new, List.map_replicate]
theorem Tryd.intInfo : (Tryd.prog.info? 3).map (fun i => (i.zero, i.size, i.bytes)) = some (some (.int .i64 0), 1, 8) := by kernel_rfl
theorem Tryd.wordInfo : (Tryd.prog.info? 45).map (fun i => (i.zero, i.size, i.bytes)) = some (some (.int .u64 0), 1, 8) := by kernel_rfl
theorem make_ints (n : Nat) (h : n ≤ 2000000) (W : World) : (Instr.makeSlice 32 (.int .i64 (n : Int)) (.int .i64 (n : Int))).run Tryd.prog W = .ok (.slice (some ⟨W.heap.size, 0, none⟩) n n) (W.alloc (.cells ((List.replicate n (Value.int .i64 0)).toArray) 3)) := by
  obtain ⟨i0, hi, hz0, hz1, hz2⟩ := info_parts Tryd.intInfo
  have hr := run_make (P := Tryd.prog) W 32 3 i0 (.int .i64 0) Tryd.underlying32 hi hz0 .i64 .i64 n n (by omega) (by omega) (by rw [hz2]; omega) (by omega)
  rw [hz1, Int.toNat_natCast, Nat.mul_one] at hr
  have e : madeCells (Value.int .i64 0).cells n = (List.replicate n (Value.int .i64 0)).toArray := Array.toList_inj.1 (toList_madeCells_one _ n)
  rw [e] at hr
  exact hr
theorem make_words (n : Nat) (h : n ≤ 2000000) (W : World) : (Instr.makeSlice 58 (.int .i64 (n : Int)) (.int .i64 (n : Int))).run Tryd.prog W = .ok (.slice (some ⟨W.heap.size, 0, none⟩) n n) (W.alloc (.cells ((List.replicate n (Value.int .u64 0)).toArray) 45)) := by
  obtain ⟨i0, hi, hz0, hz1, hz2⟩ := info_parts Tryd.wordInfo
  have hr := run_make (P := Tryd.prog) W 58 45 i0 (.int .u64 0) Tryd.underlying58 hi hz0 .i64 .i64 n n (by omega) (by omega) (by rw [hz2]; omega) (by omega)
  rw [hz1, Int.toNat_natCast, Nat.mul_one] at hr
  have e : madeCells (Value.int .u64 0).cells n = (List.replicate n (Value.int .u64 0)).toArray := Array.toList_inj.1 (toList_madeCells_one _ n)
  rw [e] at hr
  exact hr
end Go.Proofs.YtjjhdbodjcffaaaDoor
