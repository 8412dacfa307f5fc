/-
  What the laws on limits need: results of Pack and Unpack in one form; rows of bytes that are made.
-/
import Derived.Test.YteancehdiliepaaFrP
import Derived.Laws.MakeOwn
import Derived.Laws.OwnMore
import Derived.Deep.Draws
namespace Go.Proofs.Yteancehdiliepaa
open Go.RowKit
open IntWalk

def packK (l : List UInt8) : Int := if l.length ≤ 4096 then 0 else 3
def packL (l : List UInt8) : List UInt8 := if l.length ≤ 4096 then frm l else []
/-- A slice and a number. -/
def GivesB (w : World) (k : Int) (l : List UInt8) (e : Ending) (w' : World) : Prop :=
  (∃ v, e = .returned (.tuple #[v, .int .i64 k]) ∧ RdB w' v l) ∧ Below w.heap.size w w'
theorem pack_any (u : Value) (l : List UInt8) (w : World) (hR : RdB w u l) : Calls Try.prog 14 #[u] w (GivesB w (packK l) (packL l)) := by
  unfold packK packL
  by_cases h : l.length ≤ 4096
  · rw [if_pos h, if_pos h]
    exact (pack_run u l w h hR).mono fun e w' ⟨⟨v, he, ho⟩, hb⟩ => ⟨⟨v, he, ho.rd⟩, hb⟩
  · rw [if_neg h, if_neg h]
    have hm := rd_len hR
    obtain ⟨p, c, rfl, _, _, _⟩ := hR
    exact (pack_big p l.length c w (by omega) hm).mono fun e w' ⟨he, hw⟩ => ⟨⟨_, he, rdB_nil w'⟩, by subst hw; exact Below.refl _ _⟩
theorem rpack_any (u : Value) (l : List UInt8) (w : World) (hR : RdB w u l) : Calls Try.prog 15 #[u] w (GivesB w (packK l) (packL l)) := by
  unfold packK packL
  by_cases h : l.length ≤ 4096
  · rw [if_pos h, if_pos h]
    exact (rpack_run u l w h hR).mono fun e w' ⟨⟨v, he, ho⟩, hb⟩ => ⟨⟨v, he, ho.rd⟩, hb⟩
  · rw [if_neg h, if_neg h]
    have hm := rd_len hR
    obtain ⟨p, c, rfl, _, _, _⟩ := hR
    exact (rpack_big p l.length c w (by omega) hm).mono fun e w' ⟨he, hw⟩ => ⟨⟨_, he, rdB_nil w'⟩, by subst hw; exact Below.refl _ _⟩
def kOf (r : Except Int (List UInt8)) : Int := match r with | .ok _ => 0 | .error k => k
def lOf (r : Except Int (List UInt8)) : List UInt8 := match r with | .ok l => l | .error _ => []
theorem givesU_any {w : World} {r : Except Int (List UInt8)} {e : Ending} {w' : World} (h : GivesU w r e w') : GivesB w (kOf r) (lOf r) e w' := by
  obtain ⟨h1, h2⟩ := h
  refine ⟨?_, h2⟩
  cases r with
  | ok l => obtain ⟨v, he, ho⟩ := h1; exact ⟨v, he, ho.rd⟩
  | error k => exact ⟨_, h1, rdB_nil w'⟩
/-- A block that is just these bytes. -/
def RowB (w : World) (g : Nat) (l : List UInt8) : Prop := w.heap[g]? = some (.cells ((l.map bv).toArray) 5 (0, 0))
theorem RowB.low {w : World} {g : Nat} {l : List UInt8} (h : RowB w g l) : g < w.heap.size := by
  rcases Nat.lt_or_ge g w.heap.size with hl | hl
  · exact hl
  · unfold RowB at h; rw [Array.getElem?_eq_none hl] at h; cases h
theorem RowB.at_ {w : World} {g : Nat} {l : List UInt8} (h : RowB w g l) : AtB w g 0 l := ⟨h.low, fun i hi => by rw [Nat.zero_add, cell_of_row w g i _ 5 (0, 0) h]; simp [hi]⟩
theorem RowB.free {w : World} {g : Nat} {l : List UInt8} (h : RowB w g l) (i : Nat) : w.frozen? ⟨g, i, none⟩ = false := by
  unfold RowB at h; simp [World.frozen?, h]
theorem RowB.put {w : World} {g : Nat} {l : List UInt8} (h : RowB w g l) (i : Nat) (x : UInt8) : RowB (w.setCell ⟨g, i, none⟩ (bv x)) g (l.set i x) := by
  unfold RowB at h ⊢
  simp only [World.setCell, Array.getElem?_modify, h]
  simp [List.map_set]
theorem RowB.kept {w w' : World} {B g : Nat} {l : List UInt8} (h : RowB w g l) (hb : Below B w w') (hg : g < B) : RowB w' g l := (hb.block g hg).trans h
theorem RowB.fresh (w : World) (n : Nat) : RowB (w.alloc (.cells ((List.replicate n (Value.int .u8 0)).toArray) 5)) w.heap.size (List.replicate n 0) := by
  unfold RowB
  rw [heap_alloc_new, List.map_replicate]
  rfl
theorem RowB.rd {w : World} {g : Nat} {l : List UInt8} (h : RowB w g l) (n : Nat) (hn : n = l.length) (hl : l.length ≤ 2000000) : RdB w (.slice (some ⟨g, 0, none⟩) n n) l := by
  subst hn
  exact ⟨some ⟨g, 0, none⟩, l.length, rfl, Nat.le_refl _, by unfold maxLen; omega, fun _ => ⟨g, 0, rfl, h.at_⟩⟩
theorem make_bytes (n : Nat) (h : n ≤ 2000000) (W : World) : (Instr.makeSlice 22 (.int .i64 (n : Int)) (.int .i64 (n : Int))).run Try.prog W = .ok (.slice (some ⟨W.heap.size, 0, none⟩) n n) (W.alloc (.cells ((List.replicate n (Value.int .u8 0)).toArray) 5)) := by
  obtain ⟨i0, hi, hz0, hz1, hz2⟩ := info_parts Try.byteInfo
  have hr := run_make (P := Try.prog) W 22 5 i0 (.int .u8 0) Try.underlying22 hi hz0 .i64 .i64 n n (by omega) (by omega) (by rw [hz2]; omega) (by omega)
  rw [hz1, Int.toNat_natCast, Nat.mul_one] at hr
  have e : madeCells (Value.int .u8 0).cells n = (List.replicate n (Value.int .u8 0)).toArray := Array.toList_inj.1 (toList_madeCells_one _ n)
  rw [e] at hr
  exact hr
/-- So many of one byte, then of another. -/
def mixB (n k : Nat) (x : UInt8) : List UInt8 := List.replicate k x ++ List.replicate (n - k) 0
theorem mixB_len (n k : Nat) (x : UInt8) (h : k ≤ n) : (mixB n k x).length = n := by unfold mixB; simp; omega
theorem mixB_zero (n : Nat) (x : UInt8) : mixB n 0 x = List.replicate n 0 := by unfold mixB; simp
theorem mixB_all (n : Nat) (x : UInt8) : mixB n n x = List.replicate n x := by unfold mixB; simp
theorem mixB_put (n k : Nat) (x : UInt8) (h : k < n) : (mixB n k x).set k x = mixB n (k + 1) x := by
  unfold mixB
  rw [List.set_append_right _ _ (by simp)]
  simp only [List.length_replicate, Nat.sub_self]
  rw [show n - k = (n - (k + 1)) + 1 by omega, List.replicate_succ, List.set_cons_zero, List.replicate_succ', List.append_assoc]; rfl
theorem rd_off {w : World} {g o n c : Nat} {l : List UInt8} (h : AtB w g 0 l) (ho : o + n ≤ l.length) (hc : n ≤ c) (hm : c ≤ maxLen) : RdB w (.slice (some ⟨g, o, none⟩) n c) ((l.drop o).take n) := by
  have hl : ((l.drop o).take n).length = n := by rw [List.length_take, List.length_drop]; omega
  refine ⟨some ⟨g, o, none⟩, c, by rw [hl], by rw [hl]; exact hc, hm, fun _ => ⟨g, o, rfl, h.1, fun i hi => ?_⟩⟩
  rw [hl] at hi
  have := h.2 (o + i) (by omega)
  rw [Nat.zero_add] at this
  rw [this, List.getElem_take, List.getElem_drop]
end Go.Proofs.Yteancehdiliepaa
