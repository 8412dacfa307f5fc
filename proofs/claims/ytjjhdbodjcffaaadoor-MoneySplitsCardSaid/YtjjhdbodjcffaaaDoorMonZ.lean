/-
  The order of the remainders, sorted; the parts of an amount.
-/
import Derived.Test.YtjjhdbodjcffaaaDoorMonY
import Derived.Test.YtjjhdbodjcffaaaDoorMonR
namespace Go.Proofs.YtjjhdbodjcffaaaDoor
open Go.RowKit Go.Lib Go.Sort Go.Shelf
open IntWalk

/-- A place, as the order holds it. -/
def encF (n : Nat) (x : Fin n) : Value := .int .i64 (x.val : Int)
theorem encF_one (n : Nat) : OneCell (encF n) := fun _ => rfl
def cmpF (n : Nat) (r : Nat → Int) (x y : Fin n) : Int := cmpI (r y.val) (r x.val)
theorem ltF (n : Nat) (r : Nat → Int) : ltOf (cmpF n r) = Rk.gt0 (fun x : Fin n => r x.val) := by
  funext x y
  unfold ltOf cmpF cmpI Rk.gt0
  by_cases h : r y.val < r x.val
  · rw [if_pos h]; simp [h]
  · rw [if_neg h]
    split <;> simp [h]
theorem putRow_heap {α : Type} [Inhabited α] (enc : α → Value) (w : World) (blk off : Nat) (d : Array α) (g : Nat) (h : g ≠ blk) : (putRow enc w blk off d).heap[g]? = w.heap[g]? := by
  unfold putRow mapBlock
  simp only [Array.getElem?_modify]
  rw [if_neg (by omega)]
theorem putRow_below {α : Type} [Inhabited α] (enc : α → Value) (w : World) (B blk off : Nat) (d : Array α) (h : B ≤ blk) : Below B w (putRow enc w blk off d) :=
  ⟨rfl, rfl, rfl, by rw [size_putRow]; exact Nat.le_refl _, fun k hk => putRow_heap enc w blk off d k (by omega)⟩
theorem putRow_row {n : Nat} [Inhabited (Fin n)] (w : World) (g : Nat) (t : TypeId) (l : List Int) (d : Array (Fin n)) (hl : l.length = n) (hd : d.size = n) (h : Row w g t .i64 l) : Row (putRow (encF n) w g 0 d) g t .i64 (d.toList.map (fun x => (x.val : Int))) := by
  unfold Row at h ⊢
  unfold putRow mapBlock
  simp only [Array.getElem?_modify, h, if_true, Option.map_some, onCells]
  congr 2
  apply Array.ext_getElem?
  intro k
  simp only [putCells, Array.getElem?_mapIdx]
  by_cases hk : k < n
  · have e1 : (l.map (Value.int .i64)).toArray[k]? = some (.int .i64 (l[k]'(by omega))) := by simp [show k < l.length by omega]
    rw [e1, Option.map_some, if_pos ⟨Nat.zero_le _, by omega⟩, Nat.sub_zero, getElem!_pos d k (by omega)]
    simp [show k < d.size by omega, encF]
  · have e1 : (l.map (Value.int .i64)).toArray[k]? = none := by simp; omega
    rw [e1]
    have e2 : d[k]? = none := Array.getElem?_eq_none (by omega)
    simp [e2]
theorem row_holds {n : Nat} [Inhabited (Fin n)] (w : World) (g : Nat) (t : TypeId) (h : Row w g t .i64 ((List.range n).map (fun i : Nat => (i : Int)))) : Holds (encF n) w g 0 (Rk.ids n) := fun j hj => by
  rw [Rk.ids_size] at hj
  refine ⟨?_, by rw [Nat.zero_add]; exact h.free j⟩
  rw [Nat.zero_add, h.get j (by simpa using hj)]
  unfold encF
  rw [Rk.ids_at j hj]
  simp
/-- What a sort that is right leaves of the order. -/
theorem ord_list (n : Nat) (r : Nat → Int) (d : Array (Fin n)) (h : Rk.Ord (fun x : Fin n => r x.val) d) : OrdL ((List.range n).map r) (d.toList.map (fun x => (x.val : Int))) where
  len := by simp [h.size]
  bd x hx := by
    obtain ⟨y, _, rfl⟩ := List.mem_map.1 hx
    have := y.2
    simp only [List.length_map, List.length_range]; omega
  nodup := by
    unfold List.Nodup
    rw [List.pairwise_map]
    exact h.nodup.imp (fun hne e => hne (Fin.ext (by omega)))
  take i k hi := by
    rw [List.length_map, List.length_range] at hi
    have e : rankN ((List.range n).map r) i = Rk.rank (fun x : Fin n => r x.val) ⟨i, hi⟩ := by
      unfold rankN
      rw [dif_pos (by simpa using hi)]
      have : ∀ m (hm : m = n) (f : Fin m → Int) (hf : ∀ x : Fin m, f x = r x.val) (hi' : i < m), Rk.rank f ⟨i, hi'⟩ = Rk.rank (fun x : Fin n => r x.val) ⟨i, hi⟩ := by
        intro m hm f hf hi'
        subst hm
        rw [show f = fun x => r x.val from funext hf]
      exact this _ (by simp) _ (fun x => by simp) _
    rw [e, ← h.take ⟨i, hi⟩ k, ← List.map_take]
    simp only [List.mem_map]
    constructor
    · rintro ⟨y, hy, e⟩
      have : y = ⟨i, hi⟩ := Fin.ext (by simp; omega)
      rw [← this]; exact hy
    · intro hy
      exact ⟨_, hy, rfl⟩

/-- The comparison, in every world of the sort. -/
theorem cmp_reads {n : Nat} [Inhabited (Fin n)] (r : Nat → Int) (w : World) (h : Nat) (ps os : List Int) (m : Mem w h n ps ((List.range n).map r) os) :
    CmpReads Tryd.prog 44 #[.pointer (some ⟨h + 1 + 1, 0, none⟩)] (encF n) (cmpF n r) (h + 1 + 1 + 1) 0 n w := by
  intro q os' dk hd x y
  have hlt := m.2.2.2.low
  have hcell : ∀ a : Addr, a.block < h + 1 + 1 + 1 → (Go.Proofs.sortWorld (encF n) w (h + 1 + 1 + 1) 0 q dk os').cell? a = w.cell? a := fun a ha => by
    unfold Go.Proofs.sortWorld
    rw [cell?_grow _ _ _ (by simp; omega), cell?_putRow_other _ _ _ _ _ _ (.inl (by omega)), cell?_ahead]
  have hsz : (Go.Proofs.sortWorld (encF n) w (h + 1 + 1 + 1) 0 q dk os').heap.size = w.heap.size + os'.size := by
    unfold Go.Proofs.sortWorld; simp
  have hl : ((List.range n).map r).length = n := by simp
  have := less_run (h + 1 + 1) (h + 1) 0 n ((List.range n).map r) x.val y.val (Go.Proofs.sortWorld (encF n) w (h + 1 + 1 + 1) 0 q dk os') (by rw [hl]; exact x.2) (by rw [hl]; exact y.2)
    (by rw [hcell _ (by simp), hl]; exact m.cell) ⟨by rw [hsz]; omega, fun i hi => by rw [hcell _ (by simp), Nat.zero_add]; exact m.2.1.get i hi⟩
  simp only [List.getElem_map, List.getElem_range] at this
  exact this
theorem enters_less : ∀ args w, (callFunc 44 args).run Tryd.prog w = .ok (.enter 44 args) w := enters_of Tryd.func44 (by kernel_rfl) rfl

theorem sorts_small (n : Nat) (n1 : 1 ≤ n) (n2 : n < 20) (r : Nat → Int) (w W1 : World) (ps : List Int) (m : Mem W1 w.heap.size n ps ((List.range n).map r) ((List.range n).map (fun i : Nat => (i : Int)))) (hb : Below w.heap.size w W1) :
    Calls Tryd.prog 43 #[.slice (some ⟨w.heap.size + 1 + 1 + 1, 0, none⟩) n n, .func (.func 44) #[] #[.pointer (some ⟨w.heap.size + 1 + 1, 0, none⟩)]] W1 fun e w' =>
      e = .returned (.tuple #[]) ∧ (∃ os, OrdL ((List.range n).map r) os ∧ Mem w' w.heap.size n ps ((List.range n).map r) os) ∧ Below w.heap.size w w' := by
  haveI : Inhabited (Fin n) := ⟨⟨0, n1⟩⟩
  have hc := sort_small (encF n) (encF_one n) (cmpF n r) 44 #[.pointer (some ⟨w.heap.size + 1 + 1, 0, none⟩)] (w.heap.size + 1 + 1 + 1) 0 n (Rk.ids n) W1 enters_less (by rw [Rk.ids_size]; exact cmp_reads r W1 _ ps _ m) (row_holds W1 _ _ m.2.2.2) (by rw [Rk.ids_size]; exact n2)
  rw [Rk.ids_size, ltF] at hc
  refine hc.mono ?_
  rintro e w' ⟨he, q, rfl⟩
  have ho := Rk.ord_small (fun x : Fin n => r x.val)
  refine ⟨he, ⟨_, ord_list n r _ ho, ?_⟩, ?_⟩
  · have hd := ho.size
    generalize Sort.insertionSort (Rk.gt0 fun x : Fin n => r x.val) (Rk.ids n) 0 n = d at hd ⊢
    refine ⟨?_, ?_, ?_, (putRow_row W1 _ _ _ d (by simp) hd m.2.2.2).draws q⟩
    · exact (putRow_heap _ _ _ _ _ _ (by omega)).trans m.1
    · exact (putRow_heap _ _ _ _ _ _ (by omega)).trans m.2.1
    · exact (putRow_heap _ _ _ _ _ _ (by omega)).trans m.2.2.1
  · exact b_draws (hb.trans (putRow_below _ _ _ _ _ _ (by omega))) q
end Go.Proofs.YtjjhdbodjcffaaaDoor
