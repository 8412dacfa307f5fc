/-
  The stable sort of the places of any number of weights.
-/
import Derived.Test.YtjjhdbodjcffaaaDoorMonAA
import Derived.Test.YtjjhdbodjcffaaaDoorMonAJ
namespace Go.Proofs.YtjjhdbodjcffaaaDoor
open Go.RowKit Go.Lib Go.Sort Go.Shelf
open IntWalk
set_option linter.unusedVariables false

theorem sorts_any (n : Nat) (n1 : 1 ≤ n) (n2 : n ≤ 520) (r : Nat → Int) : SortsC n r := fun w W1 ps m hb => by
  haveI : Inhabited (Fin n) := ⟨⟨0, n1⟩⟩
  have low := m.2.2.2.low
  have R : Row1 (encF n) W1 (w.heap.size + 1 + 1 + 1) 0 (Rk.ids n) := ⟨encF_one n, row_holds W1 _ _ m.2.2.2, low⟩
  have hc := sort_run (encF n) (Rk.lex (fun x : Fin n => r x.val)) (Rk.lex_swo _) Fin.val (cmpF n r) (by rw [ltF]; exact fun x y h => Rk.gt_lex _ x y h) 44 #[.pointer (some ⟨w.heap.size + 1 + 1, 0, none⟩)]
    (w.heap.size + 1 + 1 + 1) 0 n (Rk.ids n) W1 enters_less (by rw [Rk.ids_size]; exact (cmp_reads r W1 _ ps _ m).lays) R (by rw [Rk.ids_size]; omega) (fun p hp => Rk.ids_at p (by rwa [Rk.ids_size] at hp))
  rw [Rk.ids_size] at hc
  refine hc.mono ?_
  rintro e w' ⟨he, d, D, q, os, rfl⟩
  have ho := Rk.ord_of (fun x : Fin n => r x.val) d D
  have hd := ho.size
  have hh : ∀ k, k < W1.heap.size → k ≠ w.heap.size + 1 + 1 + 1 → (sortWorld (encF n) W1 (w.heap.size + 1 + 1 + 1) 0 q d os).heap[k]? = W1.heap[k]? := fun k hk hne => by
    unfold sortWorld
    rw [heap_grow_old _ _ (by rw [size_putRow]; exact hk)]
    exact putRow_heap (encF n) (Go.Sort.ahead W1 q) _ _ d k hne
  refine ⟨he, ⟨_, ord_list n r d ho, ?_⟩, ?_⟩
  · refine ⟨(hh _ m.1.low (by omega)).trans m.1, (hh _ m.2.1.low (by omega)).trans m.2.1, (hh _ (by omega) (by omega)).trans m.2.2.1, ?_⟩
    have m4 : Row (Go.Sort.ahead W1 q) (w.heap.size + 1 + 1 + 1) 3 .i64 ((List.range n).map (fun i : Nat => (i : Int))) := m.2.2.2
    have hr := putRow_row (Go.Sort.ahead W1 q) (w.heap.size + 1 + 1 + 1) _ _ d (by simp) hd m4
    unfold Row at hr ⊢
    unfold sortWorld
    rw [heap_grow_old _ _ (by rw [size_putRow]; exact low)]
    exact hr
  · refine ⟨hb.os, hb.tape, hb.output, Nat.le_trans hb.size ?_, fun k hk => (hh k (by omega) (by omega)).trans (hb.block k hk)⟩
    unfold sortWorld
    rw [size_grow, size_putRow]
    exact Nat.le_add_right _ _
end Go.Proofs.YtjjhdbodjcffaaaDoor
