/-
  What Spans of the reference returns.
-/
import Derived.Test.YtmapkiefmbgdoabDoorWinT
namespace Go.Proofs.YtmapkiefmbgdoabDoor
open Go.RowKit
open Cal
set_option linter.unusedVariables false

theorem nxI_yes {d s e f u o : Int} {sm : Bool} {t : Int} (h : OkW d s e f u) (o0 : -840 ≤ o) (o1 : o ≤ 840) (h0 : 0 ≤ t) (h1 : t ≤ 268435456) : nxI d s e f u o sm t = nxt (hB d s e f u o sm) t := if_pos ⟨⟨h, o0, o1⟩, h0, h1⟩
def spanB (F T : Int) : Bool := decide (0 ≤ F ∧ F ≤ T ∧ T ≤ 268435456)
/-- The cells of a window, of a zone and of a span, and what lay ahead. -/
structure KT (w : World) (a0 a1 a2 a3 a4 a5 a6 b0 b1 : Value) (X : World) : Prop where
  kn : KN w.heap.size a0 a1 a2 a3 a4 a5 a6 X
  l2 : w.heap.size + 1 + 1 < X.heap.size
  c0 : X.cell? ⟨w.heap.size + 1 + 1, 0, none⟩ = some b0
  c1 : X.cell? ⟨w.heap.size + 1 + 1, 1, none⟩ = some b1
  below : Below w.heap.size w X
theorem KT.below_ {w : World} {a0 a1 a2 a3 a4 a5 a6 b0 b1 : Value} {X X' : World} (g : KT w a0 a1 a2 a3 a4 a5 a6 b0 b1 X) (b : Below X.heap.size X X') : KT w a0 a1 a2 a3 a4 a5 a6 b0 b1 X' :=
  ⟨g.kn.below b, Nat.lt_of_lt_of_le g.l2 b.size, by rw [(bcell b).1 _ _ g.l2]; exact g.c0, by rw [(bcell b).1 _ _ g.l2]; exact g.c1, b2 g.below b⟩
theorem KT.push {w : World} {a0 a1 a2 a3 a4 a5 a6 b0 b1 : Value} {X w1 : World} {o : Obj} {v : Value} {l : List (Int × Int)} (g : KT w a0 a1 a2 a3 a4 a5 a6 b0 b1 X) (ho : OwnP X (w.heap.size + 1 + 1 + 1) v l) (hg : (X.alloc o).grownBy w1 v.ownBlock) : KT w a0 a1 a2 a3 a4 a5 a6 b0 b1 w1 := by
  have hA : X.heap.size ≤ w1.heap.size := Nat.le_trans (by simp) hg.size
  have old : ∀ q, q < w.heap.size + 1 + 1 + 1 → w1.heap[q]? = X.heap[q]? := fun q hq => grown_block hg (by have := g.l2; omega) (fun e => by have := (ho.cells q e).1; omega)
  refine ⟨g.kn.blocks hA (old w.heap.size (by omega)) (old (w.heap.size + 1) (by omega)), Nat.lt_of_lt_of_le g.l2 hA, (World.cell?_of_block (old (w.heap.size + 1 + 1) (by omega))).trans g.c0, (World.cell?_of_block (old (w.heap.size + 1 + 1) (by omega))).trans g.c1, ?_⟩
  exact (g.below.alloc (by have := g.l2; omega) o).grown hg (by simp; have := g.l2; omega) (fun k e => by have := (ho.cells k e).1; omega)

end Go.Proofs.YtmapkiefmbgdoabDoor
