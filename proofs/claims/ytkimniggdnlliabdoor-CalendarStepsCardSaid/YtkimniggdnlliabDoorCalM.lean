/-
  What Time returns, in the reference of the package calendar: all ways.
-/
import Derived.Test.YtkimniggdnlliabDoorCalL
namespace Go.Proofs.YtkimniggdnlliabDoor
open Go.RowKit
open Cal

theorem field_wd (a b c d e : Int) (X : World) : (Instr.field 25 (.agg #[.int .i64 a, .int .i64 b, .int .i64 c, .int .i64 d, .int .i64 e]) 3).run Tryd.prog X = .ok (.int .i64 d) X := by kernel_rfl
theorem keep_draws {w X : World} {W : Int} (h : Below w.heap.size w X ∧ w.heap.size < X.heap.size ∧ X.cell? ⟨w.heap.size, 3, none⟩ = some (.int .i64 W)) (q : Nat) : Below w.heap.size w (X.drewN q).drew ∧ w.heap.size < (X.drewN q).drew.heap.size ∧ (X.drewN q).drew.cell? ⟨w.heap.size, 3, none⟩ = some (.int .i64 W) := ⟨(b_draws h.1 q).drew, h.2.1, h.2.2⟩
theorem keep_drew {w X : World} {W : Int} (h : Below w.heap.size w X ∧ w.heap.size < X.heap.size ∧ X.cell? ⟨w.heap.size, 3, none⟩ = some (.int .i64 W)) : Below w.heap.size w X.drew ∧ w.heap.size < X.drew.heap.size ∧ X.drew.cell? ⟨w.heap.size, 3, none⟩ = some (.int .i64 W) := ⟨h.1.drew, h.2.1, h.2.2⟩
theorem keep_call {w X Z : World} {W : Int} (h : Below w.heap.size w X ∧ w.heap.size < X.heap.size ∧ X.cell? ⟨w.heap.size, 3, none⟩ = some (.int .i64 W)) (g : Below X.heap.size X Z) : Below w.heap.size w Z ∧ w.heap.size < Z.heap.size ∧ Z.cell? ⟨w.heap.size, 3, none⟩ = some (.int .i64 W) :=
  ⟨b2 h.1 g, Nat.lt_of_lt_of_le h.2.1 g.size, (g.cell (p := ⟨w.heap.size, 3, none⟩) h.2.1).trans h.2.2⟩

end Go.Proofs.YtkimniggdnlliabDoor
