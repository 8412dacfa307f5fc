/-
  What Next of the reference returns.
-/
import Derived.Test.YtmapkiefmbgdoabDoorWinL
import Derived.Test.YtmapkiefmbgdoabDoorWinP
import Derived.WalkLawsBesides
namespace Go.Proofs.YtmapkiefmbgdoabDoor
open Go.RowKit
open Cal
set_option linter.unusedVariables false

theorem min_four (P : Program) (w : World) (ts : Array TypeId) (t : TypeId) (a b c d : Int) : (Builtin.min_ ts t #[.int .i64 a, .int .i64 b, .int .i64 c, .int .i64 d]).run P w = .ok (.int .i64 (min (min (min a b) c) d)) w := by
  have h2 : ∀ x y : Int, (if y < x then y else x) = min x y := fun x y => by split <;> omega
  simp [Builtin.min_, Builtin.min2, h2]
attribute [local go_sem ↓] min_four
/-- The cells of a window and of a zone, and what lay ahead. -/
abbrev KB (w : World) (a0 a1 a2 a3 a4 a5 a6 : Value) (X : World) : Prop := KN w.heap.size a0 a1 a2 a3 a4 a5 a6 X ∧ Below w.heap.size w X
theorem KB.below {w : World} {a0 a1 a2 a3 a4 a5 a6 : Value} {X X' : World} (g : KB w a0 a1 a2 a3 a4 a5 a6 X) (b : Below X.heap.size X X') : KB w a0 a1 a2 a3 a4 a5 a6 X' := ⟨g.1.below b, b2 g.2 b⟩
theorem KB.draws {w : World} {a0 a1 a2 a3 a4 a5 a6 : Value} {X : World} (g : KB w a0 a1 a2 a3 a4 a5 a6 X) (n : Nat) : KB w a0 a1 a2 a3 a4 a5 a6 (X.drewN n) := ⟨g.1, g.2.os, g.2.tape, g.2.output, g.2.size, g.2.block⟩
theorem KB.drew {w : World} {a0 a1 a2 a3 a4 a5 a6 : Value} {X : World} (g : KB w a0 a1 a2 a3 a4 a5 a6 X) : KB w a0 a1 a2 a3 a4 a5 a6 X.drew := ⟨g.1, g.2.drew⟩
theorem quiet_more {H : Int → Bool} {a U U' : Int} (h1 : ∀ v, a < v → v < U → v ≤ 268435456 → H v = H (v - 1)) (h2 : H U = H (U - 1)) (h3 : ∀ v, U < v → v < U' → v ≤ 268435456 → H v = H (v - 1)) : ∀ v, a < v → v < U' → v ≤ 268435456 → H v = H (v - 1) := fun v v1 v2 v3 => by
  by_cases c : v < U
  · exact h1 v v1 c v3
  · by_cases c2 : v = U
    · rw [c2]; exact h2
    · exact h3 v (by omega) v2 v3
end Go.Proofs.YtmapkiefmbgdoabDoor
