/-
  For the law on steps: what is kept, and where it stops early.
-/
import Derived.Test.YtkimniggdnlliabDoorCalP
import Derived.Deep.RegionHeld3
namespace Go.Proofs.YtkimniggdnlliabDoor
open Go.RowKit
open Cal

section
variable {w X Z : World} {o A1 A2 A3 A4 A5 B1 B2 B3 B4 B5 : Int} {sm : Bool} {b0 bA bB : Nat}
theorem kq_drew (h : Below w.heap.size w X ∧ bB < X.heap.size ∧ X.cell? ⟨b0, 0, none⟩ = some (.int .i64 o) ∧ X.cell? ⟨b0, 1, none⟩ = some (.bool sm) ∧ X.cell? ⟨bA, 0, none⟩ = some (.int .i64 A1) ∧ X.cell? ⟨bA, 1, none⟩ = some (.int .i64 A2) ∧ X.cell? ⟨bA, 2, none⟩ = some (.int .i64 A3) ∧ X.cell? ⟨bA, 3, none⟩ = some (.int .i64 A4) ∧ X.cell? ⟨bA, 4, none⟩ = some (.int .i64 A5) ∧ X.cell? ⟨bB, 0, none⟩ = some (.int .i64 B1) ∧ X.cell? ⟨bB, 1, none⟩ = some (.int .i64 B2) ∧ X.cell? ⟨bB, 2, none⟩ = some (.int .i64 B3) ∧ X.cell? ⟨bB, 3, none⟩ = some (.int .i64 B4) ∧ X.cell? ⟨bB, 4, none⟩ = some (.int .i64 B5)) : Below w.heap.size w X.drew ∧ bB < X.drew.heap.size ∧ X.drew.cell? ⟨b0, 0, none⟩ = some (.int .i64 o) ∧ X.drew.cell? ⟨b0, 1, none⟩ = some (.bool sm) ∧ X.drew.cell? ⟨bA, 0, none⟩ = some (.int .i64 A1) ∧ X.drew.cell? ⟨bA, 1, none⟩ = some (.int .i64 A2) ∧ X.drew.cell? ⟨bA, 2, none⟩ = some (.int .i64 A3) ∧ X.drew.cell? ⟨bA, 3, none⟩ = some (.int .i64 A4) ∧ X.drew.cell? ⟨bA, 4, none⟩ = some (.int .i64 A5) ∧ X.drew.cell? ⟨bB, 0, none⟩ = some (.int .i64 B1) ∧ X.drew.cell? ⟨bB, 1, none⟩ = some (.int .i64 B2) ∧ X.drew.cell? ⟨bB, 2, none⟩ = some (.int .i64 B3) ∧ X.drew.cell? ⟨bB, 3, none⟩ = some (.int .i64 B4) ∧ X.drew.cell? ⟨bB, 4, none⟩ = some (.int .i64 B5) := ⟨h.1.drew, h.2⟩
theorem kq_call (h0 : b0 ≤ bB) (hA : bA ≤ bB) (h : Below w.heap.size w X ∧ bB < X.heap.size ∧ X.cell? ⟨b0, 0, none⟩ = some (.int .i64 o) ∧ X.cell? ⟨b0, 1, none⟩ = some (.bool sm) ∧ X.cell? ⟨bA, 0, none⟩ = some (.int .i64 A1) ∧ X.cell? ⟨bA, 1, none⟩ = some (.int .i64 A2) ∧ X.cell? ⟨bA, 2, none⟩ = some (.int .i64 A3) ∧ X.cell? ⟨bA, 3, none⟩ = some (.int .i64 A4) ∧ X.cell? ⟨bA, 4, none⟩ = some (.int .i64 A5) ∧ X.cell? ⟨bB, 0, none⟩ = some (.int .i64 B1) ∧ X.cell? ⟨bB, 1, none⟩ = some (.int .i64 B2) ∧ X.cell? ⟨bB, 2, none⟩ = some (.int .i64 B3) ∧ X.cell? ⟨bB, 3, none⟩ = some (.int .i64 B4) ∧ X.cell? ⟨bB, 4, none⟩ = some (.int .i64 B5)) (g : Below X.heap.size X Z) : Below w.heap.size w Z ∧ bB < Z.heap.size ∧ Z.cell? ⟨b0, 0, none⟩ = some (.int .i64 o) ∧ Z.cell? ⟨b0, 1, none⟩ = some (.bool sm) ∧ Z.cell? ⟨bA, 0, none⟩ = some (.int .i64 A1) ∧ Z.cell? ⟨bA, 1, none⟩ = some (.int .i64 A2) ∧ Z.cell? ⟨bA, 2, none⟩ = some (.int .i64 A3) ∧ Z.cell? ⟨bA, 3, none⟩ = some (.int .i64 A4) ∧ Z.cell? ⟨bA, 4, none⟩ = some (.int .i64 A5) ∧ Z.cell? ⟨bB, 0, none⟩ = some (.int .i64 B1) ∧ Z.cell? ⟨bB, 1, none⟩ = some (.int .i64 B2) ∧ Z.cell? ⟨bB, 2, none⟩ = some (.int .i64 B3) ∧ Z.cell? ⟨bB, 3, none⟩ = some (.int .i64 B4) ∧ Z.cell? ⟨bB, 4, none⟩ = some (.int .i64 B5) := by
  obtain ⟨h1, h2, c0, c1, c2, c3, c4, c5, c6, c7, c8, c9, c10, c11⟩ := h
  refine ⟨b2 h1 g, Nat.lt_of_lt_of_le h2 g.size, ?_, ?_, ?_, ?_, ?_, ?_, ?_, ?_, ?_, ?_, ?_, ?_⟩
  · exact (g.cell (p := ⟨b0, 0, none⟩) (by show b0 < _; omega)).trans c0
  · exact (g.cell (p := ⟨b0, 1, none⟩) (by show b0 < _; omega)).trans c1
  · exact (g.cell (p := ⟨bA, 0, none⟩) (by show bA < _; omega)).trans c2
  · exact (g.cell (p := ⟨bA, 1, none⟩) (by show bA < _; omega)).trans c3
  · exact (g.cell (p := ⟨bA, 2, none⟩) (by show bA < _; omega)).trans c4
  · exact (g.cell (p := ⟨bA, 3, none⟩) (by show bA < _; omega)).trans c5
  · exact (g.cell (p := ⟨bA, 4, none⟩) (by show bA < _; omega)).trans c6
  · exact (g.cell (p := ⟨bB, 0, none⟩) (by show bB < _; omega)).trans c7
  · exact (g.cell (p := ⟨bB, 1, none⟩) (by show bB < _; omega)).trans c8
  · exact (g.cell (p := ⟨bB, 2, none⟩) (by show bB < _; omega)).trans c9
  · exact (g.cell (p := ⟨bB, 3, none⟩) (by show bB < _; omega)).trans c10
  · exact (g.cell (p := ⟨bB, 4, none⟩) (by show bB < _; omega)).trans c11
theorem kq_tab (hT : Tab w) (h : Below w.heap.size w X ∧ bB < X.heap.size ∧ X.cell? ⟨b0, 0, none⟩ = some (.int .i64 o) ∧ X.cell? ⟨b0, 1, none⟩ = some (.bool sm) ∧ X.cell? ⟨bA, 0, none⟩ = some (.int .i64 A1) ∧ X.cell? ⟨bA, 1, none⟩ = some (.int .i64 A2) ∧ X.cell? ⟨bA, 2, none⟩ = some (.int .i64 A3) ∧ X.cell? ⟨bA, 3, none⟩ = some (.int .i64 A4) ∧ X.cell? ⟨bA, 4, none⟩ = some (.int .i64 A5) ∧ X.cell? ⟨bB, 0, none⟩ = some (.int .i64 B1) ∧ X.cell? ⟨bB, 1, none⟩ = some (.int .i64 B2) ∧ X.cell? ⟨bB, 2, none⟩ = some (.int .i64 B3) ∧ X.cell? ⟨bB, 3, none⟩ = some (.int .i64 B4) ∧ X.cell? ⟨bB, 4, none⟩ = some (.int .i64 B5)) : Tab X := hT.below h.1
end

set_option maxRecDepth 100000 in
set_option maxHeartbeats 1000000 in
theorem stop_e (o : Int) (sm : Bool) (t A1 A2 A3 A4 A5 E : Int) (w : World) (hT : Tab w) (hE : (E != 0) = true)
    (D1 : Hid (∀ X, Tab X → Calls Tryd.prog 6 #[.agg #[.int .i64 o, .bool sm], .int .i64 t] X fun e w' => e = .returned (.tuple #[.agg #[.int .i64 A1, .int .i64 A2, .int .i64 A3, .int .i64 A4, .int .i64 A5], .int .i64 E]) ∧ Below X.heap.size X w')) :
    Calls Tryd.prog 3 #[.agg #[.int .i64 o, .bool sm], .int .i64 t] w fun e w' => e = .returned (.bool true) ∧ Below w.heap.size w w' := by
  have HT := Lib.hid hT
  clear hT
  go_enter Tryd.func3, Tryd.ntmps3
  go_wp2_with fail
  refine (D1.out _ (HT.out.below (b_new _ _))).mono ?_
  rintro e w1 ⟨rfl, g1⟩
  have G1 := Lib.hid (b2 (b_new w _) g1)
  clear g1
  go_wp2_with fail
  refine (example_any _ (HT.out.below (b2 G1.out (b_new _ _)))).mono ?_
  rintro e wx ⟨rfl, gx⟩
  go_wp2_with fail
  go_ret
  exact ⟨rfl, b2 (b2 G1.out (b_new _ _)) gx⟩
set_option maxRecDepth 100000 in
set_option maxHeartbeats 1000000 in
theorem stop_t (o : Int) (sm : Bool) (t A1 A2 A3 A4 A5 : Int) (w : World) (hT : Tab w) (hE : 268435456 ≤ t)
    (D1 : Hid (∀ X, Tab X → Calls Tryd.prog 6 #[.agg #[.int .i64 o, .bool sm], .int .i64 t] X fun e w' => e = .returned (.tuple #[.agg #[.int .i64 A1, .int .i64 A2, .int .i64 A3, .int .i64 A4, .int .i64 A5], .int .i64 0]) ∧ Below X.heap.size X w')) :
    Calls Tryd.prog 3 #[.agg #[.int .i64 o, .bool sm], .int .i64 t] w fun e w' => e = .returned (.bool true) ∧ Below w.heap.size w w' := by
  have HT := Lib.hid hT
  clear hT
  go_enter Tryd.func3, Tryd.ntmps3
  go_wp2_with fail
  refine (D1.out _ (HT.out.below (b_new _ _))).mono ?_
  rintro e w1 ⟨rfl, g1⟩
  have G1 := Lib.hid (b2 (b_new w _) g1)
  clear g1
  go_wp2_with fail
  refine (example_any _ (HT.out.below (b2 G1.out (b_new _ _)))).mono ?_
  rintro e wx ⟨rfl, gx⟩
  go_wp2_with fail
  go_ret
  exact ⟨rfl, b2 (b2 G1.out (b_new _ _)) gx⟩
end Go.Proofs.YtkimniggdnlliabDoor
