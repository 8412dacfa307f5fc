/-
  What Time returns, in the reference of the package calendar.
-/
import Derived.Test.YtkimniggdnlliabDoorCalK
import Derived.Deep.RegionHeld3
namespace Go.Proofs.YtkimniggdnlliabDoor
open Go.RowKit
open Cal

def Ex2 (Y M D N : Int) : Prop := 2000 ≤ Y ∧ Y ≤ 2600 ∧ 1 ≤ M ∧ M ≤ 12 ∧ 1 ≤ D ∧ D ≤ ml Y M ∧ 0 ≤ N ∧ N ≤ 1439
theorem ex2_of {Y M D N : Int} (h : Ex Y M D N) : Ex2 Y M D N := by unfold Ex at h; unfold Ex2; omega
theorem dayN_bd2 (Y M D N : Int) (h : Ex2 Y M D N) : 0 ≤ dayN Y M D ∧ dayN Y M D ≤ 240000 ∧ (2510 < Y → 268435456 < dayN Y M D * 1440) := by
  obtain ⟨c1, c2, c3, c4, c5, c6, c7, c8⟩ := h
  have h1 := ys_mono 2000 Y c1; have h2 := ys_mono Y 2600 c2; rw [ys_2000] at h1
  have h3 : ys 2600 ≤ 220000 := by decide
  have h4 := cum_bd Y M c3 (by omega); have h5 := ml_bd Y M
  refine ⟨by unfold dayN; omega, by unfold dayN; omega, fun h => ?_⟩
  have := ys_mono 2511 Y (by omega); have := ys_2511
  unfold dayN; omega

end Go.Proofs.YtkimniggdnlliabDoor
