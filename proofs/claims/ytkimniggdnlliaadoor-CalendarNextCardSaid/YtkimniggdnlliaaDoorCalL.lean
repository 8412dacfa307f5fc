/-
  What Time returns, in the reference of the package calendar.
-/
import Derived.Test.YtkimniggdnlliaaDoorCalK
import Derived.Deep.RegionHeld3
namespace Go.Proofs.YtkimniggdnlliaaDoor
open Go.RowKit
open Cal

def Ex2 (Y M D N : Int) : Prop := 2000 ≤ Y ∧ Y ≤ 2600 ∧ 1 ≤ M ∧ M ≤ 12 ∧ 1 ≤ D ∧ D ≤ ml Y M ∧ 0 ≤ N ∧ N ≤ 1439
theorem ex2_of {Y M D N : Int} (h : Ex Y M D N) : Ex2 Y M D N := by unfold Ex at h; unfold Ex2; omega
theorem dayN_bd2 (Y M D N : Int) (h : Ex2 Y M D N) : 0 ≤ dayN Y M D ∧ dayN Y M D ≤ 240000 ∧ (2510 < Y → 268435456 < dayN Y M D * 1440) := by
  obtain ⟨c1, c2, c3, c4, c5, c6, c7, c8⟩ := h
  have h1 := ys_mono 2000 Y c1; have h2 := ys_mono Y 2600 c2; rw [ys_2000] at h1
  have h3 : ys 2600 ≤ 220000 := by decide
  have h4 := cum_bd Y M c3 (by omega); have h5 := ml_bd Y M
  refine ⟨by unfold dayN; omega, by unfold dayN; omega, fun h => ?_⟩
  have := ys_mono 2511 Y (by omega); have := ys_2511
  unfold dayN; omega

set_option maxRecDepth 100000 in
set_option maxHeartbeats 1000000 in
theorem refTime_no1 (Y M D W N : Int) (w : World)  (n1 : Y < 2000) :
    Calls Tryd.prog 19 #[.agg #[.int .i64 Y, .int .i64 M, .int .i64 D, .int .i64 W, .int .i64 N]] w fun e w' => e = .returned (.tuple #[.int .i64 0, .int .i64 1]) ∧ Below w.heap.size w w' := by
  go_enter Tryd.func19, Tryd.ntmps19
  go_wp2_with fail
  go_quiet (fail)
  go_wp2_with fail
  go_ret2
  exact ⟨rfl, b_draws (b_new _ _) _⟩

set_option maxRecDepth 100000 in
set_option maxHeartbeats 1000000 in
theorem refTime_no2 (Y M D W N : Int) (w : World) (_c1 : 2000 ≤ Y) (n2 : 2600 < Y) :
    Calls Tryd.prog 19 #[.agg #[.int .i64 Y, .int .i64 M, .int .i64 D, .int .i64 W, .int .i64 N]] w fun e w' => e = .returned (.tuple #[.int .i64 0, .int .i64 1]) ∧ Below w.heap.size w w' := by
  have x1 : decide (Y < 2000) = false := decide_eq_false (by omega)
  go_enter Tryd.func19, Tryd.ntmps19
  go_wp2_with fail
  go_quiet (fail)
  go_wp2_with fail
  go_ret2
  exact ⟨rfl, b_draws (b_new _ _) _⟩

set_option maxRecDepth 100000 in
set_option maxHeartbeats 1000000 in
theorem refTime_no3 (Y M D W N : Int) (w : World) (_c1 : 2000 ≤ Y) (_c2 : Y ≤ 2600) (n3 : M < 1) :
    Calls Tryd.prog 19 #[.agg #[.int .i64 Y, .int .i64 M, .int .i64 D, .int .i64 W, .int .i64 N]] w fun e w' => e = .returned (.tuple #[.int .i64 0, .int .i64 1]) ∧ Below w.heap.size w w' := by
  have x1 : decide (Y < 2000) = false := decide_eq_false (by omega)
  have x2 : decide (2600 < Y) = false := decide_eq_false (by omega)
  go_enter Tryd.func19, Tryd.ntmps19
  go_wp2_with fail
  go_quiet (fail)
  go_wp2_with fail
  go_ret2
  exact ⟨rfl, b_draws (b_new _ _) _⟩

set_option maxRecDepth 100000 in
set_option maxHeartbeats 1000000 in
theorem refTime_no4 (Y M D W N : Int) (w : World) (_c1 : 2000 ≤ Y) (_c2 : Y ≤ 2600) (_c3 : 1 ≤ M) (n4 : 12 < M) :
    Calls Tryd.prog 19 #[.agg #[.int .i64 Y, .int .i64 M, .int .i64 D, .int .i64 W, .int .i64 N]] w fun e w' => e = .returned (.tuple #[.int .i64 0, .int .i64 1]) ∧ Below w.heap.size w w' := by
  have x1 : decide (Y < 2000) = false := decide_eq_false (by omega)
  have x2 : decide (2600 < Y) = false := decide_eq_false (by omega)
  have x3 : decide (M < 1) = false := decide_eq_false (by omega)
  go_enter Tryd.func19, Tryd.ntmps19
  go_wp2_with fail
  go_quiet (fail)
  go_wp2_with fail
  go_ret2
  exact ⟨rfl, b_draws (b_new _ _) _⟩

set_option maxRecDepth 100000 in
set_option maxHeartbeats 1000000 in
theorem refTime_no5 (Y M D W N : Int) (w : World) (_c1 : 2000 ≤ Y) (_c2 : Y ≤ 2600) (_c3 : 1 ≤ M) (_c4 : M ≤ 12) (n5 : D < 1) :
    Calls Tryd.prog 19 #[.agg #[.int .i64 Y, .int .i64 M, .int .i64 D, .int .i64 W, .int .i64 N]] w fun e w' => e = .returned (.tuple #[.int .i64 0, .int .i64 1]) ∧ Below w.heap.size w w' := by
  have x1 : decide (Y < 2000) = false := decide_eq_false (by omega)
  have x2 : decide (2600 < Y) = false := decide_eq_false (by omega)
  have x3 : decide (M < 1) = false := decide_eq_false (by omega)
  have x4 : decide (12 < M) = false := decide_eq_false (by omega)
  go_enter Tryd.func19, Tryd.ntmps19
  go_wp2_with fail
  go_quiet (fail)
  go_wp2_with fail
  go_ret2
  exact ⟨rfl, b_draws (b_new _ _) _⟩

set_option maxRecDepth 100000 in
set_option maxHeartbeats 1000000 in
theorem refTime_no6 (Y M D W N : Int) (w : World) (_c1 : 2000 ≤ Y) (_c2 : Y ≤ 2600) (_c3 : 1 ≤ M) (_c4 : M ≤ 12) (_c5 : 1 ≤ D) (n6 : ml Y M < D) :
    Calls Tryd.prog 19 #[.agg #[.int .i64 Y, .int .i64 M, .int .i64 D, .int .i64 W, .int .i64 N]] w fun e w' => e = .returned (.tuple #[.int .i64 0, .int .i64 1]) ∧ Below w.heap.size w w' := by
  have x1 : decide (Y < 2000) = false := decide_eq_false (by omega)
  have x2 : decide (2600 < Y) = false := decide_eq_false (by omega)
  have x3 : decide (M < 1) = false := decide_eq_false (by omega)
  have x4 : decide (12 < M) = false := decide_eq_false (by omega)
  have x5 : decide (D < 1) = false := decide_eq_false (by omega)
  go_enter Tryd.func19, Tryd.ntmps19
  go_wp2_with fail
  go_quiet ((go_at_call 50; exact quiet_first (length_any _ _ _ (by omega) (by omega) (by omega) (by omega))))
  go_wp2_with fail
  go_ret2
  exact ⟨rfl, b_draws (b_new _ _) _⟩

set_option maxRecDepth 100000 in
set_option maxHeartbeats 1000000 in
theorem refTime_no7 (Y M D W N : Int) (w : World) (_c1 : 2000 ≤ Y) (_c2 : Y ≤ 2600) (_c3 : 1 ≤ M) (_c4 : M ≤ 12) (_c5 : 1 ≤ D) (_c6 : D ≤ ml Y M) (n7 : N < 0) :
    Calls Tryd.prog 19 #[.agg #[.int .i64 Y, .int .i64 M, .int .i64 D, .int .i64 W, .int .i64 N]] w fun e w' => e = .returned (.tuple #[.int .i64 0, .int .i64 1]) ∧ Below w.heap.size w w' := by
  have x1 : decide (Y < 2000) = false := decide_eq_false (by omega)
  have x2 : decide (2600 < Y) = false := decide_eq_false (by omega)
  have x3 : decide (M < 1) = false := decide_eq_false (by omega)
  have x4 : decide (12 < M) = false := decide_eq_false (by omega)
  have x5 : decide (D < 1) = false := decide_eq_false (by omega)
  have x6 : decide (ml Y M < D) = false := decide_eq_false (by omega)
  go_enter Tryd.func19, Tryd.ntmps19
  go_wp2_with fail
  go_quiet ((go_at_call 50; exact quiet_first (length_any _ _ _ (by omega) (by omega) (by omega) (by omega))))
  go_wp2_with fail
  go_ret2
  exact ⟨rfl, b_draws (b_new _ _) _⟩

set_option maxRecDepth 100000 in
set_option maxHeartbeats 1000000 in
theorem refTime_no8 (Y M D W N : Int) (w : World) (_c1 : 2000 ≤ Y) (_c2 : Y ≤ 2600) (_c3 : 1 ≤ M) (_c4 : M ≤ 12) (_c5 : 1 ≤ D) (_c6 : D ≤ ml Y M) (_c7 : 0 ≤ N) (n8 : 1439 < N) :
    Calls Tryd.prog 19 #[.agg #[.int .i64 Y, .int .i64 M, .int .i64 D, .int .i64 W, .int .i64 N]] w fun e w' => e = .returned (.tuple #[.int .i64 0, .int .i64 1]) ∧ Below w.heap.size w w' := by
  have x1 : decide (Y < 2000) = false := decide_eq_false (by omega)
  have x2 : decide (2600 < Y) = false := decide_eq_false (by omega)
  have x3 : decide (M < 1) = false := decide_eq_false (by omega)
  have x4 : decide (12 < M) = false := decide_eq_false (by omega)
  have x5 : decide (D < 1) = false := decide_eq_false (by omega)
  have x6 : decide (ml Y M < D) = false := decide_eq_false (by omega)
  have x7 : decide (N < 0) = false := decide_eq_false (by omega)
  go_enter Tryd.func19, Tryd.ntmps19
  go_wp2_with fail
  go_quiet ((go_at_call 50; exact quiet_first (length_any _ _ _ (by omega) (by omega) (by omega) (by omega))))
  go_wp2_with fail
  go_ret2
  exact ⟨rfl, b_draws (b_new _ _) _⟩

end Go.Proofs.YtkimniggdnlliaaDoor
