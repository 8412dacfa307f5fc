/-
  What Time returns, in the package calendar.
-/
import Derived.Test.YtkimniggdnlliabDoorCalF
namespace Go.Proofs.YtkimniggdnlliabDoor
open Go.RowKit
open Cal

theorem quiet_first {P : Program} {f : FuncId} {args : Array Value} {w : World} {n : Nat} {v : Value}
    (h : Calls P f args (w.drewN n) fun e w' => e = .returned v ∧ w.drewN n = w') : Calls P f args (w.drewN n) fun e w'' => e = .returned v ∧ ∃ m, w'' = w.drewN m :=
  h.mono fun _ _ ⟨he, hm⟩ => ⟨he, n, hm.symm⟩
theorem quiet_more {P : Program} {f : FuncId} {args : Array Value} {w : World} {a n : Nat} {v : Value}
    (h : Calls P f args (w.drewN (a + n)) fun e w' => e = .returned v ∧ w.drewN (a + n) = w') :
    Calls P f args (w.drewN (a + n)) fun e w'' => e = .returned v ∧ ∃ m, w'' = w.drewN (a + m) :=
  h.mono fun _ _ ⟨he, hm⟩ => ⟨he, n, hm.symm⟩
theorem b_draws {B : Nat} {w w1 : World} (h : Below B w w1) (q : Nat) : Below B w (w1.drewN q) := ⟨h.os, h.tape, h.output, h.size, h.block⟩
theorem Tab.draws {w : World} (h : Tab w) (q : Nat) : Tab (w.drewN q) := fun k hk => h k hk

/-- The day of a date. -/
def dayN (Y M D : Int) : Int := ys Y + D - 1 + cum Y M
/-- The date is one of a year that has times. -/
def Ex (Y M D N : Int) : Prop := 2000 ≤ Y ∧ Y ≤ 2510 ∧ 1 ≤ M ∧ M ≤ 12 ∧ 1 ≤ D ∧ D ≤ ml Y M ∧ 0 ≤ N ∧ N < 1440

set_option maxRecDepth 100000 in
set_option maxHeartbeats 1000000 in
theorem exists_yes (Y M D W N : Int) (w : World) (hT : Tab w) (h : Ex Y M D N) :
    Calls Tryd.prog 23 #[.agg #[.int .i64 Y, .int .i64 M, .int .i64 D, .int .i64 W, .int .i64 N]] w fun e w' => e = .returned (.bool true) ∧ Below w.heap.size w w' := by
  obtain ⟨c1, c2, c3, c4, c5, c6, c7, c8⟩ := h
  have hT1 : Tab (w.alloc (.cells #[.int .i64 Y, .int .i64 M, .int .i64 D, .int .i64 W, .int .i64 N] 25)) := hT.below (b_new _ _)
  go_enter Tryd.func23, Tryd.ntmps23
  go_wp2_with fail
  go_quiet ((go_at_call 21; exact quiet_first (monthLength_any _ _ _ (hT1.draws _) (by omega) (by omega) (by omega) (by omega))))
  go_wp2_with fail
  go_ret
  exact ⟨rfl, b_draws (b_new _ _) _⟩

set_option maxRecDepth 100000 in
set_option maxHeartbeats 1000000 in
theorem exists_no1 (Y M D W N : Int) (w : World) (hT : Tab w)  (n1 : Y < 2000) :
    Calls Tryd.prog 23 #[.agg #[.int .i64 Y, .int .i64 M, .int .i64 D, .int .i64 W, .int .i64 N]] w fun e w' => e = .returned (.bool false) ∧ Below w.heap.size w w' := by
  have x1 : decide (2000 ≤ Y) = false := decide_eq_false (by omega)
  have hT1 : Tab (w.alloc (.cells #[.int .i64 Y, .int .i64 M, .int .i64 D, .int .i64 W, .int .i64 N] 25)) := hT.below (b_new _ _)
  go_enter Tryd.func23, Tryd.ntmps23
  go_wp2_with fail
  go_quiet (fail)
  go_wp2_with fail
  go_ret
  exact ⟨rfl, b_draws (b_new _ _) _⟩

set_option maxRecDepth 100000 in
set_option maxHeartbeats 1000000 in
theorem exists_no2 (Y M D W N : Int) (w : World) (hT : Tab w) (c1 : 2000 ≤ Y) (n2 : 2510 < Y) :
    Calls Tryd.prog 23 #[.agg #[.int .i64 Y, .int .i64 M, .int .i64 D, .int .i64 W, .int .i64 N]] w fun e w' => e = .returned (.bool false) ∧ Below w.heap.size w w' := by
  have x2 : decide (Y ≤ 2510) = false := decide_eq_false (by omega)
  have hT1 : Tab (w.alloc (.cells #[.int .i64 Y, .int .i64 M, .int .i64 D, .int .i64 W, .int .i64 N] 25)) := hT.below (b_new _ _)
  go_enter Tryd.func23, Tryd.ntmps23
  go_wp2_with fail
  go_quiet (fail)
  go_wp2_with fail
  go_ret
  exact ⟨rfl, b_draws (b_new _ _) _⟩

set_option maxRecDepth 100000 in
set_option maxHeartbeats 1000000 in
theorem exists_no3 (Y M D W N : Int) (w : World) (hT : Tab w) (c1 : 2000 ≤ Y) (c2 : Y ≤ 2510) (n3 : M < 1) :
    Calls Tryd.prog 23 #[.agg #[.int .i64 Y, .int .i64 M, .int .i64 D, .int .i64 W, .int .i64 N]] w fun e w' => e = .returned (.bool false) ∧ Below w.heap.size w w' := by
  have x3 : decide (1 ≤ M) = false := decide_eq_false (by omega)
  have hT1 : Tab (w.alloc (.cells #[.int .i64 Y, .int .i64 M, .int .i64 D, .int .i64 W, .int .i64 N] 25)) := hT.below (b_new _ _)
  go_enter Tryd.func23, Tryd.ntmps23
  go_wp2_with fail
  go_quiet (fail)
  go_wp2_with fail
  go_ret
  exact ⟨rfl, b_draws (b_new _ _) _⟩

set_option maxRecDepth 100000 in
set_option maxHeartbeats 1000000 in
theorem exists_no4 (Y M D W N : Int) (w : World) (hT : Tab w) (c1 : 2000 ≤ Y) (c2 : Y ≤ 2510) (c3 : 1 ≤ M) (n4 : 12 < M) :
    Calls Tryd.prog 23 #[.agg #[.int .i64 Y, .int .i64 M, .int .i64 D, .int .i64 W, .int .i64 N]] w fun e w' => e = .returned (.bool false) ∧ Below w.heap.size w w' := by
  have x4 : decide (M ≤ 12) = false := decide_eq_false (by omega)
  have hT1 : Tab (w.alloc (.cells #[.int .i64 Y, .int .i64 M, .int .i64 D, .int .i64 W, .int .i64 N] 25)) := hT.below (b_new _ _)
  go_enter Tryd.func23, Tryd.ntmps23
  go_wp2_with fail
  go_quiet (fail)
  go_wp2_with fail
  go_ret
  exact ⟨rfl, b_draws (b_new _ _) _⟩

set_option maxRecDepth 100000 in
set_option maxHeartbeats 1000000 in
theorem exists_no5 (Y M D W N : Int) (w : World) (hT : Tab w) (c1 : 2000 ≤ Y) (c2 : Y ≤ 2510) (c3 : 1 ≤ M) (c4 : M ≤ 12) (n5 : D < 1) :
    Calls Tryd.prog 23 #[.agg #[.int .i64 Y, .int .i64 M, .int .i64 D, .int .i64 W, .int .i64 N]] w fun e w' => e = .returned (.bool false) ∧ Below w.heap.size w w' := by
  have x5 : decide (1 ≤ D) = false := decide_eq_false (by omega)
  have hT1 : Tab (w.alloc (.cells #[.int .i64 Y, .int .i64 M, .int .i64 D, .int .i64 W, .int .i64 N] 25)) := hT.below (b_new _ _)
  go_enter Tryd.func23, Tryd.ntmps23
  go_wp2_with fail
  go_quiet (fail)
  go_wp2_with fail
  go_ret
  exact ⟨rfl, b_draws (b_new _ _) _⟩

set_option maxRecDepth 100000 in
set_option maxHeartbeats 1000000 in
theorem exists_no6 (Y M D W N : Int) (w : World) (hT : Tab w) (c1 : 2000 ≤ Y) (c2 : Y ≤ 2510) (c3 : 1 ≤ M) (c4 : M ≤ 12) (c5 : 1 ≤ D) (n6 : ml Y M < D) :
    Calls Tryd.prog 23 #[.agg #[.int .i64 Y, .int .i64 M, .int .i64 D, .int .i64 W, .int .i64 N]] w fun e w' => e = .returned (.bool false) ∧ Below w.heap.size w w' := by
  have x6 : decide (D ≤ ml Y M) = false := decide_eq_false (by omega)
  have hT1 : Tab (w.alloc (.cells #[.int .i64 Y, .int .i64 M, .int .i64 D, .int .i64 W, .int .i64 N] 25)) := hT.below (b_new _ _)
  go_enter Tryd.func23, Tryd.ntmps23
  go_wp2_with fail
  go_quiet ((go_at_call 21; exact quiet_first (monthLength_any _ _ _ (hT1.draws _) (by omega) (by omega) (by omega) (by omega))))
  go_wp2_with fail
  go_ret
  exact ⟨rfl, b_draws (b_new _ _) _⟩

set_option maxRecDepth 100000 in
set_option maxHeartbeats 1000000 in
theorem exists_no7 (Y M D W N : Int) (w : World) (hT : Tab w) (c1 : 2000 ≤ Y) (c2 : Y ≤ 2510) (c3 : 1 ≤ M) (c4 : M ≤ 12) (c5 : 1 ≤ D) (c6 : D ≤ ml Y M) (n7 : N < 0) :
    Calls Tryd.prog 23 #[.agg #[.int .i64 Y, .int .i64 M, .int .i64 D, .int .i64 W, .int .i64 N]] w fun e w' => e = .returned (.bool false) ∧ Below w.heap.size w w' := by
  have x7 : decide (0 ≤ N) = false := decide_eq_false (by omega)
  have hT1 : Tab (w.alloc (.cells #[.int .i64 Y, .int .i64 M, .int .i64 D, .int .i64 W, .int .i64 N] 25)) := hT.below (b_new _ _)
  go_enter Tryd.func23, Tryd.ntmps23
  go_wp2_with fail
  go_quiet ((go_at_call 21; exact quiet_first (monthLength_any _ _ _ (hT1.draws _) (by omega) (by omega) (by omega) (by omega))))
  go_wp2_with fail
  go_ret
  exact ⟨rfl, b_draws (b_new _ _) _⟩

set_option maxRecDepth 100000 in
set_option maxHeartbeats 1000000 in
theorem exists_no8 (Y M D W N : Int) (w : World) (hT : Tab w) (c1 : 2000 ≤ Y) (c2 : Y ≤ 2510) (c3 : 1 ≤ M) (c4 : M ≤ 12) (c5 : 1 ≤ D) (c6 : D ≤ ml Y M) (c7 : 0 ≤ N) (n8 : 1440 ≤ N) :
    Calls Tryd.prog 23 #[.agg #[.int .i64 Y, .int .i64 M, .int .i64 D, .int .i64 W, .int .i64 N]] w fun e w' => e = .returned (.bool false) ∧ Below w.heap.size w w' := by
  have x8 : decide (N < 1440) = false := decide_eq_false (by omega)
  have hT1 : Tab (w.alloc (.cells #[.int .i64 Y, .int .i64 M, .int .i64 D, .int .i64 W, .int .i64 N] 25)) := hT.below (b_new _ _)
  go_enter Tryd.func23, Tryd.ntmps23
  go_wp2_with fail
  go_quiet ((go_at_call 21; exact quiet_first (monthLength_any _ _ _ (hT1.draws _) (by omega) (by omega) (by omega) (by omega))))
  go_wp2_with fail
  go_ret
  exact ⟨rfl, b_draws (b_new _ _) _⟩

theorem exists_no (Y M D W N : Int) (w : World) (hT : Tab w) (h : ¬ Ex Y M D N) :
    Calls Tryd.prog 23 #[.agg #[.int .i64 Y, .int .i64 M, .int .i64 D, .int .i64 W, .int .i64 N]] w fun e w' => e = .returned (.bool false) ∧ Below w.heap.size w w' := by
  by_cases c1 : 2000 ≤ Y
  · skip
    by_cases c2 : Y ≤ 2510
    · skip
      by_cases c3 : 1 ≤ M
      · skip
        by_cases c4 : M ≤ 12
        · skip
          by_cases c5 : 1 ≤ D
          · skip
            by_cases c6 : D ≤ ml Y M
            · skip
              by_cases c7 : 0 ≤ N
              · skip
                by_cases c8 : N < 1440
                · exact absurd ⟨c1, c2, c3, c4, c5, c6, c7, c8⟩ h
                · exact exists_no8 Y M D W N w hT c1 c2 c3 c4 c5 c6 c7 (by omega)
              · exact exists_no7 Y M D W N w hT c1 c2 c3 c4 c5 c6 (by omega)
            · exact exists_no6 Y M D W N w hT c1 c2 c3 c4 c5 (by omega)
          · exact exists_no5 Y M D W N w hT c1 c2 c3 c4 (by omega)
        · exact exists_no4 Y M D W N w hT c1 c2 c3 (by omega)
      · exact exists_no3 Y M D W N w hT c1 c2 (by omega)
    · exact exists_no2 Y M D W N w hT c1 (by omega)
  · exact exists_no1 Y M D W N w hT  (by omega)
end Go.Proofs.YtkimniggdnlliabDoor
