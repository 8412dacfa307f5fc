/-
  What Scale and Round return at every integer, in money and in its reference.
-/
import Derived.Test.YtjjhdbodjcffaaaDoorMonF
namespace Go.Proofs.YtjjhdbodjcffaaaDoor
open Go.RowKit
open IntWalk

/-- Four integers that an int holds. -/
structure Four (a n d m : Int) : Prop where
  a0 : -9223372036854775808 ≤ a
  a1 : a ≤ 9223372036854775807
  n0 : -9223372036854775808 ≤ n
  n1 : n ≤ 9223372036854775807
  d0 : -9223372036854775808 ≤ d
  d1 : d ≤ 9223372036854775807
  m0 : -9223372036854775808 ≤ m
  m1 : m ≤ 9223372036854775807

set_option maxHeartbeats 1000000 in
theorem scale_all (a n d m : Int) (w : World) (h : Four a n d m) :
    Calls Tryd.prog 14 #[.int .i64 a, .int .i64 n, .int .i64 d, .int .i64 m] w fun e w' => e = .returned (.tuple #[.int .i64 (scV a n d m), .int .i64 (scE a n d m)]) ∧ ∃ k, w' = w.drewN k := by
  obtain ⟨a0, a1, n0, n1, d0, d1, m0, m1⟩ := h
  by_cases hd : d < 1
  · have e1 : scV a n d m = 0 := by unfold scV; rw [if_pos hd]
    have e2 : scE a n d m = 1 := by unfold scE; rw [if_pos hd]
    rw [e1, e2]
    clear e1 e2
    go_enter Tryd.func14, Tryd.ntmps14
    go_wp2
    go_ret2
    exact ⟨rfl, 0, rfl⟩
  by_cases hm : m < 1
  · have e1 : scV a n d m = 0 := by unfold scV; rw [if_neg hd, if_pos (.inl hm)]
    have e2 : scE a n d m = 2 := by unfold scE; rw [if_neg hd, if_pos (.inl hm)]
    rw [e1, e2]
    clear e1 e2
    go_enter Tryd.func14, Tryd.ntmps14
    go_wp2
    go_ret2
    exact ⟨rfl, 0, rfl⟩
  by_cases hm4 : 4 < m
  · have e1 : scV a n d m = 0 := by unfold scV; rw [if_neg hd, if_pos (.inr hm4)]
    have e2 : scE a n d m = 2 := by unfold scE; rw [if_neg hd, if_pos (.inr hm4)]
    rw [e1, e2]
    clear e1 e2
    go_enter Tryd.func14, Tryd.ntmps14
    go_wp2
    go_ret2
    exact ⟨rfl, 0, rfl⟩
  have e1 : scV a n d m = finV (scN a n) (scQ a n d m) := by unfold scV; rw [if_neg hd, if_neg (by omega)]
  have e2 : scE a n d m = finE (scN a n) (scQ a n d m) := by unfold scE; rw [if_neg hd, if_neg (by omega)]
  rw [e1, e2]
  refine (scale_run a n d m w a0 a1 n0 n1 d1 (by omega) (by omega) (by omega)).mono ?_
  rintro e w' ⟨he, hw⟩
  exact ⟨he, hw⟩

set_option maxHeartbeats 1000000 in
theorem rscale_all (a n d m : Int) (w : World) (h : Four a n d m) :
    Calls Tryd.prog 15 #[.int .i64 a, .int .i64 n, .int .i64 d, .int .i64 m] w fun e w' => e = .returned (.tuple #[.int .i64 (scV a n d m), .int .i64 (scE a n d m)]) ∧ ∃ k, w' = w.drewN k := by
  obtain ⟨a0, a1, n0, n1, d0, d1, m0, m1⟩ := h
  by_cases hd : d < 1
  · have e1 : scV a n d m = 0 := by unfold scV; rw [if_pos hd]
    have e2 : scE a n d m = 1 := by unfold scE; rw [if_pos hd]
    rw [e1, e2]
    clear e1 e2
    go_enter Tryd.func15, Tryd.ntmps15
    go_wp2
    go_ret2
    exact ⟨rfl, 0, rfl⟩
  by_cases hm : m < 1
  · have e1 : scV a n d m = 0 := by unfold scV; rw [if_neg hd, if_pos (.inl hm)]
    have e2 : scE a n d m = 2 := by unfold scE; rw [if_neg hd, if_pos (.inl hm)]
    rw [e1, e2]
    clear e1 e2
    go_enter Tryd.func15, Tryd.ntmps15
    go_wp2
    go_ret2
    exact ⟨rfl, 0, rfl⟩
  by_cases hm4 : 4 < m
  · have e1 : scV a n d m = 0 := by unfold scV; rw [if_neg hd, if_pos (.inr hm4)]
    have e2 : scE a n d m = 2 := by unfold scE; rw [if_neg hd, if_pos (.inr hm4)]
    rw [e1, e2]
    clear e1 e2
    go_enter Tryd.func15, Tryd.ntmps15
    go_wp2
    go_ret2
    exact ⟨rfl, 0, rfl⟩
  have e1 : scV a n d m = finV (scN a n) (scQ a n d m) := by unfold scV; rw [if_neg hd, if_neg (by omega)]
  have e2 : scE a n d m = finE (scN a n) (scQ a n d m) := by unfold scE; rw [if_neg hd, if_neg (by omega)]
  rw [e1, e2]
  refine (rscale_run a n d m w a0 a1 n0 n1 d1 (by omega) (by omega) (by omega)).mono ?_
  rintro e w' ⟨he, hw⟩
  exact ⟨he, 0, hw.symm⟩

set_option maxHeartbeats 1000000 in
theorem round_all (a d m : Int) (w : World) (h : Four a 1 d m) :
    Calls Tryd.prog 11 #[.int .i64 a, .int .i64 d, .int .i64 m] w fun e w' => e = .returned (.tuple #[.int .i64 (scV a 1 d m), .int .i64 (scE a 1 d m)]) ∧ ∃ k, w' = w.drewN k := by
  go_enter Tryd.func11, Tryd.ntmps11
  go_wp2_with ((go_at_call 14; refine (scale_all _ _ _ _ _ h).mono ?_; rintro e w1 ⟨rfl, k, rfl⟩))
  go_ret2
  exact ⟨rfl, k, rfl⟩

set_option maxHeartbeats 1000000 in
theorem rround_all (a d m : Int) (w : World) (h : Four a 1 d m) :
    Calls Tryd.prog 12 #[.int .i64 a, .int .i64 d, .int .i64 m] w fun e w' => e = .returned (.tuple #[.int .i64 (scV a 1 d m), .int .i64 (scE a 1 d m)]) ∧ ∃ k, w' = w.drewN k := by
  go_enter Tryd.func12, Tryd.ntmps12
  go_wp2_with ((go_at_call 15; refine (rscale_all _ _ _ _ _ h).mono ?_; rintro e w1 ⟨rfl, k, rfl⟩))
  go_ret2
  exact ⟨rfl, k, rfl⟩
end Go.Proofs.YtjjhdbodjcffaaaDoor
