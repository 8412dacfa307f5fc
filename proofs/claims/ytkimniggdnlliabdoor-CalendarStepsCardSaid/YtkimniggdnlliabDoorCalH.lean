/-
  What Time returns, in the package calendar.
-/
import Derived.Test.YtkimniggdnlliabDoorCalG
namespace Go.Proofs.YtkimniggdnlliabDoor
open Go.RowKit
open Cal

/-- The date has a time. -/
def Right (Y M D W N : Int) : Prop := Ex Y M D N ∧ (W = 0 ∨ W = wd (dayN Y M D)) ∧ dayN Y M D * 1440 + N ≤ 268435456
theorem dayN_bd (Y M D N : Int) (h : Ex Y M D N) : 0 ≤ dayN Y M D ∧ dayN Y M D ≤ 200000 := by
  obtain ⟨c1, c2, c3, c4, c5, c6, c7, c8⟩ := h
  have h1 := ys_mono 2000 Y c1; have h2 := ys_mono Y 2510 c2; rw [ys_2000] at h1
  have h3 : ys 2510 ≤ 186500 := by decide
  have h4 := cum_bd Y M c3 (by omega); have h5 := ml_bd Y M
  unfold dayN; omega

set_option maxRecDepth 100000 in
set_option maxHeartbeats 1000000 in
theorem time_noex (Y M D W N : Int) (w : World) (hT : Tab w) (h : ¬ Ex Y M D N) :
    Calls Tryd.prog 15 #[.agg #[.int .i64 Y, .int .i64 M, .int .i64 D, .int .i64 W, .int .i64 N]] w fun e w' => e = .returned (.tuple #[.int .i64 0, .int .i64 1]) ∧ Below w.heap.size w w' := by
  have hT1 : Tab (w.alloc (.cells #[.int .i64 Y, .int .i64 M, .int .i64 D, .int .i64 W, .int .i64 N] 25)) := hT.below (b_new _ _)
  have He := Lib.hid (exists_no Y M D W N _ hT1 h)
  clear h
  go_enter Tryd.func15, Tryd.ntmps15
  go_wp2_with fail
  refine He.out.mono ?_
  rintro e w1 ⟨rfl, g1⟩
  go_wp2_with fail
  go_ret2
  exact ⟨rfl, b2 (b_new _ _) g1⟩

set_option maxRecDepth 100000 in
set_option maxHeartbeats 1000000 in
theorem time_zero (Y M D W N : Int) (w : World) (hT : Tab w) (h : Ex Y M D N) (hw : W = 0) (ht : dayN Y M D * 1440 + N ≤ 268435456) :
    Calls Tryd.prog 15 #[.agg #[.int .i64 Y, .int .i64 M, .int .i64 D, .int .i64 W, .int .i64 N]] w fun e w' => e = .returned (.tuple #[.int .i64 (dayN Y M D * 1440 + N), .int .i64 0]) ∧ Below w.heap.size w w' := by
  have hT1 : Tab (w.alloc (.cells #[.int .i64 Y, .int .i64 M, .int .i64 D, .int .i64 W, .int .i64 N] 25)) := hT.below (b_new _ _)
  have He := Lib.hid (exists_yes Y M D W N _ hT1 h)
  obtain ⟨n0, n1⟩ := dayN_bd Y M D N h
  obtain ⟨K, hK⟩ : ∃ K, K = dayN Y M D := ⟨_, rfl⟩
  have Hd : Hid (∀ X, Tab X → Calls Tryd.prog 24 #[.int .i64 Y, .int .i64 M, .int .i64 D] X fun e w' => e = .returned (.int .i64 K) ∧ X = w') := Lib.hid (fun X hX => by
    obtain ⟨c1, c2, c3, c4, c5, c6, c7, c8⟩ := h
    have hm := ml_bd Y M
    rw [hK]; exact dayOf_any Y M D X hX (by omega) (by omega) c3 c4 (by omega) (by omega))
  have m0 : 0 ≤ N := h.2.2.2.2.2.2.1
  have m1 : N < 1440 := h.2.2.2.2.2.2.2
  rw [← hK] at n0 n1
  rw [← hK] at ht
  subst hw
  have Hr := Lib.hid hK
  clear h hK
  go_enter Tryd.func15, Tryd.ntmps15
  go_wp2_with fail
  refine He.out.mono ?_
  rintro e w1 ⟨rfl, g1⟩
  obtain ⟨hc, hf⟩ := bcell g1
  have hT2 := Lib.hid (hT1.below g1)
  have G1 := Lib.hid (b2 (b_new w _) g1)
  clear g1
  go_wp2_with fail
  refine (Hd.out _ hT2.out).mono ?_
  rintro e w2 ⟨rfl, rfl⟩
  go_wp2_with fail
  go_quiet (fail)
  go_wp2_with fail
  go_ret2
  exact ⟨ret_two (by rw [Hr.out]) rfl, b_draws G1.out _⟩

set_option maxRecDepth 100000 in
set_option maxHeartbeats 1000000 in
theorem time_wd (Y M D W N : Int) (w : World) (hT : Tab w) (h : Ex Y M D N) (hw : W = wd (dayN Y M D)) (hz : W ≠ 0) (ht : dayN Y M D * 1440 + N ≤ 268435456) :
    Calls Tryd.prog 15 #[.agg #[.int .i64 Y, .int .i64 M, .int .i64 D, .int .i64 W, .int .i64 N]] w fun e w' => e = .returned (.tuple #[.int .i64 (dayN Y M D * 1440 + N), .int .i64 0]) ∧ Below w.heap.size w w' := by
  have hT1 : Tab (w.alloc (.cells #[.int .i64 Y, .int .i64 M, .int .i64 D, .int .i64 W, .int .i64 N] 25)) := hT.below (b_new _ _)
  have He := Lib.hid (exists_yes Y M D W N _ hT1 h)
  obtain ⟨n0, n1⟩ := dayN_bd Y M D N h
  obtain ⟨K, hK⟩ : ∃ K, K = dayN Y M D := ⟨_, rfl⟩
  have Hd : Hid (∀ X, Tab X → Calls Tryd.prog 24 #[.int .i64 Y, .int .i64 M, .int .i64 D] X fun e w' => e = .returned (.int .i64 K) ∧ X = w') := Lib.hid (fun X hX => by
    obtain ⟨c1, c2, c3, c4, c5, c6, c7, c8⟩ := h
    have hm := ml_bd Y M
    rw [hK]; exact dayOf_any Y M D X hX (by omega) (by omega) c3 c4 (by omega) (by omega))
  have m0 : 0 ≤ N := h.2.2.2.2.2.2.1
  have m1 : N < 1440 := h.2.2.2.2.2.2.2
  rw [← hK] at n0 n1
  rw [← hK] at ht hw
  have tz := ne_t _ _ hz
  have tw : (W != wd K) = false := ne_f _ _ hw
  have Hr := Lib.hid hK
  clear hw hz
  clear h hK
  go_enter Tryd.func15, Tryd.ntmps15
  go_wp2_with fail
  refine He.out.mono ?_
  rintro e w1 ⟨rfl, g1⟩
  obtain ⟨hc, hf⟩ := bcell g1
  have hT2 := Lib.hid (hT1.below g1)
  have G1 := Lib.hid (b2 (b_new w _) g1)
  clear g1
  go_wp2_with fail
  refine (Hd.out _ hT2.out).mono ?_
  rintro e w2 ⟨rfl, rfl⟩
  go_wp2_with fail
  go_quiet ((go_at_call 22; exact quiet_first (weekday_any _ _ (by omega) (by omega))))
  go_wp2_with fail
  go_ret2
  exact ⟨ret_two (by rw [Hr.out]) rfl, b_draws G1.out _⟩

set_option maxRecDepth 100000 in
set_option maxHeartbeats 1000000 in
theorem time_late0 (Y M D W N : Int) (w : World) (hT : Tab w) (h : Ex Y M D N) (hw : W = 0) (ht : 268435456 < dayN Y M D * 1440 + N) :
    Calls Tryd.prog 15 #[.agg #[.int .i64 Y, .int .i64 M, .int .i64 D, .int .i64 W, .int .i64 N]] w fun e w' => e = .returned (.tuple #[.int .i64 0, .int .i64 1]) ∧ Below w.heap.size w w' := by
  have hT1 : Tab (w.alloc (.cells #[.int .i64 Y, .int .i64 M, .int .i64 D, .int .i64 W, .int .i64 N] 25)) := hT.below (b_new _ _)
  have He := Lib.hid (exists_yes Y M D W N _ hT1 h)
  obtain ⟨n0, n1⟩ := dayN_bd Y M D N h
  obtain ⟨K, hK⟩ : ∃ K, K = dayN Y M D := ⟨_, rfl⟩
  have Hd : Hid (∀ X, Tab X → Calls Tryd.prog 24 #[.int .i64 Y, .int .i64 M, .int .i64 D] X fun e w' => e = .returned (.int .i64 K) ∧ X = w') := Lib.hid (fun X hX => by
    obtain ⟨c1, c2, c3, c4, c5, c6, c7, c8⟩ := h
    have hm := ml_bd Y M
    rw [hK]; exact dayOf_any Y M D X hX (by omega) (by omega) c3 c4 (by omega) (by omega))
  have m0 : 0 ≤ N := h.2.2.2.2.2.2.1
  have m1 : N < 1440 := h.2.2.2.2.2.2.2
  rw [← hK] at n0 n1
  rw [← hK] at ht
  subst hw
  clear h hK
  go_enter Tryd.func15, Tryd.ntmps15
  go_wp2_with fail
  refine He.out.mono ?_
  rintro e w1 ⟨rfl, g1⟩
  obtain ⟨hc, hf⟩ := bcell g1
  have hT2 := Lib.hid (hT1.below g1)
  have G1 := Lib.hid (b2 (b_new w _) g1)
  clear g1
  go_wp2_with fail
  refine (Hd.out _ hT2.out).mono ?_
  rintro e w2 ⟨rfl, rfl⟩
  go_wp2_with fail
  go_quiet (fail)
  go_wp2_with fail
  go_ret2
  exact ⟨rfl, b_draws G1.out _⟩

set_option maxRecDepth 100000 in
set_option maxHeartbeats 1000000 in
theorem time_late (Y M D W N : Int) (w : World) (hT : Tab w) (h : Ex Y M D N) (hw : W = wd (dayN Y M D)) (hz : W ≠ 0) (ht : 268435456 < dayN Y M D * 1440 + N) :
    Calls Tryd.prog 15 #[.agg #[.int .i64 Y, .int .i64 M, .int .i64 D, .int .i64 W, .int .i64 N]] w fun e w' => e = .returned (.tuple #[.int .i64 0, .int .i64 1]) ∧ Below w.heap.size w w' := by
  have hT1 : Tab (w.alloc (.cells #[.int .i64 Y, .int .i64 M, .int .i64 D, .int .i64 W, .int .i64 N] 25)) := hT.below (b_new _ _)
  have He := Lib.hid (exists_yes Y M D W N _ hT1 h)
  obtain ⟨n0, n1⟩ := dayN_bd Y M D N h
  obtain ⟨K, hK⟩ : ∃ K, K = dayN Y M D := ⟨_, rfl⟩
  have Hd : Hid (∀ X, Tab X → Calls Tryd.prog 24 #[.int .i64 Y, .int .i64 M, .int .i64 D] X fun e w' => e = .returned (.int .i64 K) ∧ X = w') := Lib.hid (fun X hX => by
    obtain ⟨c1, c2, c3, c4, c5, c6, c7, c8⟩ := h
    have hm := ml_bd Y M
    rw [hK]; exact dayOf_any Y M D X hX (by omega) (by omega) c3 c4 (by omega) (by omega))
  have m0 : 0 ≤ N := h.2.2.2.2.2.2.1
  have m1 : N < 1440 := h.2.2.2.2.2.2.2
  rw [← hK] at n0 n1
  rw [← hK] at ht hw
  have tz := ne_t _ _ hz
  have tw : (W != wd K) = false := ne_f _ _ hw
  clear hw hz
  clear h hK
  go_enter Tryd.func15, Tryd.ntmps15
  go_wp2_with fail
  refine He.out.mono ?_
  rintro e w1 ⟨rfl, g1⟩
  obtain ⟨hc, hf⟩ := bcell g1
  have hT2 := Lib.hid (hT1.below g1)
  have G1 := Lib.hid (b2 (b_new w _) g1)
  clear g1
  go_wp2_with fail
  refine (Hd.out _ hT2.out).mono ?_
  rintro e w2 ⟨rfl, rfl⟩
  go_wp2_with fail
  go_quiet ((go_at_call 22; exact quiet_first (weekday_any _ _ (by omega) (by omega))))
  go_wp2_with fail
  go_ret2
  exact ⟨rfl, b_draws G1.out _⟩

set_option maxRecDepth 100000 in
set_option maxHeartbeats 1000000 in
theorem time_nowd (Y M D W N : Int) (w : World) (hT : Tab w) (h : Ex Y M D N) (hw : W ≠ wd (dayN Y M D)) (hz : W ≠ 0) :
    Calls Tryd.prog 15 #[.agg #[.int .i64 Y, .int .i64 M, .int .i64 D, .int .i64 W, .int .i64 N]] w fun e w' => e = .returned (.tuple #[.int .i64 0, .int .i64 1]) ∧ Below w.heap.size w w' := by
  have hT1 : Tab (w.alloc (.cells #[.int .i64 Y, .int .i64 M, .int .i64 D, .int .i64 W, .int .i64 N] 25)) := hT.below (b_new _ _)
  have He := Lib.hid (exists_yes Y M D W N _ hT1 h)
  obtain ⟨n0, n1⟩ := dayN_bd Y M D N h
  obtain ⟨K, hK⟩ : ∃ K, K = dayN Y M D := ⟨_, rfl⟩
  have Hd : Hid (∀ X, Tab X → Calls Tryd.prog 24 #[.int .i64 Y, .int .i64 M, .int .i64 D] X fun e w' => e = .returned (.int .i64 K) ∧ X = w') := Lib.hid (fun X hX => by
    obtain ⟨c1, c2, c3, c4, c5, c6, c7, c8⟩ := h
    have hm := ml_bd Y M
    rw [hK]; exact dayOf_any Y M D X hX (by omega) (by omega) c3 c4 (by omega) (by omega))
  have m0 : 0 ≤ N := h.2.2.2.2.2.2.1
  have m1 : N < 1440 := h.2.2.2.2.2.2.2
  rw [← hK] at n0 n1
  rw [← hK] at hw
  have tz := ne_t _ _ hz
  have tw := ne_t _ _ hw
  clear hw hz
  clear h hK
  go_enter Tryd.func15, Tryd.ntmps15
  go_wp2_with fail
  refine He.out.mono ?_
  rintro e w1 ⟨rfl, g1⟩
  obtain ⟨hc, hf⟩ := bcell g1
  have hT2 := Lib.hid (hT1.below g1)
  have G1 := Lib.hid (b2 (b_new w _) g1)
  clear g1
  go_wp2_with fail
  refine (Hd.out _ hT2.out).mono ?_
  rintro e w2 ⟨rfl, rfl⟩
  go_wp2_with fail
  go_quiet ((go_at_call 22; exact quiet_first (weekday_any _ _ (by omega) (by omega))))
  go_wp2_with fail
  go_ret2
  exact ⟨rfl, b_draws G1.out _⟩

theorem time_yes (Y M D W N : Int) (w : World) (hT : Tab w) (h : Right Y M D W N) :
    Calls Tryd.prog 15 #[.agg #[.int .i64 Y, .int .i64 M, .int .i64 D, .int .i64 W, .int .i64 N]] w fun e w' => e = .returned (.tuple #[.int .i64 (dayN Y M D * 1440 + N), .int .i64 0]) ∧ Below w.heap.size w w' := by
  obtain ⟨h1, h2, h3⟩ := h
  by_cases hz : W = 0
  · exact time_zero Y M D W N w hT h1 hz h3
  · exact time_wd Y M D W N w hT h1 (by omega) hz h3
theorem time_no (Y M D W N : Int) (w : World) (hT : Tab w) (h : ¬ Right Y M D W N) :
    Calls Tryd.prog 15 #[.agg #[.int .i64 Y, .int .i64 M, .int .i64 D, .int .i64 W, .int .i64 N]] w fun e w' => e = .returned (.tuple #[.int .i64 0, .int .i64 1]) ∧ Below w.heap.size w w' := by
  by_cases h1 : Ex Y M D N
  · by_cases hz : W = 0
    · exact time_late0 Y M D W N w hT h1 hz (by
        by_cases h3 : dayN Y M D * 1440 + N ≤ 268435456
        · exact absurd ⟨h1, .inl hz, h3⟩ h
        · omega)
    · by_cases hw : W = wd (dayN Y M D)
      · exact time_late Y M D W N w hT h1 hw hz (by
          by_cases h3 : dayN Y M D * 1440 + N ≤ 268435456
          · exact absurd ⟨h1, .inr hw, h3⟩ h
          · omega)
      · exact time_nowd Y M D W N w hT h1 hw hz
  · exact time_noex Y M D W N w hT h1
end Go.Proofs.YtkimniggdnlliabDoor
