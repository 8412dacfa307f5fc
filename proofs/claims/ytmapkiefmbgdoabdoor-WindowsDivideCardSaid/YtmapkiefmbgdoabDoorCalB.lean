/-
  What civil, dayOf and lastSunday return, in the package calendar and in its reference.
-/
import Derived.Test.YtmapkiefmbgdoabDoorCalA
namespace Go.Proofs.YtmapkiefmbgdoabDoor
open Go.RowKit
open Cal

theorem ret_two {k1 k2 : IntKind} {a b c d : Int} (h : a = b) (h2 : c = d) : Ending.returned (.tuple #[.int k1 a, .int k2 c]) = .returned (.tuple #[.int k1 b, .int k2 d]) := by rw [h, h2]
theorem floor_neg (m : Int) (h : m < 0) (hz : ¬ m.tmod 1440 < 0) : m.tdiv 1440 = m / 1440 ∧ m.tmod 1440 = m % 1440 := by
  obtain ⟨a, b⟩ := quo_floor m h; omega
theorem floor_less (m : Int) (h : m < 0) (hz : m.tmod 1440 < 0) : m.tdiv 1440 - 1 = m / 1440 ∧ m.tmod 1440 + 1440 = m % 1440 := by
  obtain ⟨a, b⟩ := quo_floor m h; omega
theorem tdiv_bd (m : Int) (h : m < 0) (h2 : -4000000000 ≤ m) : -4000000 ≤ m.tdiv 1440 ∧ m.tdiv 1440 ≤ 0 ∧ -1440 < m.tmod 1440 ∧ m.tmod 1440 ≤ 0 := by
  obtain ⟨a, b⟩ := quo_floor m h; omega

set_option maxHeartbeats 400000 in
theorem split_any (m : Int) (w : World) (h0 : -4000000000 ≤ m) (h1 : m ≤ 4000000000) :
    Calls Tryd.prog 60 #[.int .i64 m] w fun e w' => e = .returned (.tuple #[.int .i64 (m / 1440), .int .i64 (m % 1440)]) ∧ w = w' := by
  by_cases h : 0 ≤ m
  · have hz : 0 ≤ m % 1440 := by omega
    go_enter Tryd.func60, Tryd.ntmps60
    go_wp2
    go_ret2
    exact ⟨rfl, rfl⟩
  · obtain ⟨b1, b2, b3, b4⟩ := tdiv_bd m (by omega) h0
    by_cases hz : m.tmod 1440 < 0
    · have Hf := Lib.hid (floor_less m (by omega) hz)
      go_enter Tryd.func60, Tryd.ntmps60
      go_wp2
      go_ret2
      exact ⟨ret_two Hf.out.1 Hf.out.2, rfl⟩
    · have Hf := Lib.hid (floor_neg m (by omega) hz)
      have hz' : 0 ≤ m.tmod 1440 := by omega
      clear hz
      go_enter Tryd.func60, Tryd.ntmps60
      go_wp2
      go_ret2
      exact ⟨ret_two Hf.out.1 Hf.out.2, rfl⟩

/-- The date of m minutes, as a value. -/
noncomputable def dateOf (m : Int) : Array Value := #[.int .i64 (yr (m / 1440)), .int .i64 (mo (m / 1440)), .int .i64 (dy (m / 1440)), .int .i64 (wd (m / 1440)), .int .i64 (m % 1440)]
noncomputable def dateV (m : Int) : Value := .agg (dateOf m)

theorem month_step {y m r : Int} (m1 : 1 ≤ m) (m2 : m ≤ 12) (h : cum y m ≤ r) (hr : r < 365 + lp y) (hle : ml y m ≤ r - cum y m) : m + 1 ≤ 12 ∧ cum y (m + 1) ≤ r ∧ r - cum y m - ml y m = r - cum y (m + 1) := by
  have hs := cum_succ y m m1 m2
  have h13 := cum_13 y
  refine ⟨?_, by omega, by omega⟩
  by_cases e : m = 12
  · subst e; rw [show (12 : Int) + 1 = 13 by rfl] at hs; omega
  · omega

set_option maxHeartbeats 1000000 in
theorem civil_any (t : Int) (w : World) (hT : Tab w) (h0 : -900 ≤ t) (h1 : t ≤ 268436456) :
    Calls Tryd.prog 48 #[.int .i64 t] w fun e w' => e = .returned (dateV t) ∧ Below w.heap.size w w' := by
  have d0 : -1 ≤ t / 1440 := by omega
  have d1 : t / 1440 ≤ 186500 := by omega
  obtain ⟨q1, q2⟩ : 0 ≤ t % 1440 ∧ t % 1440 < 1440 := by omega
  obtain ⟨D, hD⟩ : ∃ D, D = t / 1440 := ⟨_, rfl⟩
  obtain ⟨Q, hQ⟩ : ∃ Q, Q = t % 1440 := ⟨_, rfl⟩
  have hsp : ∀ W, Calls Tryd.prog 60 #[.int .i64 t] W fun e w' => e = .returned (.tuple #[.int .i64 D, .int .i64 Q]) ∧ W = w' := fun W => by
    rw [hD, hQ]; exact split_any t W (by omega) (by omega)
  have Hsp := Lib.hid hsp
  have Hv : Hid (dateV t = .agg #[.int .i64 (yr D), .int .i64 (mo D), .int .i64 (dy D), .int .i64 (wd D), .int .i64 Q]) := Lib.hid (by rw [hD, hQ]; rfl)
  rw [← hD] at d0 d1
  rw [← hQ] at q1 q2
  clear hsp hD hQ
  obtain ⟨c1, c2, c3, c4, c5, c6⟩ := isC_civ D (by omega) (by omega)
  obtain ⟨e1, e2⟩ := yr_bd D (by omega) (by omega)
  have hys := ys_succ (yr D)
  have hlp := lp_bd (yr D)
  have hysb := ys_bd (yr D) e1 e2
  have Hy := Lib.hid (fun W => yearOf_any D W d0 (by omega))
  obtain ⟨Y, hY⟩ : ∃ Y, Y = yr D := ⟨_, rfl⟩
  have HY := Lib.hid hY
  rw [← hY] at c1 c2 c5 c6 e1 e2 hys hlp hysb Hy
  clear hY
  have Hc := Lib.hid (⟨c1, c2⟩ : ys Y ≤ D ∧ D < ys (Y + 1))
  have Hys := Lib.hid hys
  have hT1 : Tab (w.alloc (.cells #[.int .i64 0, .int .i64 0, .int .i64 0, .int .i64 0, .int .i64 0] 68)) := hT.below ((Below.refl _ _).alloc (Nat.le_refl _) _)
  have r1 : 0 ≤ D - ys Y := by omega
  have r2 : D - ys Y ≤ 366 := by omega
  clear c2 c3 c4 c5 c6 hys
  go_enter Tryd.func48, Tryd.ntmps48
  go_wp2_with fail
  refine (Hsp.out _).mono ?_
  rintro e w1 ⟨rfl, rfl⟩
  go_wp2_with fail
  refine (Hy.out _).mono ?_
  rintro e w1 ⟨rfl, rfl⟩
  go_wp2_with fail
  refine (yearStart_any Y _ e1 (by omega)).mono ?_
  rintro e w1 ⟨rfl, rfl⟩
  go_wp2_with fail
  go_loop [6, 7] (fun k r => ∃ m : Int, 1 ≤ m ∧ m ≤ 12 ∧ k = .int .i64 m ∧ 0 ≤ D - ys Y - cum Y m ∧ r = .int .i64 (D - ys Y - cum Y m)) (fun k _ => (12 - intOf k).toNat)
  case atStart => exact ⟨1, by omega, by omega, rfl, by rw [cum_1]; omega, by rw [cum_1, Int.sub_zero]⟩
  case round =>
    obtain ⟨m, m1, m2, rfl, hr, rfl⟩ := hrel
    have hcb := cum_bd Y m m1 (by omega)
    have hmb := ml_bd Y m
    by_cases hle : ml Y m ≤ D - ys Y - cum Y m
    · obtain ⟨s1, s2, s3⟩ := month_step m1 m2 (r := D - ys Y) (by omega) (by have := Hys.out; have := Hc.out.2; omega) hle
      have S3 := Lib.hid s3
      clear s3
      go_wp2_with (go_at_call 63; refine (monthLength_any _ _ _ hT1 (by omega) (by omega) (by omega) (by omega)).mono ?_; rintro e w' ⟨rfl, rfl⟩)
      go_round
      case rel => exact ⟨m + 1, by omega, by omega, rfl, by omega, by rw [S3.out]⟩
      case measure => simp [intOf]; omega
    · have hlt : D - ys Y - cum Y m < ml Y m := by omega
      have hd : mo D = m ∧ dy D = D - ys Y - cum Y m + 1 := by
        have hs := cum_succ Y m m1 m2
        have hm : mo D = m := by
          refine mo_of ?_ ?_ m1 m2 ?_ ?_ <;> rw [← HY.out]
          · exact c1
          · exact Hc.out.2
          · omega
          · omega
        refine ⟨hm, ?_⟩
        unfold dy; rw [hm, ← HY.out]
      have Hd := Lib.hid hd
      clear hle hd
      go_wp2_with (go_at_call 63; refine (monthLength_any _ _ _ hT1 (by omega) (by omega) (by omega) (by omega)).mono ?_; rintro e w' ⟨rfl, rfl⟩)
      refine (weekday_any D _ (by omega) (by omega)).mono ?_
      rintro e w1 ⟨rfl, rfl⟩
      go_wp2_with fail
      refine bodyPost_ret (v := .agg #[.int .i64 Y, .int .i64 m, .int .i64 (D - ys Y - cum Y m + 1), .int .i64 (wd D), .int .i64 Q]) (by simp [results, Tryd.results48, go_sem]) rfl ⟨?_, ?_⟩
      · rw [Hv.out, ← HY.out, Hd.out.1, Hd.out.2]
      · exact (Below.refl _ _).alloc (Nat.le_refl _) _
end Go.Proofs.YtmapkiefmbgdoabDoor
