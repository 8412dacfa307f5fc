/-
  What civil of the reference, dayOf, lastSunday and Date return.
-/
import Derived.Test.YtmapkiefmbgdoaaDoorCalB
namespace Go.Proofs.YtmapkiefmbgdoaaDoor
open Go.RowKit
open Cal

set_option maxHeartbeats 1000000 in
theorem refCivil_pos (t : Int) (w : World) (h0 : 0 ≤ t) (h1 : t ≤ 268436456) :
    Calls Tryd.prog 53 #[.int .i64 t] w fun e w' => e = .returned (dateV t) ∧ Below w.heap.size w w' := by
  have d0 : 0 ≤ t / 1440 := by omega
  have d1 : t / 1440 ≤ 186500 := by omega
  obtain ⟨q1, q2⟩ : 0 ≤ t % 1440 ∧ t % 1440 < 1440 := by omega
  have Hv : Hid (dateV t = .agg #[.int .i64 (yr (t / 1440)), .int .i64 (mo (t / 1440)), .int .i64 (dy (t / 1440)), .int .i64 (wd (t / 1440)), .int .i64 (t % 1440)]) := Lib.hid rfl
  obtain ⟨c1, c2, c3, c4, c5, c6⟩ := isC_civ (t / 1440) (by omega) (by omega)
  obtain ⟨e1, e2⟩ := yr_bd (t / 1440) (by omega) (by omega)
  have hys := ys_succ (yr (t / 1440))
  have hlp := lp_bd (yr (t / 1440))
  have hysb := ys_bd (yr (t / 1440)) e1 e2
  obtain ⟨Y, hY⟩ : ∃ Y, Y = yr (t / 1440) := ⟨_, rfl⟩
  have HY := Lib.hid hY
  rw [← hY] at c1 c2 c5 c6 e1 e2 hys hlp hysb
  clear hY
  have Hc := Lib.hid (⟨c1, c2⟩ : ys Y ≤ (t / 1440) ∧ (t / 1440) < ys (Y + 1))
  have Hys := Lib.hid hys
  have r1 : 0 ≤ (t / 1440) - ys Y := by omega
  have r2 : (t / 1440) - ys Y ≤ 366 := by omega
  have hq : 0 ≤ (t / 1440) / 366 := by omega
  have hq2 : (t / 1440) / 366 ≤ 600 := by omega
  have Hg := Lib.hid (guess_le (t / 1440) d0).2
  have dc1 : decide (0 ≤ (t / 1440)) = true := decide_eq_true d0
  have dc2 : decide ((t % 1440) < 0) = false := decide_eq_false (by omega)
  clear c1 c2 c3 c4 c5 c6 hys
  go_enter Tryd.func53, Tryd.ntmps53
  go_wp2_with fail
  go_loop [5] (fun s => ∃ y : Int, 2000 ≤ y ∧ y ≤ 2600 ∧ Hid (ys y ≤ (t / 1440)) ∧ s = .int .i64 y) (fun s => (2600 - intOf s).toNat)
  case atStart => exact ⟨2000 + (t / 1440) / 366, by omega, by omega, Hg, rfl⟩
  case round =>
  obtain ⟨y, y1, y2, Hle, rfl⟩ := hrel
  by_cases hlt : ys (y + 1) ≤ (t / 1440)
  · have y3 : y < 2600 := by
      by_cases e : y < 2600
      · exact e
      · have h3 : 200000 < ys 2601 := by decide
        have := ys_mono 2601 (y + 1) (by omega); omega
    go_wp2_with (go_at_call 77; refine (first_any _ _ (by omega) (by omega)).mono ?_; rintro e w' ⟨rfl, rfl⟩)
    go_round
    case rel => exact ⟨y + 1, by omega, by omega, Lib.hid hlt, rfl⟩
    case measure => simp [intOf]; omega
  have hgt : (t / 1440) < ys (y + 1) := by omega
  obtain rfl : y = Y := by rw [HY.out]; exact (yr_of Hle.out hgt).symm
  clear hlt
  go_wp2_with fail
  refine (first_any _ _ (by omega) (by omega)).mono ?_
  rintro e w' ⟨rfl, rfl⟩
  go_wp2_with fail
  refine (first_any _ _ (by omega) (by omega)).mono ?_
  rintro e w' ⟨rfl, rfl⟩
  go_wp2_with fail
  clear hgt
  go_loop [6, 7] (fun r k => ∃ m : Int, 1 ≤ m ∧ m ≤ 12 ∧ k = .int .i64 m ∧ 0 ≤ (t / 1440) - ys y - cum y m ∧ r = .int .i64 ((t / 1440) - ys y - cum y m)) (fun _ k => (12 - intOf k).toNat)
  case atStart => exact ⟨1, by omega, by omega, rfl, by rw [cum_1]; omega, by rw [cum_1, Int.sub_zero]⟩
  case round =>
    obtain ⟨m, m1, m2, rfl, hr, rfl⟩ := hrel
    have hcb := cum_bd y m m1 (by omega)
    have hmb := ml_bd y m
    by_cases hle : ml y m ≤ (t / 1440) - ys y - cum y m
    · obtain ⟨s1, s2, s3⟩ := month_step m1 m2 (r := (t / 1440) - ys y) (by omega) (by have := Hys.out; have := Hc.out.2; omega) hle
      have S3 := Lib.hid s3
      clear s3
      go_wp2_with (go_at_call 78; refine (length_any _ _ _ (by omega) (by omega) (by omega) (by omega)).mono ?_; rintro e w' ⟨rfl, rfl⟩)
      go_round
      case rel => exact ⟨m + 1, by omega, by omega, rfl, by omega, by rw [S3.out]⟩
      case measure => simp [intOf]; omega
    · have hlt : (t / 1440) - ys y - cum y m < ml y m := by omega
      have hd : mo (t / 1440) = m ∧ dy (t / 1440) = (t / 1440) - ys y - cum y m + 1 := by
        have hs := cum_succ y m m1 m2
        have hm : mo (t / 1440) = m := by
          refine mo_of ?_ ?_ m1 m2 ?_ ?_ <;> rw [← HY.out]
          · exact Hc.out.1
          · exact Hc.out.2
          · omega
          · omega
        refine ⟨hm, ?_⟩
        unfold dy; rw [hm, ← HY.out]
      have Hd := Lib.hid hd
      have hw1 : 0 ≤ (t / 1440) + 5 := by omega
      have hw2 : 0 ≤ ((t / 1440) + 5) % 7 := by omega
      have Hw : Hid ((((t / 1440) + 5) % 7 + 7) % 7 + 1 = wd (t / 1440)) := Lib.hid (by unfold wd; omega)
      clear hle hd
      go_wp2_with (go_at_call 78; refine (length_any _ _ _ (by omega) (by omega) (by omega) (by omega)).mono ?_; rintro e w' ⟨rfl, rfl⟩)
      refine bodyPost_ret (v := .agg #[.int .i64 y, .int .i64 m, .int .i64 ((t / 1440) - ys y - cum y m + 1), .int .i64 ((((t / 1440) + 5) % 7 + 7) % 7 + 1), .int .i64 (t % 1440)]) (by simp [results, Tryd.results53, go_sem]) rfl ⟨?_, ?_⟩
      · rw [Hv.out, ← HY.out, Hd.out.1, Hd.out.2, Hw.out]
      · exact (Below.refl _ _).alloc (Nat.le_refl _) _

set_option maxHeartbeats 1000000 in
theorem refCivil_neg (t : Int) (w : World) (h0 : -900 ≤ t) (h1 : t < 0) :
    Calls Tryd.prog 53 #[.int .i64 t] w fun e w' => e = .returned (dateV t) ∧ Below w.heap.size w w' := by
  have hD : t / 1440 = -1 := by omega
  have hQ : t % 1440 = t + 1440 := by omega
  obtain ⟨f1, f2⟩ := quo_floor t h1
  have g1 : t.tdiv 1440 = 0 := by omega
  have g2 : t.tmod 1440 = t := by omega
  have hy : yr (-1) = 1999 := yr_of (by decide) (by decide)
  have hm : mo (-1) = 12 := (civ_of (y := 1999) (m := 12) (d := -1) (by unfold IsC; decide)).2
  have hd : dy (-1) = 31 := by unfold dy; rw [hy, hm]; decide
  have Hv : Hid (dateV t = .agg #[.int .i64 1999, .int .i64 12, .int .i64 31, .int .i64 5, .int .i64 (t + 1440)]) := Lib.hid (by
    unfold dateV dateOf; rw [hD, hQ, hy, hm, hd]; rfl)
  clear f1 f2 hD hQ hy hm hd
  have e1 : ys 1999 = -365 := ys_1999
  have e2 : ys 2000 = 0 := ys_2000
  have L1 : ∀ W, Calls Tryd.prog 77 #[.int .i64 2000] W fun e w' => e = .returned (.int .i64 0) ∧ W = w' := fun W => by
    have := first_any 2000 W (by decide) (by decide); rw [e2] at this; exact this
  have L2 : ∀ W, Calls Tryd.prog 77 #[.int .i64 1999] W fun e w' => e = .returned (.int .i64 (-365)) ∧ W = w' := fun W => by
    have := first_any 1999 W (by decide) (by decide); rw [e1] at this; exact this
  have H1 := Lib.hid L1
  have H2 := Lib.hid L2
  clear L1 L2 e1 e2
  go_enter Tryd.func53, Tryd.ntmps53
  go_wp2_with fail
  go_loop [5] (fun s => s = .int .i64 1999) (fun s => (2600 - intOf s).toNat)
  case atStart => rfl
  case round =>
  subst hrel
  go_wp2_with fail
  refine (H1.out _).mono ?_
  rintro e w' ⟨rfl, rfl⟩
  go_wp2_with fail
  refine (H2.out _).mono ?_
  rintro e w' ⟨rfl, rfl⟩
  go_wp2_with fail
  go_loop [6, 7] (fun r k => ∃ m : Int, 1 ≤ m ∧ m ≤ 12 ∧ k = .int .i64 m ∧ Hid (364 = 364 - cum 1999 m + cum 1999 m) ∧ r = .int .i64 (364 - cum 1999 m)) (fun _ k => (12 - intOf k).toNat)
  case atStart => exact ⟨1, by omega, by omega, rfl, Lib.hid (by omega), by rw [cum_1]; rfl⟩
  case round =>
    obtain ⟨m, m1, m2, rfl, _, rfl⟩ := hrel
    have hcb := cum_bd 1999 m m1 (by omega)
    have hmb := ml_bd 1999 m
    have hs := Lib.hid (cum_succ 1999 m m1 m2)
    by_cases hm : m = 12
    · subst hm
      have a1 : cum 1999 12 = 334 := by decide
      have a2 : ml 1999 12 = 31 := by decide
      have hlt : 364 - cum 1999 12 < ml 1999 12 := by omega
      have A1 := Lib.hid a1
      clear a1 a2
      go_wp2_with (go_at_call 78; refine (length_any _ _ _ (by omega) (by omega) (by omega) (by omega)).mono ?_; rintro e w' ⟨rfl, rfl⟩)
      refine bodyPost_ret (v := .agg #[.int .i64 1999, .int .i64 12, .int .i64 (364 - cum 1999 12 + 1), .int .i64 5, .int .i64 (t + 1440)]) (by simp [results, Tryd.results53, go_sem]) rfl ⟨?_, ?_⟩
      · rw [Hv.out, A1.out]; rfl
      · exact (Below.refl _ _).alloc (Nat.le_refl _) _
    · have hle : ml 1999 m ≤ 364 - cum 1999 m := by
        have := hs.out
        have h12 : cum 1999 12 = 334 := by decide
        have := cum_mono 1999 (m + 1) 12 (by omega) (by omega) (by omega)
        omega
      have m3 : m < 12 := by omega
      have Hn : Hid (364 - cum 1999 m - ml 1999 m = 364 - cum 1999 (m + 1)) := Lib.hid (by have := hs.out; omega)
      clear hm
      go_wp2_with (go_at_call 78; refine (length_any _ _ _ (by omega) (by omega) (by omega) (by omega)).mono ?_; rintro e w' ⟨rfl, rfl⟩)
      go_round
      case rel => exact ⟨m + 1, by omega, by omega, rfl, Lib.hid (by omega), by rw [Hn.out]⟩
      case measure => simp [intOf]; omega

theorem refCivil_any (t : Int) (w : World) (h0 : -900 ≤ t) (h1 : t ≤ 268436456) :
    Calls Tryd.prog 53 #[.int .i64 t] w fun e w' => e = .returned (dateV t) ∧ Below w.heap.size w w' := by
  by_cases h : 0 ≤ t
  · exact refCivil_pos t w h h1
  · exact refCivil_neg t w h0 (by omega)

set_option maxHeartbeats 1000000 in
theorem dayOf_any (y m d : Int) (w : World) (hT : Tab w) (h0 : 1999 ≤ y) (h1 : y ≤ 3000) (m1 : 1 ≤ m) (m2 : m ≤ 12) (d1 : 0 ≤ d) (d2 : d ≤ 40) :
    Calls Tryd.prog 108 #[.int .i64 y, .int .i64 m, .int .i64 d] w fun e w' => e = .returned (.int .i64 (ys y + d - 1 + cum y m)) ∧ w = w' := by
  have hb := ys_bd y h0 h1
  go_enter Tryd.func108, Tryd.ntmps108
  go_wp2_with fail
  refine (yearStart_any y _ h0 (by omega)).mono ?_
  rintro e w' ⟨rfl, rfl⟩
  go_wp2_with fail
  go_loop [7, 8] (fun n k => ∃ j : Int, 1 ≤ j ∧ j ≤ m ∧ k = .int .i64 j ∧ n = .int .i64 (ys y + d - 1 + cum y j)) (fun _ k => (12 - intOf k).toNat)
  case atStart => exact ⟨1, by omega, by omega, rfl, by rw [cum_1, Int.add_zero]⟩
  case round =>
    obtain ⟨j, j1, j2, rfl, rfl⟩ := hrel
    have hcb := cum_bd y j j1 (by omega)
    have hmb := ml_bd y j
    by_cases hlt : j < m
    · have Hs := Lib.hid (cum_succ y j j1 (by omega))
      go_wp2_with (go_at_call 74; refine (monthLength_any _ _ _ hT (by omega) (by omega) (by omega) (by omega)).mono ?_; rintro e w' ⟨rfl, rfl⟩)
      go_round
      case rel => exact ⟨j + 1, by omega, by omega, rfl, by rw [Hs.out, Int.add_assoc]⟩
      case measure => simp [intOf]; omega
    · obtain rfl : j = m := by omega
      go_wp2_with fail
      go_ret
      exact ⟨rfl, rfl⟩

theorem weekdayFar (d : Int) (w : World) (h0 : 0 ≤ d) (h1 : d ≤ 401000) :
    Calls Tryd.prog 75 #[.int .i64 d] w fun e w' => e = .returned (.int .i64 (wd d)) ∧ w = w' := by
  go_enter Tryd.func75, Tryd.ntmps75
  go_wp2
  go_ret
  exact ⟨rfl, rfl⟩

/-- The last Sunday of March or October, as a day. -/
def sunday (y m : Int) : Int := ys y + 31 - 1 + cum y m - wd (ys y + 31 - 1 + cum y m) % 7
theorem sunday_bd (y m : Int) (h0 : 1999 ≤ y) (h1 : y ≤ 3000) (m1 : 1 ≤ m) (m2 : m ≤ 12) : -400 ≤ sunday y m ∧ sunday y m ≤ 401000 := by
  have := ys_bd y h0 h1; have := cum_bd y m m1 (by omega)
  unfold sunday wd; omega

set_option maxHeartbeats 1000000 in
theorem lastSunday_any (y m : Int) (w : World) (hT : Tab w) (h0 : 2000 ≤ y) (h1 : y ≤ 3000) (m1 : 1 ≤ m) (m2 : m ≤ 12) (h31 : ml y m = 31) :
    Calls Tryd.prog 91 #[.int .i64 y, .int .i64 m] w fun e w' => e = .returned (.int .i64 (sunday y m)) ∧ w = w' := by
  have hb := ys_bd y (by omega) h1
  have hb0 : 0 ≤ ys y := by have := ys_mono 2000 y h0; rw [ys_2000] at this; exact this
  have hc := cum_bd y m m1 (by omega)
  have Hm : Hid (∀ W, Tab W → Calls Tryd.prog 74 #[.int .i64 y, .int .i64 m] W fun e w' => e = .returned (.int .i64 31) ∧ W = w') := Lib.hid (fun W hW => by
    have := monthLength_any y m W hW (by omega) (by omega) m1 m2; rw [h31] at this; exact this)
  obtain ⟨L, hL⟩ : ∃ L, L = ys y + 31 - 1 + cum y m := ⟨_, rfl⟩
  have Hd : Hid (∀ W, Tab W → Calls Tryd.prog 108 #[.int .i64 y, .int .i64 m, .int .i64 31] W fun e w' => e = .returned (.int .i64 L) ∧ W = w') := Lib.hid (fun W hW => by
    rw [hL]; exact dayOf_any y m 31 W hW (by omega) h1 m1 m2 (by decide) (by decide))
  have l1 : 0 ≤ L := by omega
  have l2 : L ≤ 401000 := by omega
  have w1 : 0 ≤ wd L := by unfold wd; omega
  have w2 : wd L ≤ 7 := by unfold wd; omega
  have Hs : Hid (sunday y m = L - wd L % 7) := Lib.hid (by rw [hL]; rfl)
  have hwd : ∀ W, Calls Tryd.prog 75 #[.int .i64 L] W fun e w' => e = .returned (.int .i64 (wd L)) ∧ W = w' := fun W => weekdayFar L W l1 l2
  have Hwd := Lib.hid hwd
  clear hL h31 hb hb0 hc hwd
  go_enter Tryd.func91, Tryd.ntmps91
  go_wp2_with fail
  refine (Hm.out _ hT).mono ?_
  rintro e w' ⟨rfl, rfl⟩
  go_wp2_with fail
  refine (Hd.out _ hT).mono ?_
  rintro e w' ⟨rfl, rfl⟩
  go_wp2_with fail
  refine (Hwd.out _).mono ?_
  rintro e w' ⟨rfl, rfl⟩
  go_wp2_with fail
  go_ret
  exact ⟨ret_int Hs.out.symm, rfl⟩
end Go.Proofs.YtmapkiefmbgdoaaDoor
