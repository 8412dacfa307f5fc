/-
  What Time returns, in the reference of the package calendar: all ways.
-/
import Derived.Test.YtkimniggdnlliaaDoorCalL
namespace Go.Proofs.YtkimniggdnlliaaDoor
open Go.RowKit
open Cal

set_option maxRecDepth 100000 in
set_option maxHeartbeats 2000000 in
theorem refTime_late (Y M D W N : Int) (w : World) (h : Ex2 Y M D N) (ht : 268435456 < dayN Y M D * 1440 + N) :
    Calls Tryd.prog 19 #[.agg #[.int .i64 Y, .int .i64 M, .int .i64 D, .int .i64 W, .int .i64 N]] w fun e w' => e = .returned (.tuple #[.int .i64 0, .int .i64 1]) ∧ Below w.heap.size w w' := by
  obtain ⟨n0, n1, n2⟩ := dayN_bd2 Y M D N h
  obtain ⟨c1, c2, c3, c4, c5, c6, c7, c8⟩ := h
  have x1 : decide (Y < 2000) = false := decide_eq_false (by omega)
  have x2 : decide (2600 < Y) = false := decide_eq_false (by omega)
  have x3 : decide (M < 1) = false := decide_eq_false (by omega)
  have x4 : decide (12 < M) = false := decide_eq_false (by omega)
  have x5 : decide (D < 1) = false := decide_eq_false (by omega)
  have x6 : decide (ml Y M < D) = false := decide_eq_false (by omega)
  have x7 : decide (N < 0) = false := decide_eq_false (by omega)
  have x8 : decide (1439 < N) = false := decide_eq_false (by omega)
  have hy := ys_bd Y (by omega) (by omega)
  have hm := ml_bd Y M
  obtain ⟨K, hK⟩ : ∃ K, K = dayN Y M D := ⟨_, rfl⟩
  rw [← hK] at n0 n1 n2
  have HK : Hid (ys Y + D - 1 + cum Y M = K) := Lib.hid (by rw [hK]; rfl)
  have Hr := Lib.hid (fun X => right_no (1440 * K + N) X (by rw [hK]; omega))
  clear ht
  clear hK n2
  go_enter Tryd.func19, Tryd.ntmps19
  go_wp2_with fail
  go_quiet ((go_at_call 50; exact quiet_first (length_any _ _ _ (by omega) (by omega) (by omega) (by omega))))
  go_wp2_with fail
  go_quiet ((go_at_call 51; exact quiet_more (first_any _ _ (by omega) (by omega))))
  go_wp2_with fail
  clear x1 x2 x3 x4 x5 x6 x7 x8
  rw [World.drewN_drewN]
  go_loop [4, 5] (fun n k => ∃ j : Int, 1 ≤ j ∧ j ≤ M ∧ k = .int .i64 j ∧ n = .int .i64 (ys Y + D - 1 + cum Y j)) (fun _ k => (12 - intOf k).toNat)
  case atStart => exact ⟨1, by omega, by omega, rfl, by rw [cum_1, Int.add_zero]⟩
  case round =>
  obtain ⟨j, j1, j2, rfl, rfl⟩ := hrel
  have hcb := cum_bd Y j j1 (by omega)
  have hmb := ml_bd Y j
  by_cases hlt : j < M
  · have Hs := Lib.hid (cum_succ Y j j1 (by omega))
    go_wp2_with (go_at_call 50; refine (length_any _ _ _ (by omega) (by omega) (by omega) (by omega)).mono ?_; rintro e w' ⟨rfl, rfl⟩)
    go_round
    case rel => exact ⟨j + 1, by omega, by omega, rfl, by rw [Hs.out, Int.add_assoc]⟩
    case measure => simp [intOf]; omega
  obtain rfl : j = M := by omega
  rw [HK.out]
  clear hlt hcb hmb hm hy c6
  go_wp2_with fail
  go_quiet ((go_at_call 45; exact quiet_more (Hr.out _)))
  go_wp2_with fail
  go_ret2
  exact ⟨rfl, b_draws (b_draws (b_new _ _) _) _⟩

set_option maxRecDepth 100000 in
set_option maxHeartbeats 2000000 in
theorem refTime_zero (Y M D W N : Int) (w : World) (h : Ex2 Y M D N) (ht : dayN Y M D * 1440 + N ≤ 268435456) (hw : W = 0) :
    Calls Tryd.prog 19 #[.agg #[.int .i64 Y, .int .i64 M, .int .i64 D, .int .i64 W, .int .i64 N]] w fun e w' => e = .returned (.tuple #[.int .i64 (dayN Y M D * 1440 + N), .int .i64 0]) ∧ Below w.heap.size w w' := by
  obtain ⟨n0, n1, n2⟩ := dayN_bd2 Y M D N h
  obtain ⟨c1, c2, c3, c4, c5, c6, c7, c8⟩ := h
  have x1 : decide (Y < 2000) = false := decide_eq_false (by omega)
  have x2 : decide (2600 < Y) = false := decide_eq_false (by omega)
  have x3 : decide (M < 1) = false := decide_eq_false (by omega)
  have x4 : decide (12 < M) = false := decide_eq_false (by omega)
  have x5 : decide (D < 1) = false := decide_eq_false (by omega)
  have x6 : decide (ml Y M < D) = false := decide_eq_false (by omega)
  have x7 : decide (N < 0) = false := decide_eq_false (by omega)
  have x8 : decide (1439 < N) = false := decide_eq_false (by omega)
  have hy := ys_bd Y (by omega) (by omega)
  have hm := ml_bd Y M
  obtain ⟨K, hK⟩ : ∃ K, K = dayN Y M D := ⟨_, rfl⟩
  rw [← hK] at n0 n1 n2
  have HK : Hid (ys Y + D - 1 + cum Y M = K) := Lib.hid (by rw [hK]; rfl)
  have Hr := Lib.hid (fun X => right_yes (1440 * K + N) X (by omega) (by rw [hK]; omega))
  have HR : Hid (1440 * K + N = dayN Y M D * 1440 + N) := Lib.hid (by rw [hK]; omega)
  subst hw
  clear ht
  clear hK n2
  go_enter Tryd.func19, Tryd.ntmps19
  go_wp2_with fail
  go_quiet ((go_at_call 50; exact quiet_first (length_any _ _ _ (by omega) (by omega) (by omega) (by omega))))
  go_wp2_with fail
  go_quiet ((go_at_call 51; exact quiet_more (first_any _ _ (by omega) (by omega))))
  go_wp2_with fail
  clear x1 x2 x3 x4 x5 x6 x7 x8
  rw [World.drewN_drewN]
  go_loop [4, 5] (fun n k => ∃ j : Int, 1 ≤ j ∧ j ≤ M ∧ k = .int .i64 j ∧ n = .int .i64 (ys Y + D - 1 + cum Y j)) (fun _ k => (12 - intOf k).toNat)
  case atStart => exact ⟨1, by omega, by omega, rfl, by rw [cum_1, Int.add_zero]⟩
  case round =>
  obtain ⟨j, j1, j2, rfl, rfl⟩ := hrel
  have hcb := cum_bd Y j j1 (by omega)
  have hmb := ml_bd Y j
  by_cases hlt : j < M
  · have Hs := Lib.hid (cum_succ Y j j1 (by omega))
    go_wp2_with (go_at_call 50; refine (length_any _ _ _ (by omega) (by omega) (by omega) (by omega)).mono ?_; rintro e w' ⟨rfl, rfl⟩)
    go_round
    case rel => exact ⟨j + 1, by omega, by omega, rfl, by rw [Hs.out, Int.add_assoc]⟩
    case measure => simp [intOf]; omega
  obtain rfl : j = M := by omega
  rw [HK.out]
  clear hlt hcb hmb hm hy c6
  go_wp2_with fail
  go_quiet ((go_at_call 45; exact quiet_more (Hr.out _)))
  go_wp2_with fail
  go_ret2
  exact ⟨ret_two HR.out rfl, b_draws (b_draws (b_new _ _) _) _⟩

theorem field_wd (a b c d e : Int) (X : World) : (Instr.field 33 (.agg #[.int .i64 a, .int .i64 b, .int .i64 c, .int .i64 d, .int .i64 e]) 3).run Tryd.prog X = .ok (.int .i64 d) X := by kernel_rfl
theorem keep_draws {w X : World} {W : Int} (h : Below w.heap.size w X ∧ w.heap.size < X.heap.size ∧ X.cell? ⟨w.heap.size, 3, none⟩ = some (.int .i64 W)) (q : Nat) : Below w.heap.size w (X.drewN q).drew ∧ w.heap.size < (X.drewN q).drew.heap.size ∧ (X.drewN q).drew.cell? ⟨w.heap.size, 3, none⟩ = some (.int .i64 W) := ⟨(b_draws h.1 q).drew, h.2.1, h.2.2⟩
theorem keep_drew {w X : World} {W : Int} (h : Below w.heap.size w X ∧ w.heap.size < X.heap.size ∧ X.cell? ⟨w.heap.size, 3, none⟩ = some (.int .i64 W)) : Below w.heap.size w X.drew ∧ w.heap.size < X.drew.heap.size ∧ X.drew.cell? ⟨w.heap.size, 3, none⟩ = some (.int .i64 W) := ⟨h.1.drew, h.2.1, h.2.2⟩
theorem keep_call {w X Z : World} {W : Int} (h : Below w.heap.size w X ∧ w.heap.size < X.heap.size ∧ X.cell? ⟨w.heap.size, 3, none⟩ = some (.int .i64 W)) (g : Below X.heap.size X Z) : Below w.heap.size w Z ∧ w.heap.size < Z.heap.size ∧ Z.cell? ⟨w.heap.size, 3, none⟩ = some (.int .i64 W) :=
  ⟨b2 h.1 g, Nat.lt_of_lt_of_le h.2.1 g.size, (g.cell (p := ⟨w.heap.size, 3, none⟩) h.2.1).trans h.2.2⟩

set_option maxRecDepth 100000 in
set_option maxHeartbeats 2000000 in
theorem refTime_wd (Y M D W N : Int) (w : World) (h : Ex2 Y M D N) (ht : dayN Y M D * 1440 + N ≤ 268435456) (hz : W ≠ 0) (hw : W = wd (dayN Y M D)) :
    Calls Tryd.prog 19 #[.agg #[.int .i64 Y, .int .i64 M, .int .i64 D, .int .i64 W, .int .i64 N]] w fun e w' => e = .returned (.tuple #[.int .i64 (dayN Y M D * 1440 + N), .int .i64 0]) ∧ Below w.heap.size w w' := by
  obtain ⟨n0, n1, n2⟩ := dayN_bd2 Y M D N h
  obtain ⟨c1, c2, c3, c4, c5, c6, c7, c8⟩ := h
  have x1 : decide (Y < 2000) = false := decide_eq_false (by omega)
  have x2 : decide (2600 < Y) = false := decide_eq_false (by omega)
  have x3 : decide (M < 1) = false := decide_eq_false (by omega)
  have x4 : decide (12 < M) = false := decide_eq_false (by omega)
  have x5 : decide (D < 1) = false := decide_eq_false (by omega)
  have x6 : decide (ml Y M < D) = false := decide_eq_false (by omega)
  have x7 : decide (N < 0) = false := decide_eq_false (by omega)
  have x8 : decide (1439 < N) = false := decide_eq_false (by omega)
  have hy := ys_bd Y (by omega) (by omega)
  have hm := ml_bd Y M
  obtain ⟨K, hK⟩ : ∃ K, K = dayN Y M D := ⟨_, rfl⟩
  rw [← hK] at n0 n1 n2
  have HK : Hid (ys Y + D - 1 + cum Y M = K) := Lib.hid (by rw [hK]; rfl)
  rw [← hK] at ht hw
  have hdiv : (1440 * K + N) / 1440 = K := by omega
  obtain ⟨y1, m1, d1, hV⟩ := dateV_full (1440 * K + N)
  rw [hdiv] at hV
  obtain ⟨q, hq⟩ : ∃ q, q = (1440 * K + N) % 1440 := ⟨_, rfl⟩
  rw [← hq] at hV
  have Hc : Hid (∀ X, Calls Tryd.prog 46 #[.int .i64 (1440 * K + N)] X fun e w' => e = .returned (.agg #[.int .i64 y1, .int .i64 m1, .int .i64 d1, .int .i64 (wd K), .int .i64 q]) ∧ Below X.heap.size X w') := Lib.hid (fun X => by
    have := refCivil_any (1440 * K + N) X (by omega) (by omega)
    rw [hV] at this; exact this)
  clear hV hq hdiv
  have Hr := Lib.hid (fun X => right_yes (1440 * K + N) X (by omega) (by omega))
  have HR : Hid (1440 * K + N = dayN Y M D * 1440 + N) := Lib.hid (by rw [hK]; omega)
  have tz := ne_t _ _ hz
  have tw : (W != wd K) = false := ne_f _ _ hw
  clear ht hz hw
  clear hK n2
  go_enter Tryd.func19, Tryd.ntmps19
  go_wp2_with fail
  go_quiet ((go_at_call 50; exact quiet_first (length_any _ _ _ (by omega) (by omega) (by omega) (by omega))))
  go_wp2_with fail
  go_quiet ((go_at_call 51; exact quiet_more (first_any _ _ (by omega) (by omega))))
  go_wp2_with fail
  clear x1 x2 x3 x4 x5 x6 x7 x8
  rw [World.drewN_drewN]
  go_loop [4, 5] (fun n k => ∃ j : Int, 1 ≤ j ∧ j ≤ M ∧ k = .int .i64 j ∧ n = .int .i64 (ys Y + D - 1 + cum Y j)) (fun _ k => (12 - intOf k).toNat)
  case atStart => exact ⟨1, by omega, by omega, rfl, by rw [cum_1, Int.add_zero]⟩
  case round =>
  obtain ⟨j, j1, j2, rfl, rfl⟩ := hrel
  have hcb := cum_bd Y j j1 (by omega)
  have hmb := ml_bd Y j
  by_cases hlt : j < M
  · have Hs := Lib.hid (cum_succ Y j j1 (by omega))
    go_wp2_with (go_at_call 50; refine (length_any _ _ _ (by omega) (by omega) (by omega) (by omega)).mono ?_; rintro e w' ⟨rfl, rfl⟩)
    go_round
    case rel => exact ⟨j + 1, by omega, by omega, rfl, by rw [Hs.out, Int.add_assoc]⟩
    case measure => simp [intOf]; omega
  obtain rfl : j = M := by omega
  rw [HK.out]
  clear hlt hcb hmb hm hy c6
  go_wp2_with fail
  have S0 : Below w.heap.size w (w.alloc (.cells #[.int .i64 Y, .int .i64 j, .int .i64 D, .int .i64 W, .int .i64 N] 33)) ∧ w.heap.size < (w.alloc (.cells #[.int .i64 Y, .int .i64 j, .int .i64 D, .int .i64 W, .int .i64 N] 33)).heap.size ∧ (w.alloc (.cells #[.int .i64 Y, .int .i64 j, .int .i64 D, .int .i64 W, .int .i64 N] 33)).cell? ⟨w.heap.size, 3, none⟩ = some (.int .i64 W) := ⟨b_new _ _, by simp, by simp⟩
  have hfd := fun X => field_wd y1 m1 d1 (wd K) q X
  go_region_held3 (fun X => Below w.heap.size w X ∧ w.heap.size < X.heap.size ∧ X.cell? ⟨w.heap.size, 3, none⟩ = some (.int .i64 W)) (first | assumption | exact keep_draws S0 _ | exact keep_drew (by assumption) | exact keep_call (by assumption) (by assumption))
    (first | (go_at_call 45; refine (Hr.out _).mono ?_; rintro e w5 ⟨rfl, rfl⟩) | (go_at_call 46; refine (Hc.out _).mono ?_; rintro e w6 ⟨rfl, g6⟩))
  have g7 : Below w.heap.size w w6 := And.left (by assumption)
  clear g6 hfd
  go_wp2_with fail
  go_ret2
  exact ⟨ret_two HR.out rfl, g7⟩

set_option maxRecDepth 100000 in
set_option maxHeartbeats 2000000 in
theorem refTime_nowd (Y M D W N : Int) (w : World) (h : Ex2 Y M D N) (ht : dayN Y M D * 1440 + N ≤ 268435456) (hz : W ≠ 0) (hw : W ≠ wd (dayN Y M D)) :
    Calls Tryd.prog 19 #[.agg #[.int .i64 Y, .int .i64 M, .int .i64 D, .int .i64 W, .int .i64 N]] w fun e w' => e = .returned (.tuple #[.int .i64 0, .int .i64 1]) ∧ Below w.heap.size w w' := by
  obtain ⟨n0, n1, n2⟩ := dayN_bd2 Y M D N h
  obtain ⟨c1, c2, c3, c4, c5, c6, c7, c8⟩ := h
  have x1 : decide (Y < 2000) = false := decide_eq_false (by omega)
  have x2 : decide (2600 < Y) = false := decide_eq_false (by omega)
  have x3 : decide (M < 1) = false := decide_eq_false (by omega)
  have x4 : decide (12 < M) = false := decide_eq_false (by omega)
  have x5 : decide (D < 1) = false := decide_eq_false (by omega)
  have x6 : decide (ml Y M < D) = false := decide_eq_false (by omega)
  have x7 : decide (N < 0) = false := decide_eq_false (by omega)
  have x8 : decide (1439 < N) = false := decide_eq_false (by omega)
  have hy := ys_bd Y (by omega) (by omega)
  have hm := ml_bd Y M
  obtain ⟨K, hK⟩ : ∃ K, K = dayN Y M D := ⟨_, rfl⟩
  rw [← hK] at n0 n1 n2
  have HK : Hid (ys Y + D - 1 + cum Y M = K) := Lib.hid (by rw [hK]; rfl)
  rw [← hK] at ht hw
  have hdiv : (1440 * K + N) / 1440 = K := by omega
  obtain ⟨y1, m1, d1, hV⟩ := dateV_full (1440 * K + N)
  rw [hdiv] at hV
  obtain ⟨q, hq⟩ : ∃ q, q = (1440 * K + N) % 1440 := ⟨_, rfl⟩
  rw [← hq] at hV
  have Hc : Hid (∀ X, Calls Tryd.prog 46 #[.int .i64 (1440 * K + N)] X fun e w' => e = .returned (.agg #[.int .i64 y1, .int .i64 m1, .int .i64 d1, .int .i64 (wd K), .int .i64 q]) ∧ Below X.heap.size X w') := Lib.hid (fun X => by
    have := refCivil_any (1440 * K + N) X (by omega) (by omega)
    rw [hV] at this; exact this)
  clear hV hq hdiv
  have Hr := Lib.hid (fun X => right_yes (1440 * K + N) X (by omega) (by omega))
  have tz := ne_t _ _ hz
  have tw := ne_t _ _ hw
  clear ht hz hw
  clear hK n2
  go_enter Tryd.func19, Tryd.ntmps19
  go_wp2_with fail
  go_quiet ((go_at_call 50; exact quiet_first (length_any _ _ _ (by omega) (by omega) (by omega) (by omega))))
  go_wp2_with fail
  go_quiet ((go_at_call 51; exact quiet_more (first_any _ _ (by omega) (by omega))))
  go_wp2_with fail
  clear x1 x2 x3 x4 x5 x6 x7 x8
  rw [World.drewN_drewN]
  go_loop [4, 5] (fun n k => ∃ j : Int, 1 ≤ j ∧ j ≤ M ∧ k = .int .i64 j ∧ n = .int .i64 (ys Y + D - 1 + cum Y j)) (fun _ k => (12 - intOf k).toNat)
  case atStart => exact ⟨1, by omega, by omega, rfl, by rw [cum_1, Int.add_zero]⟩
  case round =>
  obtain ⟨j, j1, j2, rfl, rfl⟩ := hrel
  have hcb := cum_bd Y j j1 (by omega)
  have hmb := ml_bd Y j
  by_cases hlt : j < M
  · have Hs := Lib.hid (cum_succ Y j j1 (by omega))
    go_wp2_with (go_at_call 50; refine (length_any _ _ _ (by omega) (by omega) (by omega) (by omega)).mono ?_; rintro e w' ⟨rfl, rfl⟩)
    go_round
    case rel => exact ⟨j + 1, by omega, by omega, rfl, by rw [Hs.out, Int.add_assoc]⟩
    case measure => simp [intOf]; omega
  obtain rfl : j = M := by omega
  rw [HK.out]
  clear hlt hcb hmb hm hy c6
  go_wp2_with fail
  have S0 : Below w.heap.size w (w.alloc (.cells #[.int .i64 Y, .int .i64 j, .int .i64 D, .int .i64 W, .int .i64 N] 33)) ∧ w.heap.size < (w.alloc (.cells #[.int .i64 Y, .int .i64 j, .int .i64 D, .int .i64 W, .int .i64 N] 33)).heap.size ∧ (w.alloc (.cells #[.int .i64 Y, .int .i64 j, .int .i64 D, .int .i64 W, .int .i64 N] 33)).cell? ⟨w.heap.size, 3, none⟩ = some (.int .i64 W) := ⟨b_new _ _, by simp, by simp⟩
  have hfd := fun X => field_wd y1 m1 d1 (wd K) q X
  go_region_held3 (fun X => Below w.heap.size w X ∧ w.heap.size < X.heap.size ∧ X.cell? ⟨w.heap.size, 3, none⟩ = some (.int .i64 W)) (first | assumption | exact keep_draws S0 _ | exact keep_drew (by assumption) | exact keep_call (by assumption) (by assumption))
    (first | (go_at_call 45; refine (Hr.out _).mono ?_; rintro e w5 ⟨rfl, rfl⟩) | (go_at_call 46; refine (Hc.out _).mono ?_; rintro e w6 ⟨rfl, g6⟩))
  have g7 : Below w.heap.size w w6 := And.left (by assumption)
  clear g6 hfd
  go_wp2_with fail
  go_ret2
  exact ⟨rfl, g7⟩

theorem refTime_noex (Y M D W N : Int) (w : World) (h : ¬ Ex2 Y M D N) :
    Calls Tryd.prog 19 #[.agg #[.int .i64 Y, .int .i64 M, .int .i64 D, .int .i64 W, .int .i64 N]] w fun e w' => e = .returned (.tuple #[.int .i64 0, .int .i64 1]) ∧ Below w.heap.size w w' := by
  by_cases c1 : 2000 ≤ Y
  · skip
    by_cases c2 : Y ≤ 2600
    · skip
      by_cases c3 : 1 ≤ M
      · skip
        by_cases c4 : M ≤ 12
        · skip
          by_cases c5 : 1 ≤ D
          · skip
            by_cases c6 : D ≤ ml Y M
            · skip
              by_cases c7 : 0 ≤ N
              · skip
                by_cases c8 : N ≤ 1439
                · exact absurd ⟨c1, c2, c3, c4, c5, c6, c7, c8⟩ h
                · exact refTime_no8 Y M D W N w c1 c2 c3 c4 c5 c6 c7 (by omega)
              · exact refTime_no7 Y M D W N w c1 c2 c3 c4 c5 c6 (by omega)
            · exact refTime_no6 Y M D W N w c1 c2 c3 c4 c5 (by omega)
          · exact refTime_no5 Y M D W N w c1 c2 c3 c4 (by omega)
        · exact refTime_no4 Y M D W N w c1 c2 c3 (by omega)
      · exact refTime_no3 Y M D W N w c1 c2 (by omega)
    · exact refTime_no2 Y M D W N w c1 (by omega)
  · exact refTime_no1 Y M D W N w  (by omega)

theorem refTime_yes (Y M D W N : Int) (w : World) (h : Right Y M D W N) :
    Calls Tryd.prog 19 #[.agg #[.int .i64 Y, .int .i64 M, .int .i64 D, .int .i64 W, .int .i64 N]] w fun e w' => e = .returned (.tuple #[.int .i64 (dayN Y M D * 1440 + N), .int .i64 0]) ∧ Below w.heap.size w w' := by
  obtain ⟨h1, h2, h3⟩ := h
  by_cases hz : W = 0
  · exact refTime_zero Y M D W N w (ex2_of h1) h3 hz
  · exact refTime_wd Y M D W N w (ex2_of h1) h3 hz (by omega)
theorem refTime_no (Y M D W N : Int) (w : World) (h : ¬ Right Y M D W N) :
    Calls Tryd.prog 19 #[.agg #[.int .i64 Y, .int .i64 M, .int .i64 D, .int .i64 W, .int .i64 N]] w fun e w' => e = .returned (.tuple #[.int .i64 0, .int .i64 1]) ∧ Below w.heap.size w w' := by
  by_cases h1 : Ex2 Y M D N
  · by_cases h3 : dayN Y M D * 1440 + N ≤ 268435456
    · have he : Ex Y M D N := by
        have := (dayN_bd2 Y M D N h1).2.2
        unfold Ex2 at h1; unfold Ex
        by_cases hy : 2510 < Y
        · have := this hy; omega
        · omega
      by_cases hz : W = 0
      · exact absurd ⟨he, .inl hz, h3⟩ h
      · by_cases hw : W = wd (dayN Y M D)
        · exact absurd ⟨he, .inr hw, h3⟩ h
        · exact refTime_nowd Y M D W N w h1 h3 hz hw
    · exact refTime_late Y M D W N w h1 (by omega)
  · exact refTime_noex Y M D W N w h1
end Go.Proofs.YtkimniggdnlliaaDoor
