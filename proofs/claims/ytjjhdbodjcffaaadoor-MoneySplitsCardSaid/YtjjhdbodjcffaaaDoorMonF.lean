/-
  What the reference's Scale returns, and Round.
-/
import Derived.Test.YtjjhdbodjcffaaaDoorMonE
namespace Go.Proofs.YtjjhdbodjcffaaaDoor
open Go.RowKit
open IntWalk

theorem fin_fits (neg : Bool) (Q : Int) (h0 : 0 ≤ Q) : fitsI neg (Q / 18446744073709551616) (Q % 18446744073709551616) = decide (finE neg Q = 0) ∧ (finE neg Q = 0 → finV neg Q = if neg = true then -(Q % 18446744073709551616) else Q % 18446744073709551616) ∧ (finE neg Q ≠ 0 → finE neg Q = 20 ∧ finV neg Q = 0) := by
  unfold fitsI finE finV
  cases neg
  · simp only [Bool.false_eq_true, if_false]
    by_cases h : Q ≤ 9223372036854775807
    · simp only [if_pos h]
      refine ⟨?_, fun _ => by omega, fun hh => absurd rfl hh⟩
      rw [show Q / 18446744073709551616 = 0 by omega]
      simp; omega
    · simp only [if_neg h]
      refine ⟨?_, fun hh => by omega, fun _ => by simp⟩
      simp; omega
  · simp only [if_true]
    by_cases h : Q ≤ 9223372036854775808
    · simp only [if_pos h]
      refine ⟨?_, fun _ => by omega, fun hh => absurd rfl hh⟩
      rw [show Q / 18446744073709551616 = 0 by omega]
      simp; omega
    · simp only [if_neg h]
      refine ⟨?_, fun hh => by omega, fun _ => by simp⟩
      simp; omega
theorem up_zero (q d m : Int) (hd : 0 < d) : upI q 0 d m = false := by
  unfold upI
  split
  · simp; omega
  · split
    · simp; omega
    · split
      · simp
      · rfl

set_option maxHeartbeats 1000000 in
theorem rscale_run (a n d m : Int) (w : World) (a0 : -9223372036854775808 ≤ a) (a1 : a ≤ 9223372036854775807) (n0 : -9223372036854775808 ≤ n) (n1 : n ≤ 9223372036854775807)
    (d1 : d ≤ 9223372036854775807) (hd : 1 ≤ d) (m0 : 1 ≤ m) (m1 : m ≤ 4) :
    Calls Tryd.prog 15 #[.int .i64 a, .int .i64 n, .int .i64 d, .int .i64 m] w fun e w' => e = ie (finV (scN a n) (scQ a n d m)) (finE (scN a n) (scQ a n d m)) ∧ w = w' := by
  obtain ⟨A0, A1⟩ := ab_bd a a0 a1
  obtain ⟨B0, B1⟩ := ab_bd n n0 n1
  obtain ⟨X, hX⟩ : ∃ X, X = ab a * ab n := ⟨_, rfl⟩
  have X0 : 0 ≤ X := by rw [hX]; exact Int.mul_nonneg A0 B0
  have X1 : X ≤ 85070591730234615865843651857942052864 := by
    rw [hX]
    calc ab a * ab n ≤ 9223372036854775808 * ab n := Int.mul_le_mul_of_nonneg_right A1 B0
      _ ≤ _ := by omega
  have CM : Hid (∀ W : World, Calls Tryd.prog 30 #[.int .u64 (ab a), .int .u64 (ab n)] W fun e w' => e = .returned (.tuple #[.int .u64 (X / 18446744073709551616), .int .u64 (X % 18446744073709551616)]) ∧ W = w') := Lib.hid (fun W => by
    rw [hX]; exact rmul_run _ _ W A0 B0 (by omega) (by omega))
  have hs : scQ a n d m = X / d + (if upI (X / d) (X % d) d m = true then 1 else 0) := by unfold scQ; rw [← hX]
  clear hX
  have x2 := Int.emod_nonneg X (show d ≠ 0 by omega)
  have x3 := Int.emod_lt_of_pos X (show 0 < d by omega)
  have x4 : 0 ≤ X / d := Int.ediv_nonneg X0 (by omega)
  have x5 : X / d ≤ X := Int.ediv_le_self _ X0
  obtain ⟨q, hq⟩ : ∃ q, q = X / d := ⟨_, rfl⟩
  obtain ⟨r, hr⟩ : ∃ r, r = X % d := ⟨_, rfl⟩
  have CD : Hid (∀ W : World, Calls Tryd.prog 32 #[.int .u64 (X / 18446744073709551616), .int .u64 (X % 18446744073709551616), .int .u64 d] W fun e w' => e = .returned (.tuple #[.int .u64 (q / 18446744073709551616), .int .u64 (q % 18446744073709551616), .int .u64 r]) ∧ W = w') := Lib.hid (fun W => by
    refine (rdiv_run (X / 18446744073709551616) (X % 18446744073709551616) d W (by omega) (by omega) (by omega) (by omega) (by omega) (by omega)).mono ?_
    rintro e w' ⟨he, hw⟩
    exact ⟨by rw [he, word_two, hq, hr], hw⟩)
  rw [← hq] at x4 x5 hs
  rw [← hr] at x2 x3 hs
  clear hq hr
  obtain ⟨U, hU⟩ : ∃ U, U = upI q r d m := ⟨_, rfl⟩
  have UZ : r = 0 → U = false := fun h => by rw [hU, h]; exact up_zero q d m (by omega)
  have CU : Hid (∀ W : World, Calls Tryd.prog 33 #[.bool (q % 2 == 1), .int .u64 r, .int .u64 d, .int .i64 m] W fun e w' => e = .returned (.bool U) ∧ W = w') := Lib.hid (fun W => by rw [hU]; exact up_run _ q r d m rfl W x2 x3 d1 m0 m1)
  rw [← hU] at hs
  clear hU
  obtain ⟨Q, hQ⟩ : ∃ Q, Q = scQ a n d m := ⟨_, rfl⟩
  rw [← hQ] at hs ⊢
  clear hQ
  have hQ0 : 0 ≤ Q := by have := ge_one q U; omega
  obtain ⟨F1, F2, F3⟩ := fin_fits (scN a n) Q hQ0
  have CS : Hid (∀ W : World, Calls Tryd.prog 34 #[.bool (decide (a < 0) != decide (n < 0)), .int .u64 (Q / 18446744073709551616), .int .u64 (Q % 18446744073709551616)] W fun e w' => (∃ V, e = .returned (.tuple #[.int .i64 V, .bool (decide (finE (scN a n) Q = 0))]) ∧ (finE (scN a n) Q = 0 → V = finV (scN a n) Q)) ∧ W = w') := Lib.hid (fun W => by
    refine (rsigned_run (scN a n) _ _ W (by omega) (by omega)).mono ?_
    rintro e w' ⟨⟨V, he, hV⟩, hw⟩
    exact ⟨⟨V, by rw [he, F1], fun h => by rw [F2 h]; exact hV (by rw [F1]; exact decide_eq_true h)⟩, hw⟩)
  have F3 := Lib.hid F3
  have HS := Lib.hid hs
  clear hs F1 F2
  obtain ⟨FV, hFV⟩ : ∃ FV, FV = finV (scN a n) Q := ⟨_, rfl⟩
  obtain ⟨FE, hFE⟩ : ∃ FE, FE = finE (scN a n) Q := ⟨_, rfl⟩
  rw [← hFV, ← hFE] at CS F3 ⊢
  clear hFV hFE
  go_enter Tryd.func15, Tryd.ntmps15
  go_upto_region 7 with ((first | (go_at_call 31; refine (rmag_run _ _ (by omega) (by omega)).mono ?_; rintro e w1 ⟨rfl, rfl⟩) | (go_at_call 30; refine (CM.out _).mono ?_; rintro e w1 ⟨rfl, rfl⟩) | (go_at_call 32; refine (CD.out _).mono ?_; rintro e w1 ⟨rfl, rfl⟩)))
  go_cut [53] (fun t wx => t = .bool U ∧ wx = w)
  case first =>
    by_cases hr : r = 0
    · have hu := Lib.hid (UZ hr)
      subst hr
      clear UZ
      go_wp2_with fail
      go_meet
      case rel => exact ⟨by rw [hu.out], rfl⟩
    · have hr' : 0 < r := by omega
      clear UZ
      go_wp2_with ((go_at_call 33; refine (CU.out _).mono ?_; rintro e w1 ⟨rfl, rfl⟩))
      go_meet
      case rel => exact ⟨rfl, rfl⟩
  case rest =>
    obtain ⟨rfl, rfl⟩ := hcut
    clear UZ CU
    go_upto_if 53 with fail
    go_cut [12, 13] (fun h l wx => h = .int .u64 (Q / 18446744073709551616) ∧ l = .int .u64 (Q % 18446744073709551616) ∧ wx = wc)
    case first =>
      cases U
      · have e : Q = q := by have := HS.out; rw [if_neg (by decide)] at this; omega
        go_wp2_with fail
        go_meet
        case rel => exact ⟨by rw [e], by rw [e], rfl⟩
      · have e : Q = q + 1 := by have := HS.out; rw [if_pos rfl] at this; omega
        by_cases hl : q % 18446744073709551616 = 18446744073709551615
        · have E1 := Lib.hid (show q / 18446744073709551616 + 1 = Q / 18446744073709551616 ∧ 0 = Q % 18446744073709551616 by omega)
          clear e
          go_upto_region 8 with fail
          rw [hl]
          go_wp2_with fail
          go_meet
          case rel => exact ⟨by rw [← E1.out.1], by rw [← E1.out.2]; rfl, rfl⟩
        · have E1 := Lib.hid (show q / 18446744073709551616 = Q / 18446744073709551616 ∧ q % 18446744073709551616 + 1 = Q % 18446744073709551616 by omega)
          have hz : (q % 18446744073709551616 + 1 == 0) = false := eq_f _ _ (by omega)
          clear e
          go_wp2_with fail
          go_meet
          case rel => exact ⟨by rw [← E1.out.1], by rw [← E1.out.2], rfl⟩
    case rest =>
      obtain ⟨rfl, rfl, rfl⟩ := hcut
      by_cases hf : FE = 0
      · subst hf
        rw [decide_eq_true rfl] at CS
        go_wp2_with ((go_at_call 34; refine (CS.out _).mono ?_; rintro e w1 ⟨⟨V, rfl, hV⟩, rfl⟩))
        go_ret2
        first | exact ⟨ie_is rfl rfl, rfl⟩ | exact ⟨ie_is (hV trivial) rfl, rfl⟩
      · obtain ⟨f1, f2⟩ := F3.out hf
        rw [decide_eq_false hf] at CS
        have f := Lib.hid (And.intro f1 f2)
        clear f1 f2
        go_wp2_with ((go_at_call 34; refine (CS.out _).mono ?_; rintro e w1 ⟨⟨V, rfl, hV⟩, rfl⟩))
        go_ret2
        exact ⟨ie_is f.out.2.symm f.out.1.symm, rfl⟩
end Go.Proofs.YtjjhdbodjcffaaaDoor
