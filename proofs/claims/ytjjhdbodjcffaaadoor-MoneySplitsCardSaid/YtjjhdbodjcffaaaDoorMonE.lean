/-
  What Scale and Round return, in money and in its reference.
-/
import Derived.Test.YtjjhdbodjcffaaaDoorMonD
namespace Go.Proofs.YtjjhdbodjcffaaaDoor
open Go.RowKit
open IntWalk

theorem ab_bd (n : Int) (h0 : -9223372036854775808 ≤ n) (h1 : n ≤ 9223372036854775807) : 0 ≤ ab n ∧ ab n ≤ 9223372036854775808 := by
  unfold ab; split <;> omega
/-- The absolute value of what Scale returns. -/
def scQ (a n d m : Int) : Int := ab a * ab n / d + (if upI (ab a * ab n / d) (ab a * ab n % d) d m = true then 1 else 0)
def scN (a n : Int) : Bool := decide (a < 0) != decide (n < 0)
/-- What Scale returns. -/
def scV (a n d m : Int) : Int := if d < 1 then 0 else if m < 1 ∨ 4 < m then 0 else finV (scN a n) (scQ a n d m)
def scE (a n d m : Int) : Int := if d < 1 then 1 else if m < 1 ∨ 4 < m then 2 else finE (scN a n) (scQ a n d m)

theorem fin_over (neg : Bool) (Q : Int) (h : 9223372036854775809 ≤ Q) : finV neg Q = 0 ∧ finE neg Q = 20 := by
  unfold finV finE
  cases neg
  · simp only [Bool.false_eq_true, if_false]; rw [if_neg (by omega), if_neg (by omega)]; exact ⟨rfl, rfl⟩
  · simp only [if_true]; rw [if_neg (by omega), if_neg (by omega)]; exact ⟨rfl, rfl⟩
theorem big_quo (X d : Int) (hd : 0 < d) (h : d ≤ X / 18446744073709551616) : 18446744073709551616 ≤ X / d := by
  refine Int.le_ediv_of_mul_le hd ?_
  have := Int.ediv_mul_le X (show (18446744073709551616 : Int) ≠ 0 by decide)
  have h2 : 18446744073709551616 * d ≤ X / 18446744073709551616 * 18446744073709551616 := by rw [Int.mul_comm]; exact Int.mul_le_mul_of_nonneg_right h (by decide)
  exact Int.le_trans h2 this
theorem word_two (X : Int) : X / 18446744073709551616 * 18446744073709551616 + X % 18446744073709551616 = X := by omega
theorem signed_ret (neg : Bool) (Q : Int) (w : World) (h0 : 0 ≤ Q) (h1 : Q ≤ 18446744073709551615) :
    Calls Tryd.prog 29 #[.int .u64 Q, .bool neg] w fun e w' => e = .returned (.tuple #[.int .i64 (finV neg Q), .int .i64 (finE neg Q)]) ∧ w = w' := signed_run neg Q w h0 h1
theorem ge_one (x : Int) (b : Bool) : x ≤ x + (if b = true then 1 else 0) := by cases b <;> simp <;> omega
set_option maxHeartbeats 1000000 in
set_option maxRecDepth 1000 in
theorem scale_run (a n d m : Int) (w : World) (a0 : -9223372036854775808 ≤ a) (a1 : a ≤ 9223372036854775807) (n0 : -9223372036854775808 ≤ n) (n1 : n ≤ 9223372036854775807)
    (d1 : d ≤ 9223372036854775807) (hd : 1 ≤ d) (m0 : 1 ≤ m) (m1 : m ≤ 4) :
    Calls Tryd.prog 14 #[.int .i64 a, .int .i64 n, .int .i64 d, .int .i64 m] w fun e w' => e = ie (finV (scN a n) (scQ a n d m)) (finE (scN a n) (scQ a n d m)) ∧ ∃ k, w' = w.drewN k := by
  obtain ⟨A0, A1⟩ := ab_bd a a0 a1
  obtain ⟨B0, B1⟩ := ab_bd n n0 n1
  obtain ⟨X, hX⟩ : ∃ X, X = ab a * ab n := ⟨_, rfl⟩
  have X0 : 0 ≤ X := by rw [hX]; exact Int.mul_nonneg A0 B0
  have X1 : X ≤ 85070591730234615865843651857942052864 := by
    rw [hX]
    calc ab a * ab n ≤ 9223372036854775808 * ab n := Int.mul_le_mul_of_nonneg_right A1 B0
      _ ≤ _ := by omega
  have CM : Hid (∀ W : World, Calls Tryd.prog 25 #[.int .u64 (ab a), .int .u64 (ab n)] W fun e w' => e = .returned (.tuple #[.int .u64 (X / 18446744073709551616), .int .u64 (X % 18446744073709551616)]) ∧ W = w') := Lib.hid (fun W => by
    obtain ⟨x, hx⟩ := Int.eq_ofNat_of_zero_le A0
    obtain ⟨y, hy⟩ := Int.eq_ofNat_of_zero_le B0
    rw [hx, hy]
    rw [hx] at A1 hX
    rw [hy] at B1 hX
    refine (Tryd.bits_Mul64 x y (by omega) (by omega) W).mono ?_
    rintro e w' ⟨he, hw⟩
    exact ⟨he.trans (two_is (by rw [hX]; rfl) (by rw [hX]; rfl)), hw.symm⟩)
  have hs : scQ a n d m = X / d + (if upI (X / d) (X % d) d m = true then 1 else 0) := by unfold scQ; rw [← hX]
  clear hX
  have x1 := Int.emod_add_mul_ediv X d
  have x2 := Int.emod_nonneg X (show d ≠ 0 by omega)
  have x3 := Int.emod_lt_of_pos X (show 0 < d by omega)
  have x4 : 0 ≤ X / d := Int.ediv_nonneg X0 (by omega)
  by_cases hc : d ≤ X / 18446744073709551616
  · have hq : 18446744073709551616 ≤ X / d := big_quo X d (by omega) hc
    have hge : X / d ≤ scQ a n d m := by rw [hs]; exact ge_one _ _
    obtain ⟨hv, he⟩ := fin_over (scN a n) (scQ a n d m) (by omega)
    rw [hv, he]
    clear hv he hs x1 x2 x3 x4 hq hge
    go_enter Tryd.func14, Tryd.ntmps14
    go_wp2_with ((first | (go_at_call 26; refine (mag_run _ _ (by omega) (by omega)).mono ?_; rintro e w1 ⟨rfl, rfl⟩) | (go_at_call 25; refine (CM.out _).mono ?_; rintro e w1 ⟨rfl, rfl⟩)))
    go_ret2
    exact ⟨rfl, 0, rfl⟩
  obtain ⟨q, hq⟩ : ∃ q, q = X / d := ⟨_, rfl⟩
  obtain ⟨r, hr⟩ : ∃ r, r = X % d := ⟨_, rfl⟩
  have hq1 : q ≤ 18446744073709551615 := by
    have : X / d < 18446744073709551616 := Int.ediv_lt_of_lt_mul (by omega) (by omega)
    omega
  have CD : Hid (∀ W : World, Calls Tryd.prog 27 #[.int .u64 (X / 18446744073709551616), .int .u64 (X % 18446744073709551616), .int .u64 d] W fun e w' => e = .returned (.tuple #[.int .u64 q, .int .u64 r]) ∧ ∃ k, w' = W.drewN k) := Lib.hid (fun W => by
    refine (div64_any _ _ d W (by omega) (by omega) (by omega) (by omega) (by omega)).mono ?_
    rintro e w' ⟨he, hw⟩
    exact ⟨he.trans (two_is (by rw [hq, word_two]) (by rw [hr, word_two])).symm, hw⟩)
  rw [← hq] at x1 x4 hs
  rw [← hr] at x1 x2 x3 hs
  clear hq hr x1
  obtain ⟨U, hU⟩ : ∃ U, U = upI q r d m := ⟨_, rfl⟩
  have CU : Hid (∀ W : World, Calls Tryd.prog 28 #[.int .u64 q, .int .u64 r, .int .u64 d, .int .i64 m] W fun e w' => e = .returned (.bool U) ∧ W = w') := Lib.hid (fun W => by rw [hU]; exact away_run q r d m W x4 hq1 x2 x3 d1 m0 m1)
  rw [← hU] at hs
  clear hU
  rw [hs]
  cases U
  · rw [if_neg (by decide), Int.add_zero]
    clear hs
    go_enter Tryd.func14, Tryd.ntmps14
    go_wp2_with ((first | (go_at_call 26; refine (mag_run _ _ (by omega) (by omega)).mono ?_; rintro e w1 ⟨rfl, rfl⟩) | (go_at_call 25; refine (CM.out _).mono ?_; rintro e w1 ⟨rfl, rfl⟩) | (go_at_call 27; refine (CD.out _).mono ?_; rintro e w1 ⟨rfl, k, rfl⟩) | (go_at_call 28; refine (CU.out _).mono ?_; rintro e w1 ⟨rfl, rfl⟩) | (go_at_call 29; refine (signed_ret _ _ _ (by omega) (by omega)).mono ?_; rintro e w1 ⟨rfl, rfl⟩)))
    go_ret2
    exact ⟨rfl, _, rfl⟩
  · rw [if_pos rfl]
    clear hs
    by_cases hm : q = 18446744073709551615
    · obtain ⟨hv, he⟩ := fin_over (scN a n) (q + 1) (by omega)
      rw [hv, he]
      clear hv he
      subst hm
      go_enter Tryd.func14, Tryd.ntmps14
      go_wp2_with ((first | (go_at_call 26; refine (mag_run _ _ (by omega) (by omega)).mono ?_; rintro e w1 ⟨rfl, rfl⟩) | (go_at_call 25; refine (CM.out _).mono ?_; rintro e w1 ⟨rfl, rfl⟩) | (go_at_call 27; refine (CD.out _).mono ?_; rintro e w1 ⟨rfl, k, rfl⟩) | (go_at_call 28; refine (CU.out _).mono ?_; rintro e w1 ⟨rfl, rfl⟩) | (go_at_call 29; refine (signed_ret _ _ _ (by omega) (by omega)).mono ?_; rintro e w1 ⟨rfl, rfl⟩)))
      go_ret2
      exact ⟨rfl, _, rfl⟩
    · have hz : (q == 18446744073709551615) = false := eq_f _ _ hm
      go_enter Tryd.func14, Tryd.ntmps14
      go_wp2_with ((first | (go_at_call 26; refine (mag_run _ _ (by omega) (by omega)).mono ?_; rintro e w1 ⟨rfl, rfl⟩) | (go_at_call 25; refine (CM.out _).mono ?_; rintro e w1 ⟨rfl, rfl⟩) | (go_at_call 27; refine (CD.out _).mono ?_; rintro e w1 ⟨rfl, k, rfl⟩) | (go_at_call 28; refine (CU.out _).mono ?_; rintro e w1 ⟨rfl, rfl⟩) | (go_at_call 29; refine (signed_ret _ _ _ (by omega) (by omega)).mono ?_; rintro e w1 ⟨rfl, rfl⟩)))
      go_ret2
      exact ⟨rfl, _, rfl⟩
end Go.Proofs.YtjjhdbodjcffaaaDoor
