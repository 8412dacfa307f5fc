/-
  math/bits.Div64: the quotient and the remainder of a number of two words.
-/
import Derived.Test.YtjjhdbodjcffaaaDoorMonA
import Derived.Lib.BitFns
import Derived.Shelf.Bits.Mul64
namespace Go.Proofs.YtjjhdbodjcffaaaDoor
open Go.RowKit

theorem bitLen_log (x k : Nat) (h : 2 ^ k ≤ x) (h2 : x < 2 ^ (k + 1)) (h3 : x < 2 ^ 64) : Lib.bitLen x = k + 1 := by
  rw [Lib.bitLen_shift k x h h3]
  have : x / 2 ^ k = 1 := by
    have hp : 0 < 2 ^ k := Nat.two_pow_pos k
    refine Nat.div_eq_of_lt_le (by omega) ?_
    rw [Nat.pow_succ] at h2; omega
  rw [this]; rfl
theorem mask_int (L : Int) (h0 : 0 ≤ L) (h1 : L ≤ 18446744073709551615) : bits .and .u64 L 4294967295 = L % 4294967296 := by
  obtain ⟨n, rfl⟩ := Int.eq_ofNat_of_zero_le h0
  rw [Mul64.maskN n (by omega)]; omega
theorem or_int (a b : Int) (s : Nat) (ha : 0 ≤ a) (hb : 0 ≤ b) (hb1 : b < 2 ^ s) (h : a * 2 ^ s ≤ 18446744073709551615) (hs : b ≤ 18446744073709551615) : bits .or .u64 (a * 2 ^ s) b = a * 2 ^ s + b := by
  obtain ⟨n, rfl⟩ := Int.eq_ofNat_of_zero_le ha
  obtain ⟨m, rfl⟩ := Int.eq_ofNat_of_zero_le hb
  have e : (n : Int) * 2 ^ s = ((n * 2 ^ s : Nat) : Int) := by rw [Int.natCast_mul, Int.natCast_pow]; rfl
  rw [e] at h ⊢
  have hm : m < 2 ^ s := by
    have : ((m : Nat) : Int) < ((2 ^ s : Nat) : Int) := by rw [Int.natCast_pow]; exact hb1
    omega
  rw [bits_or_u64_nat _ _ (by omega) (by omega)]
  rw [← Nat.shiftLeft_eq, ← Nat.shiftLeft_add_eq_or_of_lt hm]
  omega

set_option maxHeartbeats 1000000 in
theorem div64_any (hi lo y : Int) (w : World) (h0 : 0 ≤ hi) (hh : hi < y) (hy1 : y ≤ 18446744073709551615) (hl : 0 ≤ lo) (hl1 : lo ≤ 18446744073709551615) :
    Calls Tryd.prog 27 #[.int .u64 hi, .int .u64 lo, .int .u64 y] w fun e w' => e = two ((hi * 18446744073709551616 + lo) / y) ((hi * 18446744073709551616 + lo) % y) ∧ ∃ n, w' = w.drewN n := by
  by_cases hz : hi = 0
  · subst hz
    rw [show (0 * 18446744073709551616 + lo : Int) = lo by omega]
    exact div64_fast lo y w (by omega) hy1 hl hl1
  obtain ⟨k, hk⟩ : ∃ k, k = y.toNat.log2 := ⟨_, rfl⟩
  have hk1 : 2 ^ k ≤ y.toNat := by rw [hk]; exact Nat.log2_self_le (by omega)
  have hk2 : y.toNat < 2 ^ (k + 1) := by rw [hk]; exact Nat.lt_log2_self
  have hk3 : k ≤ 63 := by
    by_cases c : k ≤ 63
    · exact c
    · have : 2 ^ 64 ≤ 2 ^ k := Nat.pow_le_pow_right (by decide) (by omega)
      omega
  have hbl : Lib.bitLen y.toNat = k + 1 := bitLen_log _ k hk1 hk2 (by omega)
  have hS : (63 - (k : Int)) = 64 - (Lib.bitLen y.toNat : Int) := by rw [hbl]; omega
  have hSn : (63 - (k : Int)).toNat = 63 - k := by omega
  have hSm : (64 - (63 - (k : Int))).toNat = k + 1 := by omega
  obtain ⟨T, hT⟩ : ∃ T : Int, T = ((2 ^ k : Nat) : Int) := ⟨_, rfl⟩
  obtain ⟨P, hP⟩ : ∃ P : Int, P = 2 ^ (63 - k) := ⟨_, rfl⟩
  have hT1 : (2 : Int) ^ (k + 1) = 2 * T := by rw [hT, Int.pow_succ, Int.natCast_pow]; exact Int.mul_comm _ _
  have hTP : T * P = 9223372036854775808 := by
    rw [hT, hP, Int.natCast_pow, show (((2 : Nat)) : Int) = 2 from rfl, ← Int.pow_add, show k + (63 - k) = 63 by omega]; rfl
  have hP0 : 0 < P := by rw [hP]; exact Int.pow_pos (by decide)
  have hT0 : 0 < T := by have : 0 < 2 ^ k := Nat.two_pow_pos k; omega
  clear hk
  have hy2 : T ≤ y := by omega
  have hy3 : y < 2 * T := by rw [Nat.pow_succ] at hk2; omega
  have hY1 : 9223372036854775808 ≤ y * P := by rw [← hTP]; exact Int.mul_le_mul_of_nonneg_right hy2 (by omega)
  have hY2 : y * P < 18446744073709551616 := by
    have : y * P < 2 * T * P := Int.mul_lt_mul_of_pos_right hy3 hP0
    rw [Int.mul_assoc, hTP] at this; omega
  have hhP : (hi + 1) * P ≤ y * P := Int.mul_le_mul_of_nonneg_right (by omega) (by omega)
  have hhP1 : (hi + 1) * P = hi * P + P := by rw [Int.add_mul]; omega
  have hhP0 : 0 ≤ hi * P := Int.mul_nonneg h0 (by omega)
  have hlo0 : 0 ≤ lo / (2 * T) := Int.ediv_nonneg hl (by omega)
  have hlo1 : lo / (2 * T) < P := by
    refine Int.ediv_lt_of_lt_mul (by omega) ?_
    have : P * (2 * T) = 18446744073709551616 := by rw [Int.mul_comm, Int.mul_assoc, hTP]; rfl
    omega
  have hlP : lo * P / 18446744073709551616 = lo / (2 * T) := by
    rw [show (18446744073709551616 : Int) = 2 * T * P by rw [Int.mul_assoc, hTP]; rfl]
    exact Int.mul_ediv_mul_of_pos_left _ _ hP0
  obtain ⟨Y, hY⟩ : ∃ Y, Y = y * P := ⟨_, rfl⟩
  obtain ⟨u, hu⟩ : ∃ u, u = hi * P + lo / (2 * T) := ⟨_, rfl⟩
  obtain ⟨L, hL⟩ : ∃ L, L = lo * P % 18446744073709551616 := ⟨_, rfl⟩
  have hN : (hi * 18446744073709551616 + lo) * P = u * 18446744073709551616 + (L / 4294967296 * 4294967296 + L % 4294967296) := by
    rw [hu, hL, ← hlP, Int.add_mul, show hi * 18446744073709551616 * P = hi * P * 18446744073709551616 by grind]
    omega
  rw [← hY] at hY1 hY2 hhP
  have hL0 : 0 ≤ L ∧ L ≤ 18446744073709551615 := by omega
  have K1 : Dv.Kd u Y (Y / 4294967296) (Y % 4294967296) (L / 4294967296) := ⟨by omega, by omega, by omega, by omega, by omega, by omega, by omega, by omega, by omega⟩
  obtain ⟨v, hv⟩ : ∃ v, v = (u * 4294967296 + L / 4294967296) % Y := ⟨_, rfl⟩
  have hv0 : 0 ≤ v := by rw [hv]; exact Int.emod_nonneg _ (by omega)
  have hv1 : v < Y := by rw [hv]; exact Int.emod_lt_of_pos _ (by omega)
  have K2 : Dv.Kd v Y (Y / 4294967296) (Y % 4294967296) (L % 4294967296) := ⟨by omega, by omega, by omega, by omega, by omega, by omega, by omega, by omega, by omega⟩
  have t1 := K1.true_lt
  have t2 := K2.true_lt
  have n1 := Dv.Kn.start K1
  have n2 := Dv.Kn.start K2
  have e1 := Int.emod_add_mul_ediv (u * 4294967296 + L / 4294967296) Y
  have e2 := Int.emod_add_mul_ediv (v * 4294967296 + L % 4294967296) Y
  rw [Int.mul_comm Y] at e1 e2
  have r0 : 0 ≤ (v * 4294967296 + L % 4294967296) % Y := Int.emod_nonneg _ (by omega)
  have r1 : (v * 4294967296 + L % 4294967296) % Y < Y := Int.emod_lt_of_pos _ (by omega)
  obtain ⟨g1, g2⟩ := Dv.two_digits u (L / 4294967296) (L % 4294967296) Y (by omega)
  obtain ⟨g3, g4⟩ := Dv.scaled (hi * 18446744073709551616 + lo) y P hP0
  rw [hN, ← hY] at g3 g4
  have w1 : IntKind.u64.wrap (hi * 2 ^ (63 - k)) = hi * 2 ^ (63 - k) := by rw [IntKind.wrap_u64, ← hP]; omega
  refine (div64_walk hi lo y (63 - (k : Int)) Y (Y / 4294967296) (Y % 4294967296) u L (L / 4294967296) (L % 4294967296)
    ((u * 4294967296 + L / 4294967296) / Y) v ((v * 4294967296 + L % 4294967296) / Y) ((v * 4294967296 + L % 4294967296) % Y) (u / (Y / 4294967296)) (v / (Y / 4294967296)) w (by omega) hh (by omega) (by omega)
    (Lib.hid (fun W => lz_run y _ hS W (by omega) hy1)) (Lib.hid ?_) (Lib.hid rfl) (Lib.hid (mask_int Y (by omega) (by omega))) (Lib.hid ?_) (Lib.hid ?_) (Lib.hid rfl) (Lib.hid (mask_int L hL0.1 hL0.2))
    K1 K2 (Lib.hid rfl) (Lib.hid rfl) (by omega) (by omega) ?_ ?_ ?_ ?_ (Lib.hid rfl) (Lib.hid rfl) (Lib.hid ?_) (Lib.hid ?_) (Lib.hid n1) (Lib.hid n2)).mono ?_
  · rw [hSn, ← hP, IntKind.wrap_u64, ← hY]; omega
  · rw [hSn, hSm, hT1, w1, or_int hi _ (63 - k) h0 hlo0 (by rw [← hP]; exact hlo1) (by rw [← hP]; omega) (by omega), ← hP, hu]
  · rw [hSn, ← hP, IntKind.wrap_u64, hL]
  · have := n1.hu; have := n1.r0; have := Int.mul_nonneg n1.q0 (show 0 ≤ Y / 4294967296 by omega); omega
  · have := n2.hu; have := n2.r0; have := Int.mul_nonneg n2.q0 (show 0 ≤ Y / 4294967296 by omega); omega
  · exact ⟨n1.q0, n1.q1⟩
  · exact ⟨n2.q0, n2.q1⟩
  · simp only [IntKind.wrap_u64]; rw [← hv] at e1; omega
  · simp only [IntKind.wrap_u64]; omega
  · rintro e w' ⟨he, hw⟩
    refine ⟨?_, hw⟩
    rw [he, hSn, ← hP, ← g3, ← g4, g1, g2, ← hv]
end Go.Proofs.YtjjhdbodjcffaaaDoor
