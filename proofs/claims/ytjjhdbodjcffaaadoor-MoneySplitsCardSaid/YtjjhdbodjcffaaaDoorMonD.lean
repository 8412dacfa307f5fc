/-
  The product and the quotient of the reference of money.
-/
import Derived.Test.YtjjhdbodjcffaaaDoorMonC
namespace Go.Proofs.YtjjhdbodjcffaaaDoor
open Go.RowKit
open IntWalk

set_option maxHeartbeats 1000000 in
theorem rmul_walk (a b ah al bh bl low mid other x : Int) (w : World) (ha : 0 ≤ a) (hb : 0 ≤ b) (ha1 : a ≤ 18446744073709551615) (hb1 : b ≤ 18446744073709551615)
    (E1 : Hid (a / 4294967296 = ah)) (E2 : Hid (a % 4294967296 = al)) (E3 : Hid (b / 4294967296 = bh)) (E4 : Hid (b % 4294967296 = bl))
    (E5 : Hid (al * bl = low)) (l0 : 0 ≤ al * bl ∧ al * bl ≤ 18446744073709551615) (E6 : Hid (ah * bl + low / 4294967296 = mid)) (E7 : Hid (al * bh + mid % 4294967296 = other))
    (c0 : 0 ≤ ah * bl ∧ ah * bl ≤ 18446744065119617025) (c1 : 0 ≤ al * bh ∧ al * bh ≤ 18446744065119617025) (c2 : 0 ≤ ah * bh ∧ ah * bh ≤ 18446744065119617025)
    (l1 : 0 ≤ low ∧ low ≤ 18446744073709551615) (m1 : 0 ≤ mid ∧ mid ≤ 18446744073709551615) (o1 : 0 ≤ other ∧ other ≤ 18446744073709551615)
    (x1 : ah * bh + mid / 4294967296 + other / 4294967296 ≤ 18446744073709551615) (EX : Hid (IntKind.u64.wrap (IntKind.u64.wrap (other * 4294967296) + low % 4294967296) = x)) :
    Calls Tryd.prog 30 #[.int .u64 a, .int .u64 b] w fun e w' => e = two (ah * bh + mid / 4294967296 + other / 4294967296) x ∧ w = w' := by
  obtain ⟨p1, p2⟩ := l0
  obtain ⟨p3, p4⟩ := c0
  obtain ⟨p5, p6⟩ := c1
  obtain ⟨p7, p8⟩ := c2
  obtain ⟨p9, p10⟩ := l1
  obtain ⟨p11, p12⟩ := m1
  obtain ⟨p13, p14⟩ := o1
  go_enter Tryd.func30, Tryd.ntmps30
  go_upto_region 2 with fail
  rw [E1.out, E2.out, E3.out, E4.out]
  go_upto_region 3 with fail
  rw [E5.out]
  go_upto_region 4 with fail
  rw [E6.out]
  go_upto_region 5 with fail
  rw [E7.out]
  go_wp2
  rw [EX.out]
  go_ret2
  exact ⟨rfl, rfl⟩

theorem u_is {k : IntKind} {a b : Int} (h : a = b) : Value.int k a = Value.int k b := by rw [h]
theorem u3_is {a b c a' b' c' : Int} (h : a = a') (h2 : b = b') (h3 : c = c') : Ending.returned (.tuple #[.int .u64 a, .int .u64 b, .int .u64 c]) = .returned (.tuple #[.int .u64 a', .int .u64 b', .int .u64 c']) := by rw [h, h2, h3]
theorem half_bd (x y : Int) (hx : 0 ≤ x ∧ x ≤ 4294967295) (hy : 0 ≤ y ∧ y ≤ 4294967295) : 0 ≤ x * y ∧ x * y ≤ 18446744065119617025 := by
  refine ⟨Int.mul_nonneg hx.1 hy.1, ?_⟩
  calc x * y ≤ 4294967295 * y := Int.mul_le_mul_of_nonneg_right hx.2 hy.1
    _ ≤ _ := by omega
theorem rmul_run (a b : Int) (w : World) (ha : 0 ≤ a) (hb : 0 ≤ b) (ha1 : a ≤ 18446744073709551615) (hb1 : b ≤ 18446744073709551615) :
    Calls Tryd.prog 30 #[.int .u64 a, .int .u64 b] w fun e w' => e = two (a * b / 18446744073709551616) (a * b % 18446744073709551616) ∧ w = w' := by
  obtain ⟨l1, m1, o1, x1, x2⟩ := Dv.limbs a b _ _ _ _ _ _ _ ha hb ha1 hb1 rfl rfl rfl rfl rfl rfl rfl
  have c := half_bd (a % 4294967296) (b % 4294967296) (by omega) (by omega)
  have c0 := half_bd (a / 4294967296) (b % 4294967296) (by omega) (by omega)
  have c1 := half_bd (a % 4294967296) (b / 4294967296) (by omega) (by omega)
  have c2 := half_bd (a / 4294967296) (b / 4294967296) (by omega) (by omega)
  have hp : a * b / 18446744073709551616 ≤ 18446744073709551615 := by
    have : a * b ≤ 18446744073709551615 * 18446744073709551615 := by
      calc a * b ≤ 18446744073709551615 * b := Int.mul_le_mul_of_nonneg_right ha1 hb
        _ ≤ _ := by omega
    omega
  refine (rmul_walk a b _ _ _ _ _ _ _ (a * b % 18446744073709551616) w ha hb ha1 hb1 (Lib.hid rfl) (Lib.hid rfl) (Lib.hid rfl) (Lib.hid rfl) (Lib.hid rfl) ⟨c.1, by omega⟩ (Lib.hid rfl) (Lib.hid rfl) c0 c1 c2 l1 m1 o1 (by rw [x1]; exact hp) (Lib.hid ?_)).mono ?_
  · simp only [IntKind.wrap_u64]; rw [← x2]; omega
  · rintro e w' ⟨rfl, hw⟩
    exact ⟨by rw [x1], hw⟩

/-- Where the division bit by bit stands. -/
structure Dinv (N d : Int) (i : Nat) (h l Q r : Int) : Prop where
  hi : i ≤ 128
  h0 : 0 ≤ h
  h1 : h ≤ 18446744073709551615
  l0 : 0 ≤ l
  l1 : l ≤ 18446744073709551615
  r0 : 0 ≤ r
  r1 : r < d
  q0 : 0 ≤ Q
  eq : (Q * d + r) * 340282366920938463463374607431768211456 + (h * 18446744073709551616 + l) = N * 2 ^ i
theorem Dinv.small {N d : Int} {i : Nat} {h l Q r : Int} (k : Dinv N d i h l Q r) (hd : 0 < d) (hN : 0 ≤ N) : Q ≤ N := by
  have h1 : (2 : Int) ^ i ≤ 340282366920938463463374607431768211456 := by
    have : (2 : Nat) ^ i ≤ 2 ^ 128 := Nat.pow_le_pow_right (by decide) k.hi
    have : ((2 ^ i : Nat) : Int) ≤ ((2 ^ 128 : Nat) : Int) := by exact_mod_cast this
    rw [Int.natCast_pow] at this
    exact this
  have h2 : N * 2 ^ i ≤ N * 340282366920938463463374607431768211456 := Int.mul_le_mul_of_nonneg_left h1 hN
  have h3 : Q ≤ Q * d := by
    calc Q = Q * 1 := (Int.mul_one _).symm
      _ ≤ Q * d := Int.mul_le_mul_of_nonneg_left (by omega) k.q0
  have := k.eq; have := k.h0; have := k.l0; have := k.r0
  omega
theorem Dinv.start (h l d : Int) (hd : 0 < d) (h0 : 0 ≤ h) (h1 : h ≤ 18446744073709551615) (l0 : 0 ≤ l) (l1 : l ≤ 18446744073709551615) : Dinv (h * 18446744073709551616 + l) d 0 h l 0 0 :=
  ⟨by omega, h0, h1, l0, l1, by omega, hd, by omega, by omega⟩
theorem Dinv.step {N d : Int} {i : Nat} {h l Q r : Int} (k : Dinv N d i h l Q r) (hd : 0 < d) (hd1 : d < 9223372036854775808) (hi : i < 128) :
    (d ≤ 2 * r + h / 9223372036854775808 → Dinv N d (i + 1) (2 * h % 18446744073709551616 + l / 9223372036854775808) (2 * l % 18446744073709551616) (2 * Q + 1) (2 * r + h / 9223372036854775808 - d)) ∧
    (2 * r + h / 9223372036854775808 < d → Dinv N d (i + 1) (2 * h % 18446744073709551616 + l / 9223372036854775808) (2 * l % 18446744073709551616) (2 * Q) (2 * r + h / 9223372036854775808)) := by
  obtain ⟨a1, a2, a3, a4, a5, a6, a7, a8, a9⟩ := k
  obtain ⟨b1, b2, b3, b4, b5⟩ := Dv.bit_step N Q d r h l (2 ^ i) hd hd1 a6 a7 a2 a3 a4 a5 a9
  have hp : (2 : Int) ^ (i + 1) = 2 * 2 ^ i := by rw [Int.pow_succ]; exact Int.mul_comm _ _
  constructor
  · intro hc
    obtain ⟨c1, c2⟩ := b4 hc
    exact ⟨by omega, b2.1, b2.2, b3.1, b3.2, c1.1, c1.2, by omega, by rw [hp]; exact c2⟩
  · intro hc
    exact ⟨by omega, b2.1, b2.2, b3.1, b3.2, b1.1, hc, by omega, by rw [hp]; exact b5 hc⟩
theorem Dinv.done {N d h l Q r : Int} (k : Dinv N d 128 h l Q r) (hd : 0 < d) : Q = N / d ∧ r = N % d := by
  obtain ⟨a1, a2, a3, a4, a5, a6, a7, a8, a9⟩ := k
  have e : (2 : Int) ^ 128 = 340282366920938463463374607431768211456 := by decide
  rw [e] at a9
  have hN : N = Q * d + r := by omega
  have := Int.ediv_emod_unique (a := N) (b := d) (r := r) (q := Q) hd
  obtain ⟨x, y⟩ := this.2 ⟨by rw [hN]; grind, a6, a7⟩
  exact ⟨x.symm, y.symm⟩

set_option maxHeartbeats 2000000 in
set_option maxRecDepth 10000 in
theorem rdiv_run (h l d : Int) (w : World) (hd : 0 < d) (hd1 : d < 9223372036854775808) (h0 : 0 ≤ h) (h1 : h ≤ 18446744073709551615) (l0 : 0 ≤ l) (l1 : l ≤ 18446744073709551615) :
    Calls Tryd.prog 32 #[.int .u64 h, .int .u64 l, .int .u64 d] w fun e w' => e = .returned (.tuple #[.int .u64 ((h * 18446744073709551616 + l) / d / 18446744073709551616), .int .u64 ((h * 18446744073709551616 + l) / d % 18446744073709551616), .int .u64 ((h * 18446744073709551616 + l) % d)]) ∧ w = w' := by
  obtain ⟨N, hN⟩ : ∃ N, N = h * 18446744073709551616 + l := ⟨_, rfl⟩
  have hN0 : 0 ≤ N ∧ N < 340282366920938463463374607431768211456 := by omega
  have K0 := Lib.hid (Dinv.start h l d hd h0 h1 l0 l1)
  rw [← hN] at K0 ⊢
  have HN := Lib.hid hN0
  clear hN hN0
  go_enter Tryd.func32, Tryd.ntmps32
  go_wp2
  go_loop [0, 1, 9, 10, 11, 12, 13] (fun th tl tqh tql tr ti _ => ∃ (i : Nat) (H L Q R : Int), Hid (Dinv N d i H L Q R) ∧ th = .int .u64 H ∧ tl = .int .u64 L ∧ tqh = .int .u64 (Q / 18446744073709551616) ∧ tql = .int .u64 (Q % 18446744073709551616) ∧ tr = .int .u64 R ∧ ti = .int .i64 i) (fun _ _ _ _ _ ti _ => (128 - intOf ti).toNat)
  case atStart => exact ⟨0, h, l, 0, 0, K0, rfl, rfl, rfl, rfl, rfl, rfl⟩
  case round =>
    obtain ⟨i, H, L, Q, R, K, rfl, rfl, rfl, rfl, rfl, rfl⟩ := hrel
    obtain ⟨a1, a2, a3, a4, a5, a6, a7, a8⟩ : i ≤ 128 ∧ 0 ≤ H ∧ H ≤ 18446744073709551615 ∧ 0 ≤ L ∧ L ≤ 18446744073709551615 ∧ 0 ≤ R ∧ R < d ∧ 0 ≤ Q := ⟨K.out.hi, K.out.h0, K.out.h1, K.out.l0, K.out.l1, K.out.r0, K.out.r1, K.out.q0⟩
    by_cases hi : i < 128
    · have zt : (R / 9223372036854775808 == 1) = false := by rw [beq_eq_false_iff_ne]; omega
      have ST := Lib.hid (Dinv.step K.out hd hd1 hi)
      by_cases c : d ≤ R * 2 + H / 9223372036854775808
      · have K2 := Lib.hid (ST.out.1 (by omega))
        have hQ := Lib.hid (Dinv.small K2.out hd HN.out.1)
        go_wp2
        go_round
        case rel => exact ⟨i + 1, _, _, _, _, K2, u_is (by simp only [IntKind.wrap_u64]; omega), u_is (by simp only [IntKind.wrap_u64]; omega), u_is (by simp only [IntKind.wrap_u64]; have := hQ.out; have := HN.out.2; omega), u_is (by simp only [IntKind.wrap_u64]; omega), u_is (by omega), rfl⟩
        case measure => simp [intOf]; omega
      · have K2 := Lib.hid (ST.out.2 (by omega))
        have hQ := Lib.hid (Dinv.small K2.out hd HN.out.1)
        go_wp2
        go_round
        case rel => exact ⟨i + 1, _, _, _, _, K2, u_is (by simp only [IntKind.wrap_u64]; omega), u_is (by simp only [IntKind.wrap_u64]; omega), u_is (by simp only [IntKind.wrap_u64]; have := hQ.out; have := HN.out.2; omega), u_is (by simp only [IntKind.wrap_u64]; omega), u_is (by omega), rfl⟩
        case measure => simp [intOf]; omega
    · obtain rfl : i = 128 := by omega
      have D := Lib.hid (Dinv.done K.out hd)
      go_wp2
      go_ret3
      exact ⟨u3_is (by rw [D.out.1]) (by rw [D.out.1]) (by rw [D.out.2]), rfl⟩
end Go.Proofs.YtjjhdbodjcffaaaDoor
