/-
  What a number of two words is, divided by one word: math/bits.Div64.
-/
import Derived.Test.YtjjhdbodjcffaaaDoorRows
import Derived.Test.YtjjhdbodjcffaaaDoorShelf
import Derived.Test.YtjjhdbodjcffaaaDoorDiv
import Derived.WalkKit
import Derived.WalkSpells
import Derived.WalkLawsBesides
import Derived.Lib.Hide
import Derived.Deep.QuietTactic
import Derived.Deep.DeepCutAuto
import Derived.BigQuiet
import Derived.Deep.CutBlock
namespace Go.Proofs.YtjjhdbodjcffaaaDoor
open Go.RowKit

/-- Two words that are handed back. -/
def two (a b : Int) : Ending := .returned (.tuple #[.int .u64 a, .int .u64 b])
theorem two_is {a b c d : Int} (h : a = c) (h2 : b = d) : Ending.returned (.tuple #[.int .u64 a, .int .u64 b]) = two c d := by rw [h, h2]; rfl

set_option maxHeartbeats 1000000 in
theorem div64_fast (lo y : Int) (w : World) (hy : 1 ≤ y) (hy1 : y ≤ 18446744073709551615) (hl : 0 ≤ lo) (hl1 : lo ≤ 18446744073709551615) :
    Calls Tryd.prog 27 #[.int .u64 0, .int .u64 lo, .int .u64 y] w fun e w' => e = two (lo / y) (lo % y) ∧ ∃ n, w' = w.drewN n := by
  have hq0 : 0 ≤ lo / y := Int.ediv_nonneg (by omega) (by omega)
  have hq1 : lo / y ≤ lo := Int.ediv_le_self _ (by omega)
  have hr0 : 0 ≤ lo % y := Int.emod_nonneg _ (by omega)
  have hr1 : lo % y < y := Int.emod_lt_of_pos _ (by omega)
  have z0 : (y == 0) = false := by rw [beq_eq_false_iff_ne]; omega
  have z1 : decide (y ≤ 0) = false := by rw [decide_eq_false_iff_not]; omega
  go_enter Tryd.func27, Tryd.ntmps27
  go_wp2
  go_quiet (fail)
  go_wp2
  go_ret2
  exact ⟨rfl, _, rfl⟩

theorem lz_run (y S : Int) (hS : S = 64 - (Lib.bitLen y.toNat : Int)) (w : World) (h0 : 0 ≤ y) (h1 : y ≤ 18446744073709551615) :
    Calls Tryd.prog 42 #[.int .u64 y] w fun e w' => e = .returned (.int .i64 S) ∧ w = w' := by
  refine (Tryd.bits_LeadingZeros64 y w h0 h1).mono ?_
  rintro e w' ⟨he, rfl⟩
  exact ⟨by rw [he, hS], rfl⟩


set_option maxHeartbeats 1000000 in
theorem div64_walk (hi lo y S Y y1 y0 u L d1 d0 q1 v q0 r Q0 Q1 : Int) (w : World) (h0 : 1 ≤ hi) (hh : hi < y)
    (s0 : 0 ≤ S) (s1 : S ≤ 63) (H : Hid (∀ W, Calls Tryd.prog 42 #[.int .u64 y] W fun e w' => e = .returned (.int .i64 S) ∧ W = w'))
    (EY : Hid (IntKind.u64.wrap (y * 2 ^ S.toNat) = Y)) (E1 : Hid (Y / 4294967296 = y1)) (E0 : Hid (bits .and .u64 Y 4294967295 = y0))
    (EU : Hid (bits .or .u64 (IntKind.u64.wrap (hi * 2 ^ S.toNat)) (lo / 2 ^ (64 - S).toNat) = u))
    (EL : Hid (IntKind.u64.wrap (lo * 2 ^ S.toNat) = L)) (ED1 : Hid (L / 4294967296 = d1)) (ED0 : Hid (bits .and .u64 L 4294967295 = d0))
    (K1 : Dv.Kd u Y y1 y0 d1) (K2 : Dv.Kd v Y y1 y0 d0) (EQ0 : Hid (u / y1 = Q0)) (EQ1 : Hid (v / y1 = Q1)) (q1b : 0 ≤ q1 ∧ q1 ≤ 4294967295) (q0b : 0 ≤ q0 ∧ q0 ≤ 4294967295)
    (m0 : 0 ≤ Q0 * y1 ∧ Q0 * y1 ≤ u) (m1 : 0 ≤ Q1 * y1 ∧ Q1 * y1 ≤ v) (Q0b : 0 ≤ Q0 ∧ Q0 ≤ 4294967297) (Q1b : 0 ≤ Q1 ∧ Q1 ≤ 4294967297)
    (Hq1 : Hid (q1 = (u * 4294967296 + d1) / Y)) (Hq0 : Hid (q0 = (v * 4294967296 + d0) / Y))
    (EV : Hid (IntKind.u64.wrap (IntKind.u64.wrap (IntKind.u64.wrap (u * 4294967296) + d1) - IntKind.u64.wrap (q1 * Y)) = v))
    (ER : Hid (IntKind.u64.wrap (IntKind.u64.wrap (IntKind.u64.wrap (v * 4294967296) + d0) - IntKind.u64.wrap (q0 * Y)) = r))
    (S0 : Hid (Dv.Kn u Y y1 y0 d1 Q0 (u - Q0 * y1))) (S1 : Hid (Dv.Kn v Y y1 y0 d0 Q1 (v - Q1 * y1))) :
    Calls Tryd.prog 27 #[.int .u64 hi, .int .u64 lo, .int .u64 y] w fun e w' => e = two (q1 * 4294967296 + q0) (r / 2 ^ S.toNat) ∧ ∃ n, w' = w.drewN n := by
  have z0 : (y == 0) = false := by rw [beq_eq_false_iff_ne]; omega
  have z1 : decide (y ≤ hi) = false := by rw [decide_eq_false_iff_not]; omega
  have z2 : (hi == 0) = false := by rw [beq_eq_false_iff_ne]; omega
  go_enter Tryd.func27, Tryd.ntmps27
  go_upto_region 9 with (go_at_call 42; refine (H.out _).mono ?_; rintro e w1 ⟨rfl, rfl⟩)
  rw [EY.out]
  go_upto_region 10 with fail
  rw [E1.out]
  go_upto_region 11 with fail
  rw [E0.out]
  go_upto_region 12 with fail
  rw [EU.out]
  go_upto_region 13 with fail
  rw [EL.out]
  go_upto_region 14 with fail
  rw [ED1.out]
  go_upto_region 15 with fail
  rw [ED0.out]
  clear EY E1 E0 EU EL ED1 ED0 H
  have Y1 := Lib.hid (show 2147483648 ≤ y1 ∧ y1 ≤ 4294967295 from ⟨K1.y1l, by have := K1.y1h; omega⟩)
  have Y0 := Lib.hid (show 0 ≤ y0 ∧ y0 ≤ 4294967295 from ⟨K1.y0l, by have := K1.y0h; omega⟩)
  obtain ⟨b1, b2⟩ := Y1.out
  obtain ⟨b3, b4⟩ := Y0.out
  obtain ⟨b5, b6⟩ : 0 ≤ Y ∧ Y ≤ 18446744073709551615 := ⟨by have := K1.hy; omega, by have := K1.hy; omega⟩
  obtain ⟨b7, b8⟩ : 0 ≤ u ∧ u < Y := ⟨K1.u0, K1.uy⟩
  obtain ⟨b9, b10⟩ : 0 ≤ v ∧ v < Y := ⟨K2.u0, K2.uy⟩
  obtain ⟨b11, b12⟩ : 0 ≤ d1 ∧ d1 < 4294967296 := ⟨K1.d0, K1.d1⟩
  obtain ⟨b13, b14⟩ : 0 ≤ d0 ∧ d0 < 4294967296 := ⟨K2.d0, K2.d1⟩
  obtain ⟨b15, b16⟩ := m0
  obtain ⟨b17, b18⟩ := m1
  obtain ⟨b19, b20⟩ := q1b
  obtain ⟨b21, b22⟩ := q0b
  obtain ⟨b23, b24⟩ := Q0b
  obtain ⟨b25, b26⟩ := Q1b
  have z3 : (y1 == 0) = false := by rw [beq_eq_false_iff_ne]; omega
  go_upto_region 16 with fail
  rw [EQ0.out]
  go_upto_block 0 with fail
  go_cut [15, 16] (fun q _ wx => q = .int .u64 q1 ∧ wx = w)
  case first =>
    go_wp2_with fail
    go_loop [15, 16] (fun q r => ∃ a b : Int, Hid (Dv.Kn u Y y1 y0 d1 a b) ∧ q = .int .u64 a ∧ r = .int .u64 b) (fun q _ => (intOf q).toNat)
    case atStart => exact ⟨Q0, u - Q0 * y1, S0, rfl, rfl⟩
    case round =>
      obtain ⟨a, b, HK, rfl, rfl⟩ := hrel
      obtain ⟨f1, f2, f3, f4⟩ := Dv.Kn.fits K1 HK.out
      obtain ⟨f5, f6, f7, f8⟩ : 0 ≤ a ∧ a ≤ 4294967297 ∧ 0 ≤ b ∧ b < 4294967296 := ⟨HK.out.q0, HK.out.q1, HK.out.r0, HK.out.r1⟩
      by_cases c1 : 4294967296 ≤ a
      · have C := Lib.hid (show 4294967296 ≤ a ∨ 4294967296 * b + d1 < a * y0 from .inl c1)
        by_cases cb : 4294967296 ≤ b + y1
        · have HB := Lib.hid (Dv.Kn.break K1 HK.out C.out cb)
          go_wp2_with fail
          go_meet
          case rel => exact ⟨by rw [HB.out, ← Hq1.out], rfl⟩
        · have HS := Lib.hid (Dv.Kn.step K1 HK.out C.out (by omega))
          go_wp2_with fail
          go_round
          case rel => exact ⟨a - 1, b + y1, HS, rfl, rfl⟩
          case measure => simp [intOf]; omega
      · by_cases c2 : 4294967296 * b + d1 < a * y0
        · have C := Lib.hid (show 4294967296 ≤ a ∨ 4294967296 * b + d1 < a * y0 from .inr c2)
          obtain ⟨_, f9⟩ := Dv.Kn.more K1 HK.out C.out
          by_cases cb : 4294967296 ≤ b + y1
          · have HB := Lib.hid (Dv.Kn.break K1 HK.out C.out cb)
            go_wp2_with fail
            go_meet
            case rel => exact ⟨by rw [HB.out, ← Hq1.out], rfl⟩
          · have HS := Lib.hid (Dv.Kn.step K1 HK.out C.out (by omega))
            go_wp2_with fail
            go_round
            case rel => exact ⟨a - 1, b + y1, HS, rfl, rfl⟩
            case measure => simp [intOf]; omega
        · have HD := Lib.hid (Dv.Kn.done K1 HK.out c2)
          go_wp2_with fail
          go_meet
          case rel => exact ⟨by rw [HD.out, ← Hq1.out], rfl⟩
  case rest =>
    obtain ⟨rfl, rfl⟩ := hcut
    go_upto_region 22 with fail
    rw [EV.out]
    go_upto_region 23 with fail
    rw [EQ1.out]
    go_upto_block 2 with fail
    go_cut [16, 18] (fun _ q wx => q = .int .u64 q0 ∧ wx = wc)
    case first =>
      go_wp2_with fail
      go_loop [16, 18] (fun r q => ∃ a b : Int, Hid (Dv.Kn v Y y1 y0 d0 a b) ∧ q = .int .u64 a ∧ r = .int .u64 b) (fun _ q => (intOf q).toNat)
      case atStart => exact ⟨Q1, v - Q1 * y1, S1, rfl, rfl⟩
      case round =>
        obtain ⟨a, b, HK, rfl, rfl⟩ := hrel
        obtain ⟨f1, f2, f3, f4⟩ := Dv.Kn.fits K2 HK.out
        obtain ⟨f5, f6, f7, f8⟩ : 0 ≤ a ∧ a ≤ 4294967297 ∧ 0 ≤ b ∧ b < 4294967296 := ⟨HK.out.q0, HK.out.q1, HK.out.r0, HK.out.r1⟩
        by_cases c1 : 4294967296 ≤ a
        · have C := Lib.hid (show 4294967296 ≤ a ∨ 4294967296 * b + d0 < a * y0 from .inl c1)
          by_cases cb : 4294967296 ≤ b + y1
          · have HB := Lib.hid (Dv.Kn.break K2 HK.out C.out cb)
            go_wp2_with fail
            go_meet
            case rel => exact ⟨by rw [HB.out, ← Hq0.out], rfl⟩
          · have HS := Lib.hid (Dv.Kn.step K2 HK.out C.out (by omega))
            go_wp2_with fail
            go_round
            case rel => exact ⟨a - 1, b + y1, HS, rfl, rfl⟩
            case measure => simp [intOf]; omega
        · by_cases c2 : 4294967296 * b + d0 < a * y0
          · have C := Lib.hid (show 4294967296 ≤ a ∨ 4294967296 * b + d0 < a * y0 from .inr c2)
            obtain ⟨_, f9⟩ := Dv.Kn.more K2 HK.out C.out
            by_cases cb : 4294967296 ≤ b + y1
            · have HB := Lib.hid (Dv.Kn.break K2 HK.out C.out cb)
              go_wp2_with fail
              go_meet
              case rel => exact ⟨by rw [HB.out, ← Hq0.out], rfl⟩
            · have HS := Lib.hid (Dv.Kn.step K2 HK.out C.out (by omega))
              go_wp2_with fail
              go_round
              case rel => exact ⟨a - 1, b + y1, HS, rfl, rfl⟩
              case measure => simp [intOf]; omega
          · have HD := Lib.hid (Dv.Kn.done K2 HK.out c2)
            go_wp2_with fail
            go_meet
            case rel => exact ⟨by rw [HD.out, ← Hq0.out], rfl⟩
    case rest =>
      obtain ⟨rfl, rfl⟩ := hcut
      go_wp2_with fail
      rw [ER.out]
      go_ret2
      exact ⟨rfl, 0, rfl⟩
end Go.Proofs.YtjjhdbodjcffaaaDoor
