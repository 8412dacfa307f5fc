/-
  What the reference's Sum returns.
-/
import Derived.Test.YtjjhdbodjcffaaaDoorMonH
namespace Go.Proofs.YtjjhdbodjcffaaaDoor
open Go.RowKit
open IntWalk

set_option maxHeartbeats 2000000 in
set_option maxRecDepth 10000 in
theorem rsum_some (b o c : Nat) (l : List Int) (w : World) (hl : l.length ≤ 2000000) (hI : ∀ x ∈ l, I64 x) (hR : At1 w b o l) :
    Calls Tryd.prog 17 #[.slice (some ⟨b, o, none⟩) l.length c] w fun e w' => e = .returned (.tuple #[.int .i64 (sumV l), .int .i64 (sumE l)]) ∧ w = w' := by
  have HR := Lib.hid hR
  have HI := Lib.hid hI
  clear hR hI
  go_enter Tryd.func17, Tryd.ntmps17
  go_wp2
  go_loop [4, 5, 6] (fun th tl i => ∃ (k : Nat) (S : Int), k ≤ l.length ∧ i = .int .i64 k ∧ th = .int .u64 (S / 18446744073709551616 % 18446744073709551616) ∧ tl = .int .u64 (S % 18446744073709551616) ∧ -(9223372036854775808 * (k : Int)) ≤ S ∧ S ≤ 9223372036854775808 * (k : Int) ∧ Hid (S = pre l k)) (fun _ _ i => l.length - (intOf i).toNat)
  case atStart => exact ⟨0, 0, Nat.zero_le _, rfl, rfl, rfl, by omega, by omega, Lib.hid rfl⟩
  case round =>
    obtain ⟨k, S, hk, rfl, rfl, rfl, s0, s1, HP⟩ := hrel
    by_cases hlt : k < l.length
    · have hc := HR.out.2 k hlt
      have hs := pre_succ l k hlt
      obtain ⟨x0, x1⟩ := HI.out l[k] (List.getElem_mem hlt)
      obtain ⟨x, hx⟩ : ∃ x, x = l[k] := ⟨_, rfl⟩
      rw [← hx] at hc hs x0 x1
      clear hx
      have HS := Lib.hid hs
      clear hs
      obtain ⟨L, hL⟩ : ∃ L, L = (S + x) % 18446744073709551616 := ⟨_, rfl⟩
      by_cases xn : x < 0
      · obtain ⟨X, hX⟩ : ∃ X, X = x + 18446744073709551616 := ⟨_, rfl⟩
        have EX : Hid (IntKind.u64.wrap x = X) := Lib.hid (by simp only [IntKind.wrap_u64]; omega)
        have EL : Hid (IntKind.u64.wrap (S % 18446744073709551616 + IntKind.u64.wrap x) = L) := Lib.hid (by simp only [IntKind.wrap_u64]; omega)
        obtain ⟨X0, X1⟩ : 0 ≤ X ∧ X ≤ 18446744073709551615 := by omega
        obtain ⟨L0, L1⟩ : 0 ≤ L ∧ L ≤ 18446744073709551615 := by omega
        by_cases hc2 : L < X
        · have HL := Lib.hid (show L = (S + x) % 18446744073709551616 ∧ (S / 18446744073709551616 - 1 + 1) = (S + x) / 18446744073709551616 by omega)
          clear hL hX
          go_upto_region 8 with fail
          rw [EL.out]
          go_upto_if 34 with fail
          rw [EX.out]
          go_wp2
          go_round
          case rel => exact ⟨k + 1, S + x, by omega, rfl, u_is (by simp only [IntKind.wrap_u64]; have := HL.out; omega), u_is (by have := HL.out; omega), by omega, by omega, Lib.hid (by rw [HS.out, HP.out])⟩
          case measure => simp [intOf]; omega
        · have HL := Lib.hid (show L = (S + x) % 18446744073709551616 ∧ S / 18446744073709551616 - 1 = (S + x) / 18446744073709551616 by omega)
          clear hL hX
          go_upto_region 8 with fail
          rw [EL.out]
          go_upto_if 34 with fail
          rw [EX.out]
          go_wp2
          go_round
          case rel => exact ⟨k + 1, S + x, by omega, rfl, u_is (by simp only [IntKind.wrap_u64]; have := HL.out; omega), u_is (by have := HL.out; omega), by omega, by omega, Lib.hid (by rw [HS.out, HP.out])⟩
          case measure => simp [intOf]; omega
      · have EL : Hid (IntKind.u64.wrap (S % 18446744073709551616 + x) = L) := Lib.hid (by simp only [IntKind.wrap_u64]; omega)
        obtain ⟨L0, L1⟩ : 0 ≤ L ∧ L ≤ 18446744073709551615 := by omega
        by_cases hc2 : L < x
        · have HL := Lib.hid (show L = (S + x) % 18446744073709551616 ∧ S / 18446744073709551616 + 1 = (S + x) / 18446744073709551616 by omega)
          clear hL
          go_upto_region 8 with fail
          rw [EL.out]
          go_wp2
          go_round
          case rel => exact ⟨k + 1, S + x, by omega, rfl, u_is (by simp only [IntKind.wrap_u64]; have := HL.out; omega), u_is (by have := HL.out; omega), by omega, by omega, Lib.hid (by rw [HS.out, HP.out])⟩
          case measure => simp [intOf]; omega
        · have HL := Lib.hid (show L = (S + x) % 18446744073709551616 ∧ S / 18446744073709551616 = (S + x) / 18446744073709551616 by omega)
          clear hL
          go_upto_region 8 with fail
          rw [EL.out]
          go_wp2
          go_round
          case rel => exact ⟨k + 1, S + x, by omega, rfl, u_is (by have := HL.out; omega), u_is (by have := HL.out; omega), by omega, by omega, Lib.hid (by rw [HS.out, HP.out])⟩
          case measure => simp [intOf]; omega
    · obtain rfl : k = l.length := by omega
      rw [pre_all] at HP
      have hP := HP.out
      clear HP
      obtain ⟨H, hH⟩ : ∃ H, H = S / 18446744073709551616 % 18446744073709551616 := ⟨_, rfl⟩
      obtain ⟨N, hN⟩ : ∃ N, N = wrap64 (S % 18446744073709551616) := ⟨_, rfl⟩
      have EN := Lib.hid hN
      have EH := Lib.hid hH
      unfold wrap64 at hN
      obtain ⟨n1, n2⟩ : -9223372036854775808 ≤ N ∧ N ≤ 9223372036854775807 := by omega
      obtain ⟨H1, H2⟩ : 0 ≤ H ∧ H ≤ 18446744073709551615 := by omega
      rw [← EH.out]
      by_cases hn : 0 ≤ N
      · by_cases hh : H = 0
        · have v1 : sumV l = N := by unfold sumV; rw [if_pos (by omega)]; omega
          have v2 : sumE l = 0 := by unfold sumE; rw [if_pos (by omega)]
          have V := Lib.hid (And.intro v1 v2)
          clear v1 v2
          clear hN hH hP
          subst hh
          go_upto_region 11 with fail
          rw [← EN.out]
          go_wp2
          go_ret2
          exact ⟨ie_is V.out.1.symm V.out.2.symm, rfl⟩
        · have v1 : sumV l = 0 := by unfold sumV; rw [if_neg (by omega)]
          have v2 : sumE l = 20 := by unfold sumE; rw [if_neg (by omega)]
          have V := Lib.hid (And.intro v1 v2)
          clear v1 v2
          clear hN hH hP
          have hz := eq_f _ _ hh
          go_upto_region 11 with fail
          rw [← EN.out]
          go_wp2
          go_ret2
          exact ⟨ie_is V.out.1.symm V.out.2.symm, rfl⟩
      · by_cases hh : H = 18446744073709551615
        · have v1 : sumV l = N := by unfold sumV; rw [if_pos (by omega)]; omega
          have v2 : sumE l = 0 := by unfold sumE; rw [if_pos (by omega)]
          have V := Lib.hid (And.intro v1 v2)
          clear v1 v2
          clear hN hH hP
          subst hh
          go_upto_region 11 with fail
          rw [← EN.out]
          go_wp2
          go_ret2
          exact ⟨ie_is V.out.1.symm V.out.2.symm, rfl⟩
        · have v1 : sumV l = 0 := by unfold sumV; rw [if_neg (by omega)]
          have v2 : sumE l = 20 := by unfold sumE; rw [if_neg (by omega)]
          have V := Lib.hid (And.intro v1 v2)
          clear v1 v2
          clear hN hH hP
          have hz := eq_f _ _ hh
          go_upto_region 11 with fail
          rw [← EN.out]
          go_wp2
          go_ret2
          exact ⟨ie_is V.out.1.symm V.out.2.symm, rfl⟩
end Go.Proofs.YtjjhdbodjcffaaaDoor
