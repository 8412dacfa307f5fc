/-
  The reference's integers.
-/
import Derived.Test.YtlnnkdnnhmeldaaFiT
namespace Go.Proofs.Ytlnnkdnnhmeldaa
open Go.RowKit
open IntWalk
set_option linter.unusedVariables false

set_option maxHeartbeats 2000000 in
set_option maxRecDepth 10000 in
theorem rputInt_run (n : Int) (w : World) (h1 : -9223372036854775808 ≤ n) (h2 : n < 9223372036854775808) :
    Calls Try.prog 15 #[.int .i64 n] w fun e w' => ∃ v', e = .returned v' ∧ OwnB w' w.heap.size v' (encI n) ∧ Below w.heap.size w w' := by
  have HZ := Lib.hid (zig_lt n h1 h2)
  have HT := Lib.hid (encI_ten n h1 h2)
  have H1 := Lib.hid h1
  obtain ⟨U, hU⟩ : ∃ U, U = zig n := ⟨_, rfl⟩
  have HE : Hid (encI n = encN U) := Lib.hid (by rw [hU]; rfl)
  rw [HE.out] at HT ⊢
  rw [← hU] at HZ
  have HU := Lib.hid hU
  clear hU
  by_cases hn : n < 0
  · have HUN : Hid ((U : Int) = -2 * n - 1) := Lib.hid (by rw [HU.out]; unfold zig; rw [if_pos hn]; omega)
    go_enter Try.func15, Try.ntmps15
    go_wp2_with fail
    go_loopw [3, 4] (fun s b wr => ∃ (u : Nat) (ys : List UInt8), s = .int .u64 (u : Nat) ∧ Hid (ys ++ encN u = encN U) ∧ u ≤ U ∧ OwnB wr w.heap.size b ys ∧ Below w.heap.size w wr) (fun s _ _ => (intOf s).toNat)
    case atStart => exact ⟨U, [], u_is (by rw [HUN.out]; omega), Lib.hid rfl, Nat.le_refl _, OwnB.none_ w _ (Nat.le_refl _), Below.refl _ _⟩
    case round =>
      obtain ⟨u, ys, rfl, HY, hu, ho, hb⟩ := hrel
      have HO := Lib.hid ho
      have HB := Lib.hid hb
      have HUU := Lib.hid hu
      have hub : u < 18446744073709551616 := by have := HZ.out; omega
      have hyl : ys.length ≤ 1000010 := by
        have := congrArg List.length HY.out
        have := HT.out
        rw [List.length_append] at *
        omega
      clear ho hb hu
      by_cases hlt : u < 128
      · have HS : Hid (encN u = [UInt8.ofNat u]) := Lib.hid (encN_lo u hlt)
        have HV : Hid (Value.int .u8 (u : Int) = bv (UInt8.ofNat u)) := Lib.hid (by rw [bv_ofNat, Nat.mod_eq_of_lt (by omega)])
        go_wp2_with (at_builtin; refine wp_app rfl _ _ rfl w.heap.size _ _ ys [UInt8.ofNat u] rfl rfl (HO.out.more _) (lit_one _ _ _ HV.out) (by omega) (by simp) ?_; intro v2 w2 o2 g2 _; have b2 := ((Below.refl w.heap.size wr).alloc HO.out.2 _).trans (grown_below (HO.out.more _) g2); rw [← HS.out, HY.out] at o2; have O2 := Lib.hid o2; have B2 := Lib.hid (HB.out.trans b2); clear o2 b2 g2)
        go_ret
        exact ⟨_, rfl, O2.out, B2.out⟩
      · have HS : Hid (encN u = [UInt8.ofNat (128 + u % 128)] ++ encN (u / 128)) := Lib.hid (encN_step u hlt)
        have HV : Hid (Value.int .u8 ((u : Int) % 128 + 128) = bv (UInt8.ofNat (128 + u % 128))) := Lib.hid (by rw [bv_ofNat, Nat.mod_eq_of_lt (show 128 + u % 128 < 256 by omega)]; exact u_is (by omega))
        go_wp2_with (at_builtin; refine wp_app rfl _ _ rfl w.heap.size _ _ ys [UInt8.ofNat (128 + u % 128)] rfl rfl (HO.out.more _) (lit_one _ _ _ HV.out) (by omega) (by simp) ?_; intro v2 w2 o2 g2 _; have b2 := ((Below.refl w.heap.size wr).alloc HO.out.2 _).trans (grown_below (HO.out.more _) g2); have O2 := Lib.hid o2; have B2 := Lib.hid (HB.out.trans b2); clear o2 b2 g2)
        refine ⟨⟨u / 128, ys ++ [UInt8.ofNat (128 + u % 128)], u_is (by omega), Lib.hid (by rw [← HY.out, HS.out, List.append_assoc]), by have := HUU.out; omega, O2.out, B2.out⟩, by simp only [intOf]; omega⟩
  · have HUN : Hid ((U : Int) = 2 * n) := Lib.hid (by rw [HU.out]; unfold zig; rw [if_neg hn]; omega)
    go_enter Try.func15, Try.ntmps15
    go_wp2_with fail
    go_loopw [3, 4] (fun s b wr => ∃ (u : Nat) (ys : List UInt8), s = .int .u64 (u : Nat) ∧ Hid (ys ++ encN u = encN U) ∧ u ≤ U ∧ OwnB wr w.heap.size b ys ∧ Below w.heap.size w wr) (fun s _ _ => (intOf s).toNat)
    case atStart => exact ⟨U, [], u_is (by rw [HUN.out]; omega), Lib.hid rfl, Nat.le_refl _, OwnB.none_ w _ (Nat.le_refl _), Below.refl _ _⟩
    case round =>
      obtain ⟨u, ys, rfl, HY, hu, ho, hb⟩ := hrel
      have HO := Lib.hid ho
      have HB := Lib.hid hb
      have HUU := Lib.hid hu
      have hub : u < 18446744073709551616 := by have := HZ.out; omega
      have hyl : ys.length ≤ 1000010 := by
        have := congrArg List.length HY.out
        have := HT.out
        rw [List.length_append] at *
        omega
      clear ho hb hu
      by_cases hlt : u < 128
      · have HS : Hid (encN u = [UInt8.ofNat u]) := Lib.hid (encN_lo u hlt)
        have HV : Hid (Value.int .u8 (u : Int) = bv (UInt8.ofNat u)) := Lib.hid (by rw [bv_ofNat, Nat.mod_eq_of_lt (by omega)])
        go_wp2_with (at_builtin; refine wp_app rfl _ _ rfl w.heap.size _ _ ys [UInt8.ofNat u] rfl rfl (HO.out.more _) (lit_one _ _ _ HV.out) (by omega) (by simp) ?_; intro v2 w2 o2 g2 _; have b2 := ((Below.refl w.heap.size wr).alloc HO.out.2 _).trans (grown_below (HO.out.more _) g2); rw [← HS.out, HY.out] at o2; have O2 := Lib.hid o2; have B2 := Lib.hid (HB.out.trans b2); clear o2 b2 g2)
        go_ret
        exact ⟨_, rfl, O2.out, B2.out⟩
      · have HS : Hid (encN u = [UInt8.ofNat (128 + u % 128)] ++ encN (u / 128)) := Lib.hid (encN_step u hlt)
        have HV : Hid (Value.int .u8 ((u : Int) % 128 + 128) = bv (UInt8.ofNat (128 + u % 128))) := Lib.hid (by rw [bv_ofNat, Nat.mod_eq_of_lt (show 128 + u % 128 < 256 by omega)]; exact u_is (by omega))
        go_wp2_with (at_builtin; refine wp_app rfl _ _ rfl w.heap.size _ _ ys [UInt8.ofNat (128 + u % 128)] rfl rfl (HO.out.more _) (lit_one _ _ _ HV.out) (by omega) (by simp) ?_; intro v2 w2 o2 g2 _; have b2 := ((Below.refl w.heap.size wr).alloc HO.out.2 _).trans (grown_below (HO.out.more _) g2); have O2 := Lib.hid o2; have B2 := Lib.hid (HB.out.trans b2); clear o2 b2 g2)
        refine ⟨⟨u / 128, ys ++ [UInt8.ofNat (128 + u % 128)], u_is (by omega), Lib.hid (by rw [← HY.out, HS.out, List.append_assoc]), by have := HUU.out; omega, O2.out, B2.out⟩, by simp only [intOf]; omega⟩

theorem drop_valN (t : List UInt8) (j : Nat) (h : j < t.length) : valN (t.drop j) = (t[j]).toNat % 128 + 128 * valN (t.drop (j + 1)) := by
  rw [List.drop_eq_getElem_cons h, valN]
theorem drop_le (t : List UInt8) : ∀ j, valN (t.drop j) ≤ valN t := by
  induction t with
  | nil => intro j; simp
  | cons c t ih =>
    intro j
    cases j with
    | zero => exact Nat.le_refl _
    | succ j => rw [List.drop_succ_cons, valN]; have := ih j; omega
/-- What the reference reads at a place. -/
def rintR (l : List UInt8) (a : Nat) : Int × Int × Int :=
  match readI (l.drop a) with
  | .error k => (0, 0, k)
  | .ok (n, r) => (n, (l.length : Int) - r.length, 0)
def RIntG (w : World) (l : List UInt8) (a : Nat) (e : Ending) (w' : World) : Prop := e = .returned (.tuple #[.int .i64 (rintR l a).1, .int .i64 (rintR l a).2.1, .int .i64 (rintR l a).2.2]) ∧ w' = w
end Go.Proofs.Ytlnnkdnnhmeldaa
