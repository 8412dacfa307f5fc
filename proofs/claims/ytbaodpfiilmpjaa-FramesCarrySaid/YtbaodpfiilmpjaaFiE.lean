/-
  What the reader of integers returns.
-/
import Derived.Test.YtbaodpfiilmpjaaFiD
namespace Go.Proofs.Ytbaodpfiilmpjaa
open Go.RowKit
open IntWalk
set_option linter.unusedVariables false

theorem or_step (A x j : Nat) (hA : A < 128 ^ j) (hb : A + x * 128 ^ j < 18446744073709551616) : bits .or .u64 (A : Int) (IntKind.u64.wrap ((x : Int) * 2 ^ (7 * j))) = ((A + x * 128 ^ j : Nat) : Int) := by
  have e : (128 : Nat) ^ j = 2 ^ (7 * j) := by rw [show (128 : Nat) = 2 ^ 7 from rfl, ← Nat.pow_mul]
  have e2 : ((x : Int) * 2 ^ (7 * j)) = ((x * 2 ^ (7 * j) : Nat) : Int) := by push_cast; rfl
  rw [e] at hA hb ⊢
  have ew : IntKind.u64.wrap ((x * 2 ^ (7 * j) : Nat) : Int) = ((x * 2 ^ (7 * j) : Nat) : Int) := by rw [IntKind.wrap_u64]; omega
  rw [e2, ew, u64_or_nat _ _ (by omega) (by omega)]
  have h := Nat.shiftLeft_add_eq_or_of_lt (i := 7 * j) (b := A) hA x
  rw [Nat.shiftLeft_eq] at h
  rw [Nat.or_comm, ← h, Nat.add_comm]
theorem take_len (l : List UInt8) (k : Nat) (h : k ≤ l.length) : (l.take k).length = k := by rw [List.length_take]; omega


theorem valN_mono (l : List UInt8) (i j : Nat) (h : i ≤ j) : valN (l.take i) ≤ valN (l.take j) := by
  have e : l.take j = l.take i ++ (l.take j).drop i := by
    have := List.take_append_drop i (l.take j)
    rw [List.take_take, Nat.min_eq_left h] at this
    exact this.symm
  rw [e, valN_app]
  omega
theorem zag_odd (U : Nat) (h : U % 2 = 1) : zag U = -((U : Int) / 2) - 1 := by unfold zag; rw [if_pos h]; rfl
theorem zag_even (U : Nat) (h : ¬ U % 2 = 1) : zag U = (U : Int) / 2 := by unfold zag; rw [if_neg h]; rfl

set_option maxHeartbeats 8000000 in
set_option maxRecDepth 10000 in
theorem int_core (g B b o c : Nat) (l r : List UInt8) (x K U : Nat) (w : World) (C : Hid (Calls Try.prog 31 #[.pointer (some ⟨g, 0, none⟩)] w fun e w' => e = .returned (.int .i64 (K : Int)) ∧ w' = w))
    (hc : w.cell? ⟨g, 0, none⟩ = some (.slice (some ⟨b, o, none⟩) l.length c)) (hz : w.frozen? ⟨g, 0, none⟩ = false) (HA : Hid (AtB w b o l)) (HB : Hid (b < B)) (hl : l.length ≤ 200000) (hlt : K < l.length) (hcl : l.length ≤ c) (hm : Hid (c ≤ maxLen)) (h9 : K ≤ 9)
    (hcell : w.cell? ⟨b, o + K, none⟩ = some (.int .u8 (x : Int))) (HX : Hid ((x = 0 ∧ K = 0) ∨ x = 1 ∨ (1 < x ∧ K ≠ 9))) (hxl : x < 128) (HU : Hid (U = valN (l.take (K + 1)))) (HV : Hid (U < 18446744073709551616))
    (HCUT : Hid (∀ P, (l.length - (K + 1) ≠ 0 → P = some ⟨b, o + (K + 1), none⟩) → RdB w (.slice P (l.length - (K + 1)) (c - (K + 1))) r)) :
    Calls Try.prog 24 #[.pointer (some ⟨g, 0, none⟩)] w fun e w' => e = .returned (.int .i64 (zag U)) ∧ ∃ v', w' = w.setCell ⟨g, 0, none⟩ v' ∧ RdB w v' r ∧ blk v' B := by
  have e7 : ((K : Int) + 1).toNat = K + 1 := by omega
  have hKc : K + 1 ≤ c := by omega
  rcases HX.out with ⟨rfl, hK0⟩ | rfl | ⟨hx1, hx9⟩
  · skip
    have k0 : decide ((0 : Int) < (K : Int)) = false := by simp; omega
    have hK1 : K < 1 := by omega
    clear hK0
    go_enter Try.func24, Try.ntmps24
    go_wp2_with fail
    refine C.out.mono ?_
    rintro e w2 ⟨rfl, hw⟩
    rw [hw]
    clear hw C w2
    go_wp2
    clear hcell
    go_loop [5, 50] (fun s i => ∃ j : Nat, j ≤ K + 1 ∧ i = .int .i64 j ∧ s = .int .u64 (valN (l.take j) : Nat)) (fun _ i => K + 1 - (intOf i).toNat)
    case atStart => exact ⟨0, Nat.zero_le _, rfl, rfl⟩
    case round =>
      obtain ⟨j, hj, rfl, rfl⟩ := hrel
      by_cases hjk : j < K + 1
      · have hjl : j < l.length := by omega
        have hcj := HA.out.2 j hjl
        unfold bv at hcj
        have HS := Lib.hid (valN_snoc l j hjl)
        obtain ⟨y, hy⟩ : ∃ y, y = (l[j]).toNat := ⟨_, rfl⟩
        rw [← hy] at hcj HS
        have hy8 : y < 256 := by rw [hy]; exact (l[j]).toNat_lt
        have hA := valN_lt (l.take j)
        rw [take_len l j (by omega)] at hA
        have hbd : valN (l.take j) + y % 128 * 128 ^ j < 18446744073709551616 := by
          rw [← HS.out]
          have := valN_mono l (j + 1) (K + 1) (by omega)
          have := HU.out
          have := HV.out
          omega
        have HO := Lib.hid (or_step (valN (l.take j)) (y % 128) j hA hbd)
        obtain ⟨V, hV⟩ : ∃ V, V = valN (l.take j) := ⟨_, rfl⟩
        rw [← hV] at HO HS ⊢
        have hj7 : (7 * (j : Int)).toNat = 7 * j := by omega
        clear hA hbd hy hV
        go_wp2
        refine ⟨⟨j + 1, by omega, by go_num, ?_⟩, by simp [intOf]; omega⟩
        rw [HS.out, ← HO.out]
        rfl
      · obtain rfl : j = K + 1 := by omega
        rw [← HU.out]
        have hUb := HV.out
        by_cases hcc : K + 1 = c
        · have HC2 : Hid (RdB w (.slice (some ⟨b, o, none⟩) 0 0) r) := by
            have h := HCUT.out (some ⟨b, o, none⟩) (by omega)
            rw [show l.length - (K + 1) = 0 by omega, show c - (K + 1) = 0 by omega] at h
            exact h
          subst hcc
          by_cases hpar : U % 2 = 1
          · have HZ := Lib.hid (zag_odd U hpar)
            go_wp2
            go_ret
            exact ⟨by rw [HZ.out]; rfl, _, rfl, HC2.out, fun b' o' n' c' e hn => by injection e with e1; injection e1 with e1; injection e1 with e1; rw [← e1]; exact HB.out⟩
          · have HZ := Lib.hid (zag_even U hpar)
            go_wp2
            go_ret
            exact ⟨by rw [HZ.out]; rfl, _, rfl, HC2.out, fun b' o' n' c' e hn => by injection e with e1; injection e1 with e1; injection e1 with e1; rw [← e1]; exact HB.out⟩
        · have HC2 := Lib.hid (HCUT.out (some ⟨b, o + (K + 1), none⟩) (fun _ => rfl))
          by_cases hpar : U % 2 = 1
          · have HZ := Lib.hid (zag_odd U hpar)
            go_wp2
            go_ret
            exact ⟨by rw [HZ.out]; rfl, _, rfl, HC2.out, fun b' o' n' c' e hn => by injection e with e1; injection e1 with e1; injection e1 with e1; rw [← e1]; exact HB.out⟩
          · have HZ := Lib.hid (zag_even U hpar)
            go_wp2
            go_ret
            exact ⟨by rw [HZ.out]; rfl, _, rfl, HC2.out, fun b' o' n' c' e hn => by injection e with e1; injection e1 with e1; injection e1 with e1; rw [← e1]; exact HB.out⟩
  · skip
    go_enter Try.func24, Try.ntmps24
    go_wp2_with fail
    refine C.out.mono ?_
    rintro e w2 ⟨rfl, hw⟩
    rw [hw]
    clear hw C w2
    go_wp2
    clear hcell
    go_loop [5, 50] (fun s i => ∃ j : Nat, j ≤ K + 1 ∧ i = .int .i64 j ∧ s = .int .u64 (valN (l.take j) : Nat)) (fun _ i => K + 1 - (intOf i).toNat)
    case atStart => exact ⟨0, Nat.zero_le _, rfl, rfl⟩
    case round =>
      obtain ⟨j, hj, rfl, rfl⟩ := hrel
      by_cases hjk : j < K + 1
      · have hjl : j < l.length := by omega
        have hcj := HA.out.2 j hjl
        unfold bv at hcj
        have HS := Lib.hid (valN_snoc l j hjl)
        obtain ⟨y, hy⟩ : ∃ y, y = (l[j]).toNat := ⟨_, rfl⟩
        rw [← hy] at hcj HS
        have hy8 : y < 256 := by rw [hy]; exact (l[j]).toNat_lt
        have hA := valN_lt (l.take j)
        rw [take_len l j (by omega)] at hA
        have hbd : valN (l.take j) + y % 128 * 128 ^ j < 18446744073709551616 := by
          rw [← HS.out]
          have := valN_mono l (j + 1) (K + 1) (by omega)
          have := HU.out
          have := HV.out
          omega
        have HO := Lib.hid (or_step (valN (l.take j)) (y % 128) j hA hbd)
        obtain ⟨V, hV⟩ : ∃ V, V = valN (l.take j) := ⟨_, rfl⟩
        rw [← hV] at HO HS ⊢
        have hj7 : (7 * (j : Int)).toNat = 7 * j := by omega
        clear hA hbd hy hV
        go_wp2
        refine ⟨⟨j + 1, by omega, by go_num, ?_⟩, by simp [intOf]; omega⟩
        rw [HS.out, ← HO.out]
        rfl
      · obtain rfl : j = K + 1 := by omega
        rw [← HU.out]
        have hUb := HV.out
        by_cases hcc : K + 1 = c
        · have HC2 : Hid (RdB w (.slice (some ⟨b, o, none⟩) 0 0) r) := by
            have h := HCUT.out (some ⟨b, o, none⟩) (by omega)
            rw [show l.length - (K + 1) = 0 by omega, show c - (K + 1) = 0 by omega] at h
            exact h
          subst hcc
          by_cases hpar : U % 2 = 1
          · have HZ := Lib.hid (zag_odd U hpar)
            go_wp2
            go_ret
            exact ⟨by rw [HZ.out]; rfl, _, rfl, HC2.out, fun b' o' n' c' e hn => by injection e with e1; injection e1 with e1; injection e1 with e1; rw [← e1]; exact HB.out⟩
          · have HZ := Lib.hid (zag_even U hpar)
            go_wp2
            go_ret
            exact ⟨by rw [HZ.out]; rfl, _, rfl, HC2.out, fun b' o' n' c' e hn => by injection e with e1; injection e1 with e1; injection e1 with e1; rw [← e1]; exact HB.out⟩
        · have HC2 := Lib.hid (HCUT.out (some ⟨b, o + (K + 1), none⟩) (fun _ => rfl))
          by_cases hpar : U % 2 = 1
          · have HZ := Lib.hid (zag_odd U hpar)
            go_wp2
            go_ret
            exact ⟨by rw [HZ.out]; rfl, _, rfl, HC2.out, fun b' o' n' c' e hn => by injection e with e1; injection e1 with e1; injection e1 with e1; rw [← e1]; exact HB.out⟩
          · have HZ := Lib.hid (zag_even U hpar)
            go_wp2
            go_ret
            exact ⟨by rw [HZ.out]; rfl, _, rfl, HC2.out, fun b' o' n' c' e hn => by injection e with e1; injection e1 with e1; injection e1 with e1; rw [← e1]; exact HB.out⟩
  · skip
    go_enter Try.func24, Try.ntmps24
    go_wp2_with fail
    refine C.out.mono ?_
    rintro e w2 ⟨rfl, hw⟩
    rw [hw]
    clear hw C w2
    go_wp2
    clear hcell
    go_loop [5, 50] (fun s i => ∃ j : Nat, j ≤ K + 1 ∧ i = .int .i64 j ∧ s = .int .u64 (valN (l.take j) : Nat)) (fun _ i => K + 1 - (intOf i).toNat)
    case atStart => exact ⟨0, Nat.zero_le _, rfl, rfl⟩
    case round =>
      obtain ⟨j, hj, rfl, rfl⟩ := hrel
      by_cases hjk : j < K + 1
      · have hjl : j < l.length := by omega
        have hcj := HA.out.2 j hjl
        unfold bv at hcj
        have HS := Lib.hid (valN_snoc l j hjl)
        obtain ⟨y, hy⟩ : ∃ y, y = (l[j]).toNat := ⟨_, rfl⟩
        rw [← hy] at hcj HS
        have hy8 : y < 256 := by rw [hy]; exact (l[j]).toNat_lt
        have hA := valN_lt (l.take j)
        rw [take_len l j (by omega)] at hA
        have hbd : valN (l.take j) + y % 128 * 128 ^ j < 18446744073709551616 := by
          rw [← HS.out]
          have := valN_mono l (j + 1) (K + 1) (by omega)
          have := HU.out
          have := HV.out
          omega
        have HO := Lib.hid (or_step (valN (l.take j)) (y % 128) j hA hbd)
        obtain ⟨V, hV⟩ : ∃ V, V = valN (l.take j) := ⟨_, rfl⟩
        rw [← hV] at HO HS ⊢
        have hj7 : (7 * (j : Int)).toNat = 7 * j := by omega
        clear hA hbd hy hV
        go_wp2
        refine ⟨⟨j + 1, by omega, by go_num, ?_⟩, by simp [intOf]; omega⟩
        rw [HS.out, ← HO.out]
        rfl
      · obtain rfl : j = K + 1 := by omega
        rw [← HU.out]
        have hUb := HV.out
        by_cases hcc : K + 1 = c
        · have HC2 : Hid (RdB w (.slice (some ⟨b, o, none⟩) 0 0) r) := by
            have h := HCUT.out (some ⟨b, o, none⟩) (by omega)
            rw [show l.length - (K + 1) = 0 by omega, show c - (K + 1) = 0 by omega] at h
            exact h
          subst hcc
          by_cases hpar : U % 2 = 1
          · have HZ := Lib.hid (zag_odd U hpar)
            go_wp2
            go_ret
            exact ⟨by rw [HZ.out]; rfl, _, rfl, HC2.out, fun b' o' n' c' e hn => by injection e with e1; injection e1 with e1; injection e1 with e1; rw [← e1]; exact HB.out⟩
          · have HZ := Lib.hid (zag_even U hpar)
            go_wp2
            go_ret
            exact ⟨by rw [HZ.out]; rfl, _, rfl, HC2.out, fun b' o' n' c' e hn => by injection e with e1; injection e1 with e1; injection e1 with e1; rw [← e1]; exact HB.out⟩
        · have HC2 := Lib.hid (HCUT.out (some ⟨b, o + (K + 1), none⟩) (fun _ => rfl))
          by_cases hpar : U % 2 = 1
          · have HZ := Lib.hid (zag_odd U hpar)
            go_wp2
            go_ret
            exact ⟨by rw [HZ.out]; rfl, _, rfl, HC2.out, fun b' o' n' c' e hn => by injection e with e1; injection e1 with e1; injection e1 with e1; rw [← e1]; exact HB.out⟩
          · have HZ := Lib.hid (zag_even U hpar)
            go_wp2
            go_ret
            exact ⟨by rw [HZ.out]; rfl, _, rfl, HC2.out, fun b' o' n' c' e hn => by injection e with e1; injection e1 with e1; injection e1 with e1; rw [← e1]; exact HB.out⟩
set_option maxHeartbeats 4000000 in
set_option maxRecDepth 10000 in
theorem int_ok (g B : Nat) (v : Value) (l r : List UInt8) (n : Int) (w : World) (hr : readI l = .ok (n, r)) (hc : w.cell? ⟨g, 0, none⟩ = some v) (hz : w.frozen? ⟨g, 0, none⟩ = false) (h : RdB w v l) (hb : blk v B) (hl : l.length ≤ 200000) :
    Calls Try.prog 24 #[.pointer (some ⟨g, 0, none⟩)] w fun e w' => e = .returned (.int .i64 n) ∧ ∃ v', w' = w.setCell ⟨g, 0, none⟩ v' ∧ RdB w v' r ∧ blk v' B := by
  have C := Lib.hid (cont_run g v l w hc h hl)
  obtain ⟨p, c, rfl, hcl, hm, hat⟩ := h
  have hle := cnt_le l
  unfold readI at hr
  split at hr
  · cases hr
  rename_i h1
  split at hr
  · cases hr
  rename_i h2
  split at hr
  · cases hr
  rename_i h3
  have hlt : cnt l < l.length := by omega
  obtain ⟨b, o, rfl, ha⟩ := hat (fun e => by rw [e] at hlt; exact absurd hlt (Nat.not_lt_zero _))
  have HA := Lib.hid ha
  have HB := Lib.hid (hb b o _ c rfl (by omega))
  injection hr with hr
  injection hr with e1 e2
  have hg : (l.getD (cnt l) 0).toNat = (l[cnt l]).toNat := by rw [List.getD_eq_getElem?_getD, List.getElem?_eq_getElem hlt]; rfl
  have hvb := val_bound l hlt (by omega) (fun e => by
    rcases Nat.lt_or_ge 1 (l.getD (cnt l) 0).toNat with h4 | h4
    · exact absurd (Or.inr ⟨e, h4⟩) h3
    · exact h4)
  rw [hg] at h3
  have hcell := ha.2 _ hlt
  unfold bv at hcell
  rw [show min 10 (cnt l) = cnt l by omega] at C
  have hxl := cnt_end l hlt
  obtain ⟨x, hx⟩ : ∃ x, x = (l[cnt l]).toNat := ⟨_, rfl⟩
  rw [← hx] at hcell h3 hxl
  obtain ⟨K, hK⟩ : ∃ K, K = cnt l := ⟨_, rfl⟩
  rw [← hK] at C hcell h3 hlt h1 h2 e1 e2 hvb
  obtain ⟨U, hU⟩ : ∃ U, U = valN (l.take (K + 1)) := ⟨_, rfl⟩
  rw [← hU] at e1 hvb
  have h9 : K ≤ 9 := by omega
  have hKc : K + 1 ≤ c := by omega
  have CUT : ∀ P, (l.length - (K + 1) ≠ 0 → P = some ⟨b, o + (K + 1), none⟩) → RdB w (.slice P (l.length - (K + 1)) (c - (K + 1))) r := fun P hP => by
    rw [← e2]
    refine ⟨P, c - (K + 1), by rw [List.length_drop], by rw [List.length_drop]; omega, by omega, fun hne => ⟨b, o + (K + 1), hP (fun e => hne (List.eq_nil_of_length_eq_zero (by rw [List.length_drop]; exact e))), HA.out.1, fun i hi => ?_⟩⟩
    rw [List.length_drop] at hi
    rw [List.getElem_drop, show o + (K + 1) + i = o + (K + 1 + i) by omega]
    exact HA.out.2 _ (by omega)
  rw [← e1]
  have HX : (x = 0 ∧ K = 0) ∨ x = 1 ∨ (1 < x ∧ K ≠ 9) := by
    by_cases hx0 : x = 0
    · exact Or.inl ⟨hx0, by
        rcases Nat.eq_zero_or_pos K with h | h
        · exact h
        · exact absurd (Or.inl ⟨hx0, h⟩) h3⟩
    · by_cases hx1 : x = 1
      · exact Or.inr (Or.inl hx1)
      · exact Or.inr (Or.inr ⟨by omega, fun e => h3 (Or.inr ⟨e, by omega⟩)⟩)
  exact int_core g B b o c l r x K U w C hc hz (Lib.hid ha) HB hl hlt hcl (Lib.hid hm) h9 hcell (Lib.hid HX) hxl (Lib.hid hU) (Lib.hid hvb) (Lib.hid CUT)
end Go.Proofs.Ytbaodpfiilmpjaa
