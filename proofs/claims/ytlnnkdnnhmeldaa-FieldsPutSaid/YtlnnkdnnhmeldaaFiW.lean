/-
  What the reference reads at a place.
-/
import Derived.Test.YtlnnkdnnhmeldaaFiV
namespace Go.Proofs.Ytlnnkdnnhmeldaa
open Go.RowKit
open IntWalk
set_option linter.unusedVariables false

/-- The walk to the end of the bytes that another one follows has been made: what is then returned. -/
theorem rintR_form (l : List UInt8) (a : Nat) : rintR l a = (match readI (l.drop a) with | .error k => (0, 0, k) | .ok (n, r) => (n, (l.length : Int) - r.length, 0)) := rfl
theorem get_drop (l : List UInt8) (a j : Nat) (h : j < (l.drop a).length) : ∃ h2 : a + j < l.length, (l.drop a)[j] = l[a + j] := by
  rw [List.length_drop] at h
  exact ⟨by omega, by rw [List.getElem_drop]⟩
/-- The cases of a reading. -/
theorem readI_cases (t : List UInt8) :
    (10 ≤ cnt t ∧ readI t = .error 5) ∨ (cnt t < 10 ∧ cnt t = t.length ∧ readI t = .error 6) ∨
    (∃ h : cnt t < t.length, cnt t ≤ 9 ∧ (((t[cnt t]).toNat = 0 ∧ 0 < cnt t) ∨ (cnt t = 9 ∧ 1 < (t[cnt t]).toNat)) ∧ readI t = .error 5) ∨
    (∃ h : cnt t < t.length, cnt t ≤ 9 ∧ ¬ ((t[cnt t]).toNat = 0 ∧ 0 < cnt t) ∧ ¬ (cnt t = 9 ∧ 1 < (t[cnt t]).toNat) ∧ readI t = .ok (zag (valN (t.take (cnt t + 1))), t.drop (cnt t + 1)) ∧ valN (t.take (cnt t + 1)) < 18446744073709551616) := by
  have hle := cnt_le t
  by_cases h1 : 10 ≤ cnt t
  · exact Or.inl ⟨h1, by unfold readI; rw [if_pos h1]⟩
  · by_cases h2 : cnt t = t.length
    · exact Or.inr (Or.inl ⟨by omega, h2, by unfold readI; rw [if_neg h1, if_pos h2]⟩)
    · have hlt : cnt t < t.length := by omega
      have hg : (t.getD (cnt t) 0).toNat = (t[cnt t]).toNat := by rw [List.getD_eq_getElem?_getD, List.getElem?_eq_getElem hlt]; rfl
      by_cases h3 : ((t[cnt t]).toNat = 0 ∧ 0 < cnt t) ∨ (cnt t = 9 ∧ 1 < (t[cnt t]).toNat)
      · exact Or.inr (Or.inr (Or.inl ⟨hlt, by omega, h3, by unfold readI; rw [if_neg h1, if_neg h2, hg, if_pos h3]⟩))
      · refine Or.inr (Or.inr (Or.inr ⟨hlt, by omega, fun z => h3 (Or.inl z), fun z => h3 (Or.inr z), by unfold readI; rw [if_neg h1, if_neg h2, hg, if_neg h3], ?_⟩))
        exact val_bound t hlt (by omega) (fun e => by
          rw [hg]
          rcases Nat.lt_or_ge 1 (t[cnt t]).toNat with h4 | h4
          · exact absurd (Or.inr ⟨e, h4⟩) h3
          · exact h4)

set_option maxHeartbeats 8000000 in
set_option maxRecDepth 10000 in
theorem rint_run (v : Value) (l : List UInt8) (a : Nat) (w : World) (h : RdB w v l) (ha : a ≤ l.length) (hl : l.length ≤ 200000) :
    Calls Try.prog 37 #[v, .int .i64 a] w (RIntG w l a) := by
  obtain ⟨p, c, rfl, hcl, hm, hat⟩ := h
  have HAT := Lib.hid hat
  obtain ⟨t, ht⟩ : ∃ t, t = l.drop a := ⟨_, rfl⟩
  have htl : t.length = l.length - a := by rw [ht, List.length_drop]
  have HTL := Lib.hid htl
  have HC := Lib.hid (cnt_le t)
  have HGET := Lib.hid (fun (j : Nat) (hj : j < t.length) (b o : Nat) (hb : p = some ⟨b, o, none⟩) => show w.cell? ⟨b, o + (a + j), none⟩ = some (bv (t[j]'hj)) by
    obtain ⟨b', o', e, hx⟩ := hat (fun e => by rw [ht, e] at hj; simp at hj)
    rw [hb] at e
    injection e with e
    injection e with e1 e2
    subst e1 e2 ht
    obtain ⟨h2, e3⟩ := get_drop l a j hj
    rw [e3]
    exact hx.2 _ h2)
  have HP := Lib.hid (show t ≠ [] → ∃ b o, p = some ⟨b, o, none⟩ from fun hne => by
    obtain ⟨b, o, e, _⟩ := hat (fun e => hne (by rw [ht, e]; simp))
    exact ⟨b, o, e⟩)
  have HR := Lib.hid (show rintR l a = (match readI t with | .error k => (0, 0, k) | .ok (n, r) => (n, (l.length : Int) - r.length, 0)) by rw [ht]; rfl)
  have HCS := Lib.hid (readI_cases t)
  unfold RIntG
  obtain ⟨⟨R1, R2, R3⟩, hRR⟩ : ∃ R, R = rintR l a := ⟨_, rfl⟩
  rw [← hRR] at HR ⊢
  clear hat ht hRR htl
  go_enter Try.func37, Try.ntmps37
  go_wp2
  go_loop [7] (fun i => ∃ j : Nat, j ≤ cnt t ∧ i = .int .i64 j) (fun i => l.length - (intOf i).toNat)
  case atStart => exact ⟨0, Nat.zero_le _, rfl⟩
  case round =>
    obtain ⟨j, hj, rfl⟩ := hrel
    have htl := HTL.out
    have hc := HC.out
    by_cases hjl : j < t.length
    · obtain ⟨b, o, rfl⟩ := HP.out (fun e => by rw [e] at hjl; exact absurd hjl (Nat.not_lt_zero _))
      have hcell := HGET.out j hjl b o rfl
      unfold bv at hcell
      have e2 : ((a : Int) + (j : Int)).toNat = a + j := by omega
      by_cases hin : j < cnt t
      · have hb := cnt_get t j hin hjl
        obtain ⟨x, hx⟩ : ∃ x, x = (t[j]).toNat := ⟨_, rfl⟩
        rw [← hx] at hcell hb
        clear hx
        go_wp2
        go_round
        case rel => exact ⟨j + 1, by omega, by go_num⟩
        case measure => simp [intOf]; omega
      · obtain hje : j = cnt t := by omega
        have hb : (t[j]).toNat < 128 := by subst hje; exact cnt_end t hjl
        rcases HCS.out with ⟨q1, q2⟩ | ⟨q1, q2, q3⟩ | ⟨hlt, q1, q2, q3⟩ | ⟨hlt, q1, q2, q3, q4, q5⟩
        · rw [q2] at HR
          simp only [Prod.mk.injEq] at HR
          obtain ⟨rfl, rfl, rfl⟩ := HR.out
          obtain ⟨x, hx⟩ : ∃ x, x = (t[j]).toNat := ⟨_, rfl⟩
          rw [← hx] at hcell hb
          have hj10 : 10 ≤ j := by omega
          clear hx hje hin q1 q2 HR
          go_wp2
          go_ret3
          exact ⟨rfl, rfl⟩
        · omega
        · rw [q3] at HR
          simp only [Prod.mk.injEq] at HR
          obtain ⟨rfl, rfl, rfl⟩ := HR.out
          have e9 : (t[cnt t]).toNat = (t[j]).toNat := by simp only [hje]
          rw [e9] at q2
          rw [← hje] at q1 q2
          obtain ⟨x, hx⟩ : ∃ x, x = (t[j]).toNat := ⟨_, rfl⟩
          rw [← hx] at hcell hb q2
          clear hx hje hin q3 HR e9 hj hlt hc
          rcases q2 with ⟨rfl, q2⟩ | ⟨rfl, q2⟩
          · go_wp2
            go_ret3
            exact ⟨rfl, rfl⟩
          · have hx0 : ((x : Int) == 0) = false := by rw [beq_eq_false_iff_ne]; omega
            go_wp2
            go_ret3
            exact ⟨rfl, rfl⟩
        · rw [q4] at HR
          have e9 : (t[cnt t]).toNat = (t[j]).toNat := by simp only [hje]
          rw [e9] at q2 q3
          rw [← hje] at q1 q2 q3 q5 HR
          obtain ⟨U, hU⟩ : ∃ U, U = valN (t.take (j + 1)) := ⟨_, rfl⟩
          rw [← hU] at q5 HR
          have hlen : ((l.length : Int) - (t.drop (j + 1)).length) = (a : Int) + j + 1 := by rw [List.length_drop]; omega
          dsimp only at HR
          rw [hlen] at HR
          simp only [Prod.mk.injEq] at HR
          obtain ⟨rfl, rfl, rfl⟩ := HR.out
          obtain ⟨x, hx⟩ : ∃ x, x = (t[j]).toNat := ⟨_, rfl⟩
          rw [← hx] at hcell hb q2 q3
          have HU := Lib.hid hU
          have HV := Lib.hid q5
          have HJ := Lib.hid hjl
          have HX := Lib.hid (show (x = 0 ∧ j = 0) ∨ x = 1 ∨ (1 < x ∧ j ≠ 9) by
            by_cases x0 : x = 0
            · exact Or.inl ⟨x0, by
                rcases Nat.eq_zero_or_pos j with h | h
                · exact h
                · exact absurd ⟨x0, h⟩ q2⟩
            · by_cases x1 : x = 1
              · exact Or.inr (Or.inl x1)
              · exact Or.inr (Or.inr ⟨by omega, fun e => q3 ⟨e, by omega⟩⟩))
          clear hx hje hin q4 HR e9 hj hlt hc q2 q3 hU hlen q5 HCS
          rcases HX.out with ⟨rfl, hj0⟩ | rfl | ⟨hx1, hx9⟩
          · have k0 : decide ((0 : Int) < (j : Int)) = false := by simp; omega
            have k1 : decide (0 < j) = false := by simp; omega
            have hj9 : ((j : Int) == 9) = false := by rw [beq_eq_false_iff_ne]; omega
            clear hj0 HX
            go_wp2
            go_loop [9, 10] (fun u i => ∃ (m : Nat) (z : Int), m ≤ j + 1 ∧ i = .int .i64 z ∧ Hid (z = (m : Int) - 1) ∧ u = .int .u64 (valN ((t.take (j + 1)).drop m) : Nat)) (fun _ i => (intOf i + 1).toNat)
            case atStart => exact ⟨j + 1, j, Nat.le_refl _, rfl, Lib.hid (by omega), by rw [List.drop_of_length_le (by rw [List.length_take]; omega)]; rfl⟩
            case round =>
              obtain ⟨m, z, hm, rfl, HZ, rfl⟩ := hrel
              cases m with
              | zero =>
                have hz := HZ.out
                obtain rfl : z = -1 := by omega
                rw [List.drop_zero, ← HU.out]
                have hUb := HV.out
                clear hz
                by_cases hpar : U % 2 = 1
                · have HG := Lib.hid (zag_odd U hpar)
                  go_wp2
                  go_ret3
                  rw [HG.out]
                  exact ⟨rfl, rfl⟩
                · have HG := Lib.hid (zag_even U hpar)
                  go_wp2
                  go_ret3
                  rw [HG.out]
                  exact ⟨rfl, rfl⟩
              | succ k =>
                have hz := HZ.out
                obtain rfl : z = (k : Int) := by omega
                have hkt : k < t.length := by have := HJ.out; omega
                have hck := HGET.out k hkt b o rfl
                unfold bv at hck
                have HS := Lib.hid (drop_valN (t.take (j + 1)) k (by rw [List.length_take]; omega))
                have e5 : (t.take (j + 1))[k]'(by rw [List.length_take]; omega) = t[k] := by rw [List.getElem_take]
                rw [e5] at HS
                have hbd := drop_le (t.take (j + 1)) k
                rw [← HU.out, HS.out] at hbd
                have hUb := HV.out
                obtain ⟨y, hy⟩ : ∃ y, y = (t[k]).toNat := ⟨_, rfl⟩
                rw [← hy] at hck HS hbd
                obtain ⟨V, hV⟩ : ∃ V, V = valN ((t.take (j + 1)).drop (k + 1)) := ⟨_, rfl⟩
                rw [← hV] at HS hbd ⊢
                have hyb : y < 256 := by rw [hy]; exact (t[k]).toNat_lt
                have e6 : ((a : Int) + (k : Int)).toNat = a + k := by omega
                clear hz hy hV e5
                go_wp2
                refine ⟨⟨k, (k : Int) - 1, by omega, rfl, Lib.hid rfl, ?_⟩, by simp only [intOf]; omega⟩
                rw [HS.out]
                exact u_is (by omega)
          · clear HX
            by_cases h9e : j = 9
            · have hj9 : ((j : Int) == 9) = true := by rw [beq_iff_eq]; omega
              clear h9e
              go_wp2
              go_loop [9, 10] (fun u i => ∃ (m : Nat) (z : Int), m ≤ j + 1 ∧ i = .int .i64 z ∧ Hid (z = (m : Int) - 1) ∧ u = .int .u64 (valN ((t.take (j + 1)).drop m) : Nat)) (fun _ i => (intOf i + 1).toNat)
              case atStart => exact ⟨j + 1, j, Nat.le_refl _, rfl, Lib.hid (by omega), by rw [List.drop_of_length_le (by rw [List.length_take]; omega)]; rfl⟩
              case round =>
                obtain ⟨m, z, hm, rfl, HZ, rfl⟩ := hrel
                cases m with
                | zero =>
                  have hz := HZ.out
                  obtain rfl : z = -1 := by omega
                  rw [List.drop_zero, ← HU.out]
                  have hUb := HV.out
                  clear hz
                  by_cases hpar : U % 2 = 1
                  · have HG := Lib.hid (zag_odd U hpar)
                    go_wp2
                    go_ret3
                    rw [HG.out]
                    exact ⟨rfl, rfl⟩
                  · have HG := Lib.hid (zag_even U hpar)
                    go_wp2
                    go_ret3
                    rw [HG.out]
                    exact ⟨rfl, rfl⟩
                | succ k =>
                  have hz := HZ.out
                  obtain rfl : z = (k : Int) := by omega
                  have hkt : k < t.length := by have := HJ.out; omega
                  have hck := HGET.out k hkt b o rfl
                  unfold bv at hck
                  have HS := Lib.hid (drop_valN (t.take (j + 1)) k (by rw [List.length_take]; omega))
                  have e5 : (t.take (j + 1))[k]'(by rw [List.length_take]; omega) = t[k] := by rw [List.getElem_take]
                  rw [e5] at HS
                  have hbd := drop_le (t.take (j + 1)) k
                  rw [← HU.out, HS.out] at hbd
                  have hUb := HV.out
                  obtain ⟨y, hy⟩ : ∃ y, y = (t[k]).toNat := ⟨_, rfl⟩
                  rw [← hy] at hck HS hbd
                  obtain ⟨V, hV⟩ : ∃ V, V = valN ((t.take (j + 1)).drop (k + 1)) := ⟨_, rfl⟩
                  rw [← hV] at HS hbd ⊢
                  have hyb : y < 256 := by rw [hy]; exact (t[k]).toNat_lt
                  have e6 : ((a : Int) + (k : Int)).toNat = a + k := by omega
                  clear hz hy hV e5
                  go_wp2
                  refine ⟨⟨k, (k : Int) - 1, by omega, rfl, Lib.hid rfl, ?_⟩, by simp only [intOf]; omega⟩
                  rw [HS.out]
                  exact u_is (by omega)
            · have hj9 : ((j : Int) == 9) = false := by rw [beq_eq_false_iff_ne]; omega
              clear h9e
              go_wp2
              go_loop [9, 10] (fun u i => ∃ (m : Nat) (z : Int), m ≤ j + 1 ∧ i = .int .i64 z ∧ Hid (z = (m : Int) - 1) ∧ u = .int .u64 (valN ((t.take (j + 1)).drop m) : Nat)) (fun _ i => (intOf i + 1).toNat)
              case atStart => exact ⟨j + 1, j, Nat.le_refl _, rfl, Lib.hid (by omega), by rw [List.drop_of_length_le (by rw [List.length_take]; omega)]; rfl⟩
              case round =>
                obtain ⟨m, z, hm, rfl, HZ, rfl⟩ := hrel
                cases m with
                | zero =>
                  have hz := HZ.out
                  obtain rfl : z = -1 := by omega
                  rw [List.drop_zero, ← HU.out]
                  have hUb := HV.out
                  clear hz
                  by_cases hpar : U % 2 = 1
                  · have HG := Lib.hid (zag_odd U hpar)
                    go_wp2
                    go_ret3
                    rw [HG.out]
                    exact ⟨rfl, rfl⟩
                  · have HG := Lib.hid (zag_even U hpar)
                    go_wp2
                    go_ret3
                    rw [HG.out]
                    exact ⟨rfl, rfl⟩
                | succ k =>
                  have hz := HZ.out
                  obtain rfl : z = (k : Int) := by omega
                  have hkt : k < t.length := by have := HJ.out; omega
                  have hck := HGET.out k hkt b o rfl
                  unfold bv at hck
                  have HS := Lib.hid (drop_valN (t.take (j + 1)) k (by rw [List.length_take]; omega))
                  have e5 : (t.take (j + 1))[k]'(by rw [List.length_take]; omega) = t[k] := by rw [List.getElem_take]
                  rw [e5] at HS
                  have hbd := drop_le (t.take (j + 1)) k
                  rw [← HU.out, HS.out] at hbd
                  have hUb := HV.out
                  obtain ⟨y, hy⟩ : ∃ y, y = (t[k]).toNat := ⟨_, rfl⟩
                  rw [← hy] at hck HS hbd
                  obtain ⟨V, hV⟩ : ∃ V, V = valN ((t.take (j + 1)).drop (k + 1)) := ⟨_, rfl⟩
                  rw [← hV] at HS hbd ⊢
                  have hyb : y < 256 := by rw [hy]; exact (t[k]).toNat_lt
                  have e6 : ((a : Int) + (k : Int)).toNat = a + k := by omega
                  clear hz hy hV e5
                  go_wp2
                  refine ⟨⟨k, (k : Int) - 1, by omega, rfl, Lib.hid rfl, ?_⟩, by simp only [intOf]; omega⟩
                  rw [HS.out]
                  exact u_is (by omega)
          · have hx0 : ((x : Int) == 0) = false := by rw [beq_eq_false_iff_ne]; omega
            have hj9 : ((j : Int) == 9) = false := by rw [beq_eq_false_iff_ne]; omega
            clear HX hx9
            go_wp2
            go_loop [9, 10] (fun u i => ∃ (m : Nat) (z : Int), m ≤ j + 1 ∧ i = .int .i64 z ∧ Hid (z = (m : Int) - 1) ∧ u = .int .u64 (valN ((t.take (j + 1)).drop m) : Nat)) (fun _ i => (intOf i + 1).toNat)
            case atStart => exact ⟨j + 1, j, Nat.le_refl _, rfl, Lib.hid (by omega), by rw [List.drop_of_length_le (by rw [List.length_take]; omega)]; rfl⟩
            case round =>
              obtain ⟨m, z, hm, rfl, HZ, rfl⟩ := hrel
              cases m with
              | zero =>
                have hz := HZ.out
                obtain rfl : z = -1 := by omega
                rw [List.drop_zero, ← HU.out]
                have hUb := HV.out
                clear hz
                by_cases hpar : U % 2 = 1
                · have HG := Lib.hid (zag_odd U hpar)
                  go_wp2
                  go_ret3
                  rw [HG.out]
                  exact ⟨rfl, rfl⟩
                · have HG := Lib.hid (zag_even U hpar)
                  go_wp2
                  go_ret3
                  rw [HG.out]
                  exact ⟨rfl, rfl⟩
              | succ k =>
                have hz := HZ.out
                obtain rfl : z = (k : Int) := by omega
                have hkt : k < t.length := by have := HJ.out; omega
                have hck := HGET.out k hkt b o rfl
                unfold bv at hck
                have HS := Lib.hid (drop_valN (t.take (j + 1)) k (by rw [List.length_take]; omega))
                have e5 : (t.take (j + 1))[k]'(by rw [List.length_take]; omega) = t[k] := by rw [List.getElem_take]
                rw [e5] at HS
                have hbd := drop_le (t.take (j + 1)) k
                rw [← HU.out, HS.out] at hbd
                have hUb := HV.out
                obtain ⟨y, hy⟩ : ∃ y, y = (t[k]).toNat := ⟨_, rfl⟩
                rw [← hy] at hck HS hbd
                obtain ⟨V, hV⟩ : ∃ V, V = valN ((t.take (j + 1)).drop (k + 1)) := ⟨_, rfl⟩
                rw [← hV] at HS hbd ⊢
                have hyb : y < 256 := by rw [hy]; exact (t[k]).toNat_lt
                have e6 : ((a : Int) + (k : Int)).toNat = a + k := by omega
                clear hz hy hV e5
                go_wp2
                refine ⟨⟨k, (k : Int) - 1, by omega, rfl, Lib.hid rfl, ?_⟩, by simp only [intOf]; omega⟩
                rw [HS.out]
                exact u_is (by omega)
    · have hje : j = t.length := by omega
      have hce : cnt t = j := by omega
      have hal : (a : Int) + j = l.length := by omega
      rcases HCS.out with ⟨q1, q2⟩ | ⟨q1, q2, q3⟩ | ⟨hlt, q1, q2, q3⟩ | ⟨hlt, q1, q2, q3, q4, q5⟩
      · rw [q2] at HR
        simp only [Prod.mk.injEq] at HR
        obtain ⟨rfl, rfl, rfl⟩ := HR.out
        have hj10 : 10 ≤ j := by omega
        clear hje hce q1 q2 HR hjl hj hc
        go_wp2
        go_ret3
        exact ⟨rfl, rfl⟩
      · rw [q3] at HR
        simp only [Prod.mk.injEq] at HR
        obtain ⟨rfl, rfl, rfl⟩ := HR.out
        have hj10 : j < 10 := by omega
        clear hje hce q1 q2 q3 HR hjl hj hc
        go_wp2
        go_ret3
        exact ⟨rfl, rfl⟩
      · omega
      · omega
end Go.Proofs.Ytlnnkdnnhmeldaa
