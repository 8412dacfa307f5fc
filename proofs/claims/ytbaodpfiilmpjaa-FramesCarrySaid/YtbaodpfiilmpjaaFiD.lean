/-
  The reader of integers.
-/
import Derived.Test.YtbaodpfiilmpjaaFiC
namespace Go.Proofs.Ytbaodpfiilmpjaa
open Go.RowKit
open IntWalk
set_option linter.unusedVariables false

theorem nat_min (n : Nat) : min 10 n ≤ 10 := Nat.min_le_left _ _
set_option maxHeartbeats 2000000 in
set_option maxRecDepth 10000 in
theorem cont_run (g : Nat) (v : Value) (l : List UInt8) (w : World) (hc : w.cell? ⟨g, 0, none⟩ = some v) (h : RdB w v l) (hl : l.length ≤ 200000) :
    Calls Try.prog 31 #[.pointer (some ⟨g, 0, none⟩)] w fun e w' => e = .returned (.int .i64 ((min 10 (cnt l) : Nat) : Int)) ∧ w' = w := by
  obtain ⟨p, c, rfl, hcl, hm, hat⟩ := h
  have HAT := Lib.hid hat
  have HL := Lib.hid (cnt_le l)
  obtain ⟨M, hM⟩ : ∃ M, M = min 10 (cnt l) := ⟨_, rfl⟩
  rw [← hM]
  have HM := Lib.hid hM
  clear hat hM
  go_enter Try.func31, Try.ntmps31
  go_wp2
  go_loop [3] (fun i => ∃ j : Nat, j ≤ 10 ∧ j ≤ cnt l ∧ i = .int .i64 j) (fun i => 10 - (intOf i).toNat)
  case atStart => exact ⟨0, by omega, Nat.zero_le _, rfl⟩
  case round =>
    obtain ⟨j, hj, hjc, rfl⟩ := hrel
    by_cases h10 : j < 10
    · by_cases hjl : j < l.length
      · obtain ⟨b, o, rfl, hat⟩ := HAT.out (fun e => by rw [e] at hjl; exact absurd hjl (Nat.not_lt_zero _))
        have hcell := hat.2 j hjl
        clear hat HAT
        unfold bv at hcell
        by_cases hin : j < cnt l
        · have hb := cnt_get l j hin hjl
          obtain ⟨x, hx⟩ : ∃ x, x = (l[j]).toNat := ⟨_, rfl⟩
          rw [← hx] at hcell hb
          clear hx
          go_wp2
          go_round
          case rel => exact ⟨j + 1, by omega, by omega, by go_num⟩
          case measure => simp [intOf]; omega
        · obtain hje : j = cnt l := by omega
          have hb : (l[j]).toNat < 128 := by subst hje; exact cnt_end l hjl
          have HE := Lib.hid (show M = j by have := HM.out; omega)
          obtain ⟨x, hx⟩ : ∃ x, x = (l[j]).toNat := ⟨_, rfl⟩
          rw [← hx] at hcell hb
          clear hx hje hin
          go_wp2
          go_ret
          exact ⟨by rw [HE.out]; rfl, rfl⟩
      · obtain hje : j = l.length := by have := HL.out; omega
        have HE := Lib.hid (show M = l.length by have := HM.out; have := HL.out; omega)
        go_wp2
        go_ret
        exact ⟨by rw [HE.out]; rfl, rfl⟩
    · obtain rfl : j = 10 := by omega
      have HE := Lib.hid (show M = 10 by have := HM.out; omega)
      go_wp2
      go_ret
      exact ⟨by rw [HE.out]; rfl, rfl⟩

set_option maxHeartbeats 4000000 in
set_option maxRecDepth 10000 in
theorem int_err (g : Nat) (v : Value) (l : List UInt8) (k : Int) (w : World) (hr : readI l = .error k) (hc : w.cell? ⟨g, 0, none⟩ = some v) (h : RdB w v l) (hl : l.length ≤ 200000) :
    Calls Try.prog 24 #[.pointer (some ⟨g, 0, none⟩)] w fun e w' => e = .panicked [{ v := errV k, recovered := false }] ∧ w' = w := by
  have C := Lib.hid (cont_run g v l w hc h hl)
  have HR := Lib.hid hr
  obtain ⟨p, c, rfl, hcl, hm, hat⟩ := h
  have HAT := Lib.hid hat
  have hle := cnt_le l
  unfold errV
  unfold readI at hr
  clear hat
  by_cases h1 : 10 ≤ cnt l
  · rw [if_pos h1] at hr
    injection hr with hr
    subst hr
    rw [show min 10 (cnt l) = 10 by omega] at C
    clear hle h1
    go_enter Try.func24, Try.ntmps24
    go_wp2_with fail
    refine C.out.mono ?_
    rintro e w2 ⟨rfl, hw⟩
    rw [hw]
    clear hw C w2
    go_wp2
    exact ⟨rfl, rfl, rfl⟩
  · rw [if_neg h1] at hr
    by_cases h2 : cnt l = l.length
    · rw [if_pos h2] at hr
      injection hr with hr
      subst hr
      rw [show min 10 (cnt l) = l.length by omega] at C
      have hl10 : l.length < 10 := by omega
      clear hle h1 h2
      go_enter Try.func24, Try.ntmps24
      go_wp2_with fail
      refine C.out.mono ?_
      rintro e w2 ⟨rfl, hw⟩
      rw [hw]
      clear hw C w2
      go_wp2
      exact ⟨rfl, rfl, rfl⟩
    · rw [if_neg h2] at hr
      have hlt : cnt l < l.length := by omega
      obtain ⟨b, o, rfl, hat⟩ := HAT.out (fun e => by rw [e] at hlt; exact absurd hlt (Nat.not_lt_zero _))
      have hcell := hat.2 _ hlt
      unfold bv at hcell
      have hg : (l.getD (cnt l) 0).toNat = (l[cnt l]).toNat := by rw [List.getD_eq_getElem?_getD, List.getElem?_eq_getElem hlt]; rfl
      rw [hg] at hr
      obtain ⟨x, hx⟩ : ∃ x, x = (l[cnt l]).toNat := ⟨_, rfl⟩
      rw [← hx] at hcell hr
      rw [show min 10 (cnt l) = cnt l by omega] at C
      obtain ⟨K, hK⟩ : ∃ K, K = cnt l := ⟨_, rfl⟩
      rw [← hK] at C hcell hr hlt h1
      clear hx hg hat HAT hle h2 hK
      by_cases h3 : (x = 0 ∧ 0 < K) ∨ (K = 9 ∧ 1 < x)
      · rw [if_pos h3] at hr
        injection hr with hr
        subst hr
        rcases h3 with ⟨rfl, h4⟩ | ⟨rfl, h4⟩
        · go_enter Try.func24, Try.ntmps24
          go_wp2_with fail
          refine C.out.mono ?_
          rintro e w2 ⟨rfl, hw⟩
          rw [hw]
          clear hw C w2
          go_wp2
          exact ⟨rfl, rfl, rfl⟩
        · go_enter Try.func24, Try.ntmps24
          go_wp2_with fail
          refine C.out.mono ?_
          rintro e w2 ⟨rfl, hw⟩
          rw [hw]
          clear hw C w2
          go_wp2
          exact ⟨rfl, rfl, rfl⟩
      · rw [if_neg h3] at hr
        cases hr
end Go.Proofs.Ytbaodpfiilmpjaa
