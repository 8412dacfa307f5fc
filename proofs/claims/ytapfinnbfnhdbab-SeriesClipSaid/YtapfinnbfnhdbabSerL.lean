/-
  What the reference's Add, and Least of both, return.
-/
import Derived.Test.YtapfinnbfnhdbabSerJ
namespace Go.Proofs.Ytapfinnbfnhdbab
open Go.RowKit
open Ser
set_option linter.unusedVariables false

theorem vB_of {x : Int} (h : vB x = true) : -1099511627776 ≤ x ∧ x ≤ 1099511627776 := by unfold vB at h; simpa using h
set_option maxHeartbeats 8000000 in
set_option maxRecDepth 1000000 in
theorem refAdd_any (va vb : Value) (a b : List St) (w : World) (la : a.length ≤ 2000000) (lb : b.length ≤ 2000000) (ha : Rd w va a) (hb : Rd w vb b) :
    Calls Try.prog 20 #[va, vb] w (GivesE w (addL a b) (addE a b)) := by
  have V1 := Lib.hid (refValid_any va a w la ha)
  have V2 := Lib.hid (fun W hW => refValid_any vb b W lb (hb.below hW))
  by_cases e : validE a = 0
  · by_cases e' : validE b = 0
    · have eb : bE a b = 0 := by unfold bE; rw [if_pos e, e']
      obtain ⟨oa, ob⟩ := bE_ok eb
      have hv : addL a b = if inR (combL (cf true) a b) then limL (combL (cf true) a b) else [] := if_pos eb
      have hv2 : addE a b = if inR (combL (cf true) a b) then limE (combL (cf true) a b) else 2 := if_pos eb
      have C := Lib.hid (fun W hW => refCombine_any va vb a b true W oa ob (ha.below hW) (hb.below hW))
      have hlen := combL_len (cf true) a b oa.asc ob.asc
      have l1 := oa.len
      have l2 := ob.len
      rw [e] at V1
      rw [e'] at V2
      obtain ⟨r, hr⟩ : ∃ r, combL (cf true) a b = r := ⟨_, rfl⟩
      rw [hr] at hv hv2 C hlen
      have HV := Lib.hid hv
      have HV2 := Lib.hid hv2
      clear hv hv2 hr e e' eb ha hb
      go_enter Try.func20, Try.ntmps20
      go_wp2_with fail
      refine V1.out.mono ?_
      rintro e w1 ⟨rfl, h1⟩
      have H1 := Lib.hid h1
      clear h1
      go_wp2_with fail
      refine (V2.out _ H1.out).mono ?_
      rintro e w2 ⟨rfl, h2⟩
      have H2 := Lib.hid (b2 H1.out h2)
      clear h2
      go_wp2_with fail
      refine (C.out _ H2.out).mono ?_
      rintro e w3 ⟨v, rfl, ho, h3⟩
      have H3 := Lib.hid (b2 H2.out h3)
      have HR := Lib.hid (Rd.own ho)
      clear h3 ho
      obtain ⟨p, c, rfl, _, _, hp⟩ := HR.out
      by_cases hnil : r = []
      · subst hnil
        have HL := Lib.hid (refLimited_any (.slice p 0 c) [] w3 (Nat.zero_le _) HR.out)
        simp only [List.length_nil] at *
        clear hp
        go_wp2_with fail
        refine wp_loop_rounds 1 ?_
        rw [rounds_succ]
        go_wp2_with fail
        refine HL.out.mono ?_
        rintro e w4 ⟨v, rfl, hr3, h4⟩
        go_wp2_with fail
        go_ret2
        exact ⟨v, ret_e HV2.out.symm, by rw [HV.out]; exact hr3, b2 H3.out h4⟩
      · obtain ⟨b1, o1, rfl, hat⟩ := hp hnil
        have HL := Lib.hid (fun W hW => refLimited_any _ r W (by omega) (HR.out.below hW))
        have HT := Lib.hid hat
        clear hat hp
        go_wp2_with fail
        go_loopw [9] (fun i wr => ∃ k : Nat, k ≤ r.length ∧ i = .int .i64 k ∧ Hid (∀ j (hj : j < r.length), j < k → vB (r[j]'hj).2 = true) ∧ Below w3.heap.size w3 wr) (fun i _ => r.length - (intOf i).toNat)
        case atStart => exact ⟨0, Nat.zero_le _, rfl, Lib.hid (fun j hj h => by omega), Below.refl _ _⟩
        case round =>
          obtain ⟨k, hk, rfl, HI, hbw⟩ := hrel
          by_cases hlt : k < r.length
          · obtain ⟨g1, g2⟩ := HT.out.get hbw k hlt
            obtain ⟨x2, e2⟩ : ∃ x, r[k].2 = x := ⟨_, rfl⟩
            rw [e2] at g2
            have HI2 : Hid (vB x2 = true → ∀ j (hj : j < r.length), j < k + 1 → vB (r[j]'hj).2 = true) := Lib.hid fun hv j hj h => by
              by_cases c : j < k
              · exact HI.out j hj c
              · obtain rfl : j = k := by omega
                rw [e2]; exact hv
            have HI3 : Hid (vB x2 = false → inR r = false) := Lib.hid fun hv => inR_not k hlt (by rw [e2]; exact hv)
            clear e2 g1
            by_cases c1 : x2 < -1099511627776
            · have HN := Lib.hid (HI3.out (vB_low c1))
              go_wp2_with fail
              go_ret2
              exact ⟨.slice none 0 0, ret_e (by rw [HV2.out, HN.out]; rfl), by rw [HV.out, HN.out]; exact Rd.nil _, b2 H3.out hbw⟩
            · by_cases c2 : 1099511627776 < x2
              · have HN := Lib.hid (HI3.out (vB_high c2))
                go_wp2_with fail
                go_ret2
                exact ⟨.slice none 0 0, ret_e (by rw [HV2.out, HN.out]; rfl), by rw [HV.out, HN.out]; exact Rd.nil _, b2 H3.out hbw⟩
              · have HN := Lib.hid (HI2.out (vB_in (by omega) (by omega)))
                go_wp2_with fail
                go_roundw
                case rel => exact ⟨k + 1, by omega, by go_num, HN, hbw⟩
                case measure => simp [intOf]; omega
          · have HI2 := Lib.hid (inR_all fun j hj => HI.out j hj (by omega))
            go_wp2_with fail
            refine (HL.out _ hbw).mono ?_
            rintro e w4 ⟨v, rfl, hr3, h4⟩
            go_wp2_with fail
            go_ret2
            exact ⟨v, ret_e (by rw [HV2.out, HI2.out]; rfl), by rw [HV.out, HI2.out]; exact hr3, b2 (b2 H3.out hbw) h4⟩
    · have eb : bE a b = validE b := by unfold bE; rw [if_pos e]
      have hne : bE a b ≠ 0 := by rw [eb]; exact e'
      have hv : addL a b = [] := if_neg hne
      have hv2 : addE a b = validE b := (if_neg hne).trans eb
      obtain ⟨E, hE⟩ : ∃ E, validE b = E := ⟨_, rfl⟩
      rw [hE] at hv2 V2 e'
      rw [e] at V1
      have he : (E == 0) = false := by simpa using e'
      have HV := Lib.hid hv
      have HV2 := Lib.hid hv2
      clear hv hv2 e e' hE eb hne ha hb
      go_enter Try.func20, Try.ntmps20
      go_wp2_with fail
      refine V1.out.mono ?_
      rintro e w1 ⟨rfl, h1⟩
      have H1 := Lib.hid h1
      clear h1
      go_wp2_with fail
      refine (V2.out _ H1.out).mono ?_
      rintro e w2 ⟨rfl, h2⟩
      go_wp2_with fail
      go_ret2
      exact ⟨.slice none 0 0, ret_e HV2.out.symm, by rw [HV.out]; exact Rd.nil _, b2 H1.out h2⟩
  · have eb : bE a b = validE a := if_neg e
    have hne : bE a b ≠ 0 := by rw [eb]; exact e
    have hv : addL a b = [] := if_neg hne
    have hv2 : addE a b = validE a := (if_neg hne).trans eb
    obtain ⟨E, hE⟩ : ∃ E, validE a = E := ⟨_, rfl⟩
    rw [hE] at hv2 V1 e
    have he : (E == 0) = false := by simpa using e
    have HV := Lib.hid hv
    have HV2 := Lib.hid hv2
    clear hv hv2 e hE eb hne ha hb
    go_enter Try.func20, Try.ntmps20
    go_wp2_with fail
    refine V1.out.mono ?_
    rintro e w1 ⟨rfl, h1⟩
    go_wp2_with fail
    go_ret2
    exact ⟨.slice none 0 0, ret_e HV2.out.symm, by rw [HV.out]; exact Rd.nil _, h1⟩

set_option maxHeartbeats 8000000 in
set_option maxRecDepth 1000000 in
theorem refLeast_any (va vb : Value) (a b : List St) (w : World) (la : a.length ≤ 2000000) (lb : b.length ≤ 2000000) (ha : Rd w va a) (hb : Rd w vb b) :
    Calls Try.prog 22 #[va, vb] w (GivesE w (leastL a b) (leastE a b)) := by
  have V1 := Lib.hid (refValid_any va a w la ha)
  have V2 := Lib.hid (fun W hW => refValid_any vb b W lb (hb.below hW))
  by_cases e : validE a = 0
  · by_cases e' : validE b = 0
    · have eb : bE a b = 0 := by unfold bE; rw [if_pos e, e']
      obtain ⟨oa, ob⟩ := bE_ok eb
      have hv : leastL a b = limL (combL (cf false) a b) := if_pos eb
      have hv2 : leastE a b = limE (combL (cf false) a b) := if_pos eb
      have C := Lib.hid (fun W hW => refCombine_any va vb a b false W oa ob (ha.below hW) (hb.below hW))
      have hlen := combL_len (cf false) a b oa.asc ob.asc
      have l1 := oa.len
      have l2 := ob.len
      rw [e] at V1
      rw [e'] at V2
      obtain ⟨r, hr⟩ : ∃ r, combL (cf false) a b = r := ⟨_, rfl⟩
      rw [hr] at hv hv2 C hlen
      have HV := Lib.hid hv
      have HV2 := Lib.hid hv2
      clear hv hv2 hr e e' eb ha hb
      go_enter Try.func22, Try.ntmps22
      go_wp2_with fail
      refine V1.out.mono ?_
      rintro e w1 ⟨rfl, h1⟩
      have H1 := Lib.hid h1
      clear h1
      go_wp2_with fail
      refine (V2.out _ H1.out).mono ?_
      rintro e w2 ⟨rfl, h2⟩
      have H2 := Lib.hid (b2 H1.out h2)
      clear h2
      go_wp2_with fail
      refine (C.out _ H2.out).mono ?_
      rintro e w3 ⟨v, rfl, ho, h3⟩
      have H3 := Lib.hid (b2 H2.out h3)
      have HL := Lib.hid (refLimited_any v r w3 (by omega) (Rd.own ho))
      clear h3 ho
      go_wp2_with fail
      refine HL.out.mono ?_
      rintro e w4 ⟨v', rfl, hr3, h4⟩
      go_wp2_with fail
      go_ret2
      exact ⟨v', ret_e HV2.out.symm, by rw [HV.out]; exact hr3, b2 H3.out h4⟩
    · have eb : bE a b = validE b := by unfold bE; rw [if_pos e]
      have hne : bE a b ≠ 0 := by rw [eb]; exact e'
      have hv : leastL a b = [] := if_neg hne
      have hv2 : leastE a b = validE b := (if_neg hne).trans eb
      obtain ⟨E, hE⟩ : ∃ E, validE b = E := ⟨_, rfl⟩
      rw [hE] at hv2 V2 e'
      rw [e] at V1
      have he : (E == 0) = false := by simpa using e'
      have HV := Lib.hid hv
      have HV2 := Lib.hid hv2
      clear hv hv2 e e' hE eb hne ha hb
      go_enter Try.func22, Try.ntmps22
      go_wp2_with fail
      refine V1.out.mono ?_
      rintro e w1 ⟨rfl, h1⟩
      have H1 := Lib.hid h1
      clear h1
      go_wp2_with fail
      refine (V2.out _ H1.out).mono ?_
      rintro e w2 ⟨rfl, h2⟩
      go_wp2_with fail
      go_ret2
      exact ⟨.slice none 0 0, ret_e HV2.out.symm, by rw [HV.out]; exact Rd.nil _, b2 H1.out h2⟩
  · have eb : bE a b = validE a := if_neg e
    have hne : bE a b ≠ 0 := by rw [eb]; exact e
    have hv : leastL a b = [] := if_neg hne
    have hv2 : leastE a b = validE a := (if_neg hne).trans eb
    obtain ⟨E, hE⟩ : ∃ E, validE a = E := ⟨_, rfl⟩
    rw [hE] at hv2 V1 e
    have he : (E == 0) = false := by simpa using e
    have HV := Lib.hid hv
    have HV2 := Lib.hid hv2
    clear hv hv2 e hE eb hne ha hb
    go_enter Try.func22, Try.ntmps22
    go_wp2_with fail
    refine V1.out.mono ?_
    rintro e w1 ⟨rfl, h1⟩
    go_wp2_with fail
    go_ret2
    exact ⟨.slice none 0 0, ret_e HV2.out.symm, by rw [HV.out]; exact Rd.nil _, h1⟩

set_option maxHeartbeats 8000000 in
set_option maxRecDepth 1000000 in
theorem least_any (va vb : Value) (a b : List St) (w : World) (la : a.length ≤ 2000000) (lb : b.length ≤ 2000000) (ha : Rd w va a) (hb : Rd w vb b) :
    Calls Try.prog 21 #[va, vb] w (GivesE w (leastL a b) (leastE a b)) := by
  have V := Lib.hid (bothValid_any va vb a b w la lb ha hb)
  by_cases e : bE a b = 0
  · obtain ⟨oa, ob⟩ := bE_ok e
    have hv : leastL a b = limL (combL (cf false) a b) := if_pos e
    have hv2 : leastE a b = limE (combL (cf false) a b) := if_pos e
    have C := Lib.hid (fun W hW => combine_least va vb a b W (by have := oa.len; omega) (by have := ob.len; omega) oa.bd ob.bd (ha.below hW) (hb.below hW))
    have hlen := combL_len (cf false) a b oa.asc ob.asc
    have l1 := oa.len
    have l2 := ob.len
    rw [e] at V
    obtain ⟨r, hr⟩ : ∃ r, combL (cf false) a b = r := ⟨_, rfl⟩
    rw [hr] at hv hv2 C hlen
    have HV := Lib.hid hv
    have HV2 := Lib.hid hv2
    clear hv hv2 hr e ha hb
    go_enter Try.func21, Try.ntmps21
    go_wp2_with fail
    refine V.out.mono ?_
    rintro e w1 ⟨rfl, h1⟩
    have H1 := Lib.hid h1
    clear h1
    go_wp2_with fail
    refine (C.out _ H1.out).mono ?_
    rintro e w2 ⟨v, rfl, hr, h2⟩
    have H2 := Lib.hid (b2 H1.out h2)
    have HL := Lib.hid (limited_any v r w2 (by omega) hr)
    clear h2 hr
    go_wp2_with fail
    refine HL.out.mono ?_
    rintro e w4 ⟨v', rfl, hr3, h4⟩
    go_wp2_with fail
    go_ret2
    exact ⟨v', ret_e HV2.out.symm, by rw [HV.out]; exact hr3, b2 H2.out h4⟩
  · have hv : leastL a b = [] := if_neg e
    have hv2 : leastE a b = bE a b := if_neg e
    obtain ⟨E, hE⟩ : ∃ E, bE a b = E := ⟨_, rfl⟩
    rw [hE] at hv2 V e
    have he : (E == 0) = false := by simpa using e
    have HV := Lib.hid hv
    have HV2 := Lib.hid hv2
    clear hv hv2 e hE ha hb
    go_enter Try.func21, Try.ntmps21
    go_wp2_with fail
    refine V.out.mono ?_
    rintro e w1 ⟨rfl, h1⟩
    go_wp2_with fail
    go_ret2
    exact ⟨.slice none 0 0, ret_e HV2.out.symm, by rw [HV.out]; exact Rd.nil _, h1⟩
end Go.Proofs.Ytapfinnbfnhdbab
