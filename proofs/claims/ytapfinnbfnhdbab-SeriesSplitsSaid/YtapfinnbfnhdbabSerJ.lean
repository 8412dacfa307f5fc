/-
  What Add and Least return, in the package series and in its reference.
-/
import Derived.Test.YtapfinnbfnhdbabSerG
import Derived.Test.YtapfinnbfnhdbabSerH
namespace Go.Proofs.Ytapfinnbfnhdbab
open Go.RowKit
open Ser
set_option linter.unusedVariables false

/-- The error of two series. -/
def bE (a b : List St) : Int := if validE a = 0 then validE b else validE a
def inR (r : List St) : Bool := r.all fun s => vB s.2
def addL (a b : List St) : List St := if bE a b = 0 then (if inR (combL (cf true) a b) then limL (combL (cf true) a b) else []) else []
def addE (a b : List St) : Int := if bE a b = 0 then (if inR (combL (cf true) a b) then limE (combL (cf true) a b) else 2) else bE a b
def leastL (a b : List St) : List St := if bE a b = 0 then limL (combL (cf false) a b) else []
def leastE (a b : List St) : Int := if bE a b = 0 then limE (combL (cf false) a b) else bE a b
theorem bE_ok {a b : List St} (h : bE a b = 0) : Ok a ∧ Ok b := by
  unfold bE at h
  by_cases e : validE a = 0
  · rw [if_pos e] at h; exact ⟨(ok_iff a).1 e, (ok_iff b).1 h⟩
  · rw [if_neg e] at h; exact absurd h e
theorem Ser.Ok.bd {l : List St} (h : Ok l) : Bd (-1099511627776) 1099511627776 l := fun s hs => ((okS_iff s).1 (h.all s hs)).2
theorem inR_all {r : List St} (h : ∀ j (hj : j < r.length), vB (r[j]'hj).2 = true) : inR r = true := by
  unfold inR
  rw [List.all_eq_true]
  intro s hs
  obtain ⟨i, hi, rfl⟩ := List.mem_iff_getElem.1 hs
  exact h i hi
theorem inR_not {r : List St} (j : Nat) (hj : j < r.length) (h : vB (r[j]'hj).2 = false) : inR r = false := by
  unfold inR
  rw [List.all_eq_false]
  exact ⟨r[j], List.getElem_mem _, by simp [h]⟩

set_option maxHeartbeats 1600000 in
theorem bothValid_any (va vb : Value) (a b : List St) (w : World) (la : a.length ≤ 2000000) (lb : b.length ≤ 2000000) (ha : Rd w va a) (hb : Rd w vb b) :
    Calls Try.prog 35 #[va, vb] w fun e w' => e = .returned (.int .i64 (bE a b)) ∧ Below w.heap.size w w' := by
  have V1 := Lib.hid (valid_any va a w la ha)
  have V2 := Lib.hid (fun W hW => valid_any vb b W lb (hb.below hW))
  clear ha hb
  by_cases e : validE a = 0
  · have hv : bE a b = validE b := if_pos e
    rw [e] at V1
    have HV := Lib.hid hv
    clear hv e
    go_enter Try.func35, Try.ntmps35
    go_wp2_with fail
    refine V1.out.mono ?_
    rintro e w1 ⟨rfl, h1⟩
    have H1 := Lib.hid h1
    clear h1
    go_wp2_with fail
    refine (V2.out _ H1.out).mono ?_
    rintro e w2 ⟨rfl, h2⟩
    go_wp2_with fail
    go_ret
    exact ⟨ret_int HV.out.symm, b2 H1.out h2⟩
  · have hv : bE a b = validE a := if_neg e
    obtain ⟨E, hE⟩ : ∃ E, validE a = E := ⟨_, rfl⟩
    rw [hE] at hv V1 e
    have he : (E == 0) = false := by simpa using e
    have HV := Lib.hid hv
    clear hv e hE
    go_enter Try.func35, Try.ntmps35
    go_wp2_with fail
    refine V1.out.mono ?_
    rintro e w1 ⟨rfl, h1⟩
    go_wp2_with fail
    go_ret
    exact ⟨ret_int HV.out.symm, h1⟩

set_option maxHeartbeats 8000000 in
set_option maxRecDepth 1000000 in
theorem add_any (va vb : Value) (a b : List St) (w : World) (la : a.length ≤ 2000000) (lb : b.length ≤ 2000000) (ha : Rd w va a) (hb : Rd w vb b) :
    Calls Try.prog 19 #[va, vb] w (GivesE w (addL a b) (addE a b)) := by
  have V := Lib.hid (bothValid_any va vb a b w la lb ha hb)
  by_cases e : bE a b = 0
  · obtain ⟨oa, ob⟩ := bE_ok e
    have hv : addL a b = if inR (combL (cf true) a b) then limL (combL (cf true) a b) else [] := if_pos e
    have hv2 : addE a b = if inR (combL (cf true) a b) then limE (combL (cf true) a b) else 2 := if_pos e
    have C := Lib.hid (fun W hW => combine_sum va vb a b W (by have := oa.len; omega) (by have := ob.len; omega) oa.bd ob.bd (ha.below hW) (hb.below hW))
    have hlen := combL_len (cf true) a b oa.asc ob.asc
    have l1 := oa.len
    have l2 := ob.len
    rw [e] at V
    obtain ⟨r, hr⟩ : ∃ r, combL (cf true) a b = r := ⟨_, rfl⟩
    rw [hr] at hv hv2 C hlen
    have HV := Lib.hid hv
    have HV2 := Lib.hid hv2
    clear hv hv2 hr e ha hb
    go_enter Try.func19, Try.ntmps19
    go_wp2_with fail
    refine V.out.mono ?_
    rintro e w1 ⟨rfl, h1⟩
    have H1 := Lib.hid h1
    clear h1
    go_wp2_with fail
    refine (C.out _ H1.out).mono ?_
    rintro e w2 ⟨v, rfl, hr, h2⟩
    have H2 := Lib.hid (b2 H1.out h2)
    have HR := Lib.hid hr
    clear h2 hr
    obtain ⟨p, c, rfl, _, _, hp⟩ := HR.out
    by_cases hnil : r = []
    · subst hnil
      have HL := Lib.hid (limited_any (.slice p 0 c) [] w2 (Nat.zero_le _) HR.out)
      simp only [List.length_nil] at *
      clear hp
      go_wp2_with fail
      refine wp_loop_rounds 1 ?_
      rw [rounds_succ]
      go_wp2_with fail
      refine HL.out.mono ?_
      rintro e w3 ⟨v, rfl, hr3, h3⟩
      go_wp2_with fail
      go_ret2
      exact ⟨v, ret_e HV2.out.symm, by rw [HV.out]; exact hr3, b2 H2.out h3⟩
    · obtain ⟨b1, o1, rfl, hat⟩ := hp hnil
      have HL := Lib.hid (fun W hW => limited_any _ r W (by omega) (HR.out.below hW))
      have HT := Lib.hid hat
      clear hat hp
      go_wp2_with fail
      go_loopw [21] (fun i wr => ∃ k : Nat, k ≤ r.length ∧ i = .int .i64 k ∧ Hid (∀ j (hj : j < r.length), j < k → vB (r[j]'hj).2 = true) ∧ Below w2.heap.size w2 wr) (fun i _ => r.length - (intOf i).toNat)
      case atStart => exact ⟨0, Nat.zero_le _, rfl, Lib.hid (fun j hj h => by omega), Below.refl _ _⟩
      case round =>
        obtain ⟨k, hk, rfl, HI, hbw⟩ := hrel
        by_cases hlt : k < r.length
        · obtain ⟨g1, g2⟩ := HT.out.get hbw k hlt
          obtain ⟨x1, e1⟩ : ∃ x, r[k].1 = x := ⟨_, rfl⟩
          obtain ⟨x2, e2⟩ : ∃ x, r[k].2 = x := ⟨_, rfl⟩
          rw [e1] at g1
          rw [e2] at g2
          have hb1 := hbw.alloc (by have := hbw.size; omega) (.cells #[.int .i64 x1, .int .i64 x2] 30)
          cases hv : vB x2 with
          | true =>
            have HI2 : Hid (∀ j (hj : j < r.length), j < k + 1 → vB (r[j]'hj).2 = true) := Lib.hid fun j hj h => by
              by_cases c : j < k
              · exact HI.out j hj c
              · obtain rfl : j = k := by omega
                rw [e2]; exact hv
            have T := Lib.hid (fun W => isValue_b x2 true W hv)
            clear hv e1 e2
            go_wp2_with fail
            refine (T.out _).mono ?_
            rintro e w3 ⟨rfl, rfl⟩
            go_wp2_with fail
            go_roundw
            case rel => exact ⟨k + 1, by omega, by go_num, HI2, hb1⟩
            case measure => simp [intOf]; omega
          | false =>
            have HI2 := Lib.hid (inR_not k hlt (by rw [e2]; exact hv))
            have T := Lib.hid (fun W => isValue_b x2 false W hv)
            clear hv e1 e2
            go_wp2_with fail
            refine (T.out _).mono ?_
            rintro e w3 ⟨rfl, rfl⟩
            go_wp2_with fail
            go_ret2
            exact ⟨.slice none 0 0, ret_e (by rw [HV2.out, HI2.out]; rfl), by rw [HV.out, HI2.out]; exact Rd.nil _, b2 H2.out hb1⟩
        · have HI2 := Lib.hid (inR_all fun j hj => HI.out j hj (by omega))
          go_wp2_with fail
          refine (HL.out _ hbw).mono ?_
          rintro e w3 ⟨v, rfl, hr3, h3⟩
          go_wp2_with fail
          go_ret2
          exact ⟨v, ret_e (by rw [HV2.out, HI2.out]; rfl), by rw [HV.out, HI2.out]; exact hr3, b2 (b2 H2.out hbw) h3⟩
  · have hv : addL a b = [] := if_neg e
    have hv2 : addE a b = bE a b := if_neg e
    obtain ⟨E, hE⟩ : ∃ E, bE a b = E := ⟨_, rfl⟩
    rw [hE] at hv2 V e
    have he : (E == 0) = false := by simpa using e
    have HV := Lib.hid hv
    have HV2 := Lib.hid hv2
    clear hv hv2 e hE ha hb
    go_enter Try.func19, Try.ntmps19
    go_wp2_with fail
    refine V.out.mono ?_
    rintro e w1 ⟨rfl, h1⟩
    go_wp2_with fail
    go_ret2
    exact ⟨.slice none 0 0, ret_e HV2.out.symm, by rw [HV.out]; exact Rd.nil _, h1⟩
end Go.Proofs.Ytapfinnbfnhdbab
