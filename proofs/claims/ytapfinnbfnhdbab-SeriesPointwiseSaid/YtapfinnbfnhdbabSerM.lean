/-
  What checked and Clip of the package series return, and Span of its reference.
-/
import Derived.Test.YtapfinnbfnhdbabSerL
import Derived.Test.YtapfinnbfnhdbabSerI
namespace Go.Proofs.Ytapfinnbfnhdbab
open Go.RowKit
open Ser
set_option linter.unusedVariables false

/-- Is a span valid. -/
def spB (f t : Int) : Bool := decide (0 ≤ f ∧ f ≤ t ∧ t ≤ 268435456)
def cE (l : List St) (f t : Int) : Int := if validE l = 0 then (if spB f t then 0 else 2) else validE l
def insL (f t : Int) : List St := [(f, 1), (t, 0)]
def clipL (l : List St) (f t : Int) : List St := if cE l f t = 0 then (if f = t then [] else limL (combL fMul l (insL f t))) else []
def clipE (l : List St) (f t : Int) : Int := if cE l f t = 0 then (if f = t then 0 else limE (combL fMul l (insL f t))) else cE l f t
theorem cE_ok {l : List St} {f t : Int} (h : cE l f t = 0) : Ok l ∧ (0 ≤ f ∧ f ≤ t ∧ t ≤ 268435456) := by
  unfold cE at h
  by_cases e : validE l = 0
  · rw [if_pos e] at h
    refine ⟨(ok_iff l).1 e, ?_⟩
    unfold spB at h
    by_cases c : 0 ≤ f ∧ f ≤ t ∧ t ≤ 268435456
    · exact c
    · simp [c] at h
  · rw [if_neg e] at h; exact absurd h e
theorem fMul_00 : fMul 0 0 = 0 := rfl
theorem ins_asc {f t : Int} (h0 : 0 ≤ f) (h : f < t) : Asc (-1) (insL f t) := ⟨by show -1 < f; omega, h, trivial⟩
theorem ins_bd (f t : Int) : Bd 0 1 (insL f t) := fun s hs => by
  simp only [insL, List.mem_cons, List.not_mem_nil, or_false] at hs
  rcases hs with rfl | rfl
  · exact ⟨(by decide : (0 : Int) ≤ 1), (by decide : (1 : Int) ≤ 1)⟩
  · exact ⟨(by decide : (0 : Int) ≤ 0), (by decide : (0 : Int) ≤ 1)⟩
theorem ins_rd (W : World) (f t : Int) (T : TypeId) (b : Nat) (h : b = W.heap.size) : Rd (W.alloc (.cells #[.int .i64 f, .int .i64 1, .int .i64 t, .int .i64 0] T)) (.slice (some ⟨b, 0, none⟩) 2 2) (insL f t) := by
  subst h
  refine ⟨_, _, rfl, Nat.le_refl _, by unfold maxLen; omega, fun _ => ⟨_, 0, rfl, by simp, fun i hi => ?_⟩⟩
  match i, hi with
  | 0, _ => exact ⟨by rw [World.cell?_alloc_at _ _ _ _ rfl]; rfl, by rw [World.cell?_alloc_at _ _ _ _ rfl]; rfl⟩
  | 1, _ => exact ⟨by rw [World.cell?_alloc_at _ _ _ _ rfl]; rfl, by rw [World.cell?_alloc_at _ _ _ _ rfl]; rfl⟩

set_option maxHeartbeats 1600000 in
set_option maxRecDepth 1000000 in
theorem checked_any (v : Value) (l : List St) (f t : Int) (w : World) (hl : l.length ≤ 2000000) (hR : Rd w v l) :
    Calls Try.prog 41 #[v, .agg #[.int .i64 f, .int .i64 t]] w fun e w' => e = .returned (.int .i64 (cE l f t)) ∧ Below w.heap.size w w' := by
  have V := Lib.hid (valid_any v l (w.alloc (.cells #[.int .i64 f, .int .i64 t] 35)) hl (hR.below (b_new _ _)))
  have HB := Lib.hid (b_new w (.cells #[.int .i64 f, .int .i64 t] 35))
  by_cases e : validE l = 0
  · have hv : cE l f t = if spB f t then 0 else 2 := if_pos e
    have HV := Lib.hid hv
    rw [e] at V
    clear e hR hv
    go_enter Try.func41, Try.ntmps41
    go_wp2_with fail
    refine V.out.mono ?_
    rintro e w1 ⟨rfl, h1⟩
    obtain ⟨hc, hf⟩ := bcell h1
    have H1 := Lib.hid (b2 HB.out h1)
    clear h1
    by_cases c1 : f < 0
    · have S := Lib.hid (show spB f t = false by unfold spB; simp; omega)
      go_wp2_with fail
      go_ret
      exact ⟨ret_int (by rw [HV.out, S.out]; rfl), H1.out⟩
    · by_cases c2 : t < f
      · have S := Lib.hid (show spB f t = false by unfold spB; simp; omega)
        go_wp2_with fail
        go_ret
        exact ⟨ret_int (by rw [HV.out, S.out]; rfl), H1.out⟩
      · by_cases c3 : 268435456 < t
        · have S := Lib.hid (show spB f t = false by unfold spB; simp; omega)
          go_wp2_with fail
          go_ret
          exact ⟨ret_int (by rw [HV.out, S.out]; rfl), H1.out⟩
        · have S := Lib.hid (show spB f t = true by unfold spB; simp; omega)
          go_wp2_with fail
          go_ret
          exact ⟨ret_int (by rw [HV.out, S.out]; rfl), H1.out⟩
  · have hv : cE l f t = validE l := if_neg e
    obtain ⟨E, hE⟩ : ∃ E, validE l = E := ⟨_, rfl⟩
    rw [hE] at hv V e
    have he : (E == 0) = false := by simpa using e
    have HV := Lib.hid hv
    clear hv e hE hR
    go_enter Try.func41, Try.ntmps41
    go_wp2_with fail
    refine V.out.mono ?_
    rintro e w1 ⟨rfl, h1⟩
    go_wp2_with fail
    go_ret
    exact ⟨ret_int HV.out.symm, b2 HB.out h1⟩

set_option maxHeartbeats 400000 in
theorem span_any (f t : Int) (w : World) : Calls Try.prog 43 #[.agg #[.int .i64 f, .int .i64 t]] w fun e w' => e = .returned (.bool (spB f t)) ∧ Below w.heap.size w w' := by
  have HB := Lib.hid (b_new w (.cells #[.int .i64 f, .int .i64 t] 35))
  by_cases c1 : 0 ≤ f
  · by_cases c2 : f ≤ t
    · have S := Lib.hid (show spB f t = decide (t ≤ 268435456) by unfold spB; simp [c1, c2])
      go_enter Try.func43, Try.ntmps43
      go_wp2
      go_ret
      exact ⟨ret_bool S.out.symm, HB.out⟩
    · have S := Lib.hid (show spB f t = false by unfold spB; simp [c1, c2])
      go_enter Try.func43, Try.ntmps43
      go_wp2
      go_ret
      exact ⟨ret_bool S.out.symm, HB.out⟩
  · have S := Lib.hid (show spB f t = false by unfold spB; simp [c1])
    go_enter Try.func43, Try.ntmps43
    go_wp2
    go_ret
    exact ⟨ret_bool S.out.symm, HB.out⟩

set_option maxHeartbeats 8000000 in
set_option maxRecDepth 1000000 in
theorem clip_any (v : Value) (l : List St) (f t : Int) (w : World) (hl : l.length ≤ 2000000) (hR : Rd w v l) :
    Calls Try.prog 23 #[v, .agg #[.int .i64 f, .int .i64 t]] w (GivesE w (clipL l f t) (clipE l f t)) := by
  have V := Lib.hid (checked_any v l f t (w.alloc (.cells #[.int .i64 f, .int .i64 t] 35)) hl (hR.below (b_new _ _)))
  have HB := Lib.hid (b_new w (.cells #[.int .i64 f, .int .i64 t] 35))
  have HR := Lib.hid hR
  by_cases e : cE l f t = 0
  · obtain ⟨ol, f0, ft, tm⟩ := cE_ok e
    have l1 := ol.len
    rw [e] at V
    by_cases hft : f = t
    · have hv : clipL l f t = [] := by unfold clipL; rw [if_pos e, if_pos hft]
      have hv2 : clipE l f t = 0 := by unfold clipE; rw [if_pos e, if_pos hft]
      have hft' : (f == t) = true := by simpa using hft
      have HV := Lib.hid hv
      have HV2 := Lib.hid hv2
      clear hv hv2 e hR hft
      go_enter Try.func23, Try.ntmps23
      go_wp2_with fail
      refine V.out.mono ?_
      rintro e w1 ⟨rfl, h1⟩
      obtain ⟨hc, hf⟩ := bcell h1
      have H1 := Lib.hid (b2 HB.out h1)
      clear h1
      go_wp2_with fail
      go_ret2
      exact ⟨.slice none 0 0, ret_e HV2.out.symm, by rw [HV.out]; exact Rd.nil _, H1.out⟩
    · have hv : clipL l f t = limL (combL fMul l (insL f t)) := by unfold clipL; rw [if_pos e, if_neg hft]
      have hv2 : clipE l f t = limE (combL fMul l (insL f t)) := by unfold clipE; rw [if_pos e, if_neg hft]
      have hft' : (f == t) = false := by simpa using hft
      have C := Lib.hid (fun W v1 v2 h1 h2 => combine_clip v1 v2 l (insL f t) W (by omega) (by simp [insL]) ol.bd (ins_bd f t) h1 h2)
      have hlen := combL_len fMul l (insL f t) ol.asc (ins_asc f0 (by omega))
      have h2 : (insL f t).length = 2 := rfl
      rw [h2] at hlen
      obtain ⟨r, hr⟩ : ∃ r, combL fMul l (insL f t) = r := ⟨_, rfl⟩
      rw [hr] at hv hv2 C hlen
      have HV := Lib.hid hv
      have HV2 := Lib.hid hv2
      clear hv hv2 e hR hft h2 hr
      go_enter Try.func23, Try.ntmps23
      go_wp2_with fail
      refine V.out.mono ?_
      rintro e w1 ⟨rfl, h1⟩
      obtain ⟨hc, hf⟩ := bcell h1
      have H1 := Lib.hid (b2 HB.out h1)
      have hsz := h1.size
      simp at hsz
      clear h1
      go_wp2_with fail
      refine (C.out _ _ _ (HR.out.below (b2 H1.out (b_new _ _))) (ins_rd _ _ _ _ _ rfl)).mono ?_
      rintro e w2 ⟨v2, rfl, hr2, h2⟩
      have H2 := Lib.hid (b2 (b2 H1.out (b_new _ _)) h2)
      have HL := Lib.hid (limited_any v2 r w2 (by omega) hr2)
      clear h2 hr2
      go_wp2_with fail
      refine HL.out.mono ?_
      rintro e w4 ⟨v', rfl, hr3, h4⟩
      go_wp2_with fail
      go_ret2
      exact ⟨v', ret_e HV2.out.symm, by rw [HV.out]; exact hr3, b2 H2.out h4⟩
  · have hv : clipL l f t = [] := if_neg e
    have hv2 : clipE l f t = cE l f t := if_neg e
    obtain ⟨E, hE⟩ : ∃ E, cE l f t = E := ⟨_, rfl⟩
    rw [hE] at hv2 V e
    have he : (E == 0) = false := by simpa using e
    have HV := Lib.hid hv
    have HV2 := Lib.hid hv2
    clear hv hv2 e hE hR
    go_enter Try.func23, Try.ntmps23
    go_wp2_with fail
    refine V.out.mono ?_
    rintro e w1 ⟨rfl, h1⟩
    go_wp2_with fail
    go_ret2
    exact ⟨.slice none 0 0, ret_e HV2.out.symm, by rw [HV.out]; exact Rd.nil _, b2 HB.out h1⟩
end Go.Proofs.Ytapfinnbfnhdbab
