/-
  The law FieldsBack holds: for every input it returns true and leaves its arguments as they were.
-/
import Derived.Test.YtlnnkdnnhmeldaaRows
import Derived.Test.YtlnnkdnnhmeldaaFiU
import Derived.WalkKit
import Derived.BigQuiet
namespace Go.Proofs.Ytlnnkdnnhmeldaa
namespace fieldsBack
open Go.ChangeShapes Go.WideShapes Go.ChangeAt Go.RowKit
open IntWalk
set_option linter.unusedVariables false

theorem dats_get {fs : List Fd} {f : Fd} (h : f ∈ fs) : f.2.length ≤ total (dats fs) := by
  obtain ⟨i, hi, rfl⟩ := List.getElem_of_mem h
  have := total_get (dats fs) i (by unfold dats; simpa using hi)
  have e : (dats fs)[i]'(by unfold dats; simpa using hi) = (fs[i]).2 := by unfold dats; simp
  rw [e] at this
  exact this
theorem list_get {ls : List (List UInt8)} {d : List UInt8} (h : d ∈ ls) : d.length ≤ total ls := by
  obtain ⟨i, hi, rfl⟩ := List.getElem_of_mem h
  exact total_get ls i hi
theorem take_of_put {fs : List Fd} (h : putE fs = 0) (ht : total (dats fs) ≤ 65536) : takR [] 0 (putB fs) = .ok fs := by
  have e : putB fs = encF fs := by unfold putB; rw [if_pos h]
  have hl := (put_tags h).1
  have hc : chkF 0 fs = 0 := by unfold putE at h; rw [if_neg (by omega)] at h; exact h
  rw [e]
  have := takR_enc fs [] 0 hc (by omega) (by simp; omega) (fun f hf => by have := dats_get hf; omega)
  rw [List.nil_append] at this
  exact this
theorem putB_len {fs : List Fd} (h : putE fs = 0) (ht : total (dats fs) ≤ 65536) : (putB fs).length ≤ 100000 := by
  have e : putB fs = encF fs := by unfold putB; rw [if_pos h]
  have ok := put_tags h
  have := encF_len fs (fun f hf => by have := ok.2 f hf; unfold okI; omega) (by omega)
  rw [e]
  omega
theorem take_of_list {ls : List (List UInt8)} (h : ¬ 256 < ls.length) (ht : total ls ≤ 65536) : lstR (putLB ls) = .ok ls ∧ (putLB ls).length ≤ 100000 := by
  have e : putLB ls = encL ls := by unfold putLB; rw [if_neg h]
  rw [e]
  refine ⟨lstR_enc ls (by omega) (fun d hd => by have := list_get hd; omega), ?_⟩
  rw [encL_is, List.length_append]
  have h1 := encI_ten (ls.length : Int) (by omega) (by omega)
  have h2 := encM_len ls (by omega)
  omega
set_option maxHeartbeats 8000000 in
set_option maxRecDepth 100000 in
theorem walk (v : Value) (fs : List Fd) (u : Value) (ls : List (List UInt8)) (w : World) (Rf : RdF w v fs) (Rl : RdP w u ls) :
    Calls Try.prog 10 #[v, u] w fun e w' => e = .returned (.bool true) ∧ Below w.heap.size w w' := by
  have RF := Lib.hid Rf
  have RL := Lib.hid Rl
  have D1 := Lib.hid (data_run v fs w Rf)
  have C2 := Lib.hid (fun W u2 (R : RdP W u2 (dats (fs.take 302))) => big_run u2 _ W R)
  rw [bigB_dats] at C2
  have C3 := Lib.hid (fun W (R : RdP W u ls) => big_run u ls W R)
  obtain ⟨pf, cf, psf, rfl, _, hmf, _, _, _⟩ := Rf
  obtain ⟨pl, cl, vsl, rfl, _, hml, _, _, _⟩ := Rl
  unfold maxLen at hmf hml
  by_cases hbf : bigB (dats fs) = true
  · rw [hbf] at C2
    clear C3 hbf
    go_enter Try.func10, Try.ntmps10
    go_wp2_with fail
    refine D1.out.mono ?_
    rintro e w1 ⟨u1, rfl, r1, b⟩
    have C2a := Lib.hid (C2.out _ _ r1)
    have B1 := Lib.hid b
    clear b D1 r1
    go_wp2_with fail
    refine C2a.out.mono ?_
    rintro e w2 ⟨rfl, hw⟩
    rw [hw]
    clear hw w2 C2 C2a
    go_wp2_with fail
    refine (awake_run _).mono ?_
    rintro e wx ⟨rfl, gx⟩
    have BX := Lib.hid (bt B1.out gx)
    clear gx
    go_wp2_with fail
    go_ret
    exact ⟨rfl, BX.out⟩
  · have hbf2 : bigB (dats fs) = false := by simpa using hbf
    rw [hbf2] at C2
    have tf := bigB_le hbf2
    have hfl : fs.length ≤ 300 := by have := tf.1; unfold dats at this; rw [List.length_map] at this; exact this
    have HT := Lib.hid tf.2
    clear hbf hbf2 tf
    by_cases hbl : bigB ls = true
    · rw [hbl] at C3
      clear hbl
      go_enter Try.func10, Try.ntmps10
      go_wp2_with fail
      refine D1.out.mono ?_
      rintro e w1 ⟨u1, rfl, r1, b⟩
      have C2a := Lib.hid (C2.out _ _ r1)
      have B1 := Lib.hid b
      clear b D1 r1
      go_wp2_with fail
      refine C2a.out.mono ?_
      rintro e w2 ⟨rfl, hw⟩
      rw [hw]
      clear hw w2 C2 C2a
      go_wp2_with fail
      refine (C3.out _ (RL.out.below B1.out)).mono ?_
      rintro e w2 ⟨rfl, hw⟩
      rw [hw]
      clear hw w2 C3
      go_wp2_with fail
      refine (awake_run _).mono ?_
      rintro e wx ⟨rfl, gx⟩
      have BX := Lib.hid (bt B1.out gx)
      clear gx
      go_wp2_with fail
      go_ret
      exact ⟨rfl, BX.out⟩
    · have hbl2 : bigB ls = false := by simpa using hbl
      rw [hbl2] at C3
      have tl := bigB_le hbl2
      have hll := tl.1
      have HTL := Lib.hid tl.2
      clear hbl hbl2 tl
      have C4 := Lib.hid (fun W (R : RdF W (.slice pf fs.length cf) fs) => put_run _ fs W R (by omega) (by have := HT.out; omega))
      have C7 := Lib.hid (fun W (R : RdP W (.slice pl ls.length cl) ls) => putList_run _ ls W R (by omega) (by have := HTL.out; omega))
      by_cases hz : putE fs = 0
      · rw [hz] at C4
        have HTK := Lib.hid (take_of_put hz HT.out)
        have HPL := Lib.hid (putB_len hz HT.out)
        obtain ⟨PB, hPB⟩ : ∃ PB, PB = putB fs := ⟨_, rfl⟩
        rw [← hPB] at C4 HTK HPL
        clear hPB hz
        go_enter Try.func10, Try.ntmps10
        go_wp2_with fail
        refine D1.out.mono ?_
        rintro e w1 ⟨u1, rfl, r1, b⟩
        have C2a := Lib.hid (C2.out _ _ r1)
        have B1 := Lib.hid b
        clear b D1 r1
        go_wp2_with fail
        refine C2a.out.mono ?_
        rintro e w2 ⟨rfl, hw⟩
        rw [hw]
        clear hw w2 C2 C2a
        go_wp2_with fail
        refine (C3.out _ (RL.out.below B1.out)).mono ?_
        rintro e w2 ⟨rfl, hw⟩
        rw [hw]
        clear hw w2 C3
        go_wp2_with fail
        refine (C4.out _ (RF.out.below B1.out)).mono ?_
        rintro e w3 ⟨u3, rfl, f3, b⟩
        have B3 := Lib.hid (bt B1.out b)
        have C5 := Lib.hid (take_run u3 PB w3 f3.rd (by have := HPL.out; omega))
        rw [HTK.out] at C5
        clear b C4 B1 f3
        have hk1 : kR (Except.ok fs : Except Int (List Fd)) = 0 := rfl
        go_wp2_with fail
        refine C5.out.mono ?_
        rintro e w4 ⟨u4, rfl, f4, b⟩
        have B4 := Lib.hid (bt B3.out b)
        have C6 := Lib.hid (sameFields_run u4 _ fs fs w4 (by omega) (show RdF w4 u4 fs from f4) (RF.out.below B4.out))
        clear b C5 B3 f4
        rw [decide_eq_true rfl] at C6
        go_wp2_with fail
        refine C6.out.mono ?_
        rintro e w5 ⟨rfl, q5, hw⟩
        have B5 := Lib.hid (bt B4.out (show Below w4.heap.size w4 w5 by rw [hw]; exact b_draws (Below.refl _ _) _))
        clear hw C6 B4
        go_wp2_with fail
        refine (C7.out _ (RL.out.below B5.out)).mono ?_
        rintro e w6 ⟨u6, rfl, f6, b⟩
        have B6 := Lib.hid (bt B5.out b)
        clear b C7 B5
        by_cases hlb : 256 < ls.length
        · have hk2 : putLK ls = 3 := by unfold putLK; rw [if_pos hlb]
          clear f6
          go_wp2_with fail
          go_ret
          exact ⟨by simp; omega, B6.out⟩
        · have hk2 : putLK ls = 0 := by unfold putLK; rw [if_neg hlb]
          have tk := take_of_list hlb HTL.out
          have C8 := Lib.hid (takeList_run u6 (putLB ls) w6 f6.rd (by have := tk.2; omega))
          rw [tk.1] at C8
          have hk3 : kR (Except.ok ls : Except Int (List (List UInt8))) = 0 := rfl
          clear tk f6
          go_wp2_with fail
          refine C8.out.mono ?_
          rintro e w7 ⟨u7, rfl, f7, b⟩
          have B7 := Lib.hid (bt B6.out b)
          have C9 := Lib.hid (sameLists_run u7 _ ls ls w7 (by omega) (show RdP w7 u7 ls from f7) (RL.out.below B7.out))
          clear b C8 B6 f7
          rw [decide_eq_true rfl] at C9
          go_wp2_with fail
          refine C9.out.mono ?_
          rintro e w8 ⟨rfl, q8, hw⟩
          have B8 := Lib.hid (bt B7.out (show Below w7.heap.size w7 w8 by rw [hw]; exact b_draws (Below.refl _ _) _))
          clear hw C9 B7
          go_wp2_with fail
          go_ret
          exact ⟨rfl, B8.out⟩
      · have hzz : (putE fs == 0) = false := by simpa using hz
        obtain ⟨Z, hZ⟩ : ∃ Z, Z = putE fs := ⟨_, rfl⟩
        rw [← hZ] at C4 hzz
        clear hz hZ
        go_enter Try.func10, Try.ntmps10
        go_wp2_with fail
        refine D1.out.mono ?_
        rintro e w1 ⟨u1, rfl, r1, b⟩
        have C2a := Lib.hid (C2.out _ _ r1)
        have B1 := Lib.hid b
        clear b D1 r1
        go_wp2_with fail
        refine C2a.out.mono ?_
        rintro e w2 ⟨rfl, hw⟩
        rw [hw]
        clear hw w2 C2 C2a
        go_wp2_with fail
        refine (C3.out _ (RL.out.below B1.out)).mono ?_
        rintro e w2 ⟨rfl, hw⟩
        rw [hw]
        clear hw w2 C3
        go_wp2_with fail
        refine (C4.out _ (RF.out.below B1.out)).mono ?_
        rintro e w3 ⟨u3, rfl, f3, b⟩
        have B5 := Lib.hid (bt B1.out b)
        clear b C4 B1 f3
        go_wp2_with fail
        refine (C7.out _ (RL.out.below B5.out)).mono ?_
        rintro e w6 ⟨u6, rfl, f6, b⟩
        have B6 := Lib.hid (bt B5.out b)
        clear b C7 B5
        by_cases hlb : 256 < ls.length
        · have hk2 : putLK ls = 3 := by unfold putLK; rw [if_pos hlb]
          clear f6
          go_wp2_with fail
          go_ret
          exact ⟨by simp; omega, B6.out⟩
        · have hk2 : putLK ls = 0 := by unfold putLK; rw [if_neg hlb]
          have tk := take_of_list hlb HTL.out
          have C8 := Lib.hid (takeList_run u6 (putLB ls) w6 f6.rd (by have := tk.2; omega))
          rw [tk.1] at C8
          have hk3 : kR (Except.ok ls : Except Int (List (List UInt8))) = 0 := rfl
          clear tk f6
          go_wp2_with fail
          refine C8.out.mono ?_
          rintro e w7 ⟨u7, rfl, f7, b⟩
          have B7 := Lib.hid (bt B6.out b)
          have C9 := Lib.hid (sameLists_run u7 _ ls ls w7 (by omega) (show RdP w7 u7 ls from f7) (RL.out.below B7.out))
          clear b C8 B6 f7
          rw [decide_eq_true rfl] at C9
          go_wp2_with fail
          refine C9.out.mono ?_
          rintro e w8 ⟨rfl, q8, hw⟩
          have B8 := Lib.hid (bt B7.out (show Below w7.heap.size w7 w8 by rw [hw]; exact b_draws (Below.refl _ _) _))
          clear hw C9 B7
          go_wp2_with fail
          go_ret
          exact ⟨rfl, B8.out⟩


set_option maxRecDepth 100000 in
theorem lifted (os : Os) (started : os.Started) (H : Type) (enc : TypeId × Value → H) :
    ReturnsInHanded {} Try.checked os 10 .any (Rows.fieldsBackSpec.pre6 enc Try.prog Try.f10 Rows.fieldsBackRow.domain false) (Rows.fieldsBackSpec.post enc Try.prog Try.f10 false true false false) := by
  refine returnsInHanded_of_change (C := Try.checked) own started (by kernel_rfl) Try.func10
    (ChangeSpec.witness6 (enc := enc) (C := Try.checked) false ⟨#[], #[.slice none 0 0, .slice none 0 0], []⟩ 8 (by kernel_rfl) (by kernel_rfl) (by kernel_rfl) (by kernel_rfl)) ?_
  intro W base args ds gs before hval0 hW hcnd _
  have hval : ∀ (j : Nat) t v, Try.f10.params[j]? = some t → args[j]? = some v → Value.okWide Try.prog W .any base t v := hval0
  have hW' := hW
  obtain ⟨p, q, hA0, hV, rfl, hfz, hnd⟩ := hW
  have hA : DataW.TrodAll enc Try.prog W 0 (fun _ => true) true Try.f10.params.toList args.toList ds p := hA0
  rw [Try.params10] at hA hval
  obtain ⟨v0, vs0, d0, ds0, p0, q0, hargs, rfl, rfl, h0, r0⟩ := trodAll_cons hA
  obtain ⟨v1, vs1, d1, ds1, p1, q1, rfl, rfl, rfl, h1, r1⟩ := trodAll_cons r0
  obtain ⟨rfl, rfl, rfl⟩ := trodAll_nil r1
  obtain rfl : args = #[v0, v1] := by cases args; simp_all
  obtain ⟨rfl, rfl⟩ := trodVars_none hV
  have k0' := h0
  have lt0 : ∀ x ∈ p0, x.block < W.heap.size := by obtain ⟨m, hm⟩ := k0'; exact DataW.trod_lt m _ _ _ hm
  have k1' := h1
  have lt1 : ∀ x ∈ p1, x.block < W.heap.size := by obtain ⟨m, hm⟩ := k1'; exact DataW.trod_lt m _ _ _ hm
  obtain ⟨a0, R0⟩ := fields_form (hval 0 31 v0 rfl rfl) h0
  obtain ⟨a1, R1⟩ := lists_form (hval 1 33 v1 rfl rfl) h1
  clear hA0 hval0
  simp only [List.append_nil] at hW'
  refine (walk v0 a0 v1 a1 W R0 R1).mono fun e W' ⟨he, bel⟩ => ?_
  subst he
  exact ⟨_, rfl, _, _, _, [], _, [], hW', trodAll_mk1 (shut_bool Try.underlying4 _), (trodAll_cons_mk (Below.trod laidOut (by kernel_rfl) (of_decide_eq_true (by kernel_rfl)) k0' bel lt0) (trodAll_cons_mk (Below.trod laidOut (by kernel_rfl) (of_decide_eq_true (by kernel_rfl)) k1' bel lt1) trodAll_mk0)), rfl, bel.frame _, fun h => by cases h⟩

theorem over : Rows.fieldsBackRow.holds Try.pinned (OpenSpec.ofChange Rows.fieldsBackSpec) :=
  OpenClaim.holds_of_wide 10 Try.f10 rfl rfl rfl rfl rfl rfl rfl ⟨rfl, rfl, rfl, rfl, rfl⟩ rfl rfl rfl rfl rfl (by kernel_rfl) Try.func10 (by kernel_rfl)
    (of_decide_eq_true (by kernel_rfl)) (by unfold Func.isWrapper; first | (rw [if_pos (by decide +kernel)]; kernel_rfl) | (rw [if_neg (by decide +kernel)]; exact ⟨rfl, rfl⟩))
    (fun os started H enc _ => lifted os started H enc)
end fieldsBack

theorem fieldsBack_holds : Rows.FieldsBackSaid := fieldsBack.over
#print axioms fieldsBack_holds
end Go.Proofs.Ytlnnkdnnhmeldaa
