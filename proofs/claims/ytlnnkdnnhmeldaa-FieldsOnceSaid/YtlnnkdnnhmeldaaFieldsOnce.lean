/-
  The law FieldsOnce holds: for every input it returns true and leaves its arguments as they were.
-/
import Derived.Test.YtlnnkdnnhmeldaaRows
import Derived.Test.YtlnnkdnnhmeldaaFiU
import Derived.WalkKit
import Derived.BigQuiet
namespace Go.Proofs.Ytlnnkdnnhmeldaa
namespace fieldsOnce
open Go.ChangeShapes Go.WideShapes Go.ChangeAt Go.RowKit
open IntWalk
set_option linter.unusedVariables false

theorem total_encF (fs : List Fd) : total (dats fs) ≤ (encF fs).length := by
  induction fs with
  | nil => simp [total, dats]
  | cons f fs ih =>
    have e : encF (f :: fs) = (encI f.1 ++ (encI f.2.length ++ f.2)) ++ encF fs := rfl
    have e2 : dats (f :: fs) = f.2 :: dats fs := rfl
    rw [e, e2, total_cons]
    simp only [List.length_append]
    omega
theorem total_encM (ls : List (List UInt8)) : total ls ≤ (encM ls).length := by
  induction ls with
  | nil => simp [total]
  | cons d ls ih =>
    have e : encM (d :: ls) = (encI d.length ++ d) ++ encM ls := rfl
    rw [e, total_cons]
    simp only [List.length_append]
    omega
theorem put_of_take {a : List UInt8} {fs : List Fd} (h : takR [] 0 a = .ok fs) : putE fs = 0 ∧ putB fs = a ∧ fs.length ≤ 256 ∧ total (dats fs) ≤ a.length := by
  obtain ⟨gs, e1, e2, e3, e4⟩ := takR_back a.length a (Nat.le_refl _) [] 0 fs (by simp) h
  rw [List.nil_append] at e1
  subst e1
  have hE : putE fs = 0 := by unfold putE; rw [if_neg (by omega)]; exact e3
  exact ⟨hE, by unfold putB; rw [if_pos hE, e2], e4, by rw [e2]; exact total_encF fs⟩
theorem list_of_take {a : List UInt8} {ls : List (List UInt8)} (h : lstR a = .ok ls) : putLK ls = 0 ∧ putLB ls = a ∧ ls.length ≤ 256 ∧ total ls ≤ a.length := by
  obtain ⟨e1, e2⟩ := lstR_back a ls h
  have hn : ¬ 256 < ls.length := by omega
  exact ⟨by unfold putLK; rw [if_neg hn], by unfold putLB; rw [if_neg hn, e2], e1, by rw [e2, encL_is]; have := total_encM ls; rw [List.length_append]; omega⟩
set_option maxHeartbeats 8000000 in
set_option maxRecDepth 100000 in
theorem walk (v : Value) (a : List UInt8) (w : World) (Ra : RdB w v a) :
    Calls Try.prog 11 #[v] w fun e w' => e = .returned (.bool true) ∧ Below w.heap.size w w' := by
  have la := rd_len Ra
  unfold maxLen at la
  by_cases ha : a.length ≤ 65536
  · have RA := Lib.hid Ra
    have HL := Lib.hid (show a.length ≤ 100000 by omega)
    have C1 := Lib.hid (takeInt_run v a w Ra (by omega))
    have C4 := Lib.hid (fun W (R : RdB W v a) => take_run v a W R (by omega))
    have C7 := Lib.hid (fun W (R : RdB W v a) => takeList_run v a W R (by omega))
    obtain ⟨pa, ca, rfl, _, _, _⟩ := Ra
    rcases hi : intR a with ⟨n, k⟩
    have HI := Lib.hid hi
    rw [hi] at C1
    dsimp only at C1
    clear hi
    by_cases hk : k = 0
    · subst hk
      have hb := intR_back a n HI.out
      have C2 := Lib.hid (fun W => putInt_run n W hb.1 hb.2.1)
      rw [← hb.2.2] at C2
      clear hb
      go_enter Try.func11, Try.ntmps11
      go_wp2_with fail
      refine C1.out.mono ?_
      rintro e w1 ⟨rfl, b⟩
      have B1 := Lib.hid b
      clear b C1
      go_wp2_with fail
      refine (C2.out _).mono ?_
      rintro e w2 ⟨u2, rfl, o2, b⟩
      have B2 := Lib.hid (bt B1.out b)
      have C3 := Lib.hid (equal_run u2 _ a a w2 o2.rd (RA.out.below B2.out))
      clear b C2 B1 o2
      rw [decide_eq_true rfl] at C3
      go_wp2_with fail
      refine C3.out.mono ?_
      rintro e w3 ⟨rfl, hw⟩
      have B3 := Lib.hid (bt B2.out (below_eq hw))
      clear hw C3 B2
      go_wp2_with fail
      refine (C4.out _ (RA.out.below B3.out)).mono ?_
      rintro e w4 ⟨u4, rfl, f4, b⟩
      have B4 := Lib.hid (bt B3.out b)
      clear b C4 B3
      rcases ht : takR [] 0 a with k4 | fs
      · have hk4 : kR (Except.error k4 : Except Int (List Fd)) = k4 := rfl
        have hk5 : (k4 == 0) = false := by simpa using takR_err a.length a (Nat.le_refl _) [] 0 k4 ht
        clear f4
        go_wp2_with fail
        have B6 := B4
        refine (C7.out _ (RA.out.below B6.out)).mono ?_
        rintro e w7 ⟨u7, rfl, f7, b⟩
        have B7 := Lib.hid (bt B6.out b)
        clear b C7 B6
        rcases ht : lstR a with k7 | ls
        · have hk7 : kR (Except.error k7 : Except Int (List (List UInt8))) = k7 := rfl
          have hk8 : (k7 == 0) = false := by simpa using lstR_err a k7 ht
          clear f7
          go_wp2_with fail
          go_ret
          exact ⟨rfl, B7.out⟩
        · have hk7 : kR (Except.ok ls : Except Int (List (List UInt8))) = 0 := rfl
          rw [ht] at f7
          have pt := list_of_take ht
          have C8 := Lib.hid (putList_run u7 ls w7 (show RdP w7 u7 ls from f7) (by omega) (Nat.le_trans pt.2.2.2 HL.out))
          rw [pt.1, pt.2.1] at C8
          clear f7 pt ht
          go_wp2_with fail
          refine C8.out.mono ?_
          rintro e w8 ⟨u8, rfl, f8, b⟩
          have B8 := Lib.hid (bt B7.out b)
          have C9 := Lib.hid (equal_run u8 _ a a w8 f8.rd (RA.out.below B8.out))
          clear b C8 B7 f8
          rw [decide_eq_true rfl] at C9
          go_wp2_with fail
          refine C9.out.mono ?_
          rintro e w9 ⟨rfl, hw⟩
          have B9 := Lib.hid (bt B8.out (below_eq hw))
          clear hw C9 B8
          go_wp2_with fail
          go_ret
          exact ⟨rfl, B9.out⟩
      · have hk4 : kR (Except.ok fs : Except Int (List Fd)) = 0 := rfl
        rw [ht] at f4
        have pt := put_of_take ht
        have C5 := Lib.hid (put_run u4 fs w4 (show RdF w4 u4 fs from f4) (by omega) (Nat.le_trans pt.2.2.2 HL.out))
        rw [pt.1, pt.2.1] at C5
        clear f4 pt ht
        go_wp2_with fail
        refine C5.out.mono ?_
        rintro e w5 ⟨u5, rfl, f5, b⟩
        have B5 := Lib.hid (bt B4.out b)
        have C6 := Lib.hid (equal_run u5 _ a a w5 f5.rd (RA.out.below B5.out))
        clear b C5 B4 f5
        rw [decide_eq_true rfl] at C6
        go_wp2_with fail
        refine C6.out.mono ?_
        rintro e w6 ⟨rfl, hw⟩
        have B6 := Lib.hid (bt B5.out (below_eq hw))
        clear hw C6 B5
        go_wp2_with fail
        refine (C7.out _ (RA.out.below B6.out)).mono ?_
        rintro e w7 ⟨u7, rfl, f7, b⟩
        have B7 := Lib.hid (bt B6.out b)
        clear b C7 B6
        rcases ht : lstR a with k7 | ls
        · have hk7 : kR (Except.error k7 : Except Int (List (List UInt8))) = k7 := rfl
          have hk8 : (k7 == 0) = false := by simpa using lstR_err a k7 ht
          clear f7
          go_wp2_with fail
          go_ret
          exact ⟨rfl, B7.out⟩
        · have hk7 : kR (Except.ok ls : Except Int (List (List UInt8))) = 0 := rfl
          rw [ht] at f7
          have pt := list_of_take ht
          have C8 := Lib.hid (putList_run u7 ls w7 (show RdP w7 u7 ls from f7) (by omega) (Nat.le_trans pt.2.2.2 HL.out))
          rw [pt.1, pt.2.1] at C8
          clear f7 pt ht
          go_wp2_with fail
          refine C8.out.mono ?_
          rintro e w8 ⟨u8, rfl, f8, b⟩
          have B8 := Lib.hid (bt B7.out b)
          have C9 := Lib.hid (equal_run u8 _ a a w8 f8.rd (RA.out.below B8.out))
          clear b C8 B7 f8
          rw [decide_eq_true rfl] at C9
          go_wp2_with fail
          refine C9.out.mono ?_
          rintro e w9 ⟨rfl, hw⟩
          have B9 := Lib.hid (bt B8.out (below_eq hw))
          clear hw C9 B8
          go_wp2_with fail
          go_ret
          exact ⟨rfl, B9.out⟩
    · have hk2 : (k == 0) = false := by simpa using hk
      clear hk
      go_enter Try.func11, Try.ntmps11
      go_wp2_with fail
      refine C1.out.mono ?_
      rintro e w3 ⟨rfl, b⟩
      have B3 := Lib.hid b
      clear b C1
      go_wp2_with fail
      refine (C4.out _ (RA.out.below B3.out)).mono ?_
      rintro e w4 ⟨u4, rfl, f4, b⟩
      have B4 := Lib.hid (bt B3.out b)
      clear b C4 B3
      rcases ht : takR [] 0 a with k4 | fs
      · have hk4 : kR (Except.error k4 : Except Int (List Fd)) = k4 := rfl
        have hk5 : (k4 == 0) = false := by simpa using takR_err a.length a (Nat.le_refl _) [] 0 k4 ht
        clear f4
        go_wp2_with fail
        have B6 := B4
        refine (C7.out _ (RA.out.below B6.out)).mono ?_
        rintro e w7 ⟨u7, rfl, f7, b⟩
        have B7 := Lib.hid (bt B6.out b)
        clear b C7 B6
        rcases ht : lstR a with k7 | ls
        · have hk7 : kR (Except.error k7 : Except Int (List (List UInt8))) = k7 := rfl
          have hk8 : (k7 == 0) = false := by simpa using lstR_err a k7 ht
          clear f7
          go_wp2_with fail
          go_ret
          exact ⟨rfl, B7.out⟩
        · have hk7 : kR (Except.ok ls : Except Int (List (List UInt8))) = 0 := rfl
          rw [ht] at f7
          have pt := list_of_take ht
          have C8 := Lib.hid (putList_run u7 ls w7 (show RdP w7 u7 ls from f7) (by omega) (Nat.le_trans pt.2.2.2 HL.out))
          rw [pt.1, pt.2.1] at C8
          clear f7 pt ht
          go_wp2_with fail
          refine C8.out.mono ?_
          rintro e w8 ⟨u8, rfl, f8, b⟩
          have B8 := Lib.hid (bt B7.out b)
          have C9 := Lib.hid (equal_run u8 _ a a w8 f8.rd (RA.out.below B8.out))
          clear b C8 B7 f8
          rw [decide_eq_true rfl] at C9
          go_wp2_with fail
          refine C9.out.mono ?_
          rintro e w9 ⟨rfl, hw⟩
          have B9 := Lib.hid (bt B8.out (below_eq hw))
          clear hw C9 B8
          go_wp2_with fail
          go_ret
          exact ⟨rfl, B9.out⟩
      · have hk4 : kR (Except.ok fs : Except Int (List Fd)) = 0 := rfl
        rw [ht] at f4
        have pt := put_of_take ht
        have C5 := Lib.hid (put_run u4 fs w4 (show RdF w4 u4 fs from f4) (by omega) (Nat.le_trans pt.2.2.2 HL.out))
        rw [pt.1, pt.2.1] at C5
        clear f4 pt ht
        go_wp2_with fail
        refine C5.out.mono ?_
        rintro e w5 ⟨u5, rfl, f5, b⟩
        have B5 := Lib.hid (bt B4.out b)
        have C6 := Lib.hid (equal_run u5 _ a a w5 f5.rd (RA.out.below B5.out))
        clear b C5 B4 f5
        rw [decide_eq_true rfl] at C6
        go_wp2_with fail
        refine C6.out.mono ?_
        rintro e w6 ⟨rfl, hw⟩
        have B6 := Lib.hid (bt B5.out (below_eq hw))
        clear hw C6 B5
        go_wp2_with fail
        refine (C7.out _ (RA.out.below B6.out)).mono ?_
        rintro e w7 ⟨u7, rfl, f7, b⟩
        have B7 := Lib.hid (bt B6.out b)
        clear b C7 B6
        rcases ht : lstR a with k7 | ls
        · have hk7 : kR (Except.error k7 : Except Int (List (List UInt8))) = k7 := rfl
          have hk8 : (k7 == 0) = false := by simpa using lstR_err a k7 ht
          clear f7
          go_wp2_with fail
          go_ret
          exact ⟨rfl, B7.out⟩
        · have hk7 : kR (Except.ok ls : Except Int (List (List UInt8))) = 0 := rfl
          rw [ht] at f7
          have pt := list_of_take ht
          have C8 := Lib.hid (putList_run u7 ls w7 (show RdP w7 u7 ls from f7) (by omega) (Nat.le_trans pt.2.2.2 HL.out))
          rw [pt.1, pt.2.1] at C8
          clear f7 pt ht
          go_wp2_with fail
          refine C8.out.mono ?_
          rintro e w8 ⟨u8, rfl, f8, b⟩
          have B8 := Lib.hid (bt B7.out b)
          have C9 := Lib.hid (equal_run u8 _ a a w8 f8.rd (RA.out.below B8.out))
          clear b C8 B7 f8
          rw [decide_eq_true rfl] at C9
          go_wp2_with fail
          refine C9.out.mono ?_
          rintro e w9 ⟨rfl, hw⟩
          have B9 := Lib.hid (bt B8.out (below_eq hw))
          clear hw C9 B8
          go_wp2_with fail
          go_ret
          exact ⟨rfl, B9.out⟩
  · have ha : 65536 < a.length := by omega
    obtain ⟨pa, ca, rfl, _, _, _⟩ := Ra
    go_enter Try.func11, Try.ntmps11
    go_wp2_with fail
    refine (awake_run _).mono ?_
    rintro e wx ⟨rfl, gx⟩
    go_wp2_with fail
    go_ret
    exact ⟨rfl, gx⟩


set_option maxRecDepth 100000 in
theorem lifted (os : Os) (started : os.Started) (H : Type) (enc : TypeId × Value → H) :
    ReturnsInHanded {} Try.checked os 11 .any (Rows.fieldsOnceSpec.pre6 enc Try.prog Try.f11 Rows.fieldsOnceRow.domain false) (Rows.fieldsOnceSpec.post enc Try.prog Try.f11 false true false false) := by
  refine returnsInHanded_of_change (C := Try.checked) own started (by kernel_rfl) Try.func11
    (ChangeSpec.witness6 (enc := enc) (C := Try.checked) false ⟨#[], #[.slice none 0 0], []⟩ 8 (by kernel_rfl) (by kernel_rfl) (by kernel_rfl) (by kernel_rfl)) ?_
  intro W base args ds gs before hval0 hW hcnd _
  have hval : ∀ (j : Nat) t v, Try.f11.params[j]? = some t → args[j]? = some v → Value.okWide Try.prog W .any base t v := hval0
  have hW' := hW
  obtain ⟨p, q, hA0, hV, rfl, hfz, hnd⟩ := hW
  have hA : DataW.TrodAll enc Try.prog W 0 (fun _ => true) true Try.f11.params.toList args.toList ds p := hA0
  rw [Try.params11] at hA hval
  obtain ⟨v0, vs0, d0, ds0, p0, q0, hargs, rfl, rfl, h0, r0⟩ := trodAll_cons hA
  obtain ⟨rfl, rfl, rfl⟩ := trodAll_nil r0
  obtain rfl : args = #[v0] := by cases args; simp_all
  obtain ⟨rfl, rfl⟩ := trodVars_none hV
  have k0' := h0
  have lt0 : ∀ x ∈ p0, x.block < W.heap.size := by obtain ⟨m, hm⟩ := k0'; exact DataW.trod_lt m _ _ _ hm
  obtain ⟨a0, R0⟩ := bytes_form (hval 0 22 v0 rfl rfl) h0
  clear hA0 hval0
  simp only [List.append_nil] at hW'
  refine (walk v0 a0 W R0).mono fun e W' ⟨he, bel⟩ => ?_
  subst he
  exact ⟨_, rfl, _, _, _, [], _, [], hW', trodAll_mk1 (shut_bool Try.underlying4 _), (trodAll_cons_mk (Below.trod laidOut (by kernel_rfl) (of_decide_eq_true (by kernel_rfl)) k0' bel lt0) trodAll_mk0), rfl, bel.frame _, fun h => by cases h⟩

theorem over : Rows.fieldsOnceRow.holds Try.pinned (OpenSpec.ofChange Rows.fieldsOnceSpec) :=
  OpenClaim.holds_of_wide 11 Try.f11 rfl rfl rfl rfl rfl rfl rfl ⟨rfl, rfl, rfl, rfl, rfl⟩ rfl rfl rfl rfl rfl (by kernel_rfl) Try.func11 (by kernel_rfl)
    (of_decide_eq_true (by kernel_rfl)) (by unfold Func.isWrapper; first | (rw [if_pos (by decide +kernel)]; kernel_rfl) | (rw [if_neg (by decide +kernel)]; exact ⟨rfl, rfl⟩))
    (fun os started H enc _ => lifted os started H enc)
end fieldsOnce

theorem fieldsOnce_holds : Rows.FieldsOnceSaid := fieldsOnce.over
#print axioms fieldsOnce_holds
end Go.Proofs.Ytlnnkdnnhmeldaa
