/-
  The law FieldsGet holds: for every input it returns true and leaves its arguments as they were.
-/
import Derived.Test.YtlnnkdnnhmeldaaRows
import Derived.Test.YtlnnkdnnhmeldaaFiZd
import Derived.WalkKit
import Derived.BigQuiet
namespace Go.Proofs.Ytlnnkdnnhmeldaa
namespace fieldsGet
open Go.ChangeShapes Go.WideShapes Go.ChangeAt Go.RowKit
open IntWalk
set_option linter.unusedVariables false

set_option maxHeartbeats 16000000 in
set_option maxRecDepth 100000 in
theorem walk (v : Value) (fs : List Fd) (n : Int) (w : World) (Rf : RdF w v fs) (hb : -9223372036854775808 ≤ n ∧ n < 9223372036854775808) :
    Calls Try.prog 7 #[v, .int .i64 n] w fun e w' => e = .returned (.bool true) ∧ Below w.heap.size w w' := by
  have RF := Lib.hid Rf
  have D1 := Lib.hid (data_run v fs w Rf)
  have C2 := Lib.hid (fun W u2 (R : RdP W u2 (dats (fs.take 302))) => big_run u2 _ W R)
  rw [bigB_dats] at C2
  obtain ⟨pf, cf, psf, rfl, _, hmf, _, _, _⟩ := Rf
  unfold maxLen at hmf
  by_cases hbf : bigB (dats fs) = true
  · rw [hbf] at C2
    clear hbf
    go_enter Try.func7, Try.ntmps7
    go_wp2_with fail
    refine D1.out.mono ?_
    rintro e w1 ⟨u1, rfl, r1, b⟩
    have C2a := Lib.hid (C2.out _ _ r1)
    have B1 := Lib.hid b
    clear b D1 r1
    go_wp2_with fail
    refine C2a.out.mono ?_
    rintro e w2 ⟨rfl, hw⟩
    rw [hw]
    clear hw w2 C2 C2a
    go_wp2_with fail
    refine (awake_run _).mono ?_
    rintro e wx ⟨rfl, gx⟩
    have BX := Lib.hid (bt B1.out gx)
    clear gx
    go_wp2_with fail
    go_ret
    exact ⟨rfl, BX.out⟩
  · have hbf2 : bigB (dats fs) = false := by simpa using hbf
    rw [hbf2] at C2
    have tf := bigB_le hbf2
    have hfl : fs.length ≤ 300 := by have := tf.1; unfold dats at this; rw [List.length_map] at this; exact this
    have C4 := Lib.hid (fun W (R : RdF W (.slice pf fs.length cf) fs) => get_run _ fs n W R (by omega) (by omega))
    have C5 := Lib.hid (fun W (B : Below w.heap.size w W) => rget_later _ fs n w W RF.out B (by omega))
    unfold GivesGet at C4
    obtain ⟨l, hl⟩ : ∃ l, l = (getR fs n).getD [] := ⟨_, rfl⟩
    obtain ⟨S, hS⟩ : ∃ S, S = (getR fs n).isSome := ⟨_, rfl⟩
    rw [← hS, ← hl] at C4
    rw [← hS, ← hl] at C5
    have hSS : (S != S) = false := by simp
    clear hl hS hbf hbf2 tf hb
    go_enter Try.func7, Try.ntmps7
    go_wp2_with fail
    refine D1.out.mono ?_
    rintro e w1 ⟨u1, rfl, r1, b⟩
    have C2a := Lib.hid (C2.out _ _ r1)
    have B1 := Lib.hid b
    clear b D1 r1
    go_wp2_with fail
    refine C2a.out.mono ?_
    rintro e w2 ⟨rfl, hw⟩
    rw [hw]
    clear hw w2 C2 C2a
    go_wp2_with fail
    refine (C4.out _ (RF.out.below B1.out)).mono ?_
    rintro e w3 ⟨u3, rfl, f3, b⟩
    have B3 := Lib.hid (bt B1.out b)
    have F3 := Lib.hid (f3.down (base' := w.heap.size) B1.out.size)
    clear b B1 f3
    go_wp2_with fail
    refine (C5.out _ B3.out).mono ?_
    rintro e w4 ⟨u4, rfl, r4, hw⟩
    rw [hw]
    have R4 := Lib.hid r4
    have C6 := Lib.hid (equal_run u3 u4 l l w3 F3.out.rd (r4.below B3.out))
    rw [decide_eq_true rfl] at C6
    have hl3 := rd_len F3.out.rd
    unfold maxLen at hl3
    clear hw w4 C5 r4
    go_wp2_with fail
    refine C6.out.mono ?_
    rintro e w5 ⟨rfl, hw⟩
    rw [← hw]
    clear hw C6 w5
    obtain ⟨p3, c3, rfl, _, _, _⟩ := F3.out
    go_wp2_with fail
    go_loopw [39] (fun i wr => ∃ j : Nat, j ≤ l.length ∧ i = .int .i64 j ∧ Hid (Fr wr w.heap.size (.slice p3 l.length c3) (bump l j)) ∧ Hid (Below w.heap.size w wr)) (fun i _ => l.length - (intOf i).toNat)
    case atStart => exact ⟨0, Nat.zero_le _, rfl, Lib.hid (by rw [bump_zero]; exact F3.out), B3⟩
    case round =>
      obtain ⟨j, hj, rfl, HF, HW⟩ := hrel
      clear F3 B3
      by_cases hlt : j < l.length
      · have hbl := bump_len l j hj
        have hf := HF.out
        rw [← hbl] at hf
        have hj2 : j < (bump l j).length := by rw [hbl]; exact hlt
        obtain ⟨g, o, cc, he, _, _⟩ := fr_form hf (fun z => by rw [z] at hj2; exact absurd hj2 (Nat.not_lt_zero _))
        injection he with he1 _ _
        subst he1
        have fs2 := fr_set hf j hj2 (l[j] + 1)
        rw [bump_get l j hlt hj2, bump_step l j hlt, hbl] at fs2
        obtain ⟨x1, x2, hg, hF2⟩ := fs2
        have hW := bv_succ l[j]
        unfold bv at x1 hF2
        obtain ⟨X, hX⟩ : ∃ X, X = ((l[j].toNat : Nat) : Int) := ⟨_, rfl⟩
        obtain ⟨Y, hY⟩ : ∃ Y, Y = (((l[j] + 1).toNat : Nat) : Int) := ⟨_, rfl⟩
        rw [← hX] at x1 hW
        rw [← hY] at hF2 hW
        have F2 := Lib.hid hF2
        have W2 := Lib.hid (HW.out.setCell (p := ⟨g, o + j, none⟩) hg (.int .u8 Y))
        clear hF2 hX hY hf hbl hj2 hg HF HW
        go_wp2_with fail
        refine ⟨⟨j + 1, hlt, by go_num, F2, W2⟩, by simp [intOf]; omega⟩
      · obtain rfl : j = l.length := by omega
        have RB := Lib.hid HF.out.rd
        go_wp2_with fail
        refine (C4.out _ (RF.out.below HW.out)).mono ?_
        rintro e w6 ⟨u6, rfl, f6, b⟩
        have B6 := Lib.hid (HW.out.trans (b.mono HW.out.size))
        have C7 := Lib.hid (equal_run u6 u4 l l w6 f6.rd (R4.out.below B6.out))
        rw [decide_eq_true rfl] at C7
        have C8 := Lib.hid (equal_run u6 (.slice p3 l.length c3) l (bump l l.length) w6 f6.rd (RB.out.below b))
        clear b f6 C4 HF HW RB
        go_wp2_with fail
        refine C7.out.mono ?_
        rintro e w7 ⟨rfl, hw⟩
        rw [← hw]
        clear hw C7 w7
        by_cases hz : l.length = 0
        · have hzz : (((l.length : Nat) : Int) == 0) = true := by rw [hz]; rfl
          clear C8 hz
          go_wp2_with fail
          refine (awake_run _).mono ?_
          rintro e wx ⟨rfl, gx⟩
          have BX := Lib.hid (bt B6.out gx)
          clear gx
          go_wp2_with fail
          go_ret
          exact ⟨rfl, BX.out⟩
        · have hzz : (((l.length : Nat) : Int) == 0) = false := by rw [beq_eq_false_iff_ne]; omega
          rw [decide_eq_false (bump_ne l (fun z => hz (by rw [z]; rfl)))] at C8
          clear hz
          go_wp2_with fail
          refine C8.out.mono ?_
          rintro e w8 ⟨rfl, hw⟩
          rw [← hw]
          clear hw C8 w8
          go_wp2_with fail
          refine (awake_run _).mono ?_
          rintro e wx ⟨rfl, gx⟩
          have BX := Lib.hid (bt B6.out gx)
          clear gx
          go_wp2_with fail
          go_ret
          exact ⟨rfl, BX.out⟩

set_option maxRecDepth 100000 in
theorem lifted (os : Os) (started : os.Started) (H : Type) (enc : TypeId × Value → H) :
    ReturnsInHanded {} Try.checked os 7 .any (Rows.fieldsGetSpec.pre6 enc Try.prog Try.f7 Rows.fieldsGetRow.domain false) (Rows.fieldsGetSpec.post enc Try.prog Try.f7 false true false false) := by
  refine returnsInHanded_of_change (C := Try.checked) own started (by kernel_rfl) Try.func7
    (ChangeSpec.witness6 (enc := enc) (C := Try.checked) false ⟨#[], #[.slice none 0 0, .int .i64 0], []⟩ 8 (by kernel_rfl) (by kernel_rfl) (by kernel_rfl) (by kernel_rfl)) ?_
  intro W base args ds gs before hval0 hW hcnd _
  have hval : ∀ (j : Nat) t v, Try.f7.params[j]? = some t → args[j]? = some v → Value.okWide Try.prog W .any base t v := hval0
  have hW' := hW
  obtain ⟨p, q, hA0, hV, rfl, hfz, hnd⟩ := hW
  have hA : DataW.TrodAll enc Try.prog W 0 (fun _ => true) true Try.f7.params.toList args.toList ds p := hA0
  rw [Try.params7] at hA hval
  obtain ⟨v0, vs0, d0, ds0, p0, q0, hargs, rfl, rfl, h0, r0⟩ := trodAll_cons hA
  obtain ⟨v1, vs1, d1, ds1, p1, q1, rfl, rfl, rfl, h1, r1⟩ := trodAll_cons r0
  obtain ⟨rfl, rfl, rfl⟩ := trodAll_nil r1
  obtain rfl : args = #[v0, v1] := by cases args; simp_all
  obtain ⟨rfl, rfl⟩ := trodVars_none hV
  have k0' := h0
  have lt0 : ∀ x ∈ p0, x.block < W.heap.size := by obtain ⟨m, hm⟩ := k0'; exact DataW.trod_lt m _ _ _ hm
  have k1' := h1
  have lt1 : ∀ x ∈ p1, x.block < W.heap.size := by obtain ⟨m, hm⟩ := k1'; exact DataW.trod_lt m _ _ _ hm
  obtain ⟨a0, R0⟩ := fields_form (hval 0 31 v0 rfl rfl) h0
  obtain ⟨n1, rfl, rfl, rfl, w1⟩ := open_int Try.underlying3 (hval 1 3 v1 rfl rfl) h1
  clear hA0 hval0
  simp only [List.append_nil] at hW'
  refine (walk v0 a0 n1 W R0 (wf_i64 w1)).mono fun e W' ⟨he, bel⟩ => ?_
  subst he
  exact ⟨_, rfl, _, _, _, [], _, [], hW', trodAll_mk1 (shut_bool Try.underlying4 _), (trodAll_cons_mk (Below.trod laidOut (by kernel_rfl) (of_decide_eq_true (by kernel_rfl)) k0' bel lt0) (trodAll_cons_mk (Below.trod laidOut (by kernel_rfl) (of_decide_eq_true (by kernel_rfl)) k1' bel lt1) trodAll_mk0)), rfl, bel.frame _, fun h => by cases h⟩

theorem over : Rows.fieldsGetRow.holds Try.pinned (OpenSpec.ofChange Rows.fieldsGetSpec) :=
  OpenClaim.holds_of_wide 7 Try.f7 rfl rfl rfl rfl rfl rfl rfl ⟨rfl, rfl, rfl, rfl, rfl⟩ rfl rfl rfl rfl rfl (by kernel_rfl) Try.func7 (by kernel_rfl)
    (of_decide_eq_true (by kernel_rfl)) (by unfold Func.isWrapper; first | (rw [if_pos (by decide +kernel)]; kernel_rfl) | (rw [if_neg (by decide +kernel)]; exact ⟨rfl, rfl⟩))
    (fun os started H enc _ => lifted os started H enc)
end fieldsGet

theorem fieldsGet_holds : Rows.FieldsGetSaid := fieldsGet.over
#print axioms fieldsGet_holds
end Go.Proofs.Ytlnnkdnnhmeldaa
