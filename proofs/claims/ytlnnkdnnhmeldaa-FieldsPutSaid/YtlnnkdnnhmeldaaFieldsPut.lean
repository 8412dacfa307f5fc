/-
  The law FieldsPut holds: for every input it returns true and leaves its arguments as they were.
-/
import Derived.Test.YtlnnkdnnhmeldaaRows
import Derived.Test.YtlnnkdnnhmeldaaFiZc
import Derived.WalkKit
import Derived.BigQuiet
namespace Go.Proofs.Ytlnnkdnnhmeldaa
namespace fieldsPut
open Go.ChangeShapes Go.WideShapes Go.ChangeAt Go.RowKit
open IntWalk
set_option linter.unusedVariables false

set_option maxHeartbeats 8000000 in
set_option maxRecDepth 100000 in
theorem walk (v : Value) (fs : List Fd) (w : World) (Rf : RdF w v fs) :
    Calls Try.prog 5 #[v] w fun e w' => e = .returned (.bool true) ∧ Below w.heap.size w w' := by
  have RF := Lib.hid Rf
  have D1 := Lib.hid (data_run v fs w Rf)
  have C2 := Lib.hid (fun W u2 (R : RdP W u2 (dats (fs.take 302))) => big_run u2 _ W R)
  rw [bigB_dats] at C2
  obtain ⟨pf, cf, psf, rfl, _, hmf, _, _, _⟩ := Rf
  unfold maxLen at hmf
  by_cases hbf : bigB (dats fs) = true
  · rw [hbf] at C2
    clear hbf
    go_enter Try.func5, Try.ntmps5
    go_wp2_with fail
    refine D1.out.mono ?_
    rintro e w1 ⟨u1, rfl, r1, b⟩
    have C2a := Lib.hid (C2.out _ _ r1)
    have B1 := Lib.hid b
    clear b D1 r1
    go_wp2_with fail
    refine C2a.out.mono ?_
    rintro e w2 ⟨rfl, hw⟩
    rw [hw]
    clear hw w2 C2 C2a
    go_wp2_with fail
    refine (awake_run _).mono ?_
    rintro e wx ⟨rfl, gx⟩
    have BX := Lib.hid (bt B1.out gx)
    clear gx
    go_wp2_with fail
    go_ret
    exact ⟨rfl, BX.out⟩
  · have hbf2 : bigB (dats fs) = false := by simpa using hbf
    rw [hbf2] at C2
    have tf := bigB_le hbf2
    have hfl : fs.length ≤ 300 := by have := tf.1; unfold dats at this; rw [List.length_map] at this; exact this
    have C4 := Lib.hid (fun W (R : RdF W (.slice pf fs.length cf) fs) => put_run _ fs W R (by omega) (by omega))
    have C5 := Lib.hid (fun W (R : RdF W (.slice pf fs.length cf) fs) => rput_run _ fs W R (by omega) (by omega))
    obtain ⟨k, hk⟩ : ∃ k, k = putE fs := ⟨_, rfl⟩
    obtain ⟨E, hE⟩ : ∃ E, E = putB fs := ⟨_, rfl⟩
    rw [← hk, ← hE] at C4
    rw [← hk, ← hE] at C5
    unfold GivesB at C4 C5
    have hkk : (k == k) = true := by simp
    clear hk hE hbf hbf2 tf
    go_enter Try.func5, Try.ntmps5
    go_wp2_with fail
    refine D1.out.mono ?_
    rintro e w1 ⟨u1, rfl, r1, b⟩
    have C2a := Lib.hid (C2.out _ _ r1)
    have B1 := Lib.hid b
    clear b D1 r1
    go_wp2_with fail
    refine C2a.out.mono ?_
    rintro e w2 ⟨rfl, hw⟩
    rw [hw]
    clear hw w2 C2 C2a
    go_wp2_with fail
    refine (C4.out _ (RF.out.below B1.out)).mono ?_
    rintro e w3 ⟨u3, rfl, f, b⟩
    have F3 := Lib.hid f.rd
    have B3 := Lib.hid (bt B1.out b)
    clear f b C4 B1
    go_wp2_with fail
    refine (C5.out _ (RF.out.below B3.out)).mono ?_
    rintro e w4 ⟨u4, rfl, f, b⟩
    have B4 := Lib.hid (bt B3.out b)
    have C6 := Lib.hid (equal_run u3 u4 E E w4 (F3.out.below b) f.rd)
    rw [decide_eq_true rfl] at C6
    clear b C5 f F3 B3
    go_wp2_with fail
    refine C6.out.mono ?_
    rintro e w5 ⟨rfl, hw⟩
    have B5 := Lib.hid (bt B4.out (below_eq hw))
    clear hw C6 B4
    go_wp2_with fail
    refine (awake_run _).mono ?_
    rintro e wx ⟨rfl, gx⟩
    have BX := Lib.hid (bt B5.out gx)
    clear gx
    go_wp2_with fail
    go_ret
    exact ⟨rfl, BX.out⟩

set_option maxRecDepth 100000 in
theorem lifted (os : Os) (started : os.Started) (H : Type) (enc : TypeId × Value → H) :
    ReturnsInHanded {} Try.checked os 5 .any (Rows.fieldsPutSpec.pre6 enc Try.prog Try.f5 Rows.fieldsPutRow.domain false) (Rows.fieldsPutSpec.post enc Try.prog Try.f5 false true false false) := by
  refine returnsInHanded_of_change (C := Try.checked) own started (by kernel_rfl) Try.func5
    (ChangeSpec.witness6 (enc := enc) (C := Try.checked) false ⟨#[], #[.slice none 0 0], []⟩ 8 (by kernel_rfl) (by kernel_rfl) (by kernel_rfl) (by kernel_rfl)) ?_
  intro W base args ds gs before hval0 hW hcnd _
  have hval : ∀ (j : Nat) t v, Try.f5.params[j]? = some t → args[j]? = some v → Value.okWide Try.prog W .any base t v := hval0
  have hW' := hW
  obtain ⟨p, q, hA0, hV, rfl, hfz, hnd⟩ := hW
  have hA : DataW.TrodAll enc Try.prog W 0 (fun _ => true) true Try.f5.params.toList args.toList ds p := hA0
  rw [Try.params5] at hA hval
  obtain ⟨v0, vs0, d0, ds0, p0, q0, hargs, rfl, rfl, h0, r0⟩ := trodAll_cons hA
  obtain ⟨rfl, rfl, rfl⟩ := trodAll_nil r0
  obtain rfl : args = #[v0] := by cases args; simp_all
  obtain ⟨rfl, rfl⟩ := trodVars_none hV
  have k0' := h0
  have lt0 : ∀ x ∈ p0, x.block < W.heap.size := by obtain ⟨m, hm⟩ := k0'; exact DataW.trod_lt m _ _ _ hm
  obtain ⟨a0, R0⟩ := fields_form (hval 0 31 v0 rfl rfl) h0
  clear hA0 hval0
  simp only [List.append_nil] at hW'
  refine (walk v0 a0 W R0).mono fun e W' ⟨he, bel⟩ => ?_
  subst he
  exact ⟨_, rfl, _, _, _, [], _, [], hW', trodAll_mk1 (shut_bool Try.underlying4 _), (trodAll_cons_mk (Below.trod laidOut (by kernel_rfl) (of_decide_eq_true (by kernel_rfl)) k0' bel lt0) trodAll_mk0), rfl, bel.frame _, fun h => by cases h⟩

theorem over : Rows.fieldsPutRow.holds Try.pinned (OpenSpec.ofChange Rows.fieldsPutSpec) :=
  OpenClaim.holds_of_wide 5 Try.f5 rfl rfl rfl rfl rfl rfl rfl ⟨rfl, rfl, rfl, rfl, rfl⟩ rfl rfl rfl rfl rfl (by kernel_rfl) Try.func5 (by kernel_rfl)
    (of_decide_eq_true (by kernel_rfl)) (by unfold Func.isWrapper; first | (rw [if_pos (by decide +kernel)]; kernel_rfl) | (rw [if_neg (by decide +kernel)]; exact ⟨rfl, rfl⟩))
    (fun os started H enc _ => lifted os started H enc)
end fieldsPut

theorem fieldsPut_holds : Rows.FieldsPutSaid := fieldsPut.over
#print axioms fieldsPut_holds
end Go.Proofs.Ytlnnkdnnhmeldaa
