/-
  The law FieldsList holds: for every input it returns true and leaves its arguments as they were.
-/
import Derived.Test.YtlnnkdnnhmeldaaRows
import Derived.Test.YtlnnkdnnhmeldaaFiZb
import Derived.WalkKit
import Derived.BigQuiet
namespace Go.Proofs.Ytlnnkdnnhmeldaa
namespace fieldsList
open Go.ChangeShapes Go.WideShapes Go.ChangeAt Go.RowKit
open IntWalk
set_option linter.unusedVariables false

set_option maxHeartbeats 8000000 in
set_option maxRecDepth 100000 in
theorem walk (u : Value) (ls : List (List UInt8)) (w : World) (Rl : RdP w u ls) :
    Calls Try.prog 8 #[u] w fun e w' => e = .returned (.bool true) ∧ Below w.heap.size w w' := by
  have RL := Lib.hid Rl
  have C0 := Lib.hid (big_run u ls w Rl)
  obtain ⟨pl, cl, vsl, rfl, _, hml, _, _, _⟩ := Rl
  unfold maxLen at hml
  by_cases hbl : bigB ls = true
  · rw [hbl] at C0
    clear hbl
    go_enter Try.func8, Try.ntmps8
    go_wp2_with fail
    refine C0.out.mono ?_
    rintro e w2 ⟨rfl, hw⟩
    rw [hw]
    clear hw w2 C0
    go_wp2_with fail
    refine (awake_run _).mono ?_
    rintro e wx ⟨rfl, gx⟩
    go_wp2_with fail
    go_ret
    exact ⟨rfl, gx⟩
  · have hbl2 : bigB ls = false := by simpa using hbl
    rw [hbl2] at C0
    have tl := bigB_le hbl2
    have C1 := Lib.hid (fun W (R : RdP W (.slice pl ls.length cl) ls) => putList_run _ ls W R (by omega) (by omega))
    have C2 := Lib.hid (fun W (R : RdP W (.slice pl ls.length cl) ls) => rputList_run _ ls W R (by omega) (by omega))
    obtain ⟨k, hk⟩ : ∃ k, k = putLK ls := ⟨_, rfl⟩
    obtain ⟨E, hE⟩ : ∃ E, E = putLB ls := ⟨_, rfl⟩
    rw [← hk, ← hE] at C1
    rw [← hk, ← hE] at C2
    unfold GivesB at C1 C2
    have hkk : (k == k) = true := by simp
    clear hk hE hbl hbl2 tl
    go_enter Try.func8, Try.ntmps8
    go_wp2_with fail
    refine C0.out.mono ?_
    rintro e w2 ⟨rfl, hw⟩
    rw [hw]
    clear hw w2 C0
    go_wp2_with fail
    refine (C1.out _ RL.out).mono ?_
    rintro e w1 ⟨u1, rfl, f, b⟩
    have F1 := Lib.hid f.rd
    have B1 := Lib.hid b
    clear f b C1
    go_wp2_with fail
    refine (C2.out _ (RL.out.below B1.out)).mono ?_
    rintro e w2 ⟨u2, rfl, f, b⟩
    have B2 := Lib.hid (bt B1.out b)
    have C3 := Lib.hid (equal_run u1 u2 E E w2 (F1.out.below b) f.rd)
    rw [decide_eq_true rfl] at C3
    clear b C2 f F1 B1
    go_wp2_with fail
    refine C3.out.mono ?_
    rintro e w3 ⟨rfl, hw⟩
    have B3 := Lib.hid (bt B2.out (below_eq hw))
    clear hw C3 B2
    go_wp2_with fail
    refine (awake_run _).mono ?_
    rintro e wx ⟨rfl, gx⟩
    have BX := Lib.hid (bt B3.out gx)
    clear gx
    go_wp2_with fail
    go_ret
    exact ⟨rfl, BX.out⟩

set_option maxRecDepth 100000 in
theorem lifted (os : Os) (started : os.Started) (H : Type) (enc : TypeId × Value → H) :
    ReturnsInHanded {} Try.checked os 8 .any (Rows.fieldsListSpec.pre6 enc Try.prog Try.f8 Rows.fieldsListRow.domain false) (Rows.fieldsListSpec.post enc Try.prog Try.f8 false true false false) := by
  refine returnsInHanded_of_change (C := Try.checked) own started (by kernel_rfl) Try.func8
    (ChangeSpec.witness6 (enc := enc) (C := Try.checked) false ⟨#[], #[.slice none 0 0], []⟩ 8 (by kernel_rfl) (by kernel_rfl) (by kernel_rfl) (by kernel_rfl)) ?_
  intro W base args ds gs before hval0 hW hcnd _
  have hval : ∀ (j : Nat) t v, Try.f8.params[j]? = some t → args[j]? = some v → Value.okWide Try.prog W .any base t v := hval0
  have hW' := hW
  obtain ⟨p, q, hA0, hV, rfl, hfz, hnd⟩ := hW
  have hA : DataW.TrodAll enc Try.prog W 0 (fun _ => true) true Try.f8.params.toList args.toList ds p := hA0
  rw [Try.params8] at hA hval
  obtain ⟨v0, vs0, d0, ds0, p0, q0, hargs, rfl, rfl, h0, r0⟩ := trodAll_cons hA
  obtain ⟨rfl, rfl, rfl⟩ := trodAll_nil r0
  obtain rfl : args = #[v0] := by cases args; simp_all
  obtain ⟨rfl, rfl⟩ := trodVars_none hV
  have k0' := h0
  have lt0 : ∀ x ∈ p0, x.block < W.heap.size := by obtain ⟨m, hm⟩ := k0'; exact DataW.trod_lt m _ _ _ hm
  obtain ⟨a0, R0⟩ := lists_form (hval 0 33 v0 rfl rfl) h0
  clear hA0 hval0
  simp only [List.append_nil] at hW'
  refine (walk v0 a0 W R0).mono fun e W' ⟨he, bel⟩ => ?_
  subst he
  exact ⟨_, rfl, _, _, _, [], _, [], hW', trodAll_mk1 (shut_bool Try.underlying4 _), (trodAll_cons_mk (Below.trod laidOut (by kernel_rfl) (of_decide_eq_true (by kernel_rfl)) k0' bel lt0) trodAll_mk0), rfl, bel.frame _, fun h => by cases h⟩

theorem over : Rows.fieldsListRow.holds Try.pinned (OpenSpec.ofChange Rows.fieldsListSpec) :=
  OpenClaim.holds_of_wide 8 Try.f8 rfl rfl rfl rfl rfl rfl rfl ⟨rfl, rfl, rfl, rfl, rfl⟩ rfl rfl rfl rfl rfl (by kernel_rfl) Try.func8 (by kernel_rfl)
    (of_decide_eq_true (by kernel_rfl)) (by unfold Func.isWrapper; first | (rw [if_pos (by decide +kernel)]; kernel_rfl) | (rw [if_neg (by decide +kernel)]; exact ⟨rfl, rfl⟩))
    (fun os started H enc _ => lifted os started H enc)
end fieldsList

theorem fieldsList_holds : Rows.FieldsListSaid := fieldsList.over
#print axioms fieldsList_holds
end Go.Proofs.Ytlnnkdnnhmeldaa
