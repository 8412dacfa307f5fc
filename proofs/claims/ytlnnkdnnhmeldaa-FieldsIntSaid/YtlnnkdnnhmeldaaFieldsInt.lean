/-
  The law FieldsInt holds: for every input it returns true and leaves its arguments as they were.
-/
import Derived.Test.YtlnnkdnnhmeldaaRows
import Derived.Test.YtlnnkdnnhmeldaaFiZb
import Derived.WalkKit
import Derived.BigQuiet
namespace Go.Proofs.Ytlnnkdnnhmeldaa
namespace fieldsInt
open Go.ChangeShapes Go.WideShapes Go.ChangeAt Go.RowKit
open IntWalk
set_option linter.unusedVariables false

set_option maxHeartbeats 8000000 in
set_option maxRecDepth 100000 in
theorem walk (n : Int) (w : World) (hb : -9223372036854775808 ≤ n ∧ n < 9223372036854775808) :
    Calls Try.prog 3 #[.int .i64 n] w fun e w' => e = .returned (.bool true) ∧ Below w.heap.size w w' := by
  have C1 := Lib.hid (putInt_run n w hb.1 hb.2)
  have C3 := Lib.hid (fun W => rputInt_run n W hb.1 hb.2)
  have HE := Lib.hid (intR_enc n hb.1 hb.2)
  have HL := Lib.hid (encI_ten n hb.1 hb.2)
  obtain ⟨E, hE⟩ : ∃ E, E = encI n := ⟨_, rfl⟩
  rw [← hE] at C1 C3 HE HL
  have hnn : (n == n) = true := by simp
  clear hE hb
  go_enter Try.func3, Try.ntmps3
  go_wp2_with fail
  refine C1.out.mono ?_
  rintro e w1 ⟨u1, rfl, o, b⟩
  have O1 := Lib.hid o.rd
  have B1 := Lib.hid b
  have C2 := Lib.hid (takeInt_run u1 E w1 o.rd (by have := HL.out; omega))
  rw [HE.out] at C2
  dsimp only at C2
  clear b C1 o
  go_wp2_with fail
  refine C2.out.mono ?_
  rintro e w2 ⟨rfl, b⟩
  have B2 := Lib.hid (bt B1.out b)
  have O2 := Lib.hid (O1.out.below b)
  clear b C2 B1 O1
  go_wp2_with fail
  refine (C3.out _).mono ?_
  rintro e w3 ⟨u3, rfl, o, b⟩
  have B3 := Lib.hid (bt B2.out b)
  have C4 := Lib.hid (equal_run u1 u3 E E w3 (O2.out.below b) o.rd)
  rw [decide_eq_true rfl] at C4
  clear b C3 B2 O2 o
  go_wp2_with fail
  refine C4.out.mono ?_
  rintro e w4 ⟨rfl, hw⟩
  have B4 := Lib.hid (bt B3.out (below_eq hw))
  clear hw C4 B3
  go_wp2_with fail
  refine (awake_run _).mono ?_
  rintro e wx ⟨rfl, gx⟩
  have BX := Lib.hid (bt B4.out gx)
  clear gx
  go_wp2_with fail
  go_ret
  exact ⟨rfl, BX.out⟩

set_option maxRecDepth 100000 in
theorem lifted (os : Os) (started : os.Started) (H : Type) (enc : TypeId × Value → H) :
    ReturnsInHanded {} Try.checked os 3 .any (Rows.fieldsIntSpec.pre6 enc Try.prog Try.f3 Rows.fieldsIntRow.domain false) (Rows.fieldsIntSpec.post enc Try.prog Try.f3 false true false false) := by
  refine returnsInHanded_of_change (C := Try.checked) own started (by kernel_rfl) Try.func3
    (ChangeSpec.witness6 (enc := enc) (C := Try.checked) false ⟨#[], #[.int .i64 0], []⟩ 8 (by kernel_rfl) (by kernel_rfl) (by kernel_rfl) (by kernel_rfl)) ?_
  intro W base args ds gs before hval0 hW hcnd _
  have hval : ∀ (j : Nat) t v, Try.f3.params[j]? = some t → args[j]? = some v → Value.okWide Try.prog W .any base t v := hval0
  have hW' := hW
  obtain ⟨p, q, hA0, hV, rfl, hfz, hnd⟩ := hW
  have hA : DataW.TrodAll enc Try.prog W 0 (fun _ => true) true Try.f3.params.toList args.toList ds p := hA0
  rw [Try.params3] at hA hval
  obtain ⟨v0, vs0, d0, ds0, p0, q0, hargs, rfl, rfl, h0, r0⟩ := trodAll_cons hA
  obtain ⟨rfl, rfl, rfl⟩ := trodAll_nil r0
  obtain rfl : args = #[v0] := by cases args; simp_all
  obtain ⟨rfl, rfl⟩ := trodVars_none hV
  have k0' := h0
  have lt0 : ∀ x ∈ p0, x.block < W.heap.size := by obtain ⟨m, hm⟩ := k0'; exact DataW.trod_lt m _ _ _ hm
  obtain ⟨n0, rfl, rfl, rfl, w0⟩ := open_int Try.underlying3 (hval 0 3 v0 rfl rfl) h0
  clear hA0 hval0
  simp only [List.append_nil] at hW'
  refine (walk n0 W (wf_i64 w0)).mono fun e W' ⟨he, bel⟩ => ?_
  subst he
  exact ⟨_, rfl, _, _, _, [], _, [], hW', trodAll_mk1 (shut_bool Try.underlying4 _), (trodAll_cons_mk (Below.trod laidOut (by kernel_rfl) (of_decide_eq_true (by kernel_rfl)) k0' bel lt0) trodAll_mk0), rfl, bel.frame _, fun h => by cases h⟩

theorem over : Rows.fieldsIntRow.holds Try.pinned (OpenSpec.ofChange Rows.fieldsIntSpec) :=
  OpenClaim.holds_of_wide 3 Try.f3 rfl rfl rfl rfl rfl rfl rfl ⟨rfl, rfl, rfl, rfl, rfl⟩ rfl rfl rfl rfl rfl (by kernel_rfl) Try.func3 (by kernel_rfl)
    (of_decide_eq_true (by kernel_rfl)) (by unfold Func.isWrapper; first | (rw [if_pos (by decide +kernel)]; kernel_rfl) | (rw [if_neg (by decide +kernel)]; exact ⟨rfl, rfl⟩))
    (fun os started H enc _ => lifted os started H enc)
end fieldsInt

theorem fieldsInt_holds : Rows.FieldsIntSaid := fieldsInt.over
#print axioms fieldsInt_holds
end Go.Proofs.Ytlnnkdnnhmeldaa
