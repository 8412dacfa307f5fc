/-
  The law FieldsTakeList holds: for every input it returns true and leaves its arguments as they were.
-/
import Derived.Test.YtlnnkdnnhmeldaaRows
import Derived.Test.YtlnnkdnnhmeldaaFiZb
import Derived.WalkKit
import Derived.BigQuiet
namespace Go.Proofs.Ytlnnkdnnhmeldaa
namespace fieldsTakeList
open Go.ChangeShapes Go.WideShapes Go.ChangeAt Go.RowKit
open IntWalk
set_option linter.unusedVariables false

theorem okl (a : List UInt8) : (okL (lstR a)).length ≤ 256 := by
  rcases h : lstR a with k | ls
  · exact Nat.zero_le _
  · exact (lstR_back a ls h).1
set_option maxHeartbeats 8000000 in
set_option maxRecDepth 100000 in
theorem walk (v : Value) (a : List UInt8) (w : World) (Ra : RdB w v a) :
    Calls Try.prog 9 #[v] w fun e w' => e = .returned (.bool true) ∧ Below w.heap.size w w' := by
  have la := rd_len Ra
  unfold maxLen at la
  by_cases ha : a.length ≤ 65536
  · have RA := Lib.hid Ra
    have C1 := Lib.hid (takeList_run v a w Ra (by omega))
    have C2 := Lib.hid (fun W (R : RdB W v a) => rtakeList_run v a W R (by omega))
    have HL := Lib.hid (okl a)
    obtain ⟨pa, ca, rfl, _, _, _⟩ := Ra
    obtain ⟨k, hk⟩ : ∃ k, k = kR (lstR a) := ⟨_, rfl⟩
    obtain ⟨fs, hf⟩ : ∃ fs, fs = okL (lstR a) := ⟨_, rfl⟩
    unfold GivesP at C1 C2
    rw [← hk, ← hf] at C1
    rw [← hk, ← hf] at C2
    rw [← hf] at HL
    have hkk : (k == k) = true := by simp
    clear hk hf
    go_enter Try.func9, Try.ntmps9
    go_wp2_with fail
    refine C1.out.mono ?_
    rintro e w1 ⟨u1, rfl, f, b⟩
    have B1 := Lib.hid b
    have F1 := Lib.hid f
    clear b C1 f
    go_wp2_with fail
    refine (C2.out _ (RA.out.below B1.out)).mono ?_
    rintro e w2 ⟨u2, rfl, f, b⟩
    have B2 := Lib.hid (bt B1.out b)
    have C3 := Lib.hid (sameLists_run u1 u2 fs fs w2 (by have := HL.out; omega) (F1.out.below b) f)
    rw [decide_eq_true rfl] at C3
    clear b C2 f F1 B1
    go_wp2_with fail
    refine C3.out.mono ?_
    rintro e w3 ⟨rfl, q3, hw⟩
    have B3 := Lib.hid (bt B2.out (show Below w2.heap.size w2 w3 by rw [hw]; exact b_draws (Below.refl _ _) _))
    clear hw C3 B2
    go_wp2_with fail
    refine (awake_run _).mono ?_
    rintro e wx ⟨rfl, gx⟩
    have BX := Lib.hid (bt B3.out gx)
    clear gx
    go_wp2_with fail
    go_ret
    exact ⟨rfl, BX.out⟩
  · have ha : 65536 < a.length := by omega
    obtain ⟨pa, ca, rfl, _, _, _⟩ := Ra
    go_enter Try.func9, Try.ntmps9
    go_wp2_with fail
    refine (awake_run _).mono ?_
    rintro e wx ⟨rfl, gx⟩
    go_wp2_with fail
    go_ret
    exact ⟨rfl, gx⟩

set_option maxRecDepth 100000 in
theorem lifted (os : Os) (started : os.Started) (H : Type) (enc : TypeId × Value → H) :
    ReturnsInHanded {} Try.checked os 9 .any (Rows.fieldsTakeListSpec.pre6 enc Try.prog Try.f9 Rows.fieldsTakeListRow.domain false) (Rows.fieldsTakeListSpec.post enc Try.prog Try.f9 false true false false) := by
  refine returnsInHanded_of_change (C := Try.checked) own started (by kernel_rfl) Try.func9
    (ChangeSpec.witness6 (enc := enc) (C := Try.checked) false ⟨#[], #[.slice none 0 0], []⟩ 8 (by kernel_rfl) (by kernel_rfl) (by kernel_rfl) (by kernel_rfl)) ?_
  intro W base args ds gs before hval0 hW hcnd _
  have hval : ∀ (j : Nat) t v, Try.f9.params[j]? = some t → args[j]? = some v → Value.okWide Try.prog W .any base t v := hval0
  have hW' := hW
  obtain ⟨p, q, hA0, hV, rfl, hfz, hnd⟩ := hW
  have hA : DataW.TrodAll enc Try.prog W 0 (fun _ => true) true Try.f9.params.toList args.toList ds p := hA0
  rw [Try.params9] at hA hval
  obtain ⟨v0, vs0, d0, ds0, p0, q0, hargs, rfl, rfl, h0, r0⟩ := trodAll_cons hA
  obtain ⟨rfl, rfl, rfl⟩ := trodAll_nil r0
  obtain rfl : args = #[v0] := by cases args; simp_all
  obtain ⟨rfl, rfl⟩ := trodVars_none hV
  have k0' := h0
  have lt0 : ∀ x ∈ p0, x.block < W.heap.size := by obtain ⟨m, hm⟩ := k0'; exact DataW.trod_lt m _ _ _ hm
  obtain ⟨a0, R0⟩ := bytes_form (hval 0 22 v0 rfl rfl) h0
  clear hA0 hval0
  simp only [List.append_nil] at hW'
  refine (walk v0 a0 W R0).mono fun e W' ⟨he, bel⟩ => ?_
  subst he
  exact ⟨_, rfl, _, _, _, [], _, [], hW', trodAll_mk1 (shut_bool Try.underlying4 _), (trodAll_cons_mk (Below.trod laidOut (by kernel_rfl) (of_decide_eq_true (by kernel_rfl)) k0' bel lt0) trodAll_mk0), rfl, bel.frame _, fun h => by cases h⟩

theorem over : Rows.fieldsTakeListRow.holds Try.pinned (OpenSpec.ofChange Rows.fieldsTakeListSpec) :=
  OpenClaim.holds_of_wide 9 Try.f9 rfl rfl rfl rfl rfl rfl rfl ⟨rfl, rfl, rfl, rfl, rfl⟩ rfl rfl rfl rfl rfl (by kernel_rfl) Try.func9 (by kernel_rfl)
    (of_decide_eq_true (by kernel_rfl)) (by unfold Func.isWrapper; first | (rw [if_pos (by decide +kernel)]; kernel_rfl) | (rw [if_neg (by decide +kernel)]; exact ⟨rfl, rfl⟩))
    (fun os started H enc _ => lifted os started H enc)
end fieldsTakeList

theorem fieldsTakeList_holds : Rows.FieldsTakeListSaid := fieldsTakeList.over
#print axioms fieldsTakeList_holds
end Go.Proofs.Ytlnnkdnnhmeldaa
