/-
  The law IdentMake holds: for every input it returns true and leaves its arguments as they were.
-/
import Derived.Test.YtkimniggdnlliaaRows
import Derived.Test.YtkimniggdnlliaaWalksJ
import Derived.WalkKit
import Derived.ProofKit
import Derived.OpenShut
import Derived.ShutString
import Derived.ChangeOld
import Derived.Below
namespace Go.Proofs.Ytkimniggdnlliaa
namespace identMake
open Go.ChangeShapes Go.WideShapes Go.ChangeAt Go.RowKit
open Go.ChangeMaps (open_string shut_string)
open Plain
set_option linter.unusedVariables false


theorem own : ownKnob Try.prog.godebug = none := by kernel_rfl

theorem walk (a0 : ByteArray) (a1 : ByteArray) (a2 : ByteArray) (w : World) (w0 : a0.size ≤ maxLen) (w1 : a1.size ≤ maxLen) (w2 : a2.size ≤ maxLen) :
    Calls Try.prog 5 #[.string a0, .string a1, .string a2] w fun e w' => e = .returned (.bool true) ∧ Below w.heap.size w w' := by
  have hS := w0; have hS1 := w1; have hS2 := w2
  unfold maxLen at hS hS1 hS2
  by_cases h : a0.size ≤ 4096
  · by_cases h1 : a1.size ≤ 4096
    · by_cases h2 : a2.size ≤ 4096
      · have M1 := Lib.hid (fun W => make_any a0 a1 a2 W w0 w1 w2)
        have M2 := Lib.hid (fun W => refMake_any a0 a1 a2 W w0 w1 w2)
        clear w0 w1 w2
        go_enter Try.func5, Try.ntmps5
        go_wp2_with fail
        refine (M1.out _).mono ?_
        rintro e u1 ⟨rfl, g1⟩
        go_wp2_with fail
        refine (M2.out _).mono ?_
        rintro e u2 ⟨rfl, g2⟩
        go_wp2_with fail
        refine (example_any _).mono ?_
        rintro e wx ⟨rfl, gx⟩
        go_wp2_with fail
        go_ret
        exact ⟨rfl, b2 (b2 g1 g2) gx⟩
      · have hb : 4096 < a2.size := by omega
        clear h2
        go_enter Try.func5, Try.ntmps5
        go_wp2_with fail
        refine (example_any _).mono ?_
        rintro e wx ⟨rfl, gx⟩
        go_wp2_with fail
        go_ret
        exact ⟨rfl, gx⟩
    · have hb : 4096 < a1.size := by omega
      clear h1
      go_enter Try.func5, Try.ntmps5
      go_wp2_with fail
      refine (example_any _).mono ?_
      rintro e wx ⟨rfl, gx⟩
      go_wp2_with fail
      go_ret
      exact ⟨rfl, gx⟩
  · have hb : 4096 < a0.size := by omega
    clear h
    go_enter Try.func5, Try.ntmps5
    go_wp2_with fail
    refine (example_any _).mono ?_
    rintro e wx ⟨rfl, gx⟩
    go_wp2_with fail
    go_ret
    exact ⟨rfl, gx⟩


set_option maxRecDepth 100000 in
theorem lifted (os : Os) (started : os.Started) (H : Type) (enc : TypeId × Value → H) :
    ReturnsInHanded {} Try.checked os 5 .any (Rows.identMakeSpec.pre6 enc Try.prog Try.f5 Rows.identMakeRow.domain false) (Rows.identMakeSpec.post enc Try.prog Try.f5 false true false false) := by
  refine returnsInHanded_of_change (C := Try.checked) own started (by kernel_rfl) Try.func5
    (ChangeSpec.witness6 (enc := enc) (C := Try.checked) false ⟨#[], #[.string ByteArray.empty, .string ByteArray.empty, .string ByteArray.empty], []⟩ 8 (by kernel_rfl) (by kernel_rfl) (by kernel_rfl) (by kernel_rfl)) ?_
  intro W base args ds gs before hval0 hW hcnd _
  have hval : ∀ (j : Nat) t v, Try.f5.params[j]? = some t → args[j]? = some v → Value.okWide Try.prog W .any base t v := hval0
  have hW' := hW
  obtain ⟨p, q, hA0, hV, rfl, hfz, hnd⟩ := hW
  have hA : DataW.TrodAll enc Try.prog W 0 (fun _ => true) true Try.f5.params.toList args.toList ds p := hA0
  rw [Try.params5] at hA hval
  obtain ⟨v0, vs0, d0, ds0, p0, q0, hargs, rfl, rfl, h0, r0⟩ := trodAll_cons hA
  obtain ⟨v1, vs1, d1, ds1, p1, q1, rfl, rfl, rfl, h1, r1⟩ := trodAll_cons r0
  obtain ⟨v2, vs2, d2, ds2, p2, q2, rfl, rfl, rfl, h2, r2⟩ := trodAll_cons r1
  obtain ⟨rfl, rfl, rfl⟩ := trodAll_nil r2
  obtain rfl : args = #[v0, v1, v2] := by cases args; simp_all
  obtain ⟨rfl, rfl⟩ := trodVars_none hV
  obtain ⟨a0, rfl, rfl, rfl, w0⟩ := open_string Try.underlying9 (hval 0 9 v0 rfl rfl) h0
  obtain ⟨a1, rfl, rfl, rfl, w1⟩ := open_string Try.underlying9 (hval 1 9 v1 rfl rfl) h1
  obtain ⟨a2, rfl, rfl, rfl, w2⟩ := open_string Try.underlying9 (hval 2 9 v2 rfl rfl) h2
  clear hA0 hval0
  simp only [List.append_nil] at hW'
  refine (walk a0 a1 a2 W w0 w1 w2).mono fun e W' ⟨he, bel⟩ => ?_
  subst he
  exact ⟨_, rfl, _, _, _, [], [], [], hW', trodAll_mk1 (shut_bool Try.underlying4 _), (trodAll_cons_mk (shut_string Try.underlying9 w0) (trodAll_cons_mk (shut_string Try.underlying9 w1) (trodAll_cons_mk (shut_string Try.underlying9 w2) trodAll_mk0))), rfl, bel.frame _, fun h => by cases h⟩

theorem over : Rows.identMakeRow.holds Try.pinned (OpenSpec.ofChange Rows.identMakeSpec) :=
  OpenClaim.holds_of_wide 5 Try.f5 rfl rfl rfl rfl rfl rfl rfl ⟨rfl, rfl, rfl, rfl, rfl⟩ rfl rfl rfl rfl rfl (by kernel_rfl) Try.func5 (by kernel_rfl)
    (of_decide_eq_true (by kernel_rfl)) (by unfold Func.isWrapper; first | (rw [if_pos (by decide +kernel)]; kernel_rfl) | (rw [if_neg (by decide +kernel)]; exact ⟨rfl, rfl⟩))
    (fun os started H enc _ => lifted os started H enc)
end identMake

theorem identMake_holds : Rows.IdentMakeSaid := identMake.over
#print axioms identMake_holds
end Go.Proofs.Ytkimniggdnlliaa
