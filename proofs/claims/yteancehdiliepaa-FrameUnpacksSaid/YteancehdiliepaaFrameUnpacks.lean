/-
  The law FrameUnpacks holds: for every input it returns true and leaves its arguments as they were.
-/
import Derived.Test.YteancehdiliepaaRows
import Derived.Test.YteancehdiliepaaFrP
import Derived.WalkKit
import Derived.BigQuiet
namespace Go.Proofs.Yteancehdiliepaa
namespace frameUnpacks
open Go.ChangeShapes Go.WideShapes Go.ChangeAt Go.RowKit
open IntWalk
set_option linter.unusedVariables false

set_option maxHeartbeats 4000000 in
set_option maxRecDepth 100000 in
theorem walk (v0 : Value) (a : List UInt8) (w : World) (Ra : RdB w v0 a) :
    Calls Try.prog 5 #[v0] w fun e w' => e = .returned (.bool true) ∧ Below w.heap.size w w' := by
  have la := rd_len Ra
  unfold maxLen at la
  by_cases ha : a.length ≤ 300
  · skip
    have C1 := Lib.hid (unpack_run v0 a w (by omega) Ra)
    have C2 := Lib.hid (fun W (h : Below w.heap.size w W) => runpack_run v0 a W (by omega) (Ra.below h))
    cases hr : unR a with
    | error k =>
      rw [hr] at C1 C2
      have k0 := unR_ne a k hr
      have kk : (k != k) = false := by simp
      have SN := Lib.hid (fun W => same_run (.slice none 0 0) (.slice none 0 0) [] [] W (rdB_nil W) (rdB_nil W))
      rw [decide_eq_true rfl] at SN
      obtain ⟨pa, ca, rfl, _, _, _⟩ := Ra
      go_enter Try.func5, Try.ntmps5
      go_wp2_with fail
      refine C1.out.mono ?_
      rintro e u1 ⟨rfl, g1⟩
      have G1 := Lib.hid g1
      clear g1
      go_wp2_with fail
      refine (C2.out _ G1.out).mono ?_
      rintro e u2 ⟨rfl, g2⟩
      have G2 := Lib.hid (bt G1.out g2)
      clear g2
      go_wp2_with fail
      refine (SN.out _).mono ?_
      rintro e u3 ⟨rfl, rfl⟩
      go_wp2_with fail
      refine (awake_run _).mono ?_
      rintro e wx ⟨rfl, gx⟩
      go_wp2_with fail
      go_ret
      exact ⟨rfl, bt G2.out gx⟩
    | ok p =>
      rw [hr] at C1 C2
      obtain ⟨hp, hf⟩ := unR_back a p hr
      have RA := Lib.hid Ra
      obtain ⟨pa, ca, rfl, _, _, _⟩ := Ra
      go_enter Try.func5, Try.ntmps5
      go_wp2_with fail
      refine C1.out.mono ?_
      rintro e u1 ⟨⟨r1, rfl, x1⟩, g1⟩
      have G1 := Lib.hid g1
      have X1 := Lib.hid x1.rd
      clear g1 x1
      go_wp2_with fail
      refine (C2.out _ G1.out).mono ?_
      rintro e u2 ⟨⟨r2, rfl, x2⟩, g2⟩
      have G2 := Lib.hid (bt G1.out g2)
      have X2 := Lib.hid (X1.out.below g2)
      have S1 := Lib.hid (same_run r1 r2 _ _ u2 (X1.out.below g2) x2.rd)
      rw [decide_eq_true rfl] at S1
      clear g2 x2
      go_wp2_with fail
      refine S1.out.mono ?_
      rintro e u3 ⟨rfl, rfl⟩
      go_wp2_with fail
      refine (pack_run r1 p _ hp X2.out).mono ?_
      rintro e u3 ⟨⟨r3, rfl, x3⟩, g3⟩
      have G3 := Lib.hid (bt G2.out g3)
      have S2 := Lib.hid (same_run r3 _ _ _ u3 x3.rd (RA.out.below G3.out))
      rw [decide_eq_true hf] at S2
      clear g3 x3
      go_wp2_with fail
      refine S2.out.mono ?_
      rintro e u4 ⟨rfl, rfl⟩
      go_wp2_with fail
      refine (awake_run _).mono ?_
      rintro e wx ⟨rfl, gx⟩
      go_wp2_with fail
      go_ret
      exact ⟨rfl, bt G3.out gx⟩
  · have ha : 300 < a.length := by omega
    obtain ⟨pa, ca, rfl, _, _, _⟩ := Ra
    go_enter Try.func5, Try.ntmps5
    go_wp2_with fail
    refine (awake_run _).mono ?_
    rintro e wx ⟨rfl, gx⟩
    go_wp2_with fail
    go_ret
    exact ⟨rfl, gx⟩


set_option maxRecDepth 100000 in
theorem lifted (os : Os) (started : os.Started) (H : Type) (enc : TypeId × Value → H) :
    ReturnsInHanded {} Try.checked os 5 .any (Rows.frameUnpacksSpec.pre6 enc Try.prog Try.f5 Rows.frameUnpacksRow.domain false) (Rows.frameUnpacksSpec.post enc Try.prog Try.f5 false true false false) := by
  refine returnsInHanded_of_change (C := Try.checked) own started (by kernel_rfl) Try.func5
    (ChangeSpec.witness6 (enc := enc) (C := Try.checked) false ⟨#[], #[.slice none 0 0], []⟩ 8 (by kernel_rfl) (by kernel_rfl) (by kernel_rfl) (by kernel_rfl)) ?_
  intro W base args ds gs before hval0 hW hcnd _
  have hval : ∀ (j : Nat) t v, Try.f5.params[j]? = some t → args[j]? = some v → Value.okWide Try.prog W .any base t v := hval0
  have hW' := hW
  obtain ⟨p, q, hA0, hV, rfl, hfz, hnd⟩ := hW
  have hA : DataW.TrodAll enc Try.prog W 0 (fun _ => true) true Try.f5.params.toList args.toList ds p := hA0
  rw [Try.params5] at hA hval
  obtain ⟨v0, vs0, d0, ds0, p0, q0, hargs, rfl, rfl, h0, r0⟩ := trodAll_cons hA
  obtain ⟨rfl, rfl, rfl⟩ := trodAll_nil r0
  obtain rfl : args = #[v0] := by cases args; simp_all
  obtain ⟨rfl, rfl⟩ := trodVars_none hV
  have k0' := h0
  have lt0 : ∀ x ∈ p0, x.block < W.heap.size := by obtain ⟨m, hm⟩ := k0'; exact DataW.trod_lt m _ _ _ hm
  obtain ⟨a0, R0⟩ := bytes_form (hval 0 22 v0 rfl rfl) h0
  clear hA0 hval0
  simp only [List.append_nil] at hW'
  refine (walk v0 a0 W R0).mono fun e W' ⟨he, bel⟩ => ?_
  subst he
  exact ⟨_, rfl, _, _, _, [], _, [], hW', trodAll_mk1 (shut_bool Try.underlying4 _), (trodAll_cons_mk (Below.trod laidOut (by kernel_rfl) (of_decide_eq_true (by kernel_rfl)) k0' bel lt0) trodAll_mk0), rfl, bel.frame _, fun h => by cases h⟩

theorem over : Rows.frameUnpacksRow.holds Try.pinned (OpenSpec.ofChange Rows.frameUnpacksSpec) :=
  OpenClaim.holds_of_wide 5 Try.f5 rfl rfl rfl rfl rfl rfl rfl ⟨rfl, rfl, rfl, rfl, rfl⟩ rfl rfl rfl rfl rfl (by kernel_rfl) Try.func5 (by kernel_rfl)
    (of_decide_eq_true (by kernel_rfl)) (by unfold Func.isWrapper; first | (rw [if_pos (by decide +kernel)]; kernel_rfl) | (rw [if_neg (by decide +kernel)]; exact ⟨rfl, rfl⟩))
    (fun os started H enc _ => lifted os started H enc)
end frameUnpacks

theorem frameUnpacks_holds : Rows.FrameUnpacksSaid := frameUnpacks.over
#print axioms frameUnpacks_holds
end Go.Proofs.Yteancehdiliepaa
