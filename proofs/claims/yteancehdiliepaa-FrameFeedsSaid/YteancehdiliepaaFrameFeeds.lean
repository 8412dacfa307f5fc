/-
  The law FrameFeeds holds: for every input it returns true and leaves its arguments as they were.
-/
import Derived.Test.YteancehdiliepaaRows
import Derived.Test.YteancehdiliepaaFrP
import Derived.WalkKit
import Derived.BigQuiet
namespace Go.Proofs.Yteancehdiliepaa
namespace frameFeeds
open Go.ChangeShapes Go.WideShapes Go.ChangeAt Go.RowKit
open IntWalk
set_option linter.unusedVariables false

set_option maxHeartbeats 4000000 in
set_option maxRecDepth 100000 in
theorem walk (v0 : Value) (a : List UInt8) (v1 : Value) (b : List UInt8) (w : World) (Ra : RdB w v0 a) (Rb : RdB w v1 b) :
    Calls Try.prog 6 #[v0, v1] w fun e w' => e = .returned (.bool true) ∧ Below w.heap.size w w' := by
  have la := rd_len Ra
  have lb := rd_len Rb
  unfold maxLen at la lb
  by_cases ha : a.length ≤ 200
  · skip
    by_cases hb : b.length ≤ 200
    · skip
      have C1 := Lib.hid (feed_run v0 v1 a b w (by omega) (by omega) Ra Rb)
      have C2 := Lib.hid (fun W (h : Below w.heap.size w W) => rfeed_run v0 v1 a b W (by omega) (by omega) (Ra.below h) (Rb.below h))
      have hpl : (feedP (a ++ b)).length ≤ 2000000 := by have := feedP_len (a ++ b); simp at this; omega
      obtain ⟨pa, ca, rfl, _, _, _⟩ := Ra
      obtain ⟨pb, cb, rfl, _, _, _⟩ := Rb
      go_enter Try.func6, Try.ntmps6
      go_wp2_with fail
      refine C1.out.mono ?_
      rintro e u1 ⟨⟨r1, l1, rfl, x1, y1⟩, g1⟩
      have G1 := Lib.hid g1
      have X1 := Lib.hid x1
      have Y1 := Lib.hid y1
      clear g1 x1 y1
      go_wp2_with fail
      refine (C2.out _ G1.out).mono ?_
      rintro e u2 ⟨⟨r2, l2, rfl, x2, y2⟩, g2⟩
      have G2 := Lib.hid (bt G1.out g2)
      have S1 := Lib.hid (same_run r1 r2 _ _ u2 (X1.out.below g2) x2)
      have S2 := Lib.hid (sameAll_run l1 l2 _ _ u2 hpl (Y1.out.below g2) y2)
      rw [decide_eq_true rfl] at S1 S2
      clear g2 x2 y2
      go_wp2_with fail
      refine S1.out.mono ?_
      rintro e u3 ⟨rfl, rfl⟩
      go_wp2_with fail
      refine S2.out.mono ?_
      rintro e u3 ⟨rfl, k, rfl⟩
      go_wp2_with fail
      refine (awake_run _).mono ?_
      rintro e wx ⟨rfl, gx⟩
      go_wp2_with fail
      go_ret
      exact ⟨rfl, bt (b_draws G2.out k) gx⟩
    · have hb : 200 < b.length := by omega
      obtain ⟨pa, ca, rfl, _, _, _⟩ := Ra
      obtain ⟨pb, cb, rfl, _, _, _⟩ := Rb
      go_enter Try.func6, Try.ntmps6
      go_wp2_with fail
      refine (awake_run _).mono ?_
      rintro e wx ⟨rfl, gx⟩
      go_wp2_with fail
      go_ret
      exact ⟨rfl, gx⟩
  · have ha : 200 < a.length := by omega
    obtain ⟨pa, ca, rfl, _, _, _⟩ := Ra
    obtain ⟨pb, cb, rfl, _, _, _⟩ := Rb
    go_enter Try.func6, Try.ntmps6
    go_wp2_with fail
    refine (awake_run _).mono ?_
    rintro e wx ⟨rfl, gx⟩
    go_wp2_with fail
    go_ret
    exact ⟨rfl, gx⟩


set_option maxRecDepth 100000 in
theorem lifted (os : Os) (started : os.Started) (H : Type) (enc : TypeId × Value → H) :
    ReturnsInHanded {} Try.checked os 6 .any (Rows.frameFeedsSpec.pre6 enc Try.prog Try.f6 Rows.frameFeedsRow.domain false) (Rows.frameFeedsSpec.post enc Try.prog Try.f6 false true false false) := by
  refine returnsInHanded_of_change (C := Try.checked) own started (by kernel_rfl) Try.func6
    (ChangeSpec.witness6 (enc := enc) (C := Try.checked) false ⟨#[], #[.slice none 0 0, .slice none 0 0], []⟩ 8 (by kernel_rfl) (by kernel_rfl) (by kernel_rfl) (by kernel_rfl)) ?_
  intro W base args ds gs before hval0 hW hcnd _
  have hval : ∀ (j : Nat) t v, Try.f6.params[j]? = some t → args[j]? = some v → Value.okWide Try.prog W .any base t v := hval0
  have hW' := hW
  obtain ⟨p, q, hA0, hV, rfl, hfz, hnd⟩ := hW
  have hA : DataW.TrodAll enc Try.prog W 0 (fun _ => true) true Try.f6.params.toList args.toList ds p := hA0
  rw [Try.params6] at hA hval
  obtain ⟨v0, vs0, d0, ds0, p0, q0, hargs, rfl, rfl, h0, r0⟩ := trodAll_cons hA
  obtain ⟨v1, vs1, d1, ds1, p1, q1, rfl, rfl, rfl, h1, r1⟩ := trodAll_cons r0
  obtain ⟨rfl, rfl, rfl⟩ := trodAll_nil r1
  obtain rfl : args = #[v0, v1] := by cases args; simp_all
  obtain ⟨rfl, rfl⟩ := trodVars_none hV
  have k0' := h0
  have lt0 : ∀ x ∈ p0, x.block < W.heap.size := by obtain ⟨m, hm⟩ := k0'; exact DataW.trod_lt m _ _ _ hm
  have k1' := h1
  have lt1 : ∀ x ∈ p1, x.block < W.heap.size := by obtain ⟨m, hm⟩ := k1'; exact DataW.trod_lt m _ _ _ hm
  obtain ⟨a0, R0⟩ := bytes_form (hval 0 22 v0 rfl rfl) h0
  obtain ⟨a1, R1⟩ := bytes_form (hval 1 22 v1 rfl rfl) h1
  clear hA0 hval0
  simp only [List.append_nil] at hW'
  refine (walk v0 a0 v1 a1 W R0 R1).mono fun e W' ⟨he, bel⟩ => ?_
  subst he
  exact ⟨_, rfl, _, _, _, [], _, [], hW', trodAll_mk1 (shut_bool Try.underlying4 _), (trodAll_cons_mk (Below.trod laidOut (by kernel_rfl) (of_decide_eq_true (by kernel_rfl)) k0' bel lt0) (trodAll_cons_mk (Below.trod laidOut (by kernel_rfl) (of_decide_eq_true (by kernel_rfl)) k1' bel lt1) trodAll_mk0)), rfl, bel.frame _, fun h => by cases h⟩

theorem over : Rows.frameFeedsRow.holds Try.pinned (OpenSpec.ofChange Rows.frameFeedsSpec) :=
  OpenClaim.holds_of_wide 6 Try.f6 rfl rfl rfl rfl rfl rfl rfl ⟨rfl, rfl, rfl, rfl, rfl⟩ rfl rfl rfl rfl rfl (by kernel_rfl) Try.func6 (by kernel_rfl)
    (of_decide_eq_true (by kernel_rfl)) (by unfold Func.isWrapper; first | (rw [if_pos (by decide +kernel)]; kernel_rfl) | (rw [if_neg (by decide +kernel)]; exact ⟨rfl, rfl⟩))
    (fun os started H enc _ => lifted os started H enc)
end frameFeeds

theorem frameFeeds_holds : Rows.FrameFeedsSaid := frameFeeds.over
#print axioms frameFeeds_holds
end Go.Proofs.Yteancehdiliepaa
