/-
  The law SeriesAdd holds: for every input it returns true and leaves its arguments as they were. 
-/
import Derived.Test.YtapfinnbfnhdbabRows
import Derived.Test.YtapfinnbfnhdbabSerO
import Derived.WalkKit
namespace Go.Proofs.Ytapfinnbfnhdbab
namespace seriesAdd
open Go.ChangeShapes Go.WideShapes Go.ChangeAt Go.RowKit
open Ser
set_option linter.unusedVariables false

set_option maxHeartbeats 8000000 in
set_option maxRecDepth 1000000 in
theorem walk (v0 : Value) (a : List St) (v1 : Value) (b : List St) (w : World) (Ra : Rd w v0 a) (Rb : Rd w v1 b) :
    Calls Try.prog 4 #[v0, v1] w fun e w' => e = .returned (.bool true) ∧ Below w.heap.size w w' := by
  by_cases ha : a.length ≤ 600
  · skip
    by_cases hb : b.length ≤ 600
    · skip
      have C1 := Lib.hid (add_any v0 v1 a b w (by omega) (by omega) Ra Rb)
      have C2 := Lib.hid (fun W hW => refAdd_any v0 v1 a b W (by omega) (by omega) (Ra.below hW) (Rb.below hW))
      obtain ⟨pa, ca, rfl, _, _, _⟩ := Ra
      obtain ⟨pb, cb, rfl, _, _, _⟩ := Rb
      go_enter Try.func4, Try.ntmps4
      go_wp2_with fail
      refine C1.out.mono ?_
      rintro e u1 ⟨r1, rfl, rd1, g1⟩
      have G1 := Lib.hid g1
      have R1 := Lib.hid rd1
      clear g1 rd1
      go_wp2_with fail
      refine (C2.out _ G1.out).mono ?_
      rintro e u2 ⟨r2, rfl, rd2, g2⟩
      have G2 := Lib.hid (b2 G1.out g2)
      have EQ := Lib.hid (equal_any _ _ _ _ _ (addL_len a b) (R1.out.below g2) rd2)
      clear g2 rd2
      rw [decide_eq_true rfl] at EQ
      go_wp2_with fail
      refine EQ.out.mono ?_
      rintro e u3 ⟨rfl, g3⟩
      have G3 := Lib.hid (b2 G2.out g3)
      clear g3
      go_wp2_with fail
      refine (example_any _).mono ?_
      rintro e wx ⟨rfl, gx⟩
      go_wp2_with fail
      go_ret
      exact ⟨rfl, b2 G3.out gx⟩
    · have hb : 600 < b.length := by omega
      obtain ⟨pa, ca, rfl, _, _, _⟩ := Ra
      obtain ⟨pb, cb, rfl, _, _, _⟩ := Rb
      clear hb
      go_enter Try.func4, Try.ntmps4
      go_wp2_with fail
      refine (example_any _).mono ?_
      rintro e wx ⟨rfl, gx⟩
      go_wp2_with fail
      go_ret
      exact ⟨rfl, gx⟩
  · have hb : 600 < a.length := by omega
    obtain ⟨pa, ca, rfl, _, _, _⟩ := Ra
    obtain ⟨pb, cb, rfl, _, _, _⟩ := Rb
    clear ha
    go_enter Try.func4, Try.ntmps4
    go_wp2_with fail
    refine (example_any _).mono ?_
    rintro e wx ⟨rfl, gx⟩
    go_wp2_with fail
    go_ret
    exact ⟨rfl, gx⟩


set_option maxRecDepth 100000 in
theorem lifted (os : Os) (started : os.Started) (H : Type) (enc : TypeId × Value → H) :
    ReturnsInHanded {} Try.checked os 4 .any (Rows.seriesAddSpec.pre6 enc Try.prog Try.f4 Rows.seriesAddRow.domain false) (Rows.seriesAddSpec.post enc Try.prog Try.f4 false true false false) := by
  refine returnsInHanded_of_change (C := Try.checked) own started (by kernel_rfl) Try.func4
    (ChangeSpec.witness6 (enc := enc) (C := Try.checked) false ⟨#[], #[.slice none 0 0, .slice none 0 0], []⟩ 8 (by kernel_rfl) (by kernel_rfl) (by kernel_rfl) (by kernel_rfl)) ?_
  intro W base args ds gs before hval0 hW hcnd _
  have hval : ∀ (j : Nat) t v, Try.f4.params[j]? = some t → args[j]? = some v → Value.okWide Try.prog W .any base t v := hval0
  have hW' := hW
  obtain ⟨p, q, hA0, hV, rfl, hfz, hnd⟩ := hW
  have hA : DataW.TrodAll enc Try.prog W 0 (fun _ => true) true Try.f4.params.toList args.toList ds p := hA0
  rw [Try.params4] at hA hval
  obtain ⟨v0, vs0, d0, ds0, p0, q0, hargs, rfl, rfl, h0, r0⟩ := trodAll_cons hA
  obtain ⟨v1, vs1, d1, ds1, p1, q1, rfl, rfl, rfl, h1, r1⟩ := trodAll_cons r0
  obtain ⟨rfl, rfl, rfl⟩ := trodAll_nil r1
  obtain rfl : args = #[v0, v1] := by cases args; simp_all
  obtain ⟨rfl, rfl⟩ := trodVars_none hV
  have k0' := h0
  have lt0 : ∀ x ∈ p0, x.block < W.heap.size := by obtain ⟨m, hm⟩ := k0'; exact DataW.trod_lt m _ _ _ hm
  have k1' := h1
  have lt1 : ∀ x ∈ p1, x.block < W.heap.size := by obtain ⟨m, hm⟩ := k1'; exact DataW.trod_lt m _ _ _ hm
  obtain ⟨a0, R0⟩ := steps_form (hval 0 22 v0 rfl rfl) h0
  obtain ⟨a1, R1⟩ := steps_form (hval 1 22 v1 rfl rfl) h1
  clear hA0 hval0
  simp only [List.append_nil] at hW'
  refine (walk v0 a0 v1 a1 W R0 R1).mono fun e W' ⟨he, bel⟩ => ?_
  subst he
  exact ⟨_, rfl, _, _, _, [], _, [], hW', trodAll_mk1 (shut_bool Try.underlying4 _), (trodAll_cons_mk (Below.trod laidOut (by kernel_rfl) (of_decide_eq_true (by kernel_rfl)) k0' bel lt0) (trodAll_cons_mk (Below.trod laidOut (by kernel_rfl) (of_decide_eq_true (by kernel_rfl)) k1' bel lt1) trodAll_mk0)), rfl, bel.frame _, fun h => by cases h⟩

theorem over : Rows.seriesAddRow.holds Try.pinned (OpenSpec.ofChange Rows.seriesAddSpec) :=
  OpenClaim.holds_of_wide 4 Try.f4 rfl rfl rfl rfl rfl rfl rfl ⟨rfl, rfl, rfl, rfl, rfl⟩ rfl rfl rfl rfl rfl (by kernel_rfl) Try.func4 (by kernel_rfl)
    (of_decide_eq_true (by kernel_rfl)) (by unfold Func.isWrapper; first | (rw [if_pos (by decide +kernel)]; kernel_rfl) | (rw [if_neg (by decide +kernel)]; exact ⟨rfl, rfl⟩))
    (fun os started H enc _ => lifted os started H enc)
end seriesAdd

theorem seriesAdd_holds : Rows.SeriesAddSaid := seriesAdd.over
#print axioms seriesAdd_holds
end Go.Proofs.Ytapfinnbfnhdbab
