/-
  The law SeriesEnergy holds: for every input it returns true and leaves its arguments as they were. 
-/
import Derived.Test.YtapfinnbfnhdbabRows
import Derived.Test.YtapfinnbfnhdbabSerO
import Derived.WalkKit
namespace Go.Proofs.Ytapfinnbfnhdbab
namespace seriesEnergy
open Go.ChangeShapes Go.WideShapes Go.ChangeAt Go.RowKit
open Ser
set_option linter.unusedVariables false

set_option maxHeartbeats 8000000 in
set_option maxRecDepth 1000000 in
theorem walk (v0 : Value) (a : List St) (f t : Int) (w : World) (Ra : Rd w v0 a) :
    Calls Try.prog 8 #[v0, .agg #[.int .i64 f, .int .i64 t]] w fun e w' => e = .returned (.bool true) ∧ Below w.heap.size w w' := by
  by_cases ha : a.length ≤ 600
  · have C1 := Lib.hid (energy_any v0 a f t (w.alloc (.cells #[.int .i64 f, .int .i64 t] 35)) (by omega) (Ra.below (b_new _ _)))
    have C2 := Lib.hid (fun W hW => refEnergy_any v0 a f t W (by omega) (Ra.below hW))
    have HB := Lib.hid (b_new w (.cells #[.int .i64 f, .int .i64 t] 35))
    obtain ⟨pa, ca, rfl, _, _, _⟩ := Ra
    go_enter Try.func8, Try.ntmps8
    go_wp2_with fail
    refine C1.out.mono ?_
    rintro e u1 ⟨rfl, g1⟩
    obtain ⟨hc, hf⟩ := bcell g1
    have G1 := Lib.hid (b2 HB.out g1)
    clear g1
    go_wp2_with fail
    refine (C2.out _ G1.out).mono ?_
    rintro e u2 ⟨rfl, g2⟩
    have G2 := Lib.hid (b2 G1.out g2)
    clear g2
    go_wp2_with fail
    refine (example_any _).mono ?_
    rintro e wx ⟨rfl, gx⟩
    go_wp2_with fail
    go_ret
    exact ⟨rfl, b2 G2.out gx⟩
  · have hb : 600 < a.length := by omega
    have HB := Lib.hid (b_new w (.cells #[.int .i64 f, .int .i64 t] 35))
    obtain ⟨pa, ca, rfl, _, _, _⟩ := Ra
    clear ha
    go_enter Try.func8, Try.ntmps8
    go_wp2_with fail
    refine (example_any _).mono ?_
    rintro e wx ⟨rfl, gx⟩
    go_wp2_with fail
    go_ret
    exact ⟨rfl, b2 HB.out gx⟩


set_option maxRecDepth 100000 in
theorem lifted (os : Os) (started : os.Started) (H : Type) (enc : TypeId × Value → H) :
    ReturnsInHanded {} Try.checked os 8 .any (Rows.seriesEnergySpec.pre6 enc Try.prog Try.f8 Rows.seriesEnergyRow.domain false) (Rows.seriesEnergySpec.post enc Try.prog Try.f8 false true false false) := by
  refine returnsInHanded_of_change (C := Try.checked) own started (by kernel_rfl) Try.func8
    (ChangeSpec.witness6 (enc := enc) (C := Try.checked) false ⟨#[], #[.slice none 0 0, .agg #[.int .i64 0, .int .i64 0]], []⟩ 8 (by kernel_rfl) (by kernel_rfl) (by kernel_rfl) (by kernel_rfl)) ?_
  intro W base args ds gs before hval0 hW hcnd _
  have hval : ∀ (j : Nat) t v, Try.f8.params[j]? = some t → args[j]? = some v → Value.okWide Try.prog W .any base t v := hval0
  have hW' := hW
  obtain ⟨p, q, hA0, hV, rfl, hfz, hnd⟩ := hW
  have hA : DataW.TrodAll enc Try.prog W 0 (fun _ => true) true Try.f8.params.toList args.toList ds p := hA0
  rw [Try.params8] at hA hval
  obtain ⟨v0, vs0, d0, ds0, p0, q0, hargs, rfl, rfl, h0, r0⟩ := trodAll_cons hA
  obtain ⟨v1, vs1, d1, ds1, p1, q1, rfl, rfl, rfl, h1, r1⟩ := trodAll_cons r0
  obtain ⟨rfl, rfl, rfl⟩ := trodAll_nil r1
  obtain rfl : args = #[v0, v1] := by cases args; simp_all
  obtain ⟨rfl, rfl⟩ := trodVars_none hV
  have k0' := h0
  have lt0 : ∀ x ∈ p0, x.block < W.heap.size := by obtain ⟨m, hm⟩ := k0'; exact DataW.trod_lt m _ _ _ hm
  have k1' := h1
  have lt1 : ∀ x ∈ p1, x.block < W.heap.size := by obtain ⟨m, hm⟩ := k1'; exact DataW.trod_lt m _ _ _ hm
  obtain ⟨a0, R0⟩ := steps_form (hval 0 22 v0 rfl rfl) h0
  obtain ⟨f1, t1, rfl⟩ := span_form (hval 1 35 v1 rfl rfl) h1
  clear hA0 hval0
  simp only [List.append_nil] at hW'
  refine (walk v0 a0 f1 t1 W R0).mono fun e W' ⟨he, bel⟩ => ?_
  subst he
  exact ⟨_, rfl, _, _, _, [], _, [], hW', trodAll_mk1 (shut_bool Try.underlying4 _), (trodAll_cons_mk (Below.trod laidOut (by kernel_rfl) (of_decide_eq_true (by kernel_rfl)) k0' bel lt0) (trodAll_cons_mk (Below.trod laidOut (by kernel_rfl) (of_decide_eq_true (by kernel_rfl)) k1' bel lt1) trodAll_mk0)), rfl, bel.frame _, fun h => by cases h⟩

theorem over : Rows.seriesEnergyRow.holds Try.pinned (OpenSpec.ofChange Rows.seriesEnergySpec) :=
  OpenClaim.holds_of_wide 8 Try.f8 rfl rfl rfl rfl rfl rfl rfl ⟨rfl, rfl, rfl, rfl, rfl⟩ rfl rfl rfl rfl rfl (by kernel_rfl) Try.func8 (by kernel_rfl)
    (of_decide_eq_true (by kernel_rfl)) (by unfold Func.isWrapper; first | (rw [if_pos (by decide +kernel)]; kernel_rfl) | (rw [if_neg (by decide +kernel)]; exact ⟨rfl, rfl⟩))
    (fun os started H enc _ => lifted os started H enc)
end seriesEnergy

theorem seriesEnergy_holds : Rows.SeriesEnergySaid := seriesEnergy.over
#print axioms seriesEnergy_holds
end Go.Proofs.Ytapfinnbfnhdbab
