/-
  The law SeriesValid holds: for every input it returns true and leaves its arguments as they were. 
-/
import Derived.Test.YtapfinnbfnhdbabRows
import Derived.Test.YtapfinnbfnhdbabSerO
import Derived.WalkKit
namespace Go.Proofs.Ytapfinnbfnhdbab
namespace seriesValid
open Go.ChangeShapes Go.WideShapes Go.ChangeAt Go.RowKit
open Ser
set_option linter.unusedVariables false

set_option maxHeartbeats 8000000 in
set_option maxRecDepth 1000000 in
theorem walk (v0 : Value) (a : List St) (t : Int) (w : World) (Ra : Rd w v0 a) :
    Calls Try.prog 3 #[v0, .int .i64 t] w fun e w' => e = .returned (.bool true) ∧ Below w.heap.size w w' := by
  by_cases ha : a.length ≤ 600
  · have C1 := Lib.hid (refValid_any v0 a w (by omega) Ra)
    have C2 := Lib.hid (fun W hW => at_any v0 a t W (by omega) (Ra.below hW))
    have C3 := Lib.hid (fun W hW => normal_any v0 a W (by omega) (Ra.below hW))
    have C4 := Lib.hid (fun W hW => valid_any v0 a W (by omega) (Ra.below hW))
    have C5 := Lib.hid (fun W hW => refAt_any v0 a t W (by omega) (Ra.below hW))
    have C6 := Lib.hid (fun W hW h => refNormal_any v0 a W h (Ra.below hW))
    have LN := Lib.hid (show (nL 0 a).length ≤ 2000000 by have := nL_len a 0; omega)
    obtain ⟨pa, ca, rfl, _, _, _⟩ := Ra
    by_cases hv : validE a = 0
    · have OK := Lib.hid ((ok_iff a).1 hv)
      rw [hv] at C1 C4
      clear hv
      go_enter Try.func3, Try.ntmps3
      go_wp2_with fail
      refine C1.out.mono ?_
      rintro e u1 ⟨rfl, g1⟩
      have G1 := Lib.hid g1
      clear g1
      go_wp2_with fail
      refine (C2.out _ G1.out).mono ?_
      rintro e u2 ⟨x, rfl, hx, g2⟩
      obtain rfl := hx OK.out.asc
      have G2 := Lib.hid (b2 G1.out g2)
      clear g2 hx
      obtain ⟨z, hz⟩ : ∃ z, atL a t = z := ⟨_, rfl⟩
      rw [hz] at C5 ⊢
      clear hz
      go_wp2_with fail
      refine (C3.out _ G2.out).mono ?_
      rintro e u3 ⟨r3, rfl, rd3, g3⟩
      have G3 := Lib.hid (b2 G2.out g3)
      have R3 := Lib.hid rd3
      clear g3 rd3
      go_wp2_with fail
      refine (C4.out _ G3.out).mono ?_
      rintro e u4 ⟨rfl, g4⟩
      have G4 := Lib.hid (b2 G3.out g4)
      have R3 := Lib.hid (R3.out.below g4)
      clear g4
      go_wp2_with fail
      refine (C5.out _ G4.out).mono ?_
      rintro e u5 ⟨rfl, rfl⟩
      go_wp2_with fail
      refine (C6.out _ G4.out OK.out).mono ?_
      rintro e u6 ⟨r6, rfl, rd6, g6⟩
      have G6 := Lib.hid (b2 G4.out g6)
      have EQ := Lib.hid (equal_any _ _ _ _ _ LN.out (R3.out.below g6) rd6)
      clear g6 rd6
      rw [decide_eq_true rfl] at EQ
      go_wp2_with fail
      refine EQ.out.mono ?_
      rintro e u7 ⟨rfl, g7⟩
      have G7 := Lib.hid (b2 G6.out g7)
      clear g7
      go_wp2_with fail
      refine (example_any _).mono ?_
      rintro e wx ⟨rfl, gx⟩
      go_wp2_with fail
      go_ret
      exact ⟨rfl, b2 G7.out gx⟩
    · obtain ⟨E, hE⟩ : ∃ E, validE a = E := ⟨_, rfl⟩
      rw [hE] at C1 C4 hv
      have he : (E == 0) = false := by simpa using hv
      clear hv hE
      go_enter Try.func3, Try.ntmps3
      go_wp2_with fail
      refine C1.out.mono ?_
      rintro e u1 ⟨rfl, g1⟩
      have G1 := Lib.hid g1
      clear g1
      go_wp2_with fail
      refine (C2.out _ G1.out).mono ?_
      rintro e u2 ⟨x, rfl, hx, g2⟩
      have G2 := Lib.hid (b2 G1.out g2)
      clear g2 hx
      go_wp2_with fail
      refine (C3.out _ G2.out).mono ?_
      rintro e u3 ⟨r3, rfl, rd3, g3⟩
      have G3 := Lib.hid (b2 G2.out g3)
      clear g3 rd3
      go_wp2_with fail
      refine (C4.out _ G3.out).mono ?_
      rintro e u4 ⟨rfl, g4⟩
      have G4 := Lib.hid (b2 G3.out g4)
      clear g4
      go_wp2_with fail
      refine (example_any _).mono ?_
      rintro e wx ⟨rfl, gx⟩
      go_wp2_with fail
      go_ret
      exact ⟨rfl, b2 G4.out gx⟩
  · have hb : 600 < a.length := by omega
    obtain ⟨pa, ca, rfl, _, _, _⟩ := Ra
    clear ha
    go_enter Try.func3, Try.ntmps3
    go_wp2_with fail
    refine (example_any _).mono ?_
    rintro e wx ⟨rfl, gx⟩
    go_wp2_with fail
    go_ret
    exact ⟨rfl, gx⟩


set_option maxRecDepth 100000 in
theorem lifted (os : Os) (started : os.Started) (H : Type) (enc : TypeId × Value → H) :
    ReturnsInHanded {} Try.checked os 3 .any (Rows.seriesValidSpec.pre6 enc Try.prog Try.f3 Rows.seriesValidRow.domain false) (Rows.seriesValidSpec.post enc Try.prog Try.f3 false true false false) := by
  refine returnsInHanded_of_change (C := Try.checked) own started (by kernel_rfl) Try.func3
    (ChangeSpec.witness6 (enc := enc) (C := Try.checked) false ⟨#[], #[.slice none 0 0, .int .i64 0], []⟩ 8 (by kernel_rfl) (by kernel_rfl) (by kernel_rfl) (by kernel_rfl)) ?_
  intro W base args ds gs before hval0 hW hcnd _
  have hval : ∀ (j : Nat) t v, Try.f3.params[j]? = some t → args[j]? = some v → Value.okWide Try.prog W .any base t v := hval0
  have hW' := hW
  obtain ⟨p, q, hA0, hV, rfl, hfz, hnd⟩ := hW
  have hA : DataW.TrodAll enc Try.prog W 0 (fun _ => true) true Try.f3.params.toList args.toList ds p := hA0
  rw [Try.params3] at hA hval
  obtain ⟨v0, vs0, d0, ds0, p0, q0, hargs, rfl, rfl, h0, r0⟩ := trodAll_cons hA
  obtain ⟨v1, vs1, d1, ds1, p1, q1, rfl, rfl, rfl, h1, r1⟩ := trodAll_cons r0
  obtain ⟨rfl, rfl, rfl⟩ := trodAll_nil r1
  obtain rfl : args = #[v0, v1] := by cases args; simp_all
  obtain ⟨rfl, rfl⟩ := trodVars_none hV
  have k0' := h0
  have lt0 : ∀ x ∈ p0, x.block < W.heap.size := by obtain ⟨m, hm⟩ := k0'; exact DataW.trod_lt m _ _ _ hm
  have k1' := h1
  have lt1 : ∀ x ∈ p1, x.block < W.heap.size := by obtain ⟨m, hm⟩ := k1'; exact DataW.trod_lt m _ _ _ hm
  obtain ⟨a0, R0⟩ := steps_form (hval 0 22 v0 rfl rfl) h0
  obtain ⟨n1, rfl, rfl, rfl, w1⟩ := open_int Try.underlying3 (hval 1 3 v1 rfl rfl) h1
  clear hA0 hval0
  simp only [List.append_nil] at hW'
  refine (walk v0 a0 n1 W R0).mono fun e W' ⟨he, bel⟩ => ?_
  subst he
  exact ⟨_, rfl, _, _, _, [], _, [], hW', trodAll_mk1 (shut_bool Try.underlying4 _), (trodAll_cons_mk (Below.trod laidOut (by kernel_rfl) (of_decide_eq_true (by kernel_rfl)) k0' bel lt0) (trodAll_cons_mk (Below.trod laidOut (by kernel_rfl) (of_decide_eq_true (by kernel_rfl)) k1' bel lt1) trodAll_mk0)), rfl, bel.frame _, fun h => by cases h⟩

theorem over : Rows.seriesValidRow.holds Try.pinned (OpenSpec.ofChange Rows.seriesValidSpec) :=
  OpenClaim.holds_of_wide 3 Try.f3 rfl rfl rfl rfl rfl rfl rfl ⟨rfl, rfl, rfl, rfl, rfl⟩ rfl rfl rfl rfl rfl (by kernel_rfl) Try.func3 (by kernel_rfl)
    (of_decide_eq_true (by kernel_rfl)) (by unfold Func.isWrapper; first | (rw [if_pos (by decide +kernel)]; kernel_rfl) | (rw [if_neg (by decide +kernel)]; exact ⟨rfl, rfl⟩))
    (fun os started H enc _ => lifted os started H enc)
end seriesValid

theorem seriesValid_holds : Rows.SeriesValidSaid := seriesValid.over
#print axioms seriesValid_holds
end Go.Proofs.Ytapfinnbfnhdbab
