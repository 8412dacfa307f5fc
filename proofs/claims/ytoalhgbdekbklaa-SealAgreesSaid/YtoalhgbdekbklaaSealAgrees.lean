/-
  The law SealAgrees holds: for every input it returns true and leaves its arguments as they were.
-/
import Derived.Test.YtoalhgbdekbklaaRows
import Derived.Test.YtoalhgbdekbklaaSeG
import Derived.WalkKit
import Derived.BigQuiet
namespace Go.Proofs.Ytoalhgbdekbklaa
namespace sealAgrees
open Go.ChangeShapes Go.WideShapes Go.ChangeAt Go.RowKit
open IntWalk
set_option linter.unusedVariables false

set_option maxHeartbeats 4000000 in
set_option maxRecDepth 100000 in
theorem walk (k : Int) (v : Value) (a : List UInt8) (w : World) (_ : 0 ≤ k ∧ k < 18446744073709551616) (Ra : RdB w v a) :
    Calls Try.prog 6 #[.int .u64 k, v] w fun e w' => e = .returned (.bool true) ∧ Below w.heap.size w w' := by
  have la := rd_len Ra
  unfold maxLen at la
  by_cases ha : a.length ≤ 5000
  · have RA := Lib.hid Ra
    have C1 := Lib.hid (sum_run k v a w (by omega) Ra)
    have C2 := Lib.hid (fun W => derive_run k ⟨a.toArray⟩ W (by show a.toArray.size ≤ _; simp; omega))
    rw [show strL ⟨a.toArray⟩ = a by unfold strL; simp] at C2
    have C3 := Lib.hid (fun W (R : RdB W v a) => chain_run k v a W (by omega) R)
    have C4 := Lib.hid (fun W (R : RdB W v a) => sum_run k v a W (by omega) R)
    obtain ⟨s, hs⟩ : ∃ s, s = hashP k (keyI k) a := ⟨_, rfl⟩
    rw [← hs] at C1 C2 C3 C4
    clear hs
    obtain ⟨pa, ca, rfl, _, _, _⟩ := Ra
    go_enter Try.func6, Try.ntmps6
    go_wp2_with fail
    refine C1.out.mono ?_
    rintro e w1 ⟨rfl, b⟩
    have B1 := Lib.hid (b)
    clear b C1
    have kc := str_of _ _ a (RA.out.below B1.out)
    go_wp2_with fail
    refine (C2.out _).mono ?_
    rintro e w2 ⟨rfl, b⟩
    have B2 := Lib.hid (bt B1.out b)
    clear b C2 kc B1
    go_wp2_with fail
    refine (C3.out _ (RA.out.below B2.out)).mono ?_
    rintro e w3 ⟨rfl, b⟩
    have B3 := Lib.hid (bt B2.out b)
    clear b C3 B2
    go_wp2_with fail
    refine (C4.out _ (RA.out.below B3.out)).mono ?_
    rintro e w4 ⟨rfl, b⟩
    have B4 := Lib.hid (bt B3.out b)
    clear b C4 B3
    go_wp2_with fail
    refine (awake_run _).mono ?_
    rintro e wx ⟨rfl, gx⟩
    have BX := Lib.hid (bt B4.out gx)
    clear gx
    go_wp2_with fail
    go_ret
    exact ⟨rfl, BX.out⟩
  · have ha : 5000 < a.length := by omega
    obtain ⟨pa, ca, rfl, _, _, _⟩ := Ra
    go_enter Try.func6, Try.ntmps6
    go_wp2_with fail
    refine (awake_run _).mono ?_
    rintro e wx ⟨rfl, gx⟩
    go_wp2_with fail
    go_ret
    exact ⟨rfl, gx⟩


set_option maxRecDepth 100000 in
theorem lifted (os : Os) (started : os.Started) (H : Type) (enc : TypeId × Value → H) :
    ReturnsInHanded {} Try.checked os 6 .any (Rows.sealAgreesSpec.pre6 enc Try.prog Try.f6 Rows.sealAgreesRow.domain false) (Rows.sealAgreesSpec.post enc Try.prog Try.f6 false true false false) := by
  refine returnsInHanded_of_change (C := Try.checked) own started (by kernel_rfl) Try.func6
    (ChangeSpec.witness6 (enc := enc) (C := Try.checked) false ⟨#[], #[.int .u64 0, .slice none 0 0], []⟩ 8 (by kernel_rfl) (by kernel_rfl) (by kernel_rfl) (by kernel_rfl)) ?_
  intro W base args ds gs before hval0 hW hcnd _
  have hval : ∀ (j : Nat) t v, Try.f6.params[j]? = some t → args[j]? = some v → Value.okWide Try.prog W .any base t v := hval0
  have hW' := hW
  obtain ⟨p, q, hA0, hV, rfl, hfz, hnd⟩ := hW
  have hA : DataW.TrodAll enc Try.prog W 0 (fun _ => true) true Try.f6.params.toList args.toList ds p := hA0
  rw [Try.params6] at hA hval
  obtain ⟨v0, vs0, d0, ds0, p0, q0, hargs, rfl, rfl, h0, r0⟩ := trodAll_cons hA
  obtain ⟨v1, vs1, d1, ds1, p1, q1, rfl, rfl, rfl, h1, r1⟩ := trodAll_cons r0
  obtain ⟨rfl, rfl, rfl⟩ := trodAll_nil r1
  obtain rfl : args = #[v0, v1] := by cases args; simp_all
  obtain ⟨rfl, rfl⟩ := trodVars_none hV
  have k0' := h0
  have lt0 : ∀ x ∈ p0, x.block < W.heap.size := by obtain ⟨m, hm⟩ := k0'; exact DataW.trod_lt m _ _ _ hm
  have k1' := h1
  have lt1 : ∀ x ∈ p1, x.block < W.heap.size := by obtain ⟨m, hm⟩ := k1'; exact DataW.trod_lt m _ _ _ hm
  obtain ⟨n0, rfl, rfl, rfl, w0⟩ := open_int Try.underlying22 (hval 0 22 v0 rfl rfl) h0
  obtain ⟨a1, R1⟩ := bytes_form (hval 1 23 v1 rfl rfl) h1
  clear hA0 hval0
  simp only [List.append_nil] at hW'
  refine (walk n0 v1 a1 W (wf_u64 w0) R1).mono fun e W' ⟨he, bel⟩ => ?_
  subst he
  exact ⟨_, rfl, _, _, _, [], _, [], hW', trodAll_mk1 (shut_bool Try.underlying4 _), (trodAll_cons_mk (Below.trod laidOut (by kernel_rfl) (of_decide_eq_true (by kernel_rfl)) k0' bel lt0) (trodAll_cons_mk (Below.trod laidOut (by kernel_rfl) (of_decide_eq_true (by kernel_rfl)) k1' bel lt1) trodAll_mk0)), rfl, bel.frame _, fun h => by cases h⟩

theorem over : Rows.sealAgreesRow.holds Try.pinned (OpenSpec.ofChange Rows.sealAgreesSpec) :=
  OpenClaim.holds_of_wide 6 Try.f6 rfl rfl rfl rfl rfl rfl rfl ⟨rfl, rfl, rfl, rfl, rfl⟩ rfl rfl rfl rfl rfl (by kernel_rfl) Try.func6 (by kernel_rfl)
    (of_decide_eq_true (by kernel_rfl)) (by unfold Func.isWrapper; first | (rw [if_pos (by decide +kernel)]; kernel_rfl) | (rw [if_neg (by decide +kernel)]; exact ⟨rfl, rfl⟩))
    (fun os started H enc _ => lifted os started H enc)
end sealAgrees

theorem sealAgrees_holds : Rows.SealAgreesSaid := sealAgrees.over
#print axioms sealAgrees_holds
end Go.Proofs.Ytoalhgbdekbklaa
