/-
  The law SealSums holds: for every input it returns true and leaves its arguments as they were.
-/
import Derived.Test.YtoalhgbdekbklaaRows
import Derived.Test.YtoalhgbdekbklaaSeG
import Derived.WalkKit
import Derived.BigQuiet
namespace Go.Proofs.Ytoalhgbdekbklaa
namespace sealSums
open Go.ChangeShapes Go.WideShapes Go.ChangeAt Go.RowKit
open IntWalk
set_option linter.unusedVariables false

set_option maxHeartbeats 4000000 in
set_option maxRecDepth 100000 in
theorem walk (k : Int) (v : Value) (a : List UInt8) (w : World) (_ : 0 ≤ k ∧ k < 18446744073709551616) (Ra : RdB w v a) :
    Calls Try.prog 3 #[.int .u64 k, v] w fun e w' => e = .returned (.bool true) ∧ Below w.heap.size w w' := by
  have la := rd_len Ra
  unfold maxLen at la
  by_cases ha : a.length ≤ 5000
  · have RA := Lib.hid Ra
    have C1 := Lib.hid (sum_run k v a w (by omega) Ra)
    have C2 := Lib.hid (fun W (R : RdB W v a) => rsum_run k v a W (by omega) R)
    obtain ⟨s, hs⟩ : ∃ s, s = hashP k (keyI k) a := ⟨_, rfl⟩
    rw [← hs] at C1 C2
    clear hs
    obtain ⟨pa, ca, rfl, _, _, _⟩ := Ra
    go_enter Try.func3, Try.ntmps3
    go_wp2_with fail
    refine C1.out.mono ?_
    rintro e w1 ⟨rfl, b⟩
    have B1 := Lib.hid b
    clear b C1
    go_wp2_with fail
    refine (C2.out _ (RA.out.below B1.out)).mono ?_
    rintro e w2 ⟨rfl, b⟩
    have B2 := Lib.hid (bt B1.out b)
    clear b B1 C2
    go_wp2_with fail
    refine (awake_run _).mono ?_
    rintro e wx ⟨rfl, gx⟩
    have BX := Lib.hid (bt B2.out gx)
    clear gx B2
    go_wp2_with fail
    go_ret
    exact ⟨rfl, BX.out⟩
  · have ha : 5000 < a.length := by omega
    obtain ⟨pa, ca, rfl, _, _, _⟩ := Ra
    go_enter Try.func3, Try.ntmps3
    go_wp2_with fail
    refine (awake_run _).mono ?_
    rintro e wx ⟨rfl, gx⟩
    go_wp2_with fail
    go_ret
    exact ⟨rfl, gx⟩


set_option maxRecDepth 100000 in
theorem lifted (os : Os) (started : os.Started) (H : Type) (enc : TypeId × Value → H) :
    ReturnsInHanded {} Try.checked os 3 .any (Rows.sealSumsSpec.pre6 enc Try.prog Try.f3 Rows.sealSumsRow.domain false) (Rows.sealSumsSpec.post enc Try.prog Try.f3 false true false false) := by
  refine returnsInHanded_of_change (C := Try.checked) own started (by kernel_rfl) Try.func3
    (ChangeSpec.witness6 (enc := enc) (C := Try.checked) false ⟨#[], #[.int .u64 0, .slice none 0 0], []⟩ 8 (by kernel_rfl) (by kernel_rfl) (by kernel_rfl) (by kernel_rfl)) ?_
  intro W base args ds gs before hval0 hW hcnd _
  have hval : ∀ (j : Nat) t v, Try.f3.params[j]? = some t → args[j]? = some v → Value.okWide Try.prog W .any base t v := hval0
  have hW' := hW
  obtain ⟨p, q, hA0, hV, rfl, hfz, hnd⟩ := hW
  have hA : DataW.TrodAll enc Try.prog W 0 (fun _ => true) true Try.f3.params.toList args.toList ds p := hA0
  rw [Try.params3] at hA hval
  obtain ⟨v0, vs0, d0, ds0, p0, q0, hargs, rfl, rfl, h0, r0⟩ := trodAll_cons hA
  obtain ⟨v1, vs1, d1, ds1, p1, q1, rfl, rfl, rfl, h1, r1⟩ := trodAll_cons r0
  obtain ⟨rfl, rfl, rfl⟩ := trodAll_nil r1
  obtain rfl : args = #[v0, v1] := by cases args; simp_all
  obtain ⟨rfl, rfl⟩ := trodVars_none hV
  have k0' := h0
  have lt0 : ∀ x ∈ p0, x.block < W.heap.size := by obtain ⟨m, hm⟩ := k0'; exact DataW.trod_lt m _ _ _ hm
  have k1' := h1
  have lt1 : ∀ x ∈ p1, x.block < W.heap.size := by obtain ⟨m, hm⟩ := k1'; exact DataW.trod_lt m _ _ _ hm
  obtain ⟨n0, rfl, rfl, rfl, w0⟩ := open_int Try.underlying22 (hval 0 22 v0 rfl rfl) h0
  obtain ⟨a1, R1⟩ := bytes_form (hval 1 23 v1 rfl rfl) h1
  clear hA0 hval0
  simp only [List.append_nil] at hW'
  refine (walk n0 v1 a1 W (wf_u64 w0) R1).mono fun e W' ⟨he, bel⟩ => ?_
  subst he
  exact ⟨_, rfl, _, _, _, [], _, [], hW', trodAll_mk1 (shut_bool Try.underlying4 _), (trodAll_cons_mk (Below.trod laidOut (by kernel_rfl) (of_decide_eq_true (by kernel_rfl)) k0' bel lt0) (trodAll_cons_mk (Below.trod laidOut (by kernel_rfl) (of_decide_eq_true (by kernel_rfl)) k1' bel lt1) trodAll_mk0)), rfl, bel.frame _, fun h => by cases h⟩

theorem over : Rows.sealSumsRow.holds Try.pinned (OpenSpec.ofChange Rows.sealSumsSpec) :=
  OpenClaim.holds_of_wide 3 Try.f3 rfl rfl rfl rfl rfl rfl rfl ⟨rfl, rfl, rfl, rfl, rfl⟩ rfl rfl rfl rfl rfl (by kernel_rfl) Try.func3 (by kernel_rfl)
    (of_decide_eq_true (by kernel_rfl)) (by unfold Func.isWrapper; first | (rw [if_pos (by decide +kernel)]; kernel_rfl) | (rw [if_neg (by decide +kernel)]; exact ⟨rfl, rfl⟩))
    (fun os started H enc _ => lifted os started H enc)
end sealSums

theorem sealSums_holds : Rows.SealSumsSaid := sealSums.over
#print axioms sealSums_holds
end Go.Proofs.Ytoalhgbdekbklaa
