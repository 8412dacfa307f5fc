/-
  The law SealChains holds: for every input it returns true and leaves its arguments as they were.
-/
import Derived.Test.YtoalhgbdekbklaaRows
import Derived.Test.YtoalhgbdekbklaaSeG
import Derived.WalkKit
import Derived.BigQuiet
namespace Go.Proofs.Ytoalhgbdekbklaa
namespace sealChains
open Go.ChangeShapes Go.WideShapes Go.ChangeAt Go.RowKit
open IntWalk
set_option linter.unusedVariables false

set_option maxHeartbeats 4000000 in
set_option maxRecDepth 100000 in
theorem walk (k : Int) (v : Value) (a : List UInt8) (u : Value) (c : List UInt8) (w : World) (_ : 0 ≤ k ∧ k < 18446744073709551616) (Ra : RdB w v a) (Rc : RdB w u c) :
    Calls Try.prog 5 #[.int .u64 k, v, u] w fun e w' => e = .returned (.bool true) ∧ Below w.heap.size w w' := by
  have la := rd_len Ra
  have lc := rd_len Rc
  unfold maxLen at la lc
  by_cases ha : a.length ≤ 5000 ∧ c.length ≤ 5000
  · obtain ⟨ha, hc⟩ := ha
    have RA := Lib.hid Ra
    have RC := Lib.hid Rc
    have C1 := Lib.hid (chain_run k v a w (by omega) Ra)
    obtain ⟨s, hs⟩ : ∃ s, s = hashP k (keyI k) a := ⟨_, rfl⟩
    have C2 := Lib.hid (fun W (R : RdB W u c) => chain_run s u c W (by omega) R)
    have C3 := Lib.hid (fun W (R : RdB W v a) => rchain_run k v a W (by omega) R)
    have C4 := Lib.hid (fun W (R : RdB W u c) => rchain_run s u c W (by omega) R)
    obtain ⟨t, ht⟩ : ∃ t, t = hashP s (keyI s) c := ⟨_, rfl⟩
    rw [← hs] at C1 C3
    rw [← ht] at C2 C4
    clear hs ht
    obtain ⟨pa, ca, rfl, _, _, _⟩ := Ra
    obtain ⟨pc, cc, rfl, _, _, _⟩ := Rc
    go_enter Try.func5, Try.ntmps5
    go_wp2_with fail
    refine C1.out.mono ?_
    rintro e w1 ⟨rfl, b⟩
    have B1 := Lib.hid (b)
    clear b C1
    go_wp2_with fail
    refine (C2.out _ (RC.out.below B1.out)).mono ?_
    rintro e w2 ⟨rfl, b⟩
    have B2 := Lib.hid (bt B1.out b)
    clear b C2 B1
    go_wp2_with fail
    refine (C3.out _ (RA.out.below B2.out)).mono ?_
    rintro e w3 ⟨rfl, b⟩
    have B3 := Lib.hid (bt B2.out b)
    clear b C3 B2
    go_wp2_with fail
    refine (C4.out _ (RC.out.below B3.out)).mono ?_
    rintro e w4 ⟨rfl, b⟩
    have B4 := Lib.hid (bt B3.out b)
    clear b C4 B3
    go_wp2_with fail
    refine (awake_run _).mono ?_
    rintro e wx ⟨rfl, gx⟩
    have BX := Lib.hid (bt B4.out gx)
    clear gx
    go_wp2_with fail
    go_ret
    exact ⟨rfl, BX.out⟩
  · obtain ⟨pa, ca, rfl, _, _, _⟩ := Ra
    obtain ⟨pc, cc, rfl, _, _, _⟩ := Rc
    by_cases h1 : 5000 < a.length
    · go_enter Try.func5, Try.ntmps5
      go_wp2_with fail
      refine (awake_run _).mono ?_
      rintro e wx ⟨rfl, gx⟩
      go_wp2_with fail
      go_ret
      exact ⟨rfl, gx⟩
    · have h2 : 5000 < c.length := by omega
      go_enter Try.func5, Try.ntmps5
      go_wp2_with fail
      refine (awake_run _).mono ?_
      rintro e wx ⟨rfl, gx⟩
      go_wp2_with fail
      go_ret
      exact ⟨rfl, gx⟩


set_option maxRecDepth 100000 in
theorem lifted (os : Os) (started : os.Started) (H : Type) (enc : TypeId × Value → H) :
    ReturnsInHanded {} Try.checked os 5 .any (Rows.sealChainsSpec.pre6 enc Try.prog Try.f5 Rows.sealChainsRow.domain false) (Rows.sealChainsSpec.post enc Try.prog Try.f5 false true false false) := by
  refine returnsInHanded_of_change (C := Try.checked) own started (by kernel_rfl) Try.func5
    (ChangeSpec.witness6 (enc := enc) (C := Try.checked) false ⟨#[], #[.int .u64 0, .slice none 0 0, .slice none 0 0], []⟩ 8 (by kernel_rfl) (by kernel_rfl) (by kernel_rfl) (by kernel_rfl)) ?_
  intro W base args ds gs before hval0 hW hcnd _
  have hval : ∀ (j : Nat) t v, Try.f5.params[j]? = some t → args[j]? = some v → Value.okWide Try.prog W .any base t v := hval0
  have hW' := hW
  obtain ⟨p, q, hA0, hV, rfl, hfz, hnd⟩ := hW
  have hA : DataW.TrodAll enc Try.prog W 0 (fun _ => true) true Try.f5.params.toList args.toList ds p := hA0
  rw [Try.params5] at hA hval
  obtain ⟨v0, vs0, d0, ds0, p0, q0, hargs, rfl, rfl, h0, r0⟩ := trodAll_cons hA
  obtain ⟨v1, vs1, d1, ds1, p1, q1, rfl, rfl, rfl, h1, r1⟩ := trodAll_cons r0
  obtain ⟨v2, vs2, d2, ds2, p2, q2, rfl, rfl, rfl, h2, r2⟩ := trodAll_cons r1
  obtain ⟨rfl, rfl, rfl⟩ := trodAll_nil r2
  obtain rfl : args = #[v0, v1, v2] := by cases args; simp_all
  obtain ⟨rfl, rfl⟩ := trodVars_none hV
  have k0' := h0
  have lt0 : ∀ x ∈ p0, x.block < W.heap.size := by obtain ⟨m, hm⟩ := k0'; exact DataW.trod_lt m _ _ _ hm
  have k1' := h1
  have lt1 : ∀ x ∈ p1, x.block < W.heap.size := by obtain ⟨m, hm⟩ := k1'; exact DataW.trod_lt m _ _ _ hm
  have k2' := h2
  have lt2 : ∀ x ∈ p2, x.block < W.heap.size := by obtain ⟨m, hm⟩ := k2'; exact DataW.trod_lt m _ _ _ hm
  obtain ⟨n0, rfl, rfl, rfl, w0⟩ := open_int Try.underlying22 (hval 0 22 v0 rfl rfl) h0
  obtain ⟨a1, R1⟩ := bytes_form (hval 1 23 v1 rfl rfl) h1
  obtain ⟨a2, R2⟩ := bytes_form (hval 2 23 v2 rfl rfl) h2
  clear hA0 hval0
  simp only [List.append_nil] at hW'
  refine (walk n0 v1 a1 v2 a2 W (wf_u64 w0) R1 R2).mono fun e W' ⟨he, bel⟩ => ?_
  subst he
  exact ⟨_, rfl, _, _, _, [], _, [], hW', trodAll_mk1 (shut_bool Try.underlying4 _), (trodAll_cons_mk (Below.trod laidOut (by kernel_rfl) (of_decide_eq_true (by kernel_rfl)) k0' bel lt0) (trodAll_cons_mk (Below.trod laidOut (by kernel_rfl) (of_decide_eq_true (by kernel_rfl)) k1' bel lt1) (trodAll_cons_mk (Below.trod laidOut (by kernel_rfl) (of_decide_eq_true (by kernel_rfl)) k2' bel lt2) trodAll_mk0))), rfl, bel.frame _, fun h => by cases h⟩

theorem over : Rows.sealChainsRow.holds Try.pinned (OpenSpec.ofChange Rows.sealChainsSpec) :=
  OpenClaim.holds_of_wide 5 Try.f5 rfl rfl rfl rfl rfl rfl rfl ⟨rfl, rfl, rfl, rfl, rfl⟩ rfl rfl rfl rfl rfl (by kernel_rfl) Try.func5 (by kernel_rfl)
    (of_decide_eq_true (by kernel_rfl)) (by unfold Func.isWrapper; first | (rw [if_pos (by decide +kernel)]; kernel_rfl) | (rw [if_neg (by decide +kernel)]; exact ⟨rfl, rfl⟩))
    (fun os started H enc _ => lifted os started H enc)
end sealChains

theorem sealChains_holds : Rows.SealChainsSaid := sealChains.over
#print axioms sealChains_holds
end Go.Proofs.Ytoalhgbdekbklaa
