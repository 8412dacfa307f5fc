/-
  The law FlowValids holds: for every input it returns true and leaves its arguments as they were.
-/
import Derived.Test.YtjkempammohkaaaRows
import Derived.Test.YtjkempammohkaaaFlU
import Derived.Test.YtjkempammohkaaaFlV
namespace Go.Proofs.Ytjkempammohkaaa
namespace flowValids
open Go.ChangeShapes Go.WideShapes Go.ChangeAt Go.RowKit
open IntWalk
open Fl
set_option linter.unusedVariables false

theorem kn_drew {w X : World} {N : Int} {p : Option Addr} {n c : Nat} (h : Below w.heap.size w X ∧ w.heap.size < X.heap.size ∧ X.cell? ⟨w.heap.size, 0, none⟩ = some (.int .i64 N) ∧ X.cell? ⟨w.heap.size, 1, none⟩ = some (.slice p n c)) : Below w.heap.size w X.drew ∧ w.heap.size < X.drew.heap.size ∧ X.drew.cell? ⟨w.heap.size, 0, none⟩ = some (.int .i64 N) ∧ X.drew.cell? ⟨w.heap.size, 1, none⟩ = some (.slice p n c) :=
  ⟨h.1.drew, h.2⟩
theorem kn_call {w X Y : World} {N : Int} {p : Option Addr} {n c : Nat} (h : Below w.heap.size w X ∧ w.heap.size < X.heap.size ∧ X.cell? ⟨w.heap.size, 0, none⟩ = some (.int .i64 N) ∧ X.cell? ⟨w.heap.size, 1, none⟩ = some (.slice p n c)) (b : Below X.heap.size X Y) : Below w.heap.size w Y ∧ w.heap.size < Y.heap.size ∧ Y.cell? ⟨w.heap.size, 0, none⟩ = some (.int .i64 N) ∧ Y.cell? ⟨w.heap.size, 1, none⟩ = some (.slice p n c) :=
  ⟨h.1.trans (b.mono (Nat.le_of_lt h.2.1)), Nat.lt_of_lt_of_le h.2.1 b.size, (b.cell (p := ⟨w.heap.size, 0, none⟩) h.2.1).trans h.2.2.1, (b.cell (p := ⟨w.heap.size, 1, none⟩) h.2.1).trans h.2.2.2⟩

set_option maxHeartbeats 4000000 in
set_option maxRecDepth 100000 in
theorem walk (N : Int) (l : List Ac) (p : Option Addr) (c : Nat) (w : World) (hl : l.length ≤ maxLen) (hA : NetAt w p l) :
    Calls Try.prog 3 #[.agg #[.int .i64 N, .slice p l.length c]] w fun e w' => e = .returned (.bool true) ∧ Below w.heap.size w w' := by
  unfold maxLen at hl
  have B0 := Lib.hid ((Below.refl w.heap.size w).alloc (Nat.le_refl _) (.cells #[.int .i64 N, .slice p l.length c] 24))
  by_cases h1 : 2100 < l.length
  · clear hA
    have h2 : decide (2100 < l.length) = true := by simpa using h1
    go_enter Try.func3, Try.ntmps3
    go_wp2_with fail
    refine (awake_run _).mono ?_
    rintro _ w1 ⟨rfl, b1⟩
    have B1 := Lib.hid (B0.out.trans (b1.mono B0.out.size))
    clear b1
    go_wp2_with fail
    go_ret
    exact ⟨rfl, B1.out⟩
  · have h2 : decide (2100 < l.length) = false := by simpa using h1
    have VA := Lib.hid (fun W (h : Below w.heap.size w W) => valid_run N l p c W (by omega) (hA.below h))
    have VB := Lib.hid (fun W (h : Below w.heap.size w W) => rvalid_run N l p c W (by omega) (hA.below h))
    have S0 : Below w.heap.size w (w.alloc (.cells #[.int .i64 N, .slice p l.length c] 24)) ∧ w.heap.size < (w.alloc (.cells #[.int .i64 N, .slice p l.length c] 24)).heap.size ∧ (w.alloc (.cells #[.int .i64 N, .slice p l.length c] 24)).cell? ⟨w.heap.size, 0, none⟩ = some (.int .i64 N) ∧ (w.alloc (.cells #[.int .i64 N, .slice p l.length c] 24)).cell? ⟨w.heap.size, 1, none⟩ = some (.slice p l.length c) := ⟨B0.out, by simp, by simp, by simp⟩
    obtain ⟨x, hx⟩ : ∃ x, x = valE N l := ⟨_, rfl⟩
    rw [← hx] at VA VB
    have e3 : (x == x) = true := by simp
    clear hA hx
    go_enter Try.func3, Try.ntmps3
    go_upto_region 3 with fail
    revert S0
    generalize (w.alloc (.cells #[.int .i64 N, .slice p l.length c] 24)) = w1
    intro S0
    go_region_held3 (fun X => Below w.heap.size w X ∧ w.heap.size < X.heap.size ∧ X.cell? ⟨w.heap.size, 0, none⟩ = some (.int .i64 N) ∧ X.cell? ⟨w.heap.size, 1, none⟩ = some (.slice p l.length c)) (first | assumption | exact kn_drew (by assumption) | exact kn_call (by assumption) (by assumption))
      (first | (go_at_call 12; refine (VA.out _ (And.left (by assumption))).mono ?_; rintro e z1 ⟨rfl, b1⟩; dsimp only) | (go_at_call 13; refine (VB.out _ (And.left (by assumption))).mono ?_; rintro e z2 ⟨rfl, b2⟩; dsimp only) | (go_at_call 11; refine (awake_run _).mono ?_; rintro e z3 ⟨rfl, b3⟩; dsimp only))
    have hq := kn_call (kn_call (kn_call (kn_drew S0) b1) b2) b3
    clear S0
    go_wp2_with fail
    go_ret
    exact ⟨rfl, hq.1⟩


set_option maxRecDepth 100000 in
theorem lifted (os : Os) (started : os.Started) (H : Type) (enc : TypeId × Value → H) :
    ReturnsInHanded {} Try.checked os 3 .any (Rows.flowValidsSpec.pre6 enc Try.prog Try.f3 Rows.flowValidsRow.domain false) (Rows.flowValidsSpec.post enc Try.prog Try.f3 false true false false) := by
  refine returnsInHanded_of_change (C := Try.checked) own started (by kernel_rfl) Try.func3
    (ChangeSpec.witness6 (enc := enc) (C := Try.checked) false ⟨#[], #[.agg #[.int .i64 0, .slice none 0 0]], []⟩ 8 (by kernel_rfl) (by kernel_rfl) (by kernel_rfl) (by kernel_rfl)) ?_
  intro W base args ds gs before hval0 hW hcnd _
  have hval : ∀ (j : Nat) t v, Try.f3.params[j]? = some t → args[j]? = some v → Value.okWide Try.prog W .any base t v := hval0
  have hW' := hW
  obtain ⟨p, q, hA0, hV, rfl, hfz, hnd⟩ := hW
  have hA : DataW.TrodAll enc Try.prog W 0 (fun _ => true) true Try.f3.params.toList args.toList ds p := hA0
  rw [Try.params3] at hA hval
  obtain ⟨v0, vs0, d0, ds0, p0, q0, hargs, rfl, rfl, h0, r0⟩ := trodAll_cons hA
  obtain ⟨rfl, rfl, rfl⟩ := trodAll_nil r0
  obtain rfl : args = #[v0] := by cases args; simp_all
  obtain ⟨rfl, rfl⟩ := trodVars_none hV
  have k0' := h0
  have lt0 : ∀ x ∈ p0, x.block < W.heap.size := by obtain ⟨m, hm⟩ := k0'; exact DataW.trod_lt m _ _ _ hm
  obtain ⟨N0, a0, l0, c0, rfl, hl0, hn0⟩ := net_form (hval 0 24 v0 rfl rfl) h0
  clear hA0 hval0
  simp only [List.append_nil] at hW'
  refine (walk N0 l0 a0 c0 W hl0 hn0).mono fun e W' ⟨he, bel⟩ => ?_
  subst he
  exact ⟨_, rfl, _, _, _, [], _, [], hW', trodAll_mk1 (shut_bool Try.underlying4 _), (trodAll_cons_mk (Below.trod laidOut (by kernel_rfl) (of_decide_eq_true (by kernel_rfl)) k0' bel lt0) trodAll_mk0), rfl, bel.frame _, fun h => by cases h⟩

theorem over : Rows.flowValidsRow.holds Try.pinned (OpenSpec.ofChange Rows.flowValidsSpec) :=
  OpenClaim.holds_of_wide 3 Try.f3 rfl rfl rfl rfl rfl rfl rfl ⟨rfl, rfl, rfl, rfl, rfl⟩ rfl rfl rfl rfl rfl (by kernel_rfl) Try.func3 (by kernel_rfl)
    (of_decide_eq_true (by kernel_rfl)) (by unfold Func.isWrapper; first | (rw [if_pos (by decide +kernel)]; kernel_rfl) | (rw [if_neg (by decide +kernel)]; exact ⟨rfl, rfl⟩))
    (fun os started H enc _ => lifted os started H enc)
end flowValids

theorem flowValids_holds : Rows.FlowValidsSaid := flowValids.over
#print axioms flowValids_holds
end Go.Proofs.Ytjkempammohkaaa
