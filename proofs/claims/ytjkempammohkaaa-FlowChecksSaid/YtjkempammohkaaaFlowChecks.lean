/-
  The law FlowChecks holds: for every input it returns true and leaves its arguments as they were.
-/
import Derived.Test.YtjkempammohkaaaRows
import Derived.Test.YtjkempammohkaaaFlU
import Derived.Test.YtjkempammohkaaaFlV
namespace Go.Proofs.Ytjkempammohkaaa
namespace flowChecks
open Go.ChangeShapes Go.WideShapes Go.ChangeAt Go.RowKit
open IntWalk
open Fl
set_option linter.unusedVariables false

/-- The claim that came in lies in the call's first block. -/
structure KC (w : World) (a0 a1 a2 a3 a4 : Value) (X : World) : Prop where
  b : Below w.heap.size w X
  lt : w.heap.size < X.heap.size
  c0 : X.cell? ⟨w.heap.size, 0, none⟩ = some a0
  c1 : X.cell? ⟨w.heap.size, 1, none⟩ = some a1
  c2 : X.cell? ⟨w.heap.size, 2, none⟩ = some a2
  c3 : X.cell? ⟨w.heap.size, 3, none⟩ = some a3
  c4 : X.cell? ⟨w.heap.size, 4, none⟩ = some a4
theorem KC.step {w X Y : World} {a0 a1 a2 a3 a4 : Value} (h : KC w a0 a1 a2 a3 a4 X) (b : Below X.heap.size X Y) : KC w a0 a1 a2 a3 a4 Y :=
  ⟨h.b.trans (b.mono (Nat.le_of_lt h.lt)), Nat.lt_of_lt_of_le h.lt b.size, (b.cell (p := ⟨w.heap.size, 0, none⟩) h.lt).trans h.c0, (b.cell (p := ⟨w.heap.size, 1, none⟩) h.lt).trans h.c1, (b.cell (p := ⟨w.heap.size, 2, none⟩) h.lt).trans h.c2, (b.cell (p := ⟨w.heap.size, 3, none⟩) h.lt).trans h.c3, (b.cell (p := ⟨w.heap.size, 4, none⟩) h.lt).trans h.c4⟩

set_option maxHeartbeats 4000000 in
set_option maxRecDepth 100000 in
theorem walk (N : Int) (l : List Ac) (p : Option Addr) (c : Nat) (s t : Int) (L : List Int) (pl : Option Addr) (cl : Nat) (w : World) (hl : l.length ≤ maxLen) (hA : NetAt w p l) (hL : L.length ≤ maxLen) (hI : IAt w pl L) :
    Calls Try.prog 7 #[.agg #[.int .i64 N, .slice p l.length c, .int .i64 s, .int .i64 t, .slice pl L.length cl]] w fun e w' => e = .returned (.bool true) ∧ Below w.heap.size w w' := by
  unfold maxLen at hl hL
  have K0 : Hid (KC w (.int .i64 N) (.slice p l.length c) (.int .i64 s) (.int .i64 t) (.slice pl L.length cl) (w.alloc (.cells #[.int .i64 N, .slice p l.length c, .int .i64 s, .int .i64 t, .slice pl L.length cl] 42))) := Lib.hid ⟨(Below.refl _ _).alloc (Nat.le_refl _) _, by simp, by simp, by simp, by simp, by simp, by simp⟩
  have HA := Lib.hid hA
  have HI := Lib.hid hI
  have SM := Lib.hid (fun x hx W => small_run N l.length p c 64 200 x hx W hl)
  clear hA hI
  cases hsm : smlB N l.length 64 200
  · have S1 := Lib.hid (fun W => SM.out false hsm W)
    clear SM hsm
    go_enter Try.func7, Try.ntmps7
    go_wp2_with fail
    refine (S1.out _).mono ?_
    rintro _ w1 ⟨rfl, b1⟩
    have K1 := Lib.hid (K0.out.step b1)
    clear b1
    go_wp2_with fail
    refine (awake_run _).mono ?_
    rintro _ w2 ⟨rfl, b2⟩
    have K2 := Lib.hid (K1.out.step b2)
    clear b2
    go_wp2_with fail
    go_ret
    exact ⟨rfl, K2.out.b⟩
  · have S1 := Lib.hid (fun W => SM.out true hsm W)
    have hs2 : N ≤ 64 ∧ l.length ≤ 200 := by unfold smlB at hsm; simpa using hsm
    clear SM hsm hl
    by_cases hbig : 210 < L.length
    · have h2 : decide (210 < L.length) = true := by simpa using hbig
      go_enter Try.func7, Try.ntmps7
      go_wp2_with fail
      refine (S1.out _).mono ?_
      rintro _ w1 ⟨rfl, b1⟩
      have K1 := Lib.hid (K0.out.step b1)
      have k4 := K1.out.c4
      clear b1
      go_wp2_with fail
      refine (awake_run _).mono ?_
      rintro _ w2 ⟨rfl, b2⟩
      have K2 := Lib.hid (K1.out.step b2)
      clear b2
      go_wp2_with fail
      go_ret
      exact ⟨rfl, K2.out.b⟩
    · have h2 : decide (210 < L.length) = false := by simpa using hbig
      have CF : Hid (∀ W, Below w.heap.size w W → Calls Try.prog 23 #[.agg #[.int .i64 N, .slice p l.length c], .int .i64 s, .int .i64 t, .slice pl L.length cl] W (CkPost N l s t L W)) := Lib.hid (fun W h => by
        by_cases he : endE N l s t ≠ 0 ∨ L.length ≠ l.length
        · exact fck_bad N l p c s t L pl cl W (by omega) (by omega) (HA.out.below h) he
        · have h1 : endE N l s t = 0 := by
            by_cases e : endE N l s t = 0
            · exact e
            · exact absurd (.inl e) he
          have h2 : L.length = l.length := by omega
          obtain ⟨ve, ⟨s0, s1⟩, ⟨t0, t1⟩, st⟩ := endE_ok h1
          obtain ⟨N', rfl⟩ : ∃ n : Nat, N = n := ⟨N.toNat, by omega⟩
          obtain ⟨s', rfl⟩ : ∃ n : Nat, s = n := ⟨s.toNat, by omega⟩
          obtain ⟨t', rfl⟩ : ∃ n : Nat, t = n := ⟨t.toNat, by omega⟩
          exact fck_good p c s' t' L pl cl W (HA.out.below h) (HI.out.below h) h1 h2)
      have CR : Hid (∀ W, Below w.heap.size w W → Calls Try.prog 24 #[.agg #[.int .i64 N, .slice p l.length c], .int .i64 s, .int .i64 t, .slice pl L.length cl] W (CkPost N l s t L W)) := Lib.hid (fun W h => by
        by_cases he : endE N l s t ≠ 0 ∨ L.length ≠ l.length
        · exact rck_bad N l p c s t L pl cl W (by omega) (by omega) (HA.out.below h) he
        · have h1 : endE N l s t = 0 := by
            by_cases e : endE N l s t = 0
            · exact e
            · exact absurd (.inl e) he
          have h2 : L.length = l.length := by omega
          obtain ⟨ve, ⟨s0, s1⟩, ⟨t0, t1⟩, st⟩ := endE_ok h1
          obtain ⟨N', rfl⟩ : ∃ n : Nat, N = n := ⟨N.toNat, by omega⟩
          obtain ⟨s', rfl⟩ : ∃ n : Nat, s = n := ⟨s.toNat, by omega⟩
          obtain ⟨t', rfl⟩ : ∃ n : Nat, t = n := ⟨t.toNat, by omega⟩
          exact rck_good p c s' t' L pl cl W (HA.out.below h) (HI.out.below h) h1 h2)
      have h3 : L.length ≤ 210 := by omega
      clear hbig
      go_enter Try.func7, Try.ntmps7
      go_wp2_with fail
      refine (S1.out _).mono ?_
      rintro _ w1 ⟨rfl, b1⟩
      have K1 := Lib.hid (K0.out.step b1)
      have k0 := K1.out.c0
      have k1 := K1.out.c1
      have k2 := K1.out.c2
      have k3 := K1.out.c3
      have k4 := K1.out.c4
      have C1 := Lib.hid (CF.out w1 K1.out.b)
      clear b1 CF S1
      go_wp2_with fail
      refine C1.out.mono ?_
      rintro _ w2 ⟨v, b, rfl, ck, b2⟩
      have K2 := Lib.hid (K1.out.step b2)
      have C2 := Lib.hid (CR.out w2 K2.out.b)
      have CK := Lib.hid ck
      clear b2 CR C1 k0 k1 k2 k3 k4 ck
      have k0 := K2.out.c0
      have k1 := K2.out.c1
      have k2 := K2.out.c2
      have k3 := K2.out.c3
      have k4 := K2.out.c4
      go_wp2_with fail
      refine C2.out.mono ?_
      rintro _ w3 ⟨v', b', rfl, ck, b3⟩
      obtain ⟨rfl, rfl⟩ := ck.one CK.out
      have K3 := Lib.hid (K2.out.step b3)
      have v1 : (v' == v') = true := by simp
      have v2 : (b' == b') = true := by simp
      clear b3 C2 k0 k1 k2 k3 k4 ck CK
      go_wp2_with fail
      refine (awake_run _).mono ?_
      rintro _ w4 ⟨rfl, b4⟩
      have K4 := Lib.hid (K3.out.step b4)
      clear b4
      go_wp2_with fail
      go_ret
      exact ⟨rfl, K4.out.b⟩


set_option maxRecDepth 100000 in
theorem lifted (os : Os) (started : os.Started) (H : Type) (enc : TypeId × Value → H) :
    ReturnsInHanded {} Try.checked os 7 .any (Rows.flowChecksSpec.pre6 enc Try.prog Try.f7 Rows.flowChecksRow.domain false) (Rows.flowChecksSpec.post enc Try.prog Try.f7 false true false false) := by
  refine returnsInHanded_of_change (C := Try.checked) own started (by kernel_rfl) Try.func7
    (ChangeSpec.witness6 (enc := enc) (C := Try.checked) false ⟨#[], #[.agg #[.int .i64 0, .slice none 0 0, .int .i64 0, .int .i64 0, .slice none 0 0]], []⟩ 8 (by kernel_rfl) (by kernel_rfl) (by kernel_rfl) (by kernel_rfl)) ?_
  intro W base args ds gs before hval0 hW hcnd _
  have hval : ∀ (j : Nat) t v, Try.f7.params[j]? = some t → args[j]? = some v → Value.okWide Try.prog W .any base t v := hval0
  have hW' := hW
  obtain ⟨p, q, hA0, hV, rfl, hfz, hnd⟩ := hW
  have hA : DataW.TrodAll enc Try.prog W 0 (fun _ => true) true Try.f7.params.toList args.toList ds p := hA0
  rw [Try.params7] at hA hval
  obtain ⟨v0, vs0, d0, ds0, p0, q0, hargs, rfl, rfl, h0, r0⟩ := trodAll_cons hA
  obtain ⟨rfl, rfl, rfl⟩ := trodAll_nil r0
  obtain rfl : args = #[v0] := by cases args; simp_all
  obtain ⟨rfl, rfl⟩ := trodVars_none hV
  have k0' := h0
  have lt0 : ∀ x ∈ p0, x.block < W.heap.size := by obtain ⟨m, hm⟩ := k0'; exact DataW.trod_lt m _ _ _ hm
  obtain ⟨N0, a0, l0, c0, s0, t0, e0, L0, g0, rfl, hl0, hn0, hL0, hi0⟩ := claim_form (hval 0 42 v0 rfl rfl) h0
  clear hA0 hval0
  simp only [List.append_nil] at hW'
  refine (walk N0 l0 a0 c0 s0 t0 L0 e0 g0 W hl0 hn0 hL0 hi0).mono fun e W' ⟨he, bel⟩ => ?_
  subst he
  exact ⟨_, rfl, _, _, _, [], _, [], hW', trodAll_mk1 (shut_bool Try.underlying4 _), (trodAll_cons_mk (Below.trod laidOut (by kernel_rfl) (of_decide_eq_true (by kernel_rfl)) k0' bel lt0) trodAll_mk0), rfl, bel.frame _, fun h => by cases h⟩

theorem over : Rows.flowChecksRow.holds Try.pinned (OpenSpec.ofChange Rows.flowChecksSpec) :=
  OpenClaim.holds_of_wide 7 Try.f7 rfl rfl rfl rfl rfl rfl rfl ⟨rfl, rfl, rfl, rfl, rfl⟩ rfl rfl rfl rfl rfl (by kernel_rfl) Try.func7 (by kernel_rfl)
    (of_decide_eq_true (by kernel_rfl)) (by unfold Func.isWrapper; first | (rw [if_pos (by decide +kernel)]; kernel_rfl) | (rw [if_neg (by decide +kernel)]; exact ⟨rfl, rfl⟩))
    (fun os started H enc _ => lifted os started H enc)
end flowChecks

theorem flowChecks_holds : Rows.FlowChecksSaid := flowChecks.over
#print axioms flowChecks_holds
end Go.Proofs.Ytjkempammohkaaa
