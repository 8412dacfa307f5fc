/-
  The law FlowMaxes holds: for every input it returns true and leaves its arguments as they were.
-/
import Derived.Test.YtjkempammohkaaaRows
import Derived.Test.YtjkempammohkaaaFlU
import Derived.Test.YtjkempammohkaaaFlV
namespace Go.Proofs.Ytjkempammohkaaa
namespace flowMaxes
open Go.ChangeShapes Go.WideShapes Go.ChangeAt Go.RowKit
open IntWalk
open Fl
set_option linter.unusedVariables false

set_option maxHeartbeats 4000000 in
set_option maxRecDepth 100000 in
theorem walk (N : Int) (l : List Ac) (p : Option Addr) (c : Nat) (s t : Int) (w : World) (hl : l.length ≤ maxLen) (hA : NetAt w p l) (ws : -9223372036854775808 ≤ s ∧ s ≤ 9223372036854775807) (wt : -9223372036854775808 ≤ t ∧ t ≤ 9223372036854775807) :
    Calls Try.prog 4 #[.agg #[.int .i64 N, .slice p l.length c], .int .i64 s, .int .i64 t] w fun e w' => e = .returned (.bool true) ∧ Below w.heap.size w w' := by
  unfold maxLen at hl
  have B0 := Lib.hid ((Below.refl w.heap.size w).alloc (Nat.le_refl _) (.cells #[.int .i64 N, .slice p l.length c] 24))
  have HA := Lib.hid hA
  have SM := Lib.hid (fun x hx W => small_run N l.length p c 64 200 x hx W hl)
  clear hA ws wt
  cases hsm : smlB N l.length 64 200
  · have S1 := Lib.hid (fun W => SM.out false hsm W)
    clear SM hsm
    go_enter Try.func4, Try.ntmps4
    go_wp2_with fail
    refine (S1.out _).mono ?_
    rintro _ w1 ⟨rfl, b1⟩
    have B1 := Lib.hid (B0.out.trans (b1.mono (by simp)))
    clear b1
    go_wp2_with fail
    refine (awake_run _).mono ?_
    rintro _ w2 ⟨rfl, b2⟩
    have B2 := Lib.hid (B1.out.trans (b2.mono B1.out.size))
    clear b2
    go_wp2_with fail
    go_ret
    exact ⟨rfl, B2.out⟩
  · have S1 := Lib.hid (fun W => SM.out true hsm W)
    have hs2 : N ≤ 64 ∧ l.length ≤ 200 := by unfold smlB at hsm; simpa using hsm
    clear SM hsm hl
    have EN := Lib.hid (fun W (h : Below w.heap.size w W) => ends_run N l p c s t W (by omega) (HA.out.below h))
    by_cases he : endE N l s t = 0
    · obtain ⟨ve, ⟨s0, s1⟩, ⟨t0, t1⟩, st⟩ := endE_ok he
      obtain ⟨N', rfl⟩ : ∃ n : Nat, N = n := ⟨N.toNat, by omega⟩
      obtain ⟨s', rfl⟩ : ∃ n : Nat, s = n := ⟨s.toNat, by omega⟩
      obtain ⟨t', rfl⟩ : ∃ n : Nat, t = n := ⟨t.toNat, by omega⟩
      obtain ⟨G, eG⟩ : ∃ G, G = netG (N' : Int) l := ⟨_, rfl⟩
      have MX := Lib.hid (fun W (h : Below w.heap.size w W) => max_ok eG p c s' t' W (HA.out.below h) he)
      have GR := Lib.hid (fun (v : Int) (L : List Int) (pl : Option Addr) (cl : Nat) W (h : Below w.heap.size w W) (hI : IAt W pl L) (hL : L.length = l.length) (cu : Nat → Bool) (hB : G.Best s' t' (fL L) cu) (hv : v = G.out (fL L) s') => greatest_run eG p c s' t' v L pl cl W (HA.out.below h) hI he hL hB hv)
      have GM : Hid (G.m = l.length) := Lib.hid (by rw [eG]; rfl)
      rw [he] at EN
      clear ve s0 s1 t0 t1 st eG he
      go_enter Try.func4, Try.ntmps4
      go_wp2_with fail
      refine (S1.out _).mono ?_
      rintro _ w1 ⟨rfl, b1⟩
      obtain ⟨hc, hf⟩ := bcell b1
      have k0 : w1.cell? ⟨w.heap.size, 0, none⟩ = some (.int .i64 (N' : Int)) := by rw [hc _ _ (by simp)]; simp
      have k1 : w1.cell? ⟨w.heap.size, 1, none⟩ = some (.slice p l.length c) := by rw [hc _ _ (by simp)]; simp
      have B1 := Lib.hid (B0.out.trans (b1.mono (by simp)))
      have z1 : w.heap.size < w1.heap.size := by have := b1.size; simp at this; omega
      have M1 := Lib.hid (MX.out w1 B1.out)
      clear hc hf b1 S1 MX
      go_wp2_with fail
      refine M1.out.mono ?_
      rintro _ w2 ⟨v, f, cu, b, rfl, hb, row, best, hv, b2⟩
      have k0' : w2.cell? ⟨w.heap.size, 0, none⟩ = some (.int .i64 (N' : Int)) := (b2.cell (p := ⟨w.heap.size, 0, none⟩) z1).trans k0
      have k1' : w2.cell? ⟨w.heap.size, 1, none⟩ = some (.slice p l.length c) := (b2.cell (p := ⟨w.heap.size, 1, none⟩) z1).trans k1
      have B2 := Lib.hid (B1.out.trans (b2.mono B1.out.size))
      have RW := Lib.hid row
      have BE := Lib.hid best
      have HV := Lib.hid hv
      have z2 : w.heap.size < w2.heap.size := by have := b2.size; omega
      have E2 := Lib.hid (EN.out w2 B2.out)
      rw [GM.out]
      clear k0 k1 row best hv b2 M1 B1 EN
      go_wp2_with fail
      refine E2.out.mono ?_
      rintro _ w3 ⟨rfl, b3⟩
      have k0 : w3.cell? ⟨w.heap.size, 0, none⟩ = some (.int .i64 (N' : Int)) := (b3.cell (p := ⟨w.heap.size, 0, none⟩) z2).trans k0'
      have k1 : w3.cell? ⟨w.heap.size, 1, none⟩ = some (.slice p l.length c) := (b3.cell (p := ⟨w.heap.size, 1, none⟩) z2).trans k1'
      have B3 := Lib.hid (B2.out.trans (b3.mono B2.out.size))
      have LI := Lib.hid (list_of GM.out (RW.out.of_block (b3.block b RW.out.lt)))
      have G3 := Lib.hid (GR.out v (List.map f (List.range l.length)) (some ⟨b, 0, none⟩) l.length w3 B3.out LI.out.1 (by simp) cu (best_congr BE.out LI.out.2) (by rw [HV.out]; exact out_congr LI.out.2 s'))
      rw [show (List.map f (List.range l.length)).length = l.length by simp] at G3
      clear k0' k1' b3 E2 B2 LI GR RW BE HV
      go_wp2_with fail
      refine G3.out.mono ?_
      rintro _ w4 ⟨rfl, b4⟩
      have B4 := Lib.hid (B3.out.trans (b4.mono B3.out.size))
      clear b4 G3 B3
      go_wp2_with fail
      refine (awake_run _).mono ?_
      rintro _ w5 ⟨rfl, b5⟩
      have B5 := Lib.hid (B4.out.trans (b5.mono B4.out.size))
      clear b5 B4
      go_wp2_with fail
      go_ret
      exact ⟨rfl, B5.out⟩
    · have MX := Lib.hid (fun W (h : Below w.heap.size w W) => max_bad N l p c s t W (by omega) (HA.out.below h) he)
      have e1 : (endE N l s t == 0) = false := by simpa using he
      have e2 : (endE N l s t != 0) = true := by simpa using he
      have e3 : (endE N l s t == endE N l s t) = true := by simp
      obtain ⟨x, hx⟩ : ∃ x, x = endE N l s t := ⟨_, rfl⟩
      rw [← hx] at MX EN e1 e2 e3
      clear he hx
      go_enter Try.func4, Try.ntmps4
      go_wp2_with fail
      refine (S1.out _).mono ?_
      rintro _ w1 ⟨rfl, b1⟩
      obtain ⟨hc, hf⟩ := bcell b1
      have k0 : w1.cell? ⟨w.heap.size, 0, none⟩ = some (.int .i64 N) := by rw [hc _ _ (by simp)]; simp
      have k1 : w1.cell? ⟨w.heap.size, 1, none⟩ = some (.slice p l.length c) := by rw [hc _ _ (by simp)]; simp
      have B1 := Lib.hid (B0.out.trans (b1.mono (by simp)))
      have z1 : w.heap.size < w1.heap.size := by have := b1.size; simp at this; omega
      have M1 := Lib.hid (MX.out w1 B1.out)
      clear hc hf b1 S1 MX
      go_wp2_with fail
      refine M1.out.mono ?_
      rintro _ w2 ⟨rfl, b2⟩
      have k0' : w2.cell? ⟨w.heap.size, 0, none⟩ = some (.int .i64 N) := (b2.cell (p := ⟨w.heap.size, 0, none⟩) z1).trans k0
      have k1' : w2.cell? ⟨w.heap.size, 1, none⟩ = some (.slice p l.length c) := (b2.cell (p := ⟨w.heap.size, 1, none⟩) z1).trans k1
      have B2 := Lib.hid (B1.out.trans (b2.mono B1.out.size))
      have E2 := Lib.hid (EN.out w2 B2.out)
      clear k0 k1 b2 M1 B1 EN
      go_wp2_with fail
      refine E2.out.mono ?_
      rintro _ w3 ⟨rfl, b3⟩
      have B3 := Lib.hid (B2.out.trans (b3.mono B2.out.size))
      clear b3 E2
      go_wp2_with fail
      refine (awake_run _).mono ?_
      rintro _ w4 ⟨rfl, b4⟩
      have B4 := Lib.hid (B3.out.trans (b4.mono B3.out.size))
      clear b4
      go_wp2_with fail
      go_ret
      exact ⟨rfl, B4.out⟩


set_option maxRecDepth 100000 in
theorem lifted (os : Os) (started : os.Started) (H : Type) (enc : TypeId × Value → H) :
    ReturnsInHanded {} Try.checked os 4 .any (Rows.flowMaxesSpec.pre6 enc Try.prog Try.f4 Rows.flowMaxesRow.domain false) (Rows.flowMaxesSpec.post enc Try.prog Try.f4 false true false false) := by
  refine returnsInHanded_of_change (C := Try.checked) own started (by kernel_rfl) Try.func4
    (ChangeSpec.witness6 (enc := enc) (C := Try.checked) false ⟨#[], #[.agg #[.int .i64 0, .slice none 0 0], .int .i64 0, .int .i64 0], []⟩ 8 (by kernel_rfl) (by kernel_rfl) (by kernel_rfl) (by kernel_rfl)) ?_
  intro W base args ds gs before hval0 hW hcnd _
  have hval : ∀ (j : Nat) t v, Try.f4.params[j]? = some t → args[j]? = some v → Value.okWide Try.prog W .any base t v := hval0
  have hW' := hW
  obtain ⟨p, q, hA0, hV, rfl, hfz, hnd⟩ := hW
  have hA : DataW.TrodAll enc Try.prog W 0 (fun _ => true) true Try.f4.params.toList args.toList ds p := hA0
  rw [Try.params4] at hA hval
  obtain ⟨v0, vs0, d0, ds0, p0, q0, hargs, rfl, rfl, h0, r0⟩ := trodAll_cons hA
  obtain ⟨v1, vs1, d1, ds1, p1, q1, rfl, rfl, rfl, h1, r1⟩ := trodAll_cons r0
  obtain ⟨v2, vs2, d2, ds2, p2, q2, rfl, rfl, rfl, h2, r2⟩ := trodAll_cons r1
  obtain ⟨rfl, rfl, rfl⟩ := trodAll_nil r2
  obtain rfl : args = #[v0, v1, v2] := by cases args; simp_all
  obtain ⟨rfl, rfl⟩ := trodVars_none hV
  have k0' := h0
  have lt0 : ∀ x ∈ p0, x.block < W.heap.size := by obtain ⟨m, hm⟩ := k0'; exact DataW.trod_lt m _ _ _ hm
  have k1' := h1
  have lt1 : ∀ x ∈ p1, x.block < W.heap.size := by obtain ⟨m, hm⟩ := k1'; exact DataW.trod_lt m _ _ _ hm
  have k2' := h2
  have lt2 : ∀ x ∈ p2, x.block < W.heap.size := by obtain ⟨m, hm⟩ := k2'; exact DataW.trod_lt m _ _ _ hm
  obtain ⟨N0, a0, l0, c0, rfl, hl0, hn0⟩ := net_form (hval 0 24 v0 rfl rfl) h0
  obtain ⟨n1, rfl, rfl, rfl, w1⟩ := open_int Try.underlying3 (hval 1 3 v1 rfl rfl) h1
  obtain ⟨n2, rfl, rfl, rfl, w2⟩ := open_int Try.underlying3 (hval 2 3 v2 rfl rfl) h2
  clear hA0 hval0
  simp only [List.append_nil] at hW'
  refine (walk N0 l0 a0 c0 n1 n2 W hl0 hn0 (wf_i64 w1) (wf_i64 w2)).mono fun e W' ⟨he, bel⟩ => ?_
  subst he
  exact ⟨_, rfl, _, _, _, [], _, [], hW', trodAll_mk1 (shut_bool Try.underlying4 _), (trodAll_cons_mk (Below.trod laidOut (by kernel_rfl) (of_decide_eq_true (by kernel_rfl)) k0' bel lt0) (trodAll_cons_mk (Below.trod laidOut (by kernel_rfl) (of_decide_eq_true (by kernel_rfl)) k1' bel lt1) (trodAll_cons_mk (Below.trod laidOut (by kernel_rfl) (of_decide_eq_true (by kernel_rfl)) k2' bel lt2) trodAll_mk0))), rfl, bel.frame _, fun h => by cases h⟩

theorem over : Rows.flowMaxesRow.holds Try.pinned (OpenSpec.ofChange Rows.flowMaxesSpec) :=
  OpenClaim.holds_of_wide 4 Try.f4 rfl rfl rfl rfl rfl rfl rfl ⟨rfl, rfl, rfl, rfl, rfl⟩ rfl rfl rfl rfl rfl (by kernel_rfl) Try.func4 (by kernel_rfl)
    (of_decide_eq_true (by kernel_rfl)) (by unfold Func.isWrapper; first | (rw [if_pos (by decide +kernel)]; kernel_rfl) | (rw [if_neg (by decide +kernel)]; exact ⟨rfl, rfl⟩))
    (fun os started H enc _ => lifted os started H enc)
end flowMaxes

theorem flowMaxes_holds : Rows.FlowMaxesSaid := flowMaxes.over
#print axioms flowMaxes_holds
end Go.Proofs.Ytjkempammohkaaa
