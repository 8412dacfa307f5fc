/-
  The law FlowCuts holds: for every input it returns true and leaves its arguments as they were.
-/
import Derived.Test.YtjkempammohkaaaRows
import Derived.Test.YtjkempammohkaaaFlU
import Derived.Test.YtjkempammohkaaaFlV
namespace Go.Proofs.Ytjkempammohkaaa
namespace flowCuts
open Go.ChangeShapes Go.WideShapes Go.ChangeAt Go.RowKit
open IntWalk
open Fl
set_option linter.unusedVariables false

set_option maxHeartbeats 4000000 in
set_option maxRecDepth 100000 in
theorem walk (N : Int) (l : List Ac) (p : Option Addr) (c : Nat) (s t : Int) (w : World) (hl : l.length ≤ maxLen) (hA : NetAt w p l) (ws : -9223372036854775808 ≤ s ∧ s ≤ 9223372036854775807) (wt : -9223372036854775808 ≤ t ∧ t ≤ 9223372036854775807) :
    Calls Try.prog 5 #[.agg #[.int .i64 N, .slice p l.length c], .int .i64 s, .int .i64 t] w fun e w' => e = .returned (.bool true) ∧ Below w.heap.size w w' := by
  unfold maxLen at hl
  have K0 := Lib.hid (KN.start w N p l.length c 24)
  have HA := Lib.hid hA
  have SM := Lib.hid (fun x hx W => small_run N l.length p c 64 200 x hx W hl)
  clear hA ws wt
  cases hsm : smlB N l.length 64 200
  · have S1 := Lib.hid (fun W => SM.out false hsm W)
    clear SM hsm
    go_enter Try.func5, Try.ntmps5
    go_wp2_with fail
    refine (S1.out _).mono ?_
    rintro _ w1 ⟨rfl, b1⟩
    have K1 := Lib.hid (K0.out.step b1)
    clear b1
    go_wp2_with fail
    refine (awake_run _).mono ?_
    rintro _ w2 ⟨rfl, b2⟩
    have K2 := Lib.hid (K1.out.step b2)
    clear b2
    go_wp2_with fail
    go_ret
    exact ⟨rfl, K2.out.b⟩
  · have S1 := Lib.hid (fun W => SM.out true hsm W)
    have hs2 : N ≤ 64 ∧ l.length ≤ 200 := by unfold smlB at hsm; simpa using hsm
    clear SM hsm hl
    have EN := Lib.hid (fun W (h : Below w.heap.size w W) => ends_run N l p c s t W (by omega) (HA.out.below h))
    by_cases he : endE N l s t = 0
    · obtain ⟨ve, ⟨s0, s1⟩, ⟨t0, t1⟩, st⟩ := endE_ok he
      obtain ⟨NK, n1, n2⟩ := valE_ok ve
      obtain ⟨N', rfl⟩ : ∃ n : Nat, N = n := ⟨N.toNat, by omega⟩
      obtain ⟨s', rfl⟩ : ∃ n : Nat, s = n := ⟨s.toNat, by omega⟩
      obtain ⟨t', rfl⟩ : ∃ n : Nat, t = n := ⟨t.toNat, by omega⟩
      obtain ⟨G, eG⟩ : ∃ G, G = netG (N' : Int) l := ⟨_, rfl⟩
      have CU := Lib.hid (fun W (h : Below w.heap.size w W) => cut_ok eG p c s' t' W (HA.out.below h) he)
      have MX := Lib.hid (fun W (h : Below w.heap.size w W) => max_ok eG p c s' t' W (HA.out.below h) he)
      have GR := Lib.hid (fun (v : Int) (L : List Int) (pl : Option Addr) (cl : Nat) W (h : Below w.heap.size w W) (hI : IAt W pl L) (hL : L.length = l.length) (cu : Nat → Bool) (hB : G.Best s' t' (fL L) cu) (hv : v = G.out (fL L) s') => greatest_run eG p c s' t' v L pl cl W (HA.out.below h) hI he hL hB hv)
      have RC := Lib.hid (fun (L : List Int) (pl : Option Addr) (cl : Nat) W (h : Below w.heap.size w W) (hI : IAt W pl L) (hL : L.length = l.length) => reach_run eG NK (by omega) (by omega) p c s' (by omega) L pl cl W (HA.out.below h) hI hL)
      have CP := Lib.hid (fun (S : Nat → Bool) (b : Nat) W (h : Below w.heap.size w W) (hS : W.rowIs b 4 N' (bv S)) => capacity_run eG NK (by omega) (by omega) p c S b W (HA.out.below h) hS)
      have GM : Hid (G.m = l.length) := Lib.hid (by rw [eG]; rfl)
      have NG : Hid (G.N = N') := Lib.hid (by rw [eG]; show (N' : Int).toNat = N'; omega)
      have HG : Hid G.Ok := Lib.hid (by rw [eG]; exact NK.ok)
      have hs : s' < N' := by omega
      have ht : t' < N' := by omega
      rw [he] at EN
      clear ve s0 s1 t0 t1 st eG he NK n1 n2
      have i1 : ((l.length : Int) != (l.length : Int)) = false := by simp
      have i2 : ((N' : Int) != (N' : Int)) = false := by simp
      go_enter Try.func5, Try.ntmps5
      go_wp2_with fail
      refine (S1.out _).mono ?_
      rintro _ w1 ⟨rfl, b1⟩
      have K1 := Lib.hid (K0.out.step b1)
      have k0 := K1.out.c0
      have k1 := K1.out.c1
      have C1 := Lib.hid (CU.out w1 K1.out.b)
      clear b1 S1 CU
      go_wp2_with fail
      refine C1.out.mono ?_
      rintro _ w2 ⟨f1, cu, b, rfl, hb, row, best, b2⟩
      have K2 := Lib.hid (K1.out.step b2)
      have RW := Lib.hid row
      have BE := Lib.hid best
      have E2 := Lib.hid (EN.out w2 K2.out.b)
      rw [NG.out] at RW ⊢
      clear k0 k1 row best b2 C1 EN hb
      have k0 := K2.out.c0
      have k1 := K2.out.c1
      go_wp2_with fail
      refine E2.out.mono ?_
      rintro _ w3 ⟨rfl, b3⟩
      have K3 := Lib.hid (K2.out.step b3)
      have RW3 : Hid (w3.rowIs b 4 N' (bv cu)) := Lib.hid (RW.out.of_block (b3.block b RW.out.lt))
      have M3 := Lib.hid (MX.out w3 K3.out.b)
      clear k0 k1 b3 E2 RW MX
      have k0 := K3.out.c0
      have k1 := K3.out.c1
      go_wp2_with fail
      refine M3.out.mono ?_
      rintro _ w4 ⟨v, f, cu2, b5, rfl, hb5, row5, best5, hv, b4⟩
      have K4 := Lib.hid (K3.out.step b4)
      have RW4 : Hid (w4.rowIs b 4 N' (bv cu)) := Lib.hid (RW3.out.of_block (b4.block b RW3.out.lt))
      have LI := Lib.hid (list_of GM.out row5)
      obtain ⟨L, hL⟩ : ∃ L, L = List.map f (List.range l.length) := ⟨_, rfl⟩
      rw [← hL] at LI
      have LL : Hid (L.length = l.length) := Lib.hid (by rw [hL]; simp)
      have BE4 := Lib.hid (best_congr best5 LI.out.2)
      have HV : Hid (v = G.out (fL L) s') := Lib.hid (by rw [hv]; exact out_congr LI.out.2 s')
      have G4 := Lib.hid (GR.out v L (some ⟨b5, 0, none⟩) l.length w4 K4.out.b LI.out.1 LL.out cu2 BE4.out HV.out)
      rw [LL.out] at G4
      rw [GM.out]
      clear k0 k1 row5 best5 hv b4 M3 hL GR RW3 hb5
      have k0 := K4.out.c0
      have k1 := K4.out.c1
      go_wp2_with fail
      refine G4.out.mono ?_
      rintro _ w5 ⟨rfl, b6⟩
      have K5 := Lib.hid (K4.out.step b6)
      have RW5 : Hid (w5.rowIs b 4 N' (bv cu)) := Lib.hid (RW4.out.of_block (b6.block b RW4.out.lt))
      have R5 := Lib.hid (RC.out L (some ⟨b5, 0, none⟩) l.length w5 K5.out.b (LI.out.1.below b6) LL.out)
      rw [LL.out] at R5
      clear k0 k1 b6 G4 RC RW4 LI
      have k0 := K5.out.c0
      have k1 := K5.out.c1
      go_wp2_with fail
      refine R5.out.mono ?_
      rintro _ w6 ⟨S, b7, rfl, hb7, row7, re7, b8⟩
      have K6 := Lib.hid (K5.out.step b8)
      have RW6 : Hid (w6.rowIs b 4 N' (bv cu)) := Lib.hid (RW5.out.of_block (b8.block b RW5.out.lt))
      have BS := Lib.hid (best_of (by rw [NG.out]; exact ht) BE4.out re7)
      have SE : Hid (∀ i, i < N' → cu i = S i) := Lib.hid (fun i hi => BE.out.same HG.out (by rw [NG.out]; exact hs) BS.out i (by rw [NG.out]; exact hi))
      have SA := Lib.hid (same_run (n := N') (a1 := 0) (a2 := 0) (c1 := N') (c2 := N') (by omega) b b7 cu S w6 RW6.out row7 SE.out)
      clear k0 k1 b8 R5 RW5 row7 re7 hb7
      have k0 := K6.out.c0
      have k1 := K6.out.c1
      go_wp2_with fail
      refine SA.out.mono ?_
      rintro _ w7 ⟨rfl, q, rfl⟩
      have K7 := Lib.hid (K6.out.step (b_draws (Below.refl w6.heap.size w6) q))
      have CV : Hid (G.capC cu = v) := Lib.hid (by rw [BE.out.cap HG.out (by rw [NG.out]; exact hs), HV.out]; exact BE.out.value HG.out (by rw [NG.out]; exact hs) BE4.out)
      have C7 := Lib.hid (CP.out cu b (w6.drewN q) K7.out.b (RW6.out.of_block rfl))
      rw [CV.out] at C7
      clear k0 k1 SA CP BE BS SE BE4 HV
      have k0 := K7.out.c0
      have k1 := K7.out.c1
      have vv : (v == v) = true := by simp
      go_wp2_with fail
      refine C7.out.mono ?_
      rintro _ w8 ⟨rfl, b9⟩
      have K8 := Lib.hid (K7.out.step b9)
      clear b9 k0 k1 C7
      go_wp2_with fail
      refine (awake_run _).mono ?_
      rintro _ w9 ⟨rfl, b10⟩
      have K9 := Lib.hid (K8.out.step b10)
      clear b10
      go_wp2_with fail
      go_ret
      exact ⟨rfl, K9.out.b⟩
    · have CU := Lib.hid (fun W (h : Below w.heap.size w W) => cut_bad N l p c s t W (by omega) (HA.out.below h) he)
      have e1 : (endE N l s t == 0) = false := by simpa using he
      have e2 : (endE N l s t != 0) = true := by simpa using he
      have e3 : (endE N l s t == endE N l s t) = true := by simp
      obtain ⟨x, hx⟩ : ∃ x, x = endE N l s t := ⟨_, rfl⟩
      rw [← hx] at CU EN e1 e2 e3
      clear he hx
      go_enter Try.func5, Try.ntmps5
      go_wp2_with fail
      refine (S1.out _).mono ?_
      rintro _ w1 ⟨rfl, b1⟩
      have K1 := Lib.hid (K0.out.step b1)
      have k0 := K1.out.c0
      have k1 := K1.out.c1
      have M1 := Lib.hid (CU.out w1 K1.out.b)
      clear b1 S1 CU
      go_wp2_with fail
      refine M1.out.mono ?_
      rintro _ w2 ⟨rfl, b2⟩
      have K2 := Lib.hid (K1.out.step b2)
      have E2 := Lib.hid (EN.out w2 K2.out.b)
      clear k0 k1 b2 M1 EN
      have k0 := K2.out.c0
      have k1 := K2.out.c1
      go_wp2_with fail
      refine E2.out.mono ?_
      rintro _ w3 ⟨rfl, b3⟩
      have K3 := Lib.hid (K2.out.step b3)
      clear b3 E2 k0 k1
      go_wp2_with fail
      refine (awake_run _).mono ?_
      rintro _ w4 ⟨rfl, b4⟩
      have K4 := Lib.hid (K3.out.step b4)
      clear b4
      go_wp2_with fail
      go_ret
      exact ⟨rfl, K4.out.b⟩


set_option maxRecDepth 100000 in
theorem lifted (os : Os) (started : os.Started) (H : Type) (enc : TypeId × Value → H) :
    ReturnsInHanded {} Try.checked os 5 .any (Rows.flowCutsSpec.pre6 enc Try.prog Try.f5 Rows.flowCutsRow.domain false) (Rows.flowCutsSpec.post enc Try.prog Try.f5 false true false false) := by
  refine returnsInHanded_of_change (C := Try.checked) own started (by kernel_rfl) Try.func5
    (ChangeSpec.witness6 (enc := enc) (C := Try.checked) false ⟨#[], #[.agg #[.int .i64 0, .slice none 0 0], .int .i64 0, .int .i64 0], []⟩ 8 (by kernel_rfl) (by kernel_rfl) (by kernel_rfl) (by kernel_rfl)) ?_
  intro W base args ds gs before hval0 hW hcnd _
  have hval : ∀ (j : Nat) t v, Try.f5.params[j]? = some t → args[j]? = some v → Value.okWide Try.prog W .any base t v := hval0
  have hW' := hW
  obtain ⟨p, q, hA0, hV, rfl, hfz, hnd⟩ := hW
  have hA : DataW.TrodAll enc Try.prog W 0 (fun _ => true) true Try.f5.params.toList args.toList ds p := hA0
  rw [Try.params5] at hA hval
  obtain ⟨v0, vs0, d0, ds0, p0, q0, hargs, rfl, rfl, h0, r0⟩ := trodAll_cons hA
  obtain ⟨v1, vs1, d1, ds1, p1, q1, rfl, rfl, rfl, h1, r1⟩ := trodAll_cons r0
  obtain ⟨v2, vs2, d2, ds2, p2, q2, rfl, rfl, rfl, h2, r2⟩ := trodAll_cons r1
  obtain ⟨rfl, rfl, rfl⟩ := trodAll_nil r2
  obtain rfl : args = #[v0, v1, v2] := by cases args; simp_all
  obtain ⟨rfl, rfl⟩ := trodVars_none hV
  have k0' := h0
  have lt0 : ∀ x ∈ p0, x.block < W.heap.size := by obtain ⟨m, hm⟩ := k0'; exact DataW.trod_lt m _ _ _ hm
  have k1' := h1
  have lt1 : ∀ x ∈ p1, x.block < W.heap.size := by obtain ⟨m, hm⟩ := k1'; exact DataW.trod_lt m _ _ _ hm
  have k2' := h2
  have lt2 : ∀ x ∈ p2, x.block < W.heap.size := by obtain ⟨m, hm⟩ := k2'; exact DataW.trod_lt m _ _ _ hm
  obtain ⟨N0, a0, l0, c0, rfl, hl0, hn0⟩ := net_form (hval 0 24 v0 rfl rfl) h0
  obtain ⟨n1, rfl, rfl, rfl, w1⟩ := open_int Try.underlying3 (hval 1 3 v1 rfl rfl) h1
  obtain ⟨n2, rfl, rfl, rfl, w2⟩ := open_int Try.underlying3 (hval 2 3 v2 rfl rfl) h2
  clear hA0 hval0
  simp only [List.append_nil] at hW'
  refine (walk N0 l0 a0 c0 n1 n2 W hl0 hn0 (wf_i64 w1) (wf_i64 w2)).mono fun e W' ⟨he, bel⟩ => ?_
  subst he
  exact ⟨_, rfl, _, _, _, [], _, [], hW', trodAll_mk1 (shut_bool Try.underlying4 _), (trodAll_cons_mk (Below.trod laidOut (by kernel_rfl) (of_decide_eq_true (by kernel_rfl)) k0' bel lt0) (trodAll_cons_mk (Below.trod laidOut (by kernel_rfl) (of_decide_eq_true (by kernel_rfl)) k1' bel lt1) (trodAll_cons_mk (Below.trod laidOut (by kernel_rfl) (of_decide_eq_true (by kernel_rfl)) k2' bel lt2) trodAll_mk0))), rfl, bel.frame _, fun h => by cases h⟩

theorem over : Rows.flowCutsRow.holds Try.pinned (OpenSpec.ofChange Rows.flowCutsSpec) :=
  OpenClaim.holds_of_wide 5 Try.f5 rfl rfl rfl rfl rfl rfl rfl ⟨rfl, rfl, rfl, rfl, rfl⟩ rfl rfl rfl rfl rfl (by kernel_rfl) Try.func5 (by kernel_rfl)
    (of_decide_eq_true (by kernel_rfl)) (by unfold Func.isWrapper; first | (rw [if_pos (by decide +kernel)]; kernel_rfl) | (rw [if_neg (by decide +kernel)]; exact ⟨rfl, rfl⟩))
    (fun os started H enc _ => lifted os started H enc)
end flowCuts

theorem flowCuts_holds : Rows.FlowCutsSaid := flowCuts.over
#print axioms flowCuts_holds
end Go.Proofs.Ytjkempammohkaaa
