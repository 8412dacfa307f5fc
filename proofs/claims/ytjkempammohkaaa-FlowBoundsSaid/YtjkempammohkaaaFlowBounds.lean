/-
  The law FlowBounds holds: for every input it returns true and leaves its arguments as they were.
-/
import Derived.Test.YtjkempammohkaaaRows
import Derived.Test.YtjkempammohkaaaFlU
import Derived.Test.YtjkempammohkaaaFlV
namespace Go.Proofs.Ytjkempammohkaaa
namespace flowBounds
open Go.ChangeShapes Go.WideShapes Go.ChangeAt Go.RowKit
open IntWalk
open Fl
set_option linter.unusedVariables false

def updC (S : Nat → Bool) (k : Nat) (e : Bool) : Nat → Bool := fun i => if i = k then e else S i
theorem sd_step {w : World} {b n : Nat} {S : Nat → Bool} (h : w.rowIs b 4 n (bv S)) (k : Nat) (e : Bool) : (w.setCell ⟨b, k, none⟩ (.bool e)).rowIs b 4 n (bv (updC S k e)) :=
  (h.set k _).congr fun j hj => by
    show (if j = k then _ else _) = Value.bool (if j = k then e else S j)
    split <;> rfl
theorem kn_put {w X : World} {N : Int} {p : Option Addr} {n c b i : Nat} {v : Value} (h : KN w N p n c X) (hb : w.heap.size < b) : KN w N p n c (X.setCell ⟨b, i, none⟩ v) :=
  ⟨h.b.setCell (p := ⟨b, i, none⟩) (by simp only; omega) v, by simpa using h.lt, (World.cell?_setCell_far X _ _ _ (by simp only; omega)).trans h.c0, (World.cell?_setCell_far X _ _ _ (by simp only; omega)).trans h.c1⟩

set_option maxHeartbeats 4000000 in
set_option maxRecDepth 100000 in
theorem walk (N : Int) (l : List Ac) (p : Option Addr) (c : Nat) (s t d : Int) (w : World) (hl : l.length ≤ maxLen) (hA : NetAt w p l) (ws : -9223372036854775808 ≤ s ∧ s ≤ 9223372036854775807) (wt : -9223372036854775808 ≤ t ∧ t ≤ 9223372036854775807) (wd : 0 ≤ d ∧ d ≤ 18446744073709551615) :
    Calls Try.prog 8 #[.agg #[.int .i64 N, .slice p l.length c], .int .i64 s, .int .i64 t, .int .u64 d] w fun e w' => e = .returned (.bool true) ∧ Below w.heap.size w w' := by
  unfold maxLen at hl
  have K0 := Lib.hid (KN.start w N p l.length c 24)
  have HA := Lib.hid hA
  have SM := Lib.hid (fun x hx W => small_run N l.length p c 64 200 x hx W hl)
  obtain ⟨wd0, wd1⟩ := wd
  clear hA ws wt
  cases hsm : smlB N l.length 64 200
  · have S1 := Lib.hid (fun W => SM.out false hsm W)
    clear SM hsm
    go_enter Try.func8, Try.ntmps8
    go_wp2_with fail
    refine (S1.out _).mono ?_
    rintro _ w1 ⟨rfl, b1⟩
    have K1 := Lib.hid (K0.out.step b1)
    clear b1
    go_wp2_with fail
    refine (awake_run _).mono ?_
    rintro _ w2 ⟨rfl, b2⟩
    have K2 := Lib.hid (K1.out.step b2)
    clear b2
    go_wp2_with fail
    go_ret
    exact ⟨rfl, K2.out.b⟩
  · have S1 := Lib.hid (fun W => SM.out true hsm W)
    have hs2 : N ≤ 64 ∧ l.length ≤ 200 := by unfold smlB at hsm; simpa using hsm
    clear SM hsm hl
    have EN := Lib.hid (fun W (h : Below w.heap.size w W) => ends_run N l p c s t W (by omega) (HA.out.below h))
    by_cases he : endE N l s t = 0
    · obtain ⟨ve, ⟨s0, s1⟩, ⟨t0, t1⟩, st⟩ := endE_ok he
      obtain ⟨NK, n1, n2⟩ := valE_ok ve
      obtain ⟨N', rfl⟩ : ∃ n : Nat, N = n := ⟨N.toNat, by omega⟩
      obtain ⟨s', rfl⟩ : ∃ n : Nat, s = n := ⟨s.toNat, by omega⟩
      obtain ⟨t', rfl⟩ : ∃ n : Nat, t = n := ⟨t.toNat, by omega⟩
      obtain ⟨G, eG⟩ : ∃ G, G = netG (N' : Int) l := ⟨_, rfl⟩
      have CU := Lib.hid (fun W (h : Below w.heap.size w W) => cut_ok eG p c s' t' W (HA.out.below h) he)
      have MX := Lib.hid (fun W (h : Below w.heap.size w W) => max_ok eG p c s' t' W (HA.out.below h) he)
      have CP := Lib.hid (fun (S : Nat → Bool) (b : Nat) W (h : Below w.heap.size w W) (hS : W.rowIs b 4 N' (bv S)) => capacity_run eG NK (by omega) (by omega) p c S b W (HA.out.below h) hS)
      have GM : Hid (G.m = l.length) := Lib.hid (by rw [eG]; rfl)
      have NG : Hid (G.N = N') := Lib.hid (by rw [eG]; show (N' : Int).toNat = N'; omega)
      have HG : Hid G.Ok := Lib.hid (by rw [eG]; exact NK.ok)
      have hs : s' < N' := by omega
      have ht : t' < N' := by omega
      have hst : s' ≠ t' := by omega
      have hN : N' ≤ 64 := by omega
      have HST := Lib.hid hst
      rw [he] at EN
      clear ve s0 s1 t0 t1 st eG he NK n1 n2 hst
      have i2 : ((N' : Int) != (N' : Int)) = false := by simp
      go_enter Try.func8, Try.ntmps8
      go_wp2_with fail
      refine (S1.out _).mono ?_
      rintro _ w1 ⟨rfl, b1⟩
      have K1 := Lib.hid (K0.out.step b1)
      have k0 := K1.out.c0
      have k1 := K1.out.c1
      have E1 := Lib.hid (EN.out w1 K1.out.b)
      clear b1 S1 EN
      go_wp2_with fail
      refine E1.out.mono ?_
      rintro _ w2 ⟨rfl, b2⟩
      have K2 := Lib.hid (K1.out.step b2)
      have M2 := Lib.hid (MX.out w2 K2.out.b)
      clear k0 k1 b2 E1 MX
      have k0 := K2.out.c0
      have k1 := K2.out.c1
      go_wp2_with fail
      refine M2.out.mono ?_
      rintro _ w3 ⟨v, f, cu2, b5, rfl, hb5, row5, best5, hv, b3⟩
      have K3 := Lib.hid (K2.out.step b3)
      have BE := Lib.hid best5
      have HV := Lib.hid hv
      have C3 := Lib.hid (CU.out w3 K3.out.b)
      clear k0 k1 b3 M2 CU best5 hv row5 hb5
      have k0 := K3.out.c0
      have k1 := K3.out.c1
      go_wp2_with fail
      refine C3.out.mono ?_
      rintro _ w4 ⟨f1, cu, b, rfl, hb, row, best, b4⟩
      have K4 := Lib.hid (K3.out.step b4)
      have BC := Lib.hid best
      have RW := Lib.hid row
      rw [NG.out] at RW ⊢
      clear k0 k1 row best b4 C3
      have k0 := K4.out.c0
      have k1 := K4.out.c1
      have mk1 := fun W => make_bools N' (by omega) W
      go_wp2_with fail
      clear mk1 k0 k1
      have RB : Hid ((w4.alloc (.cells (Array.replicate N' (.bool false)) 4)).rowIs w4.heap.size 4 N' (bv fun _ => false)) := Lib.hid (by
        have := World.rowIs_alloc w4 (Array.replicate N' (.bool false)) 4 (bv fun _ => false) (fun q hq => by
          have hq' : q < N' := by simpa using hq
          simp [hq', bv])
        simpa using this)
      have K5 := Lib.hid (K4.out.step ((Below.refl w4.heap.size w4).alloc (Nat.le_refl _) (.cells (Array.replicate N' (.bool false)) 4)))
      have RW5 := Lib.hid (RW.out.alloc (.cells (Array.replicate N' (.bool false)) 4))
      obtain ⟨q, hq⟩ : ∃ q, q = w4.heap.size := ⟨_, rfl⟩
      have hwq : w.heap.size < q := by rw [hq]; exact K4.out.lt
      have hbq : b < q := by rw [hq]; exact RW.out.lt
      rw [← hq] at RB ⊢
      clear hq RW K4
      have A0 : Hid (∃ S, (w4.alloc (.cells (Array.replicate N' (.bool false)) 4)).rowIs q 4 N' (bv S)) := Lib.hid ⟨_, RB.out⟩
      go_loopw [15] (fun i wr => ∃ (k : Nat) (S : Nat → Bool), i = .int .i64 (k : Int) ∧ k ≤ N' ∧ Hid (wr.rowIs q 4 N' (bv S)) ∧ Hid ((s' < k → S s' = true) ∧ (t' < k → S t' = false)) ∧ Hid (wr.rowIs b 4 N' (bv cu)) ∧ Hid (KN w (N' : Int) p l.length c wr)) (fun i _ => N' - (intOf i).toNat)
      case atStart => exact ⟨0, _, rfl, Nat.zero_le _, RB, Lib.hid ⟨fun h => by omega, fun h => by omega⟩, RW5, K5⟩
      case round =>
        clear A0 RB RW5 K5
        obtain ⟨k, S, rfl, hk, RB, ST, RW5, K5⟩ := hrel
        have k0 := K5.out.c0
        have k1 := K5.out.c1
        by_cases hlt : k < N'
        · have kl := RB.out.cell hlt
          have kf := RB.out.frozen k
          unfold bv at kl
          have i6 : (0 : Int) ≤ (k : Int) := by omega
          have i7 : (k : Int) < (N' : Int) := by omega
          by_cases ks : k = s'
          · have e1 : ((k : Int) == (s' : Int)) = true := by rw [beq_iff_eq]; omega
            have ST2 : Hid ((s' < k + 1 → updC S k true s' = true) ∧ (t' < k + 1 → updC S k true t' = false)) := Lib.hid ⟨fun _ => by unfold updC; rw [if_pos ks.symm], fun h => by
              have : t' ≠ k := by rw [ks]; exact fun e => HST.out e.symm
              unfold updC; rw [if_neg this]; exact ST.out.2 (by omega)⟩
            clear ks
            go_wp2_with fail
            go_roundw
            case rel => exact ⟨k + 1, updC S k true, by go_num, by omega, Lib.hid (sd_step RB.out k true), ST2, Lib.hid (RW5.out.setOther (by simp only; omega) _), Lib.hid (kn_put K5.out hwq)⟩
            case measure => simp [intOf]; omega
          · have e1 : ((k : Int) == (s' : Int)) = false := by rw [beq_eq_false_iff_ne]; omega
            by_cases kt : k = t'
            · have e2 : ((k : Int) != (t' : Int)) = false := by rw [bne_eq_false_iff_eq]; omega
              have ST2 : Hid ((s' < k + 1 → updC S k false s' = true) ∧ (t' < k + 1 → updC S k false t' = false)) := Lib.hid ⟨fun h => by
                unfold updC; rw [if_neg (fun e => ks e.symm)]; exact ST.out.1 (by omega), fun _ => by unfold updC; rw [if_pos kt.symm]⟩
              clear ks kt
              go_wp2_with fail
              go_roundw
              case rel => exact ⟨k + 1, updC S k false, by go_num, by omega, Lib.hid (sd_step RB.out k false), ST2, Lib.hid (RW5.out.setOther (by simp only; omega) _), Lib.hid (kn_put K5.out hwq)⟩
              case measure => simp [intOf]; omega
            · have e2 : ((k : Int) != (t' : Int)) = true := bne_iff_ne.2 (by omega)
              have ST2 : Hid (∀ e, (s' < k + 1 → updC S k e s' = true) ∧ (t' < k + 1 → updC S k e t' = false)) := Lib.hid (fun e => ⟨fun h => by
                unfold updC; rw [if_neg (fun e => ks e.symm)]; exact ST.out.1 (by omega), fun h => by unfold updC; rw [if_neg (fun e => kt e.symm)]; exact ST.out.2 (by omega)⟩)
              clear ks kt
              go_wp2_with fail
              go_roundw
              case rel => exact ⟨k + 1, updC S k _, by go_num, by omega, Lib.hid (sd_step RB.out k _), Lib.hid (ST2.out _), Lib.hid (RW5.out.setOther (by simp only; omega) _), Lib.hid (kn_put K5.out hwq)⟩
              case measure => simp [intOf]; omega
        · obtain rfl : k = N' := by omega
          have S1 : Hid (S s' = true) := Lib.hid (ST.out.1 hs)
          have S2 : Hid (S t' = false) := Lib.hid (ST.out.2 ht)
          have C5 := Lib.hid (CP.out S q wr K5.out.b RB.out)
          have GE : Hid (v ≤ G.capC S) := Lib.hid (by rw [HV.out]; exact value_le HG.out (by rw [NG.out]; exact hs) BE.out.flow S1.out S2.out)
          have SUB : Hid (G.capC S = v → ∀ i, i < k → cu i = true → S i = true) := Lib.hid (fun h i hi => BC.out.sub HG.out (by rw [NG.out]; exact hs) S1.out S2.out (by rw [h, HV.out]; exact BE.out.value HG.out (by rw [NG.out]; exact hs) BC.out) i (by rw [NG.out]; exact hi))
          obtain ⟨z, hz⟩ : ∃ z, z = G.capC S := ⟨_, rfl⟩
          rw [← hz] at C5 GE SUB
          clear hz ST CP
          go_wp2_with fail
          refine C5.out.mono ?_
          rintro _ w6 ⟨rfl, b6⟩
          have K6 := Lib.hid (K5.out.step b6)
          have RS6 : Hid (w6.rowIs q 4 k (bv S)) := Lib.hid (RB.out.of_block (b6.block q RB.out.lt))
          have RC6 : Hid (w6.rowIs b 4 k (bv cu)) := Lib.hid (RW5.out.of_block (b6.block b RW5.out.lt))
          clear k0 k1 b6 C5 RB RW5
          have k0 := K6.out.c0
          have k1 := K6.out.c1
          go_wp2_with fail
          go_loop [17] (fun i => ∃ j : Nat, i = .int .i64 (j : Int) ∧ j ≤ k) (fun i => k - (intOf i).toNat)
          case atStart => exact ⟨0, rfl, Nat.zero_le _⟩
          case round =>
            obtain ⟨j, rfl, hj⟩ := hrel
            by_cases hjk : j < k
            · have cj := RC6.out.cell hjk
              have sj := RS6.out.cell hjk
              unfold bv at cj sj
              have i6 : (0 : Int) ≤ (j : Int) := by omega
              have i7 : (j : Int) < (k : Int) := by omega
              by_cases zv : z = v
              · have zz : (z == v) = true := by simpa using zv
                cases cc : cu j
                · rw [cc] at cj
                  clear cc zv
                  go_wp2_with fail
                  go_round
                  case rel => exact ⟨j + 1, by go_num, by omega⟩
                  case measure => simp [intOf]; omega
                · rw [cc] at cj
                  rw [SUB.out zv j hjk cc] at sj
                  clear cc zv
                  go_wp2_with fail
                  go_round
                  case rel => exact ⟨j + 1, by go_num, by omega⟩
                  case measure => simp [intOf]; omega
              · have zz : (z == v) = false := by simpa using zv
                clear zv
                go_wp2_with fail
                go_round
                case rel => exact ⟨j + 1, by go_num, by omega⟩
                case measure => simp [intOf]; omega
            · have ge := GE.out
              go_wp2_with fail
              refine (awake_run _).mono ?_
              rintro _ w9 ⟨rfl, b10⟩
              have K9 := Lib.hid (K6.out.step b10)
              clear b10
              go_wp2_with fail
              go_ret
              exact ⟨rfl, K9.out.b⟩
    · have e1 : (endE N l s t == 0) = false := by simpa using he
      have e2 : (endE N l s t != 0) = true := by simpa using he
      obtain ⟨x, hx⟩ : ∃ x, x = endE N l s t := ⟨_, rfl⟩
      rw [← hx] at EN e1 e2
      clear he hx
      go_enter Try.func8, Try.ntmps8
      go_wp2_with fail
      refine (S1.out _).mono ?_
      rintro _ w1 ⟨rfl, b1⟩
      have K1 := Lib.hid (K0.out.step b1)
      have k0 := K1.out.c0
      have k1 := K1.out.c1
      have E1 := Lib.hid (EN.out w1 K1.out.b)
      clear b1 S1 EN
      go_wp2_with fail
      refine E1.out.mono ?_
      rintro _ w2 ⟨rfl, b2⟩
      have K2 := Lib.hid (K1.out.step b2)
      clear b2 E1 k0 k1
      go_wp2_with fail
      refine (awake_run _).mono ?_
      rintro _ w4 ⟨rfl, b4⟩
      have K4 := Lib.hid (K2.out.step b4)
      clear b4
      go_wp2_with fail
      go_ret
      exact ⟨rfl, K4.out.b⟩


set_option maxRecDepth 100000 in
theorem lifted (os : Os) (started : os.Started) (H : Type) (enc : TypeId × Value → H) :
    ReturnsInHanded {} Try.checked os 8 .any (Rows.flowBoundsSpec.pre6 enc Try.prog Try.f8 Rows.flowBoundsRow.domain false) (Rows.flowBoundsSpec.post enc Try.prog Try.f8 false true false false) := by
  refine returnsInHanded_of_change (C := Try.checked) own started (by kernel_rfl) Try.func8
    (ChangeSpec.witness6 (enc := enc) (C := Try.checked) false ⟨#[], #[.agg #[.int .i64 0, .slice none 0 0], .int .i64 0, .int .i64 0, .int .u64 0], []⟩ 8 (by kernel_rfl) (by kernel_rfl) (by kernel_rfl) (by kernel_rfl)) ?_
  intro W base args ds gs before hval0 hW hcnd _
  have hval : ∀ (j : Nat) t v, Try.f8.params[j]? = some t → args[j]? = some v → Value.okWide Try.prog W .any base t v := hval0
  have hW' := hW
  obtain ⟨p, q, hA0, hV, rfl, hfz, hnd⟩ := hW
  have hA : DataW.TrodAll enc Try.prog W 0 (fun _ => true) true Try.f8.params.toList args.toList ds p := hA0
  rw [Try.params8] at hA hval
  obtain ⟨v0, vs0, d0, ds0, p0, q0, hargs, rfl, rfl, h0, r0⟩ := trodAll_cons hA
  obtain ⟨v1, vs1, d1, ds1, p1, q1, rfl, rfl, rfl, h1, r1⟩ := trodAll_cons r0
  obtain ⟨v2, vs2, d2, ds2, p2, q2, rfl, rfl, rfl, h2, r2⟩ := trodAll_cons r1
  obtain ⟨v3, vs3, d3, ds3, p3, q3, rfl, rfl, rfl, h3, r3⟩ := trodAll_cons r2
  obtain ⟨rfl, rfl, rfl⟩ := trodAll_nil r3
  obtain rfl : args = #[v0, v1, v2, v3] := by cases args; simp_all
  obtain ⟨rfl, rfl⟩ := trodVars_none hV
  have k0' := h0
  have lt0 : ∀ x ∈ p0, x.block < W.heap.size := by obtain ⟨m, hm⟩ := k0'; exact DataW.trod_lt m _ _ _ hm
  have k1' := h1
  have lt1 : ∀ x ∈ p1, x.block < W.heap.size := by obtain ⟨m, hm⟩ := k1'; exact DataW.trod_lt m _ _ _ hm
  have k2' := h2
  have lt2 : ∀ x ∈ p2, x.block < W.heap.size := by obtain ⟨m, hm⟩ := k2'; exact DataW.trod_lt m _ _ _ hm
  have k3' := h3
  have lt3 : ∀ x ∈ p3, x.block < W.heap.size := by obtain ⟨m, hm⟩ := k3'; exact DataW.trod_lt m _ _ _ hm
  obtain ⟨N0, a0, l0, c0, rfl, hl0, hn0⟩ := net_form (hval 0 24 v0 rfl rfl) h0
  obtain ⟨n1, rfl, rfl, rfl, w1⟩ := open_int Try.underlying3 (hval 1 3 v1 rfl rfl) h1
  obtain ⟨n2, rfl, rfl, rfl, w2⟩ := open_int Try.underlying3 (hval 2 3 v2 rfl rfl) h2
  obtain ⟨n3, rfl, rfl, rfl, w3⟩ := open_int Try.underlying46 (hval 3 46 v3 rfl rfl) h3
  clear hA0 hval0
  simp only [List.append_nil] at hW'
  refine (walk N0 l0 a0 c0 n1 n2 n3 W hl0 hn0 (wf_i64 w1) (wf_i64 w2) (wf_u64 w3)).mono fun e W' ⟨he, bel⟩ => ?_
  subst he
  exact ⟨_, rfl, _, _, _, [], _, [], hW', trodAll_mk1 (shut_bool Try.underlying4 _), (trodAll_cons_mk (Below.trod laidOut (by kernel_rfl) (of_decide_eq_true (by kernel_rfl)) k0' bel lt0) (trodAll_cons_mk (Below.trod laidOut (by kernel_rfl) (of_decide_eq_true (by kernel_rfl)) k1' bel lt1) (trodAll_cons_mk (Below.trod laidOut (by kernel_rfl) (of_decide_eq_true (by kernel_rfl)) k2' bel lt2) (trodAll_cons_mk (Below.trod laidOut (by kernel_rfl) (of_decide_eq_true (by kernel_rfl)) k3' bel lt3) trodAll_mk0)))), rfl, bel.frame _, fun h => by cases h⟩

theorem over : Rows.flowBoundsRow.holds Try.pinned (OpenSpec.ofChange Rows.flowBoundsSpec) :=
  OpenClaim.holds_of_wide 8 Try.f8 rfl rfl rfl rfl rfl rfl rfl ⟨rfl, rfl, rfl, rfl, rfl⟩ rfl rfl rfl rfl rfl (by kernel_rfl) Try.func8 (by kernel_rfl)
    (of_decide_eq_true (by kernel_rfl)) (by unfold Func.isWrapper; first | (rw [if_pos (by decide +kernel)]; kernel_rfl) | (rw [if_neg (by decide +kernel)]; exact ⟨rfl, rfl⟩))
    (fun os started H enc _ => lifted os started H enc)
end flowBounds

theorem flowBounds_holds : Rows.FlowBoundsSaid := flowBounds.over
#print axioms flowBounds_holds
end Go.Proofs.Ytjkempammohkaaa
