/-
  Max and Cut: the walks.
-/
import Derived.Test.YtjkempammohkaaaFlH
import Derived.Test.YtjkempammohkaaaFlK
import Derived.Test.YtjkempammohkaaaFlL
namespace Go.Proofs.Ytjkempammohkaaa
open Go.RowKit
open IntWalk
open Fl
set_option linter.unusedVariables false

set_option maxHeartbeats 4000000 in
set_option maxRecDepth 100000 in
theorem check_run (N : Int) (l : List Ac) (p : Option Addr) (c : Nat) (s t : Int) (w : World) (hl : l.length ≤ 100000) (hA : NetAt w p l) :
    Calls Try.prog 27 #[.agg #[.int .i64 N, .slice p l.length c], .int .i64 s, .int .i64 t] w fun e w' => e = .returned (.int .i64 (endE N l s t)) ∧ Below w.heap.size w w' := by
  have V := Lib.hid (valid_run N l p c (w.alloc (.cells #[.int .i64 N, .slice p l.length c] 24)) hl (hA.below ((Below.refl _ _).alloc (Nat.le_refl _) _)))
  have B0 := Lib.hid ((Below.refl w.heap.size w).alloc (Nat.le_refl _) (.cells #[.int .i64 N, .slice p l.length c] 24))
  clear hA
  by_cases hv : valE N l = 0
  · have hE : endE N l s t = if isnB N s = true ∧ isnB N t = true ∧ s ≠ t then 0 else 2 := if_pos hv
    have HE := Lib.hid hE
    clear hE
    rw [hv] at V
    clear hv
    cases e1 : isnB N s
    · have IF := Lib.hid (fun W => isnode_b N s p l.length c false e1 W)
      have HR : Hid (endE N l s t = 2) := Lib.hid (by rw [HE.out, if_neg (by simp [e1])])
      clear e1
      go_enter Try.func27, Try.ntmps27
      go_wp2_with fail
      refine V.out.mono ?_
      rintro _ w1 ⟨rfl, b1⟩
      obtain ⟨hc, hf⟩ := bcell b1
      have k0 : w1.cell? ⟨w.heap.size, 0, none⟩ = some (.int .i64 N) := by rw [hc _ _ (by simp)]; simp
      have k1 : w1.cell? ⟨w.heap.size, 1, none⟩ = some (.slice p l.length c) := by rw [hc _ _ (by simp)]; simp
      have B1 := Lib.hid (B0.out.trans (b1.mono (by simp)))
      clear hc hf b1
      go_wp2_with fail
      refine (IF.out _).mono ?_
      rintro _ w2 ⟨rfl, rfl⟩
      go_wp2_with fail
      go_ret
      exact ⟨ret_int (by rw [HR.out]), B1.out.alloc (by have := B1.out.size; omega) _⟩
    · have IF := Lib.hid (fun W => isnode_b N s p l.length c true e1 W)
      cases e2 : isnB N t
      · have IT := Lib.hid (fun W => isnode_b N t p l.length c false e2 W)
        have HR : Hid (endE N l s t = 2) := Lib.hid (by rw [HE.out, if_neg (by simp [e2])])
        clear e1 e2
        go_enter Try.func27, Try.ntmps27
        go_wp2_with fail
        refine V.out.mono ?_
        rintro _ w1 ⟨rfl, b1⟩
        obtain ⟨hc, hf⟩ := bcell b1
        have k0 : w1.cell? ⟨w.heap.size, 0, none⟩ = some (.int .i64 N) := by rw [hc _ _ (by simp)]; simp
        have k1 : w1.cell? ⟨w.heap.size, 1, none⟩ = some (.slice p l.length c) := by rw [hc _ _ (by simp)]; simp
        have B1 := Lib.hid (B0.out.trans (b1.mono (by simp)))
        have z1 : w.heap.size < w1.heap.size := by have := b1.size; simp at this; omega
        clear hc hf b1
        go_wp2_with fail
        refine (IF.out _).mono ?_
        rintro _ w2 ⟨rfl, rfl⟩
        go_wp2_with fail
        refine (IT.out _).mono ?_
        rintro _ w2 ⟨rfl, rfl⟩
        go_wp2_with fail
        go_ret
        exact ⟨ret_int (by rw [HR.out]), (B1.out.alloc (by omega) _).alloc (by simp; omega) _⟩
      · have IT := Lib.hid (fun W => isnode_b N t p l.length c true e2 W)
        by_cases e3 : s = t
        · have HR : Hid (endE N l s t = 2) := Lib.hid (by rw [HE.out, if_neg (by simp [e3])])
          clear e1 e2
          subst e3
          go_enter Try.func27, Try.ntmps27
          go_wp2_with fail
          refine V.out.mono ?_
          rintro _ w1 ⟨rfl, b1⟩
          obtain ⟨hc, hf⟩ := bcell b1
          have k0 : w1.cell? ⟨w.heap.size, 0, none⟩ = some (.int .i64 N) := by rw [hc _ _ (by simp)]; simp
          have k1 : w1.cell? ⟨w.heap.size, 1, none⟩ = some (.slice p l.length c) := by rw [hc _ _ (by simp)]; simp
          have B1 := Lib.hid (B0.out.trans (b1.mono (by simp)))
          have z1 : w.heap.size < w1.heap.size := by have := b1.size; simp at this; omega
          clear hc hf b1
          go_wp2_with fail
          refine (IF.out _).mono ?_
          rintro _ w2 ⟨rfl, rfl⟩
          go_wp2_with fail
          refine (IT.out _).mono ?_
          rintro _ w2 ⟨rfl, rfl⟩
          go_wp2_with fail
          go_ret
          exact ⟨ret_int (by rw [HR.out]), (B1.out.alloc (by omega) _).alloc (by simp; omega) _⟩
        · have HR : Hid (endE N l s t = 0) := Lib.hid (by rw [HE.out, if_pos ⟨e1, e2, e3⟩])
          have e4 : (s == t) = false := by simpa using e3
          clear e1 e2 e3
          go_enter Try.func27, Try.ntmps27
          go_wp2_with fail
          refine V.out.mono ?_
          rintro _ w1 ⟨rfl, b1⟩
          obtain ⟨hc, hf⟩ := bcell b1
          have k0 : w1.cell? ⟨w.heap.size, 0, none⟩ = some (.int .i64 N) := by rw [hc _ _ (by simp)]; simp
          have k1 : w1.cell? ⟨w.heap.size, 1, none⟩ = some (.slice p l.length c) := by rw [hc _ _ (by simp)]; simp
          have B1 := Lib.hid (B0.out.trans (b1.mono (by simp)))
          have z1 : w.heap.size < w1.heap.size := by have := b1.size; simp at this; omega
          clear hc hf b1
          go_wp2_with fail
          refine (IF.out _).mono ?_
          rintro _ w2 ⟨rfl, rfl⟩
          go_wp2_with fail
          refine (IT.out _).mono ?_
          rintro _ w2 ⟨rfl, rfl⟩
          go_wp2_with fail
          go_ret
          exact ⟨ret_int (by rw [HR.out]), (B1.out.alloc (by omega) _).alloc (by simp; omega) _⟩
  · have HR : Hid (endE N l s t = valE N l) := Lib.hid (if_neg hv)
    have hv1 : (valE N l == 0) = false := by simpa using hv
    have hv2 : (valE N l != 0) = true := by simpa using hv
    obtain ⟨x, hx⟩ : ∃ x, x = valE N l := ⟨_, rfl⟩
    rw [← hx] at V HR hv1 hv2
    clear hv hx
    go_enter Try.func27, Try.ntmps27
    go_wp2_with fail
    refine V.out.mono ?_
    rintro _ w1 ⟨rfl, b1⟩
    have B1 := Lib.hid (B0.out.trans (b1.mono (by simp)))
    clear b1
    go_wp2_with fail
    go_ret
    exact ⟨ret_int (by rw [HR.out]), B1.out⟩

/-- What Max returns for a network in order. -/
def MaxOk (G : Nt) (s t : Nat) (w : World) (e : Ending) (w' : World) : Prop :=
  ∃ (v : Int) (f : Nat → Int) (cu : Nat → Bool) (b : Nat), e = .returned (.tuple #[.int .i64 v, .slice (some ⟨b, 0, none⟩) G.m G.m, .int .i64 0]) ∧ w.heap.size ≤ b ∧ w'.rowIs b 3 G.m (iv f) ∧ G.Best s t f cu ∧ v = G.out f s ∧ Below w.heap.size w w'
/-- What Cut returns for a network in order. -/
def CutOk (G : Nt) (s t : Nat) (w : World) (e : Ending) (w' : World) : Prop :=
  ∃ (f : Nat → Int) (cu : Nat → Bool) (b : Nat), e = .returned (.tuple #[.slice (some ⟨b, 0, none⟩) G.N G.N, .int .i64 0]) ∧ w.heap.size ≤ b ∧ w'.rowIs b 4 G.N (fun i => .bool (cu i)) ∧ G.Best s t f cu ∧ Below w.heap.size w w'

set_option maxHeartbeats 4000000 in
set_option maxRecDepth 100000 in
theorem max_bad (N : Int) (l : List Ac) (p : Option Addr) (c : Nat) (s t : Int) (w : World) (hl : l.length ≤ 100000) (hA : NetAt w p l) (he : endE N l s t ≠ 0) :
    Calls Try.prog 15 #[.agg #[.int .i64 N, .slice p l.length c], .int .i64 s, .int .i64 t] w fun e w' => e = .returned (.tuple #[.int .i64 0, .slice none 0 0, .int .i64 (endE N l s t)]) ∧ Below w.heap.size w w' := by
  have C := Lib.hid (check_run N l p c s t (w.alloc (.cells #[.int .i64 N, .slice p l.length c] 24)) hl (hA.below ((Below.refl _ _).alloc (Nat.le_refl _) _)))
  have B0 := Lib.hid ((Below.refl w.heap.size w).alloc (Nat.le_refl _) (.cells #[.int .i64 N, .slice p l.length c] 24))
  have e1 : (endE N l s t == 0) = false := by simpa using he
  have e2 : (endE N l s t != 0) = true := by simpa using he
  obtain ⟨x, hx⟩ : ∃ x, x = endE N l s t := ⟨_, rfl⟩
  rw [← hx] at C e1 e2 ⊢
  clear hA he hx
  go_enter Try.func15, Try.ntmps15
  go_wp2_with fail
  refine C.out.mono ?_
  rintro _ w1 ⟨rfl, b1⟩
  have B1 := Lib.hid (B0.out.trans (b1.mono (by simp)))
  clear b1
  go_wp2_with fail
  go_ret3
  exact ⟨rfl, B1.out⟩
set_option maxHeartbeats 4000000 in
set_option maxRecDepth 100000 in
theorem cut_bad (N : Int) (l : List Ac) (p : Option Addr) (c : Nat) (s t : Int) (w : World) (hl : l.length ≤ 100000) (hA : NetAt w p l) (he : endE N l s t ≠ 0) :
    Calls Try.prog 18 #[.agg #[.int .i64 N, .slice p l.length c], .int .i64 s, .int .i64 t] w fun e w' => e = .returned (.tuple #[.slice none 0 0, .int .i64 (endE N l s t)]) ∧ Below w.heap.size w w' := by
  have C := Lib.hid (check_run N l p c s t (w.alloc (.cells #[.int .i64 N, .slice p l.length c] 24)) hl (hA.below ((Below.refl _ _).alloc (Nat.le_refl _) _)))
  have B0 := Lib.hid ((Below.refl w.heap.size w).alloc (Nat.le_refl _) (.cells #[.int .i64 N, .slice p l.length c] 24))
  have e1 : (endE N l s t == 0) = false := by simpa using he
  have e2 : (endE N l s t != 0) = true := by simpa using he
  obtain ⟨x, hx⟩ : ∃ x, x = endE N l s t := ⟨_, rfl⟩
  rw [← hx] at C e1 e2 ⊢
  clear hA he hx
  go_enter Try.func18, Try.ntmps18
  go_wp2_with fail
  refine C.out.mono ?_
  rintro _ w1 ⟨rfl, b1⟩
  have B1 := Lib.hid (B0.out.trans (b1.mono (by simp)))
  clear b1
  go_wp2_with fail
  go_ret2
  exact ⟨rfl, B1.out⟩
set_option maxHeartbeats 4000000 in
set_option maxRecDepth 100000 in
theorem max_ok {N : Nat} {l : List Ac} {G : Nt} (eG : G = netG (N : Int) l) (p : Option Addr) (c : Nat) (s t : Nat) (w : World) (hA : NetAt w p l) (he : endE (N : Int) l (s : Int) (t : Int) = 0) :
    Calls Try.prog 15 #[.agg #[.int .i64 (N : Int), .slice p l.length c], .int .i64 (s : Int), .int .i64 (t : Int)] w (MaxOk G s t w) := by
  obtain ⟨ve, ⟨s0, s1⟩, ⟨t0, t1⟩, st⟩ := endE_ok he
  obtain ⟨NK, n1, n2⟩ := valE_ok ve
  have hs : s < N := by omega
  have ht : t < N := by omega
  have hst : s ≠ t := by omega
  have hN : N ≤ 10000 := by omega
  have hl : l.length ≤ 10000 := by omega
  have C := Lib.hid (check_run N l p c s t (w.alloc (.cells #[.int .i64 (N : Int), .slice p l.length c] 24)) (by omega) (hA.below ((Below.refl _ _).alloc (Nat.le_refl _) _)))
  rw [he] at C
  have B0 := Lib.hid ((Below.refl w.heap.size w).alloc (Nat.le_refl _) (.cells #[.int .i64 (N : Int), .slice p l.length c] 24))
  have HA := Lib.hid hA
  have NG : Hid (G.N = N) := Lib.hid (by rw [eG]; show (N : Int).toNat = N; omega)
  have GM : Hid (G.m = l.length) := Lib.hid (by rw [eG]; rfl)
  have HG : Hid G.Ok := Lib.hid (by rw [eG]; exact NK.ok)
  have HK := Lib.hid NK
  have EG := Lib.hid eG
  clear hA he ve NK eG n1 n2 s0 s1 t0 t1 st
  go_enter Try.func15, Try.ntmps15
  go_wp2_with fail
  refine C.out.mono ?_
  rintro _ w1 ⟨rfl, b1⟩
  obtain ⟨hc, hf⟩ := bcell b1
  have k0 : w1.cell? ⟨w.heap.size, 0, none⟩ = some (.int .i64 (N : Int)) := by rw [hc _ _ (by simp)]; simp
  have k1 : w1.cell? ⟨w.heap.size, 1, none⟩ = some (.slice p l.length c) := by rw [hc _ _ (by simp)]; simp
  have B1 := Lib.hid (B0.out.trans (b1.mono (by simp)))
  have z1 : w.heap.size < w1.heap.size := by have := b1.size; simp at this; omega
  clear hc hf b1
  have BG := Lib.hid (begin_run (c := c) EG.out HK.out hN hl (HA.out.below B1.out) s t)
  go_wp2_with fail
  refine BG.out.mono ?_
  rintro _ w2 ⟨q, rfl, qo, r2, b2⟩
  obtain ⟨hc, hf⟩ := bcell b2
  have k0' : w2.cell? ⟨w.heap.size, 0, none⟩ = some (.int .i64 (N : Int)) := by rw [hc _ _ z1]; exact k0
  have k1' : w2.cell? ⟨w.heap.size, 1, none⟩ = some (.slice p l.length c) := by rw [hc _ _ z1]; exact k1
  have B2 := Lib.hid (B1.out.trans (b2.mono (by omega)))
  have QO := Lib.hid qo
  have R2 := Lib.hid r2
  have MX := Lib.hid (maximize_run QO.out HG.out (by rw [GM.out]; omega) (by rw [NG.out]; omega) (by rw [NG.out]; exact hs) (by rw [NG.out]; exact ht) hst R2.out)
  have hz2 := b2.size
  clear hc hf k0 k1 b2 qo r2 BG
  go_wp2_with fail
  refine MX.out.mono ?_
  rintro _ w3 ⟨v, R, D, X, rfl, r3, rs, ho, dd, td, cl, b3⟩
  have k0 : w3.cell? ⟨w.heap.size, 0, none⟩ = some (.int .i64 (N : Int)) := (b3.cell (p := ⟨w.heap.size, 0, none⟩) z1).trans k0'
  have k1 : w3.cell? ⟨w.heap.size, 1, none⟩ = some (.slice p l.length c) := (b3.cell (p := ⟨w.heap.size, 1, none⟩) z1).trans k1'
  have B3 := Lib.hid (B2.out.trans (b3.mono (by omega)))
  have R3 := Lib.hid r3
  have BE : Hid (G.Best s t (fl R) (fun v => D v != -1)) := Lib.hid ⟨rs.flow fun u hu h1 h2 => by rw [ho]; unfold give; rw [if_neg (Ne.symm h1), if_neg (Ne.symm h2)]; rfl, dd.reach HG.out rs cl, by rw [td]; rfl⟩
  have VO : Hid (v = G.out (fl R) s) := Lib.hid (by rw [ho]; unfold give; rw [if_pos rfl, if_neg (Ne.symm hst)]; omega)
  have hz3 : w.heap.size < w3.heap.size := by have := b3.size; omega
  clear k0' k1' b3 r3 rs ho dd td cl MX R2 B2 B1 B0 C hz2
  have mk1 := fun W => make_ints l.length (by omega) W
  go_wp2_with fail
  clear mk1 k0 k1
  have RB : Hid ((w3.alloc (.cells (Array.replicate l.length (.int .i64 0)) 3)).rowIs w3.heap.size 3 l.length (fun _ => .int .i64 0)) := Lib.hid (by
    have := World.rowIs_alloc w3 (Array.replicate l.length (.int .i64 0)) 3 (fun _ => .int .i64 0) (fun q hq => by
      have hq' : q < l.length := by simpa using hq
      simp [hq'])
    simpa using this)
  obtain ⟨b, hb⟩ : ∃ b, b = w3.heap.size := ⟨_, rfl⟩
  have R4 := Lib.hid (R3.out.alloc (.cells (Array.replicate l.length (.int .i64 0)) 3))
  have B4 := Lib.hid (B3.out.alloc (by omega) (.cells (Array.replicate l.length (.int .i64 0)) 3))
  have SZ := Lib.hid R3.out.size
  rw [← hb] at RB SZ ⊢
  have hbz : w.heap.size ≤ b := by omega
  clear R3 B3 hb
  go_loopw [33] (fun i wr => ∃ k : Nat, i = .int .i64 (k : Int) ∧ k ≤ l.length ∧ Hid (wr.rowIs b 3 l.length (fun i => if i < k then .int .i64 (fl R i) else .int .i64 0)) ∧ Hid (Res wr q G s t R D X) ∧ Hid (Below w.heap.size w wr)) (fun i _ => l.length - (intOf i).toNat)
  case atStart => exact ⟨0, rfl, Nat.zero_le _, RB.out.congr fun i hi => by simp, R4, B4⟩
  case round =>
    clear RB R4 B4
    obtain ⟨k, rfl, hk, RB, R4, B4⟩ := hrel
    by_cases hlt : k < l.length
    · obtain ⟨j, hj⟩ : ∃ j, j = 2 * k := ⟨_, rfl⟩
      have AK0 := fun W => along_run k W (by omega)
      rw [← hj] at AK0
      have AK := Lib.hid AK0
      have BK0 := fun W => back_run j W (by omega)
      rw [show bk j = j + 1 by unfold bk; rw [if_pos (by omega)]] at BK0
      obtain ⟨z, hz⟩ : ∃ z, z = j + 1 := ⟨_, rfl⟩
      rw [← hz] at BK0
      have BK := Lib.hid BK0
      have hzm : z < 2 * G.m := by have := GM.out; omega
      have HZ : Hid (z = 2 * k + 1) := Lib.hid (by omega)
      clear AK0 BK0 hz hj
      have k5 := R4.out.g5
      have kr := R4.out.cR hzm
      obtain ⟨x, hx⟩ : ∃ x, x = R z := ⟨_, rfl⟩
      rw [← hx] at kr
      have HX : Hid (x = fl R k) := Lib.hid (by rw [hx, HZ.out]; rfl)
      clear hx
      have kl := RB.out.cell hlt
      have kf := RB.out.frozen k
      rw [if_neg (Nat.lt_irrefl k)] at kl
      have i0 : (0 : Int) ≤ (z : Int) := by omega
      have i1 : (z : Int) < 2 * (G.m : Int) := by omega
      have i2 : (0 : Int) ≤ (k : Int) := by omega
      have i3 : (k : Int) < (l.length : Int) := by omega
      go_upto_region 10 with fail
      have d5 : World.cell? { heap := wr.heap, tape := wr.tape, drawn := wr.drawn + 1, os := wr.os, output := wr.output } ⟨q.g, 5, none⟩ = some (.slice (some ⟨q.R, 0, none⟩) (2 * G.m) (2 * G.m)) := k5
      have dr : World.cell? { heap := wr.heap, tape := wr.tape, drawn := wr.drawn + 1, os := wr.os, output := wr.output } ⟨q.R, z, none⟩ = some (.int .i64 x) := kr
      go_still_tail 12, (by kernel_rfl)
      still_call (AK.out _)
      repeat still_step
      still_call (BK.out _)
      repeat still_step
      refine wpStill_nil ?_
      change wpList _ _ _ _ _ wr.drew
      have kl' : wr.drew.cell? ⟨b, k, none⟩ = _ := kl
      have kf' : wr.drew.frozen? ⟨b, k, none⟩ = false := kf
      have R5 : Hid (Res ((wr.setCell ⟨b, k, none⟩ (.int .i64 x)).drew) q G s t R D X) := Lib.hid (Res.drew (R4.out.kept fun a h1 h2 => Go.Deep.blk_setCell_other _ _ _ _ (by have := SZ.out; show a ≠ b; omega)))
      have RB5 : Hid (((wr.setCell ⟨b, k, none⟩ (.int .i64 x)).drew).rowIs b 3 l.length (fun i => if i < k + 1 then .int .i64 (fl R i) else .int .i64 0)) := Lib.hid (((RB.out.set k (.int .i64 x)).congr fun i hi => by
          by_cases e : i = k
          · subst e; rw [if_pos rfl, if_pos (by omega), HX.out]
          · rw [if_neg e]
            by_cases c : i < k
            · rw [if_pos c, if_pos (by omega)]
            · rw [if_neg c, if_neg (by omega)]))
      have B5 : Hid (Below w.heap.size w ((wr.setCell ⟨b, k, none⟩ (.int .i64 x)).drew)) := Lib.hid (B4.out.setCell (p := ⟨b, k, none⟩) hbz (Value.int IntKind.i64 x)).drew
      clear d5 dr k5 kr kl kf
      go_wp2_with fail
      go_roundw
      case rel => exact ⟨k + 1, by go_num, by omega, RB5, R5, B5⟩
      case measure => simp [intOf]; omega
    · obtain rfl : k = l.length := by omega
      go_wp2_with fail
      go_ret3
      refine ⟨v, fl R, _, b, ?_, hbz, ?_, BE.out, VO.out, B4.out⟩
      · rw [GM.out]; rfl
      · rw [GM.out]; exact RB.out.congr fun i hi => by rw [if_pos hi]; rfl
theorem make_bools (n : Nat) (h : n ≤ 2000000) (W : World) : (Instr.makeSlice 35 (.int .i64 (n : Int)) (.int .i64 (n : Int))).run Try.prog W = .ok (.slice (some ⟨W.heap.size, 0, none⟩) n n) (W.alloc (.cells (Array.replicate n (Value.bool false)) 4)) := by
  obtain ⟨i0, hi, hz0, hz1, hz2⟩ := info_parts (show (Try.prog.info? 4).map (fun i => (i.zero, i.size, i.bytes)) = some (some (.bool false), 1, 1) by kernel_rfl)
  have hr := run_make (P := Try.prog) W 35 4 i0 (.bool false) Try.underlying35 hi hz0 .i64 .i64 n n (by omega) (by omega) (by rw [hz2]; omega) (by omega)
  rw [hz1, Int.toNat_natCast, Nat.mul_one] at hr
  have e : madeCells (Value.bool false).cells n = Array.replicate n (Value.bool false) := Array.toList_inj.1 ((toList_madeCells_one _ n).trans (by simp))
  rw [e] at hr
  exact hr
set_option maxHeartbeats 4000000 in
set_option maxRecDepth 100000 in
theorem cut_ok {N : Nat} {l : List Ac} {G : Nt} (eG : G = netG (N : Int) l) (p : Option Addr) (c : Nat) (s t : Nat) (w : World) (hA : NetAt w p l) (he : endE (N : Int) l (s : Int) (t : Int) = 0) :
    Calls Try.prog 18 #[.agg #[.int .i64 (N : Int), .slice p l.length c], .int .i64 (s : Int), .int .i64 (t : Int)] w (CutOk G s t w) := by
  obtain ⟨ve, ⟨s0, s1⟩, ⟨t0, t1⟩, st⟩ := endE_ok he
  obtain ⟨NK, n1, n2⟩ := valE_ok ve
  have hs : s < N := by omega
  have ht : t < N := by omega
  have hst : s ≠ t := by omega
  have hN : N ≤ 10000 := by omega
  have hl : l.length ≤ 10000 := by omega
  have C := Lib.hid (check_run N l p c s t (w.alloc (.cells #[.int .i64 (N : Int), .slice p l.length c] 24)) (by omega) (hA.below ((Below.refl _ _).alloc (Nat.le_refl _) _)))
  rw [he] at C
  have B0 := Lib.hid ((Below.refl w.heap.size w).alloc (Nat.le_refl _) (.cells #[.int .i64 (N : Int), .slice p l.length c] 24))
  have HA := Lib.hid hA
  have NG : Hid (G.N = N) := Lib.hid (by rw [eG]; show (N : Int).toNat = N; omega)
  have GM : Hid (G.m = l.length) := Lib.hid (by rw [eG]; rfl)
  have HG : Hid G.Ok := Lib.hid (by rw [eG]; exact NK.ok)
  have HK := Lib.hid NK
  have EG := Lib.hid eG
  clear hA he ve NK eG n1 n2 s0 s1 t0 t1 st
  go_enter Try.func18, Try.ntmps18
  go_wp2_with fail
  refine C.out.mono ?_
  rintro _ w1 ⟨rfl, b1⟩
  obtain ⟨hc, hf⟩ := bcell b1
  have k0 : w1.cell? ⟨w.heap.size, 0, none⟩ = some (.int .i64 (N : Int)) := by rw [hc _ _ (by simp)]; simp
  have k1 : w1.cell? ⟨w.heap.size, 1, none⟩ = some (.slice p l.length c) := by rw [hc _ _ (by simp)]; simp
  have B1 := Lib.hid (B0.out.trans (b1.mono (by simp)))
  have z1 : w.heap.size < w1.heap.size := by have := b1.size; simp at this; omega
  clear hc hf b1
  have BG := Lib.hid (begin_run (c := c) EG.out HK.out hN hl (HA.out.below B1.out) s t)
  go_wp2_with fail
  refine BG.out.mono ?_
  rintro _ w2 ⟨q, rfl, qo, r2, b2⟩
  obtain ⟨hc, hf⟩ := bcell b2
  have k0' : w2.cell? ⟨w.heap.size, 0, none⟩ = some (.int .i64 (N : Int)) := by rw [hc _ _ z1]; exact k0
  have k1' : w2.cell? ⟨w.heap.size, 1, none⟩ = some (.slice p l.length c) := by rw [hc _ _ z1]; exact k1
  have B2 := Lib.hid (B1.out.trans (b2.mono (by omega)))
  have QO := Lib.hid qo
  have R2 := Lib.hid r2
  have MX := Lib.hid (maximize_run QO.out HG.out (by rw [GM.out]; omega) (by rw [NG.out]; omega) (by rw [NG.out]; exact hs) (by rw [NG.out]; exact ht) hst R2.out)
  have hz2 := b2.size
  clear hc hf k0 k1 b2 qo r2 BG
  go_wp2_with fail
  refine MX.out.mono ?_
  rintro _ w3 ⟨v, R, D, X, rfl, r3, rs, ho, dd, td, cl, b3⟩
  have k0 : w3.cell? ⟨w.heap.size, 0, none⟩ = some (.int .i64 (N : Int)) := (b3.cell (p := ⟨w.heap.size, 0, none⟩) z1).trans k0'
  have k1 : w3.cell? ⟨w.heap.size, 1, none⟩ = some (.slice p l.length c) := (b3.cell (p := ⟨w.heap.size, 1, none⟩) z1).trans k1'
  have B3 := Lib.hid (B2.out.trans (b3.mono (by omega)))
  have R3 := Lib.hid r3
  have BE : Hid (G.Best s t (fl R) (fun v => D v != -1)) := Lib.hid ⟨rs.flow fun u hu h1 h2 => by rw [ho]; unfold give; rw [if_neg (Ne.symm h1), if_neg (Ne.symm h2)]; rfl, dd.reach HG.out rs cl, by rw [td]; rfl⟩
  have VO : Hid (v = G.out (fl R) s) := Lib.hid (by rw [ho]; unfold give; rw [if_pos rfl, if_neg (Ne.symm hst)]; omega)
  have hz3 : w.heap.size < w3.heap.size := by have := b3.size; omega
  clear k0' k1' b3 r3 rs ho dd td cl MX R2 B2 B1 B0 C hz2
  have mk1 := fun W => make_bools N (by omega) W
  go_wp2_with fail
  clear mk1 k0 k1
  have RB : Hid ((w3.alloc (.cells (Array.replicate N (.bool false)) 4)).rowIs w3.heap.size 4 N (fun _ => .bool false)) := Lib.hid (by
    have := World.rowIs_alloc w3 (Array.replicate N (.bool false)) 4 (fun _ => .bool false) (fun q hq => by
      have hq' : q < N := by simpa using hq
      simp [hq'])
    simpa using this)
  obtain ⟨b, hb⟩ : ∃ b, b = w3.heap.size := ⟨_, rfl⟩
  have R4 := Lib.hid (R3.out.alloc (.cells (Array.replicate N (.bool false)) 4))
  have B4 := Lib.hid (B3.out.alloc (by omega) (.cells (Array.replicate N (.bool false)) 4))
  have SZ := Lib.hid R3.out.size
  rw [← hb] at RB SZ ⊢
  have hbz : w.heap.size ≤ b := by omega
  clear R3 B3 hb
  go_loopw [30] (fun i wr => ∃ k : Nat, i = .int .i64 (k : Int) ∧ k ≤ N ∧ Hid (wr.rowIs b 4 N (fun i => if i < k then .bool (D i != -1) else .bool false)) ∧ Hid (Res wr q G s t R D X) ∧ Hid (Below w.heap.size w wr)) (fun i _ => N - (intOf i).toNat)
  case atStart => exact ⟨0, rfl, Nat.zero_le _, RB.out.congr fun i hi => by simp, R4, B4⟩
  case round =>
    clear RB R4 B4
    obtain ⟨k, rfl, hk, RB, R4, B4⟩ := hrel
    by_cases hlt : k < N
    · have hkN : k < G.N := by have := NG.out; omega
      have k6 := R4.out.g6
      have kd := R4.out.cD hkN
      have hGN : (G.N : Int) = N := by have := NG.out; omega
      obtain ⟨x, hx⟩ : ∃ x, x = D k := ⟨_, rfl⟩
      rw [← hx] at kd
      have HX := Lib.hid hx
      clear hx
      have kl := RB.out.cell hlt
      have kf := RB.out.frozen k
      rw [if_neg (Nat.lt_irrefl k)] at kl
      have R5 : Hid (Res (wr.setCell ⟨b, k, none⟩ (.bool (x != -1))) q G s t R D X) := Lib.hid (R4.out.kept fun a h1 h2 => Go.Deep.blk_setCell_other _ _ _ _ (by have := SZ.out; show a ≠ b; omega))
      have RB5 : Hid ((wr.setCell ⟨b, k, none⟩ (.bool (x != -1))).rowIs b 4 N (fun i => if i < k + 1 then .bool (D i != -1) else .bool false)) := Lib.hid (((RB.out.set k (.bool (x != -1))).congr fun i hi => by
          by_cases e : i = k
          · subst e; rw [if_pos rfl, if_pos (by omega), HX.out]
          · rw [if_neg e]
            by_cases c : i < k
            · rw [if_pos c, if_pos (by omega)]
            · rw [if_neg c, if_neg (by omega)]))
      have B5 : Hid (Below w.heap.size w (wr.setCell ⟨b, k, none⟩ (.bool (x != -1)))) := Lib.hid (B4.out.setCell (p := ⟨b, k, none⟩) hbz _)
      clear hGN
      go_wp2_with fail
      go_roundw
      case rel => exact ⟨k + 1, by go_num, by omega, RB5, R5, B5⟩
      case measure => simp [intOf]; omega
    · obtain rfl : k = N := by omega
      go_wp2_with fail
      go_ret2
      refine ⟨fl R, _, b, ?_, hbz, ?_, BE.out, B4.out⟩
      · rw [NG.out]; rfl
      · rw [NG.out]; exact RB.out.congr fun i hi => by rw [if_pos hi]
end Go.Proofs.Ytjkempammohkaaa
