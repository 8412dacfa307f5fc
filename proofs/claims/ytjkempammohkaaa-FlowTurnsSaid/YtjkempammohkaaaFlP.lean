/-
  Check, in the reference.
-/
import Derived.Test.YtjkempammohkaaaFlO
import Derived.Test.YtjkempammohkaaaFlK
import Derived.Test.YtjkempammohkaaaFlM
namespace Go.Proofs.Ytjkempammohkaaa
open Go.RowKit
open IntWalk
open Fl
set_option linter.unusedVariables false


set_option maxHeartbeats 8000000 in
set_option maxRecDepth 100000 in
theorem rck_bad (N : Int) (l : List Ac) (p : Option Addr) (c : Nat) (s t : Int) (L : List Int) (pl : Option Addr) (cl : Nat) (w : World) (hl : l.length ≤ 100000) (hL : L.length ≤ 100000) (hA : NetAt w p l) (he : endE N l s t ≠ 0 ∨ L.length ≠ l.length) :
    Calls Try.prog 24 #[.agg #[.int .i64 N, .slice p l.length c], .int .i64 s, .int .i64 t, .slice pl L.length cl] w (CkPost N l s t L w) := by
  have C := Lib.hid (ends_run N l p c s t (w.alloc (.cells #[.int .i64 N, .slice p l.length c] 24)) hl (hA.below ((Below.refl _ _).alloc (Nat.le_refl _) _)))
  have B0 := Lib.hid ((Below.refl w.heap.size w).alloc (Nat.le_refl _) (.cells #[.int .i64 N, .slice p l.length c] 24))
  have NO : Hid (¬ (endE N l s t = 0 ∧ L.length = l.length ∧ (netG N l).Flow s.toNat t.toNat (fL L))) := Lib.hid (by rcases he with h | h; exact fun x => h x.1; exact fun x => h x.2.1)
  clear hA
  by_cases h0 : endE N l s t = 0
  · have h1 : L.length ≠ l.length := by rcases he with h | h; exact absurd h0 h; exact h
    have h2 : ((L.length : Int) != (l.length : Int)) = true := bne_iff_ne.2 (by omega)
    have h3 : ((L.length : Int) == (l.length : Int)) = false := by rw [beq_eq_false_iff_ne]; omega
    rw [h0] at C
    clear he h0 h1
    go_enter Try.func24, Try.ntmps24
    go_wp2_with fail
    refine C.out.mono ?_
    rintro _ w1 ⟨rfl, b1⟩
    obtain ⟨hc, hf⟩ := bcell b1
    have k1 : w1.cell? ⟨w.heap.size, 1, none⟩ = some (.slice p l.length c) := by rw [hc _ _ (by simp)]; simp
    have B1 := Lib.hid (B0.out.trans (b1.mono (by simp)))
    clear hc hf b1
    go_wp2_with fail
    go_ret2
    exact CkPost.no NO.out B1.out
  · have e1 : (endE N l s t == 0) = false := by simpa using h0
    have e2 : (endE N l s t != 0) = true := by simpa using h0
    obtain ⟨x, hx⟩ : ∃ x, x = endE N l s t := ⟨_, rfl⟩
    rw [← hx] at C e1 e2
    clear he h0 hx
    go_enter Try.func24, Try.ntmps24
    go_wp2_with fail
    refine C.out.mono ?_
    rintro _ w1 ⟨rfl, b1⟩
    have B1 := Lib.hid (B0.out.trans (b1.mono (by simp)))
    clear b1
    go_wp2_with fail
    go_ret2
    exact CkPost.no NO.out B1.out

set_option maxHeartbeats 8000000 in
set_option maxRecDepth 100000 in
theorem rck_good {N : Nat} {l : List Ac} (p : Option Addr) (c : Nat) (s t : Nat) (L : List Int) (pl : Option Addr) (cl : Nat) (w : World) (hA : NetAt w p l) (hI : IAt w pl L) (he : endE (N : Int) l (s : Int) (t : Int) = 0) (hL : L.length = l.length) :
    Calls Try.prog 24 #[.agg #[.int .i64 (N : Int), .slice p l.length c], .int .i64 (s : Int), .int .i64 (t : Int), .slice pl L.length cl] w (CkPost (N : Int) l (s : Int) (t : Int) L w) := by
  obtain ⟨ve, ⟨s0, s1⟩, ⟨t0, t1⟩, st⟩ := endE_ok he
  obtain ⟨NK, n1, n2⟩ := valE_ok ve
  have hs : s < N := by omega
  have ht : t < N := by omega
  have hN : N ≤ 256 := by omega
  have hl : l.length ≤ 2048 := by omega
  have C := Lib.hid (ends_run N l p c s t (w.alloc (.cells #[.int .i64 (N : Int), .slice p l.length c] 24)) (by omega) (hA.below ((Below.refl _ _).alloc (Nat.le_refl _) _)))
  rw [he] at C
  have B0 := Lib.hid ((Below.refl w.heap.size w).alloc (Nat.le_refl _) (.cells #[.int .i64 (N : Int), .slice p l.length c] 24))
  have HA := Lib.hid hA
  have HI := Lib.hid hI
  have HK := Lib.hid NK
  obtain ⟨G, eG⟩ : ∃ G, G = netG (N : Int) l := ⟨_, rfl⟩
  have NG : Hid (G.N = N) := Lib.hid (by rw [eG]; show (N : Int).toNat = N; omega)
  have GM : Hid (G.m = l.length) := Lib.hid (by rw [eG]; rfl)
  have HG : Hid G.Ok := Lib.hid (by rw [eG]; exact NK.ok)
  have YES : Hid (∀ w', G.Flow s t (fL L) → Below w.heap.size w w' → CkPost (N : Int) l (s : Int) (t : Int) L w (.returned (.tuple #[.int .i64 (G.out (fL L) s), .bool true])) w') := Lib.hid (fun w' hf hb => ⟨_, true, rfl, .inl ⟨rfl, ⟨he, hL, by rw [← eG]; exact hf⟩, by rw [← eG]; rfl⟩, hb⟩)
  have NOO : Hid (∀ w', ¬ G.Flow s t (fL L) → Below w.heap.size w w' → CkPost (N : Int) l (s : Int) (t : Int) L w (.returned (.tuple #[.int .i64 0, .bool false])) w') := Lib.hid (fun w' hf hb => CkPost.no (fun x => hf (by have := x.2.2; rw [← eG] at this; exact this)) hb)
  have EG := Lib.hid eG
  have HLL := Lib.hid hL
  rw [hL]
  obtain ⟨n, hn⟩ : ∃ n, n = l.length := ⟨_, rfl⟩
  clear hA hI he ve NK n1 n2 s0 s1 t0 t1 eG hL hn
  have mk1 := fun W => make_ints N (by omega) W
  go_enter Try.func24, Try.ntmps24
  go_wp2_with fail
  refine C.out.mono ?_
  rintro _ w1 ⟨rfl, b1⟩
  obtain ⟨hc, hf⟩ := bcell b1
  have k0 : w1.cell? ⟨w.heap.size, 0, none⟩ = some (.int .i64 (N : Int)) := by rw [hc _ _ (by simp)]; simp
  have k1 : w1.cell? ⟨w.heap.size, 1, none⟩ = some (.slice p l.length c) := by rw [hc _ _ (by simp)]; simp
  have B1 := Lib.hid (B0.out.trans (b1.mono (by simp)))
  have z1 : w.heap.size < w1.heap.size := by have := b1.size; simp at this; omega
  clear hc hf b1 C B0
  go_wp2_with fail
  clear mk1
  have RB : Hid ((w1.alloc (.cells (Array.replicate N (.int .i64 0)) 3)).rowIs w1.heap.size 3 N (fun _ => .int .i64 0)) := Lib.hid (by
    have := World.rowIs_alloc w1 (Array.replicate N (.int .i64 0)) 3 (fun _ => .int .i64 0) (fun q hq => by
      have hq' : q < N := by simpa using hq
      simp [hq'])
    simpa using this)
  have A0 : Hid (CkHd w N l G (fL L) p c w1.heap.size (.int .i64 0) (w1.alloc (.cells (Array.replicate N (.int .i64 0)) 3))) := Lib.hid ⟨0, rfl, Nat.zero_le _, RB.out, fun i hi => by omega, B1.out.alloc (by omega) _, by simp, (World.cell?_alloc_some _ _ _ (by rw [k0]; rfl)).trans k0, (World.cell?_alloc_some _ _ _ (by rw [k1]; rfl)).trans k1⟩
  obtain ⟨b, hb⟩ : ∃ b, b = w1.heap.size := ⟨_, rfl⟩
  rw [← hb] at A0 ⊢
  have hbz : w.heap.size < b := by omega
  clear RB k0 k1 B1 hb z1
  go_loopw [11] (fun i wr => CkHd w N l G (fL L) p c b i wr) (fun i _ => l.length - (intOf i).toNat)
  case atStart => exact A0.out
  case round =>
    clear A0
    obtain ⟨k, rfl, hk, hr, hf, hb, hz, k0, k1⟩ := hrel
    have RB := Lib.hid hr
    have HF := Lib.hid hf
    have B1 := Lib.hid hb
    clear hr hf hb
    by_cases hlt : k < l.length
    · obtain ⟨ba, oa, rfl, hba, hca⟩ := HA.out (by intro e; rw [e] at hlt; simp at hlt)
      obtain ⟨bl, ol, rfl, hbl, hcl⟩ := HI.out (by intro e; have := HLL.out; rw [e] at this; simp at this; omega)
      obtain ⟨c1, c2, c3⟩ := hca k hlt
      obtain ⟨e1, e2, e3⟩ := HK.out.at_ k hlt
      rw [← EG.out] at e1 e2 e3
      rw [e1] at c1
      rw [e2] at c2
      rw [e3] at c3
      have d1 : wr.cell? ⟨ba, oa + k * 3, none⟩ = _ := (B1.out.cell (p := ⟨ba, _, none⟩) hba).trans c1
      have d2 : wr.cell? ⟨ba, oa + k * 3 + 1, none⟩ = _ := (B1.out.cell (p := ⟨ba, _, none⟩) hba).trans c2
      have d3 : wr.cell? ⟨ba, oa + k * 3 + 2, none⟩ = _ := (B1.out.cell (p := ⟨ba, _, none⟩) hba).trans c3
      have hkL : k < L.length := by have := HLL.out; omega
      have c4 := hcl k hkL
      have FX : Hid (fL L k = L[k]'hkL) := Lib.hid (fL_at hkL)
      rw [← FX.out] at c4
      clear FX
      obtain ⟨x, hx⟩ : ∃ x, x = fL L k := ⟨_, rfl⟩
      rw [← hx] at c4
      have HX := Lib.hid hx
      have d4 : wr.cell? ⟨bl, ol + k, none⟩ = some (.int .i64 x) := (B1.out.cell (p := ⟨bl, _, none⟩) hbl).trans c4
      have hkm : k < G.m := by have := GM.out; omega
      have f0 := HG.out.frN k hkm
      have g0 := HG.out.toN k hkm
      have ne := HG.out.ne k hkm
      have cp := HG.out.cap1 k hkm
      rw [NG.out] at f0 g0
      have KM := Lib.hid hkm
      clear hca hcl e1 e2 e3 c1 c2 c3 c4 hx hkm
      obtain ⟨u, hu⟩ : ∃ u, u = G.fr k := ⟨_, rfl⟩
      obtain ⟨v, hv⟩ : ∃ v, v = G.to k := ⟨_, rfl⟩
      obtain ⟨z, hz2⟩ : ∃ z, z = G.cap k := ⟨_, rfl⟩
      rw [← hu] at d1 f0 ne
      rw [← hv] at d2 g0 ne
      rw [← hz2] at d3 cp
      have HU := Lib.hid hu
      have HV := Lib.hid hv
      have HZ := Lib.hid hz2
      clear hu hv hz2
      have BB : Hid (Below w.heap.size w (wr.alloc (.cells #[.int .i64 (u : Int), .int .i64 (v : Int), .int .i64 z] 50))) := Lib.hid (B1.out.alloc (by omega) _)
      go_upto_region 8 with fail
      have kl : (wr.alloc (.cells #[.int .i64 (u : Int), .int .i64 (v : Int), .int .i64 z] 50)).cell? ⟨bl, ol + k, none⟩ = some (.int .i64 x) := (World.cell?_alloc_some _ _ _ (by rw [d4]; rfl)).trans d4
      obtain ⟨H, hH⟩ : ∃ H, H = wr.heap.size := ⟨_, rfl⟩
      have h0 : (wr.alloc (.cells #[.int .i64 (u : Int), .int .i64 (v : Int), .int .i64 z] 50)).cell? ⟨H, 0, none⟩ = some (.int .i64 (u : Int)) := by rw [hH]; simp
      have h1 : (wr.alloc (.cells #[.int .i64 (u : Int), .int .i64 (v : Int), .int .i64 z] 50)).cell? ⟨H, 1, none⟩ = some (.int .i64 (v : Int)) := by rw [hH]; simp
      have h2 : (wr.alloc (.cells #[.int .i64 (u : Int), .int .i64 (v : Int), .int .i64 z] 50)).cell? ⟨H, 2, none⟩ = some (.int .i64 z) := by rw [hH]; simp
      have R2 := Lib.hid (RB.out.alloc (.cells #[.int .i64 (u : Int), .int .i64 (v : Int), .int .i64 z] 50))
      have q0 : (wr.alloc (.cells #[.int .i64 (u : Int), .int .i64 (v : Int), .int .i64 z] 50)).cell? ⟨w.heap.size, 0, none⟩ = some (.int .i64 (N : Int)) := (World.cell?_alloc_some _ _ _ (by rw [k0]; rfl)).trans k0
      have q1 : (wr.alloc (.cells #[.int .i64 (u : Int), .int .i64 (v : Int), .int .i64 z] 50)).cell? ⟨w.heap.size, 1, none⟩ = some (.slice (some ⟨ba, oa, none⟩) l.length c) := (World.cell?_alloc_some _ _ _ (by rw [k1]; rfl)).trans k1
      have zz : b < (wr.alloc (.cells #[.int .i64 (u : Int), .int .i64 (v : Int), .int .i64 z] 50)).heap.size := by simp; omega
      have hHb : b ≠ H := by omega
      have hlb : bl ≠ b := by omega
      rw [← hH]
      clear d1 d2 d3 d4 k0 k1 RB hH hz B1
      revert kl h0 h1 h2 R2 q0 q1 zz BB
      generalize (wr.alloc (.cells #[.int .i64 (u : Int), .int .i64 (v : Int), .int .i64 z] 50)) = w2
      intro BB kl h0 h1 h2 R2 q0 q1 zz
      have hklen : k < l.length := hlt
      rcases (by omega : x < 0 ∨ (0 ≤ x ∧ z < x) ∨ (0 ≤ x ∧ x ≤ z)) with g | ⟨g, g2⟩ | ⟨g, g2⟩
      · have NF : Hid (¬ G.Flow s t (fL L)) := Lib.hid (fun F => by have := F.lo k KM.out; rw [← HX.out] at this; omega)
        go_quiet (fail)
        go_wp2_with fail
        go_ret2
        exact NOO.out _ NF.out (b_draws BB.out _)
      · have NF : Hid (¬ G.Flow s t (fL L)) := Lib.hid (fun F => by have := F.hi k KM.out; rw [← HX.out, ← HZ.out] at this; omega)
        go_quiet (fail)
        go_wp2_with fail
        go_ret2
        exact NOO.out _ NF.out (b_draws BB.out _)
      · have HF2 : Hid (∀ i, i < k + 1 → 0 ≤ fL L i ∧ fL L i ≤ G.cap i) := Lib.hid (fun i hi => by
          by_cases e : i = k
          · subst e; rw [← HX.out, ← HZ.out]; exact ⟨g, g2⟩
          · exact HF.out i (by omega))
        have pb := part_bd HG.out (f := fL L) (k := k) (by have := GM.out; omega) HF.out
        obtain ⟨pu1, pu2⟩ := pb u
        obtain ⟨pv1, pv2⟩ := pb v
        have ru := R2.out.cell f0
        have rv := R2.out.cell g0
        have fz := fun i => R2.out.frozen i
        obtain ⟨P, hP⟩ : ∃ P, P = part G (fL L) k u := ⟨_, rfl⟩
        obtain ⟨M, hM⟩ : ∃ M, M = part G (fL L) k v := ⟨_, rfl⟩
        have ru' : w2.cell? ⟨b, u, none⟩ = some (.int .i64 P) := by rw [hP]; exact ru
        have rv' : w2.cell? ⟨b, v, none⟩ = some (.int .i64 M) := by rw [hM]; exact rv
        rw [← hP] at pu1 pu2
        rw [← hM] at pv1 pv2
        have HP := Lib.hid hP
        have HM := Lib.hid hM
        have p1 : -2300000000000000 ≤ P := by omega
        have p2 : P ≤ 2300000000000000 := by omega
        have m1 : -2300000000000000 ≤ M := by omega
        have m2 : M ≤ 2300000000000000 := by omega
        clear hP hM ru rv pb pu1 pu2 pv1 pv2 HF
        go_quiet (fail)
        go_upto_region 10 with fail
        have R3 : Hid ((w2.drewN nq).rowIs b 3 N (iv (part G (fL L) k))) := Lib.hid (R2.out.of_block rfl)
        have kl2 : (w2.drewN nq).cell? ⟨bl, ol + k, none⟩ = some (.int .i64 x) := kl
        have j0 : (w2.drewN nq).cell? ⟨H, 0, none⟩ = some (.int .i64 (u : Int)) := h0
        have j1 : (w2.drewN nq).cell? ⟨H, 1, none⟩ = some (.int .i64 (v : Int)) := h1
        have ru2 : (w2.drewN nq).cell? ⟨b, u, none⟩ = some (.int .i64 P) := ru'
        have rv2 : (w2.drewN nq).cell? ⟨b, v, none⟩ = some (.int .i64 M) := rv'
        have fu2 : (w2.drewN nq).frozen? ⟨b, u, none⟩ = false := fz u
        have fv2 : (w2.drewN nq).frozen? ⟨b, v, none⟩ = false := fz v
        have c0 : (w2.drewN nq).cell? ⟨w.heap.size, 0, none⟩ = some (.int .i64 (N : Int)) := q0
        have c1 : (w2.drewN nq).cell? ⟨w.heap.size, 1, none⟩ = some (.slice (some ⟨ba, oa, none⟩) l.length c) := q1
        have zz2 : b < (w2.drewN nq).heap.size := zz
        have BB2 := Lib.hid (b_draws BB.out nq)
        clear kl h0 h1 h2 ru' rv' fz q0 q1 zz BB R2
        revert R3 kl2 j0 j1 ru2 rv2 fu2 fv2 c0 c1 zz2 BB2
        generalize w2.drewN nq = w3
        intro R3 kl2 j0 j1 ru2 rv2 fu2 fv2 c0 c1 zz2 BB2
        have i0 : (0 : Int) ≤ (u : Int) := by omega
        have i1 : (u : Int) < (N : Int) := by omega
        have i2 : (0 : Int) ≤ (v : Int) := by omega
        have i3 : (v : Int) < (N : Int) := by omega
        have i4 : (0 : Int) ≤ (k : Int) := by omega
        have i5 : (k : Int) < (l.length : Int) := by omega
        have s0 : World.cell? { heap := w3.heap, tape := w3.tape, drawn := w3.drawn + 1, os := w3.os, output := w3.output } ⟨H, 0, none⟩ = some (.int .i64 (u : Int)) := j0
        have s1 : World.cell? { heap := w3.heap, tape := w3.tape, drawn := w3.drawn + 1, os := w3.os, output := w3.output } ⟨b, u, none⟩ = some (.int .i64 P) := ru2
        have s2 : World.cell? { heap := w3.heap, tape := w3.tape, drawn := w3.drawn + 1, os := w3.os, output := w3.output } ⟨bl, ol + k, none⟩ = some (.int .i64 x) := kl2
        have wd : IntKind.i64.wrap (P + x) = P + x := IntWalk.i64_in _ (by omega)
        have we : IntKind.i64.wrap (M - x) = M - x := IntWalk.i64_in _ (by omega)
        go_still_tail 14, (by kernel_rfl)
        change wpList _ _ _ _ _ w3.drew
        clear s0 s1 s2
        have ru3 : w3.drew.cell? ⟨b, u, none⟩ = some (.int .i64 P) := ru2
        have fu3 : w3.drew.frozen? ⟨b, u, none⟩ = false := fu2
        go_upto_region 11 with fail
        have nuv : (⟨b, v, none⟩ : Addr) ≠ ⟨b, u, none⟩ := fun e => by injection e with e1 e2; omega
        have R4 : Hid (((w3.setCell ⟨b, u, none⟩ (.int .i64 (P + x))).drew).rowIs b 3 N (iv (upd (part G (fL L) k) u (P + x)))) := Lib.hid (rowI_upd R3.out u (P + x))
        have j1' : ((w3.setCell ⟨b, u, none⟩ (.int .i64 (P + x))).drew).cell? ⟨H, 1, none⟩ = some (.int .i64 (v : Int)) := (World.cell?_setCell_far w3 _ _ _ (by simp only; omega)).trans j1
        have kl3 : ((w3.setCell ⟨b, u, none⟩ (.int .i64 (P + x))).drew).cell? ⟨bl, ol + k, none⟩ = some (.int .i64 x) := (World.cell?_setCell_far w3 _ _ _ (by simp only; omega)).trans kl2
        have rv3 : ((w3.setCell ⟨b, u, none⟩ (.int .i64 (P + x))).drew).cell? ⟨b, v, none⟩ = some (.int .i64 M) := (World.cell?_setCell_other w3 _ _ _ (Ne.symm nuv)).trans rv2
        have fv3 : ((w3.setCell ⟨b, u, none⟩ (.int .i64 (P + x))).drew).frozen? ⟨b, v, none⟩ = false := by simpa [go_sem] using fv2
        have c0' : ((w3.setCell ⟨b, u, none⟩ (.int .i64 (P + x))).drew).cell? ⟨w.heap.size, 0, none⟩ = some (.int .i64 (N : Int)) := (World.cell?_setCell_far w3 _ _ _ (by simp only; omega)).trans c0
        have c1' : ((w3.setCell ⟨b, u, none⟩ (.int .i64 (P + x))).drew).cell? ⟨w.heap.size, 1, none⟩ = some (.slice (some ⟨ba, oa, none⟩) l.length c) := (World.cell?_setCell_far w3 _ _ _ (by simp only; omega)).trans c1
        have zz3 : b < ((w3.setCell ⟨b, u, none⟩ (.int .i64 (P + x))).drew).heap.size := by simpa using zz2
        have BB3 : Hid (Below w.heap.size w ((w3.setCell ⟨b, u, none⟩ (.int .i64 (P + x))).drew)) := Lib.hid (BB2.out.setCell (p := ⟨b, u, none⟩) (by simp only; omega) _).drew
        clear R3 kl2 j0 j1 ru2 rv2 fu2 fv2 ru3 fu3 c0 c1 zz2 BB2 wd nuv
        revert R4 j1' kl3 rv3 fv3 c0' c1' zz3 BB3
        generalize ((w3.setCell ⟨b, u, none⟩ (.int .i64 (P + x))).drew) = w4
        intro R4 j1' kl3 rv3 fv3 c0' c1' zz3 BB3
        have s1 : World.cell? { heap := w4.heap, tape := w4.tape, drawn := w4.drawn + 1, os := w4.os, output := w4.output } ⟨H, 1, none⟩ = some (.int .i64 (v : Int)) := j1'
        have s2 : World.cell? { heap := w4.heap, tape := w4.tape, drawn := w4.drawn + 1, os := w4.os, output := w4.output } ⟨bl, ol + k, none⟩ = some (.int .i64 x) := kl3
        have s3 : World.cell? { heap := w4.heap, tape := w4.tape, drawn := w4.drawn + 1, os := w4.os, output := w4.output } ⟨b, v, none⟩ = some (.int .i64 M) := rv3
        go_still_tail 14, (by kernel_rfl)
        change wpList _ _ _ _ _ w4.drew
        clear s1 s2 s3 we
        have rv4 : w4.drew.cell? ⟨b, v, none⟩ = some (.int .i64 M) := rv3
        have fv4 : w4.drew.frozen? ⟨b, v, none⟩ = false := fv3
        have R5 : Hid (((w4.setCell ⟨b, v, none⟩ (.int .i64 (M - x))).drew).rowIs b 3 N (iv (part G (fL L) (k + 1)))) := Lib.hid (by
          have r := rowI_upd R4.out v (M - x)
          have e := part_step (f := fL L) (HG.out.ne k KM.out)
          rw [← HU.out, ← HV.out, ← HX.out, ← HP.out, ← HM.out] at e
          rw [e] at r
          exact r)
        have BB5 : Hid (Below w.heap.size w ((w4.setCell ⟨b, v, none⟩ (.int .i64 (M - x))).drew)) := Lib.hid (BB3.out.setCell (p := ⟨b, v, none⟩) (by simp only; omega) _).drew
        have c0'' : Hid (((w4.setCell ⟨b, v, none⟩ (.int .i64 (M - x))).drew).cell? ⟨w.heap.size, 0, none⟩ = some (.int .i64 (N : Int))) := Lib.hid ((World.cell?_setCell_far w4 _ _ _ (by simp only; omega)).trans c0')
        have c1'' : Hid (((w4.setCell ⟨b, v, none⟩ (.int .i64 (M - x))).drew).cell? ⟨w.heap.size, 1, none⟩ = some (.slice (some ⟨ba, oa, none⟩) l.length c)) := Lib.hid ((World.cell?_setCell_far w4 _ _ _ (by simp only; omega)).trans c1')
        have zz5 : Hid (b < ((w4.setCell ⟨b, v, none⟩ (.int .i64 (M - x))).drew).heap.size) := Lib.hid (by simpa using zz3)
        clear R4 j1' kl3 rv3 fv3 c0' c1' zz3 BB3
        go_wp2_with fail
        go_roundw
        case rel => exact ⟨k + 1, by go_num, by omega, R5.out, HF2.out, BB5.out, zz5.out, c0''.out, c1''.out⟩
        case measure => simp [intOf]; omega
    · obtain rfl : k = l.length := by omega
      have OUT : Hid (∀ u, part G (fL L) l.length u = G.out (fL L) u) := Lib.hid (fun u => by show sm _ _ = sm _ _; rw [GM.out])
      go_wp2_with fail
      obtain ⟨wo, rfl⟩ : ∃ wo : World, wo = wr := ⟨_, rfl⟩
      go_loop [13] (fun i => ∃ j : Nat, i = .int .i64 (j : Int) ∧ j ≤ N ∧ Hid (∀ a, a < j → a ≠ s → a ≠ t → G.out (fL L) a = 0)) (fun i => N - (intOf i).toNat)
      case atStart => exact ⟨0, rfl, Nat.zero_le _, Lib.hid (fun a ha => by omega)⟩
      case round =>
        obtain ⟨j, rfl, hj, HJ⟩ := hrel
        by_cases hjN : j < N
        · have rj := RB.out.cell hjN
          unfold iv at rj
          rw [OUT.out j] at rj
          obtain ⟨y, hy⟩ : ∃ y, y = G.out (fL L) j := ⟨_, rfl⟩
          rw [← hy] at rj
          have HY := Lib.hid hy
          clear hy
          have STEP : Hid ((y = 0 ∨ j = s ∨ j = t) → ∀ a, a < j + 1 → a ≠ s → a ≠ t → G.out (fL L) a = 0) := Lib.hid (fun h a ha h1 h2 => by
            by_cases e : a = j
            · subst e
              rcases h with h | h | h
              · rw [← HY.out]; exact h
              · exact absurd h h1
              · exact absurd h h2
            · exact HJ.out a (by omega) h1 h2)
          by_cases y0 : y = 0
          · have S2 := Lib.hid (STEP.out (.inl y0))
            rw [y0] at rj
            clear y0
            by_cases js : j = s
            · have js2 : ((j : Int) != (s : Int)) = false := by rw [bne_eq_false_iff_eq]; omega
              clear js
              go_wp2_with fail
              go_round
              case rel => exact ⟨j + 1, by go_num, by omega, S2⟩
              case measure => simp [intOf]; omega
            · have js2 : ((j : Int) != (s : Int)) = true := bne_iff_ne.2 (by omega)
              clear js
              by_cases jt : j = t
              · have jt2 : ((j : Int) != (t : Int)) = false := by rw [bne_eq_false_iff_eq]; omega
                clear jt
                go_wp2_with fail
                go_round
                case rel => exact ⟨j + 1, by go_num, by omega, S2⟩
                case measure => simp [intOf]; omega
              · have jt2 : ((j : Int) != (t : Int)) = true := bne_iff_ne.2 (by omega)
                clear jt
                go_wp2_with fail
                go_round
                case rel => exact ⟨j + 1, by go_num, by omega, S2⟩
                case measure => simp [intOf]; omega
          · have y1 : (y != 0) = true := by simpa using y0
            by_cases js : j = s
            · have S2 := Lib.hid (STEP.out (.inr (.inl js)))
              have js2 : ((j : Int) != (s : Int)) = false := by rw [bne_eq_false_iff_eq]; omega
              clear js y0
              go_wp2_with fail
              go_round
              case rel => exact ⟨j + 1, by go_num, by omega, S2⟩
              case measure => simp [intOf]; omega
            · have js2 : ((j : Int) != (s : Int)) = true := bne_iff_ne.2 (by omega)
              by_cases jt : j = t
              · have S2 := Lib.hid (STEP.out (.inr (.inr jt)))
                have jt2 : ((j : Int) != (t : Int)) = false := by rw [bne_eq_false_iff_eq]; omega
                clear js jt y0
                go_wp2_with fail
                go_round
                case rel => exact ⟨j + 1, by go_num, by omega, S2⟩
                case measure => simp [intOf]; omega
              · have jt2 : ((j : Int) != (t : Int)) = true := bne_iff_ne.2 (by omega)
                have NF : Hid (¬ G.Flow s t (fL L)) := Lib.hid (fun F => y0 (by rw [HY.out]; exact F.keep j (by rw [NG.out]; exact hjN) js jt))
                clear js jt y0
                go_wp2_with fail
                go_ret2
                exact NOO.out _ NF.out B1.out
        · obtain rfl : j = N := by omega
          have FL : Hid (G.Flow s t (fL L)) := Lib.hid ⟨fun i hi => (HF.out i (by have := GM.out; omega)).1, fun i hi => (HF.out i (by have := GM.out; omega)).2, fun a ha h1 h2 => HJ.out a (by have := NG.out; omega) h1 h2⟩
          have rs := RB.out.cell hs
          unfold iv at rs
          rw [OUT.out s] at rs
          obtain ⟨y, hy⟩ : ∃ y, y = G.out (fL L) s := ⟨_, rfl⟩
          rw [← hy] at rs
          have YY : Hid (CkPost (j : Int) l (s : Int) (t : Int) L w (.returned (.tuple #[.int .i64 y, .bool true])) wo) := Lib.hid (by rw [hy]; exact YES.out wo FL.out B1.out)
          clear hy
          go_wp2_with fail
          go_ret2
          exact YY.out
end Go.Proofs.Ytjkempammohkaaa
