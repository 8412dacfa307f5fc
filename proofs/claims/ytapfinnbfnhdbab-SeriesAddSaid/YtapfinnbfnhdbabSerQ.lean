/-
  What Clip of the reference returns.
-/
import Derived.Test.YtapfinnbfnhdbabSerM
import Derived.Test.YtapfinnbfnhdbabSerP
import Derived.StillTailTactics
import Derived.Deep.RegionHeld3
namespace Go.Proofs.Ytapfinnbfnhdbab
open Go.RowKit
open Ser
set_option linter.unusedVariables false

theorem ins_at {f t : Int} (h : f < t) (t' : Int) : atL (insL f t) t' = if f ≤ t' ∧ t' < t then 1 else 0 := by
  show atFrom (if f ≤ t' then 1 else 0) t' [(t, 0)] = _
  show (if t ≤ t' then (0 : Int) else (if f ≤ t' then 1 else 0)) = _
  by_cases c : t ≤ t'
  · rw [if_pos c, if_neg (by omega)]
  · rw [if_neg c]
    by_cases e : f ≤ t'
    · rw [if_pos e, if_pos ⟨e, by omega⟩]
    · rw [if_neg e, if_neg (by omega)]
theorem clip_comb {l out : List St} {f t : Int} (ol : Ok l) (h0 : 0 ≤ f) (h : f < t) (hF : Fin (cutF l f t) out) : out = combL fMul l (insL f t) := by
  have hC := combL_fin fMul fMul_00 l (insL f t) ol.asc (ins_asc h0 h)
  refine hF.unique ⟨hC.asc, hC.nrm, fun t' => ?_⟩
  rw [hC.at_ t']
  show fMul (atL l t') (atL (insL f t) t') = cutF l f t t'
  rw [ins_at h]
  unfold cutF fMul
  by_cases c : f ≤ t' ∧ t' < t
  · rw [if_pos c, if_pos c, Int.mul_one]
  · rw [if_neg c, if_neg c, Int.mul_zero]

theorem keepS_draws {w W : World} {f t : Int} (h : Below w.heap.size w W ∧ w.heap.size + 1 ≤ W.heap.size ∧ W.cell? ⟨w.heap.size, 0, none⟩ = some (.int .i64 f) ∧ W.cell? ⟨w.heap.size, 1, none⟩ = some (.int .i64 t)) (n : Nat) : Below w.heap.size w (W.drewN n) ∧ w.heap.size + 1 ≤ (W.drewN n).heap.size ∧ (W.drewN n).cell? ⟨w.heap.size, 0, none⟩ = some (.int .i64 f) ∧ (W.drewN n).cell? ⟨w.heap.size, 1, none⟩ = some (.int .i64 t) := ⟨(dNb h.1 n), h.2.1, h.2.2⟩
theorem keepS_drew {w W : World} {f t : Int} (h : Below w.heap.size w W ∧ w.heap.size + 1 ≤ W.heap.size ∧ W.cell? ⟨w.heap.size, 0, none⟩ = some (.int .i64 f) ∧ W.cell? ⟨w.heap.size, 1, none⟩ = some (.int .i64 t)) : Below w.heap.size w W.drew ∧ w.heap.size + 1 ≤ W.drew.heap.size ∧ W.drew.cell? ⟨w.heap.size, 0, none⟩ = some (.int .i64 f) ∧ W.drew.cell? ⟨w.heap.size, 1, none⟩ = some (.int .i64 t) := ⟨h.1.drew, h.2.1, h.2.2⟩
theorem keepS_own {w W W' : World} {f t : Int} (h : Below w.heap.size w W ∧ w.heap.size + 1 ≤ W.heap.size ∧ W.cell? ⟨w.heap.size, 0, none⟩ = some (.int .i64 f) ∧ W.cell? ⟨w.heap.size, 1, none⟩ = some (.int .i64 t)) (g : Below (w.heap.size + 1) W W') : Below w.heap.size w W' ∧ w.heap.size + 1 ≤ W'.heap.size ∧ W'.cell? ⟨w.heap.size, 0, none⟩ = some (.int .i64 f) ∧ W'.cell? ⟨w.heap.size, 1, none⟩ = some (.int .i64 t) :=
  ⟨h.1.trans (g.mono (by omega)), Nat.le_trans h.2.1 g.size, by rw [g.cell (p := ⟨w.heap.size, 0, none⟩) (by show w.heap.size < w.heap.size + 1; omega)]; exact h.2.2.1, by rw [g.cell (p := ⟨w.heap.size, 1, none⟩) (by show w.heap.size < w.heap.size + 1; omega)]; exact h.2.2.2⟩
theorem span_b (f t : Int) (x : Bool) (w : World) (h : spB f t = x) : Calls Try.prog 43 #[.agg #[.int .i64 f, .int .i64 t]] w fun e w' => e = .returned (.bool x) ∧ Below w.heap.size w w' := h ▸ span_any f t w

set_option maxHeartbeats 8000000 in
set_option maxRecDepth 1000000 in
theorem refClip_some (b o c : Nat) (l : List St) (f t : Int) (w : World) (hl : l.length ≤ 2000000) (hne : l ≠ []) (hA : At w b o l) (hR : Rd w (.slice (some ⟨b, o, none⟩) l.length c) l) (ol : Ok l) (f0 : 0 ≤ f) (ft : f < t) (tm : t ≤ 268435456) :
    Calls Try.prog 24 #[.slice (some ⟨b, o, none⟩) l.length c, .agg #[.int .i64 f, .int .i64 t]] w (GivesE w (limL (combL fMul l (insL f t))) (limE (combL fMul l (insL f t)))) := by
  have V := Lib.hid (refValid_any _ l (w.alloc (.cells #[.int .i64 f, .int .i64 t] 35)) hl (hR.below (b_new _ _)))
  have HB := Lib.hid (b_new w (.cells #[.int .i64 f, .int .i64 t] 35))
  have HR := Lib.hid hR
  have HA := Lib.hid hA
  have OL := Lib.hid ol
  rw [(ok_iff l).2 ol] at V
  have hsp : spB f t = true := by unfold spB; simp; omega
  have S := Lib.hid (fun W => span_b f t true W hsp)
  clear hR hA ol hsp
  go_enter Try.func24, Try.ntmps24
  go_wp2_with fail
  refine V.out.mono ?_
  rintro e w1 ⟨rfl, h1⟩
  obtain ⟨hc, hf⟩ := bcell h1
  have H1 := Lib.hid (b2 HB.out h1)
  have hsz := h1.size
  simp at hsz
  clear h1
  go_wp2_with fail
  refine (S.out _).mono ?_
  rintro e w2 ⟨rfl, h2⟩
  obtain ⟨hc2, hf2⟩ := bcell h2
  have H2 := Lib.hid (b2 H1.out h2)
  have hsz2 := h2.size
  have k0 : w2.cell? ⟨w.heap.size, 0, none⟩ = some (.int .i64 f) := by rw [hc2 _ _ (by omega), hc _ _ (by simp)]; simp
  have k1 : w2.cell? ⟨w.heap.size, 1, none⟩ = some (.int .i64 t) := by rw [hc2 _ _ (by omega), hc _ _ (by simp)]; simp
  clear h2 hc hf hc2 hf2
  go_wp2_with fail
  have A1 := Lib.hid (fun W hW => refAt_any (.slice (some ⟨b, o, none⟩) l.length c) l f W hl (HR.out.below hW))
  have P1 := Lib.hid (fun W hW => put_any (w.heap.size + 1) (.slice none 0 0) [] f (atL l f) W hW (Nat.zero_le _) (World.ownsRow_nil _ _ _ _))
  obtain ⟨x, hx⟩ : ∃ x, atL l f = x := ⟨_, rfl⟩
  rw [hx] at A1 P1
  have HX := Lib.hid hx
  clear hx
  have S0 : Below w.heap.size w w2 ∧ w.heap.size + 1 ≤ w2.heap.size ∧ w2.cell? ⟨w.heap.size, 0, none⟩ = some (.int .i64 f) ∧ w2.cell? ⟨w.heap.size, 1, none⟩ = some (.int .i64 t) := ⟨H2.out, by omega, k0, k1⟩
  go_region_held3 (fun X => Below w.heap.size w X ∧ w.heap.size + 1 ≤ X.heap.size ∧ X.cell? ⟨w.heap.size, 0, none⟩ = some (.int .i64 f) ∧ X.cell? ⟨w.heap.size, 1, none⟩ = some (.int .i64 t)) (first | assumption | exact keepS_draws S0 _ | exact keepS_drew (by assumption) | exact keepS_own (by assumption) (by assumption))
    (first | (go_at_call 16; refine (A1.out _ (And.left (by assumption))).mono ?_; rintro e w5 ⟨rfl, rfl⟩) | (go_at_call 44; refine (P1.out _ (And.left (And.right (by assumption)))).mono ?_; rintro e w6 ⟨v6, rfl, o6, g6⟩))
  have S6 : Below w.heap.size w w6 ∧ w.heap.size + 1 ≤ w6.heap.size ∧ w6.cell? ⟨w.heap.size, 0, none⟩ = some (.int .i64 f) ∧ w6.cell? ⟨w.heap.size, 1, none⟩ = some (.int .i64 t) := by assumption
  clear g6 S0 k0 k1
  obtain ⟨y1, y2, y3, y4⟩ := S6
  have hC := Clp.start (l := l) f0 ft
  rw [HX.out] at hC
  have HC := Lib.hid hC
  clear hC
  go_wp2_with fail
  go_loopw [7, 8] (fun v i wr => ∃ (k : Nat) (al : List St), k ≤ l.length ∧ i = .int .i64 k ∧ wr.ownsRow (w.heap.size + 1) 30 2 v al.length (stV al) ∧ Below w.heap.size w wr ∧ w.heap.size + 1 ≤ wr.heap.size ∧ wr.cell? ⟨w.heap.size, 0, none⟩ = some (.int .i64 f) ∧ wr.cell? ⟨w.heap.size, 1, none⟩ = some (.int .i64 t) ∧ Hid (Clp l f t k al))
    (fun _ i _ => l.length - (intOf i).toNat)
  case atStart => exact ⟨0, _, Nat.zero_le _, rfl, o6, y1, y2, y3, y4, HC⟩
  case round =>
    clear y1 y2 y3 y4 o6 HC
    obtain ⟨k, al, hk, rfl, hown, hbw, hsz3, k0, k1, HC⟩ := hrel
    have hal := HC.out.len
    by_cases hlt : k < l.length
    · obtain ⟨g1, g2⟩ := HA.out.get hbw k hlt
      have P := Lib.hid (fun W x1 x2 hW ho => put_any (w.heap.size + 1) u7 al x1 x2 W hW (by omega) ho)
      obtain ⟨x1, e1⟩ : ∃ x, l[k].1 = x := ⟨_, rfl⟩
      obtain ⟨x2, e2⟩ : ∃ x, l[k].2 = x := ⟨_, rfl⟩
      rw [e1] at g1
      rw [e2] at g2
      by_cases c1 : f < x1
      · by_cases c2 : x1 < t
        · have hC2 := HC.out.take OL.out.asc f0 hlt (by rw [e1]; exact c1) (by rw [e1]; exact c2)
          rw [e1, e2] at hC2
          have HC2 := Lib.hid hC2
          clear hC2 e1 e2
          go_wp2_with fail
          go_quiet (fail)
          have S1 : Below w.heap.size w (wr.drewN nq) ∧ w.heap.size + 1 ≤ (wr.drewN nq).heap.size ∧ (wr.drewN nq).cell? ⟨w.heap.size, 0, none⟩ = some (.int .i64 f) ∧ (wr.drewN nq).cell? ⟨w.heap.size, 1, none⟩ = some (.int .i64 t) := ⟨(dNb hbw _), hsz3, k0, k1⟩
          have S2 : (wr.drewN nq).cell? ⟨b, o + k * 2, none⟩ = some (.int .i64 x1) ∧ (wr.drewN nq).cell? ⟨b, o + k * 2 + 1, none⟩ = some (.int .i64 x2) := ⟨g1, g2⟩
          have S3 := own_dN hown nq
          generalize wr.drewN nq = W3 at S1 S2 S3 ⊢
          clear g1 g2 k0 k1 hown hbw hsz3
          obtain ⟨g1, g2⟩ := S2
          obtain ⟨z1, z2, z3, z4⟩ := S1
          have PP := Lib.hid (fun X => P.out X x1 x2)
          go_wp2_with fail
          refine wp_region_still_tail 11 (by kernel_rfl) (by kernel_rfl) ?_
          simp only [List.take_succ_cons, List.take_zero, List.drop_succ_cons, List.drop_zero]
          change wpStill _ _ W3.drew _ _ _
          repeat still_step
          refine wpStill_nil ?_
          have PP := Lib.hid (P.out W3.drew x1 x2 z2 (own_dN S3 1))
          have Z1 := dNb z1 1
          go_wp2_with fail
          refine PP.out.mono ?_
          rintro e w6 ⟨v6, rfl, o6, g6⟩
          have Z6 := Z1.trans (g6.mono (by omega))
          have k0 : w6.cell? ⟨w.heap.size, 0, none⟩ = some (.int .i64 f) := by rw [g6.cell (p := ⟨w.heap.size, 0, none⟩) (by show w.heap.size < w.heap.size + 1; omega)]; exact z3
          have k1 : w6.cell? ⟨w.heap.size, 1, none⟩ = some (.int .i64 t) := by rw [g6.cell (p := ⟨w.heap.size, 1, none⟩) (by show w.heap.size < w.heap.size + 1; omega)]; exact z4
          have hsz3 : w.heap.size + 1 ≤ w6.heap.size := Nat.le_trans z2 g6.size
          clear g6 Z1
          go_wp2_with fail
          go_roundw
          case rel => exact ⟨k + 1, _, by omega, by go_num, o6, Z6, hsz3, k0, k1, HC2⟩
          case measure => simp [intOf]; omega
        · have HC2 := Lib.hid (HC.out.skip hlt (by rw [e1]; omega))
          have c2' : decide (x1 < t) = false := decide_eq_false c2
          clear e1 e2 c2
          go_wp2_with fail
          go_quiet (fail)
          go_wp2_with fail
          go_roundw
          case rel => exact ⟨k + 1, al, by omega, by go_num, own_dN hown _, (dNb hbw _), hsz3, k0, k1, HC2⟩
          case measure => simp [intOf]; omega
      · have HC2 := Lib.hid (HC.out.skip hlt (by rw [e1]; omega))
        have c1' : decide (f < x1) = false := decide_eq_false c1
        clear e1 e2 c1
        go_wp2_with fail
        go_quiet (fail)
        go_wp2_with fail
        go_roundw
        case rel => exact ⟨k + 1, al, by omega, by go_num, own_dN hown _, (dNb hbw _), hsz3, k0, k1, HC2⟩
        case measure => simp [intOf]; omega
    · obtain rfl : k = l.length := by omega
      have hF := HC.out.done (by omega)
      have hr := clip_comb OL.out f0 ft hF
      have hlen := combL_len fMul l (insL f t) OL.out.asc (ins_asc f0 ft)
      have l1 := OL.out.len
      have h2 : (insL f t).length = 2 := rfl
      have P := Lib.hid (put_any (w.heap.size + 1) u7 al t 0 wr hsz3 (by omega) hown)
      rw [h2] at hlen
      rw [hr] at P
      have LL := Lib.hid (fun v W hR => refLimited_any v (combL fMul l (insL f t)) W (by omega) hR)
      clear hr hF h2 hlen hown
      go_wp2_with fail
      refine P.out.mono ?_
      rintro e w7 ⟨v7, rfl, o7, g7⟩
      have H7 := Lib.hid (hbw.trans (g7.mono (by omega)))
      clear g7
      go_wp2_with fail
      refine (LL.out _ _ (Rd.own o7)).mono ?_
      rintro e w8 ⟨v8, rfl, hr8, g8⟩
      go_wp2_with fail
      go_ret2
      exact ⟨v8, rfl, hr8, b2 H7.out g8⟩

set_option maxHeartbeats 8000000 in
set_option maxRecDepth 1000000 in
theorem refClip_nil (p : Option Addr) (c : Nat) (f t : Int) (w : World) (hR : Rd w (.slice p 0 c) []) (f0 : 0 ≤ f) (ft : f < t) (tm : t ≤ 268435456) :
    Calls Try.prog 24 #[.slice p 0 c, .agg #[.int .i64 f, .int .i64 t]] w (GivesE w (limL (combL fMul [] (insL f t))) (limE (combL fMul [] (insL f t)))) := by
  have V := Lib.hid (refValid_any _ [] (w.alloc (.cells #[.int .i64 f, .int .i64 t] 35)) (Nat.zero_le _) (hR.below (b_new _ _)))
  have HB := Lib.hid (b_new w (.cells #[.int .i64 f, .int .i64 t] 35))
  have HR := Lib.hid hR
  rw [(ok_iff []).2 ok_nil] at V
  have hsp : spB f t = true := by unfold spB; simp; omega
  have S := Lib.hid (fun W => span_b f t true W hsp)
  clear hR hsp
  go_enter Try.func24, Try.ntmps24
  go_wp2_with fail
  refine V.out.mono ?_
  rintro e w1 ⟨rfl, h1⟩
  obtain ⟨hc, hf⟩ := bcell h1
  have H1 := Lib.hid (b2 HB.out h1)
  have hsz := h1.size
  simp at hsz
  clear h1
  go_wp2_with fail
  refine (S.out _).mono ?_
  rintro e w2 ⟨rfl, h2⟩
  obtain ⟨hc2, hf2⟩ := bcell h2
  have H2 := Lib.hid (b2 H1.out h2)
  have hsz2 := h2.size
  have k0 : w2.cell? ⟨w.heap.size, 0, none⟩ = some (.int .i64 f) := by rw [hc2 _ _ (by omega), hc _ _ (by simp)]; simp
  have k1 : w2.cell? ⟨w.heap.size, 1, none⟩ = some (.int .i64 t) := by rw [hc2 _ _ (by omega), hc _ _ (by simp)]; simp
  clear h2 hc hf hc2 hf2
  go_wp2_with fail
  have A1 := Lib.hid (fun W hW => refAt_any (.slice p 0 c) [] f W (Nat.zero_le _) (HR.out.below hW))
  have P1 := Lib.hid (fun W hW => put_any (w.heap.size + 1) (.slice none 0 0) [] f (atL [] f) W hW (Nat.zero_le _) (World.ownsRow_nil _ _ _ _))
  obtain ⟨x, hx⟩ : ∃ x, atL [] f = x := ⟨_, rfl⟩
  rw [hx] at A1 P1
  have HX := Lib.hid hx
  clear hx
  have S0 : Below w.heap.size w w2 ∧ w.heap.size + 1 ≤ w2.heap.size ∧ w2.cell? ⟨w.heap.size, 0, none⟩ = some (.int .i64 f) ∧ w2.cell? ⟨w.heap.size, 1, none⟩ = some (.int .i64 t) := ⟨H2.out, by omega, k0, k1⟩
  go_region_held3 (fun X => Below w.heap.size w X ∧ w.heap.size + 1 ≤ X.heap.size ∧ X.cell? ⟨w.heap.size, 0, none⟩ = some (.int .i64 f) ∧ X.cell? ⟨w.heap.size, 1, none⟩ = some (.int .i64 t)) (first | assumption | exact keepS_draws S0 _ | exact keepS_drew (by assumption) | exact keepS_own (by assumption) (by assumption))
    (first | (go_at_call 16; refine (A1.out _ (And.left (by assumption))).mono ?_; rintro e w5 ⟨rfl, rfl⟩) | (go_at_call 44; refine (P1.out _ (And.left (And.right (by assumption)))).mono ?_; rintro e w6 ⟨v6, rfl, o6, g6⟩))
  have S6 : Below w.heap.size w w6 ∧ w.heap.size + 1 ≤ w6.heap.size ∧ w6.cell? ⟨w.heap.size, 0, none⟩ = some (.int .i64 f) ∧ w6.cell? ⟨w.heap.size, 1, none⟩ = some (.int .i64 t) := by assumption
  clear g6 S0 k0 k1
  obtain ⟨y1, y2, y3, y4⟩ := S6
  have hC := Clp.start (l := []) f0 ft
  rw [HX.out] at hC
  have HC := Lib.hid hC
  clear hC
  go_wp2_with fail
  refine wp_loop_rounds 1 ?_
  rw [rounds_succ]
  have hF := HC.out.done (by omega)
  have hr := clip_comb ok_nil f0 ft hF
  have hlen := combL_len fMul [] (insL f t) ok_nil.asc (ins_asc f0 ft)
  have h2 : (insL f t).length = 2 := rfl
  have hal := HC.out.len
  have P := Lib.hid (put_any (w.heap.size + 1) v6 (putL [] f x) t 0 w6 y2 (by simp at hal; omega) o6)
  rw [h2] at hlen
  rw [hr] at P
  have LL := Lib.hid (fun v W hR => refLimited_any v (combL fMul [] (insL f t)) W (by simp at hlen; omega) hR)
  clear hr hF h2 hlen o6 hal
  go_wp2_with fail
  refine P.out.mono ?_
  rintro e w7 ⟨v7, rfl, o7, g7⟩
  have H7 := Lib.hid (y1.trans (g7.mono (by omega)))
  clear g7
  go_wp2_with fail
  refine (LL.out _ _ (Rd.own o7)).mono ?_
  rintro e w8 ⟨v8, rfl, hr8, g8⟩
  go_wp2_with fail
  go_ret2
  exact ⟨v8, rfl, hr8, b2 H7.out g8⟩

set_option maxHeartbeats 8000000 in
set_option maxRecDepth 1000000 in
theorem refClip_eq (v : Value) (l : List St) (f : Int) (w : World) (hl : l.length ≤ 2000000) (hR : Rd w v l) (ol : Ok l) (f0 : 0 ≤ f) (fm : f ≤ 268435456) :
    Calls Try.prog 24 #[v, .agg #[.int .i64 f, .int .i64 f]] w (GivesE w [] 0) := by
  have V := Lib.hid (refValid_any _ l (w.alloc (.cells #[.int .i64 f, .int .i64 f] 35)) hl (hR.below (b_new _ _)))
  have HB := Lib.hid (b_new w (.cells #[.int .i64 f, .int .i64 f] 35))
  rw [(ok_iff l).2 ol] at V
  have hsp : spB f f = true := by unfold spB; simp; omega
  have S := Lib.hid (fun W => span_b f f true W hsp)
  have LL := Lib.hid (fun W => refLimited_any (.slice none 0 0) [] W (Nat.zero_le _) (Rd.nil W))
  clear hR ol hsp
  go_enter Try.func24, Try.ntmps24
  go_wp2_with fail
  refine V.out.mono ?_
  rintro e w1 ⟨rfl, h1⟩
  obtain ⟨hc, hf⟩ := bcell h1
  have H1 := Lib.hid (b2 HB.out h1)
  have hsz := h1.size
  simp at hsz
  clear h1
  go_wp2_with fail
  refine (S.out _).mono ?_
  rintro e w2 ⟨rfl, h2⟩
  obtain ⟨hc2, hf2⟩ := bcell h2
  have H2 := Lib.hid (b2 H1.out h2)
  have k0 : w2.cell? ⟨w.heap.size, 0, none⟩ = some (.int .i64 f) := by rw [hc2 _ _ (by omega), hc _ _ (by simp)]; simp
  have k1 : w2.cell? ⟨w.heap.size, 1, none⟩ = some (.int .i64 f) := by rw [hc2 _ _ (by omega), hc _ _ (by simp)]; simp
  clear h2 hc hf hc2 hf2
  go_wp2_with fail
  refine (LL.out _).mono ?_
  rintro e w8 ⟨v8, rfl, hr8, g8⟩
  go_wp2_with fail
  go_ret2
  exact ⟨v8, rfl, hr8, b2 H2.out g8⟩

set_option maxHeartbeats 8000000 in
set_option maxRecDepth 1000000 in
theorem refClip_span (v : Value) (l : List St) (f t : Int) (w : World) (hl : l.length ≤ 2000000) (hR : Rd w v l) (ol : Ok l) (hsp : spB f t = false) :
    Calls Try.prog 24 #[v, .agg #[.int .i64 f, .int .i64 t]] w (GivesE w [] 2) := by
  have V := Lib.hid (refValid_any _ l (w.alloc (.cells #[.int .i64 f, .int .i64 t] 35)) hl (hR.below (b_new _ _)))
  have HB := Lib.hid (b_new w (.cells #[.int .i64 f, .int .i64 t] 35))
  rw [(ok_iff l).2 ol] at V
  have S := Lib.hid (fun W => span_b f t false W hsp)
  clear hR ol hsp
  go_enter Try.func24, Try.ntmps24
  go_wp2_with fail
  refine V.out.mono ?_
  rintro e w1 ⟨rfl, h1⟩
  obtain ⟨hc, hf⟩ := bcell h1
  have H1 := Lib.hid (b2 HB.out h1)
  clear h1
  go_wp2_with fail
  refine (S.out _).mono ?_
  rintro e w2 ⟨rfl, h2⟩
  go_wp2_with fail
  go_ret2
  exact ⟨.slice none 0 0, rfl, Rd.nil _, b2 H1.out h2⟩

set_option maxHeartbeats 8000000 in
set_option maxRecDepth 1000000 in
theorem refClip_bad (v : Value) (l : List St) (f t E : Int) (w : World) (hl : l.length ≤ 2000000) (hR : Rd w v l) (hE : validE l = E) (h0 : E ≠ 0) :
    Calls Try.prog 24 #[v, .agg #[.int .i64 f, .int .i64 t]] w (GivesE w [] E) := by
  have V := Lib.hid (refValid_any _ l (w.alloc (.cells #[.int .i64 f, .int .i64 t] 35)) hl (hR.below (b_new _ _)))
  have HB := Lib.hid (b_new w (.cells #[.int .i64 f, .int .i64 t] 35))
  rw [hE] at V
  have he : (E == 0) = false := by simpa using h0
  clear hR h0 hE
  go_enter Try.func24, Try.ntmps24
  go_wp2_with fail
  refine V.out.mono ?_
  rintro e w1 ⟨rfl, h1⟩
  go_wp2_with fail
  go_ret2
  exact ⟨.slice none 0 0, rfl, Rd.nil _, b2 HB.out h1⟩

theorem refClip_any (v : Value) (l : List St) (f t : Int) (w : World) (hl : l.length ≤ 2000000) (hR : Rd w v l) :
    Calls Try.prog 24 #[v, .agg #[.int .i64 f, .int .i64 t]] w (GivesE w (clipL l f t) (clipE l f t)) := by
  unfold clipL clipE
  by_cases e : validE l = 0
  · have ol := (ok_iff l).1 e
    cases hs : spB f t with
    | false =>
      have hc : cE l f t = 2 := by unfold cE; rw [if_pos e, hs]; rfl
      rw [hc, if_neg (by decide), if_neg (by decide)]
      exact refClip_span v l f t w hl hR ol hs
    | true =>
      have hc : cE l f t = 0 := by unfold cE; rw [if_pos e, hs]; rfl
      obtain ⟨_, f0, ft, tm⟩ := cE_ok hc
      rw [if_pos hc, if_pos hc]
      by_cases hft : f = t
      · rw [if_pos hft, if_pos hft]
        subst hft
        exact refClip_eq v l f w hl hR ol f0 tm
      · rw [if_neg hft, if_neg hft]
        have hR' := hR
        obtain ⟨p, c, rfl, h2, h3, h4⟩ := hR
        by_cases en : l = []
        · subst en; exact refClip_nil p c f t w hR' f0 (by omega) tm
        · obtain ⟨b, o, rfl, ha⟩ := h4 en; exact refClip_some b o c l f t w hl en ha hR' ol f0 (by omega) tm
  · have hc : cE l f t = validE l := if_neg e
    rw [hc, if_neg e, if_neg e]
    exact refClip_bad v l f t _ w hl hR rfl e
end Go.Proofs.Ytapfinnbfnhdbab
