/-
  What the reader of bytes returns; TakeInt.
-/
import Derived.Test.YtlnnkdnnhmeldaaFiF
namespace Go.Proofs.Ytlnnkdnnhmeldaa
open Go.RowKit
open IntWalk
set_option linter.unusedVariables false

theorem rd_drop_any {w : World} {p : Option Addr} {n c : Nat} {l : List UInt8} (h : RdB w (.slice p n c) l) (m : Nat) (hm : m ≤ l.length) (P : Option Addr) (hP : l.length - m ≠ 0 → ∀ b o, p = some ⟨b, o, none⟩ → P = some ⟨b, o + m, none⟩) : RdB w (.slice P (l.length - m) (c - m)) (l.drop m) := by
  have h' := h
  obtain ⟨p', c', e, h2, h3, h4⟩ := h
  injection e with e1 e2 e3
  subst e1 e3
  by_cases hl : l.length - m = 0
  · refine ⟨P, c - m, by rw [List.length_drop], by rw [List.length_drop]; omega, by omega, fun hne => absurd (List.eq_nil_of_length_eq_zero (by rw [List.length_drop]; exact hl)) hne⟩
  · obtain ⟨b, o, e5, _⟩ := h4 (fun z => hl (by rw [z]; simp))
    subst e5
    exact rd_drop h' m hm P (fun _ => hP hl b o rfl)
/-- A slice whose cells lie below B, cut. -/
theorem blk_cut {p : Option Addr} {n c m c' B : Nat} {P : Option Addr} (h : blk (.slice p n c) B) (hm : m ≠ 0 → n ≠ 0) (hP : m ≠ 0 → ∀ b o, P = some ⟨b, o, none⟩ → ∃ o', p = some ⟨b, o', none⟩) : blk (.slice P m c') B := fun b o n' c'' e hn => by
  injection e with e1 e2 e3
  subst e2
  obtain ⟨o', e4⟩ := hP hn b o e1
  exact h b o' n c (by rw [e4]) (hm hn)
theorem Fr.only {w w1 : World} {g base : Nat} {u : Value} {l : List UInt8} (h : Fr w base u l) (ho : Only g w w1) (hg : g < base) : Fr w1 base u l := by
  obtain ⟨p, c, h1, h2, h3, h4⟩ := h
  refine ⟨p, c, h1, h2, h3, fun hn => ?_⟩
  obtain ⟨k, q, cs, e, hb2, hh, hc⟩ := h4 hn
  have hlt : k < w.heap.size := by
    rcases Nat.lt_or_ge k w.heap.size with hl | hl
    · exact hl
    · rw [Array.getElem?_eq_none hl] at hh; cases hh
  exact ⟨k, q, cs, e, hb2, (ho.block k hlt (by omega)).trans hh, hc⟩
theorem data_end {g B : Nat} {w w3 : World} {x V u : Value} {d r : List UInt8} (hg : g < w.heap.size) (hB : B ≤ g) (hc : w3.cell? ⟨g, 0, none⟩ = some x) (hz : w3.frozen? ⟨g, 0, none⟩ = false) (ho : Only g w w3) (hf : Fr w3 w.heap.size u d) (hr : RdB w3 V r) (hb : blk V B) :
    Fr (w3.setCell ⟨g, 0, none⟩ V) w.heap.size u d ∧ Only g w (w3.setCell ⟨g, 0, none⟩ V) ∧ (w3.setCell ⟨g, 0, none⟩ V).frozen? ⟨g, 0, none⟩ = false ∧
      ∃ v', (w3.setCell ⟨g, 0, none⟩ V).cell? ⟨g, 0, none⟩ = some v' ∧ RdB (w3.setCell ⟨g, 0, none⟩ V) v' r ∧ blk v' B := by
  have hg3 : g < w3.heap.size := Nat.lt_of_lt_of_le hg ho.size
  have o2 := Only.set g 0 V w3
  exact ⟨hf.only o2 hg, ho.trans o2, by rw [World.frozen?_setCell]; exact hz, V, cell_set _ _ _ _ hc, hr.below2 hb ((o2.below hg3).mono hB), hb⟩
set_option maxHeartbeats 4000000 in
set_option maxRecDepth 10000 in
theorem data_ok (g B : Nat) (v : Value) (l d r : List UInt8) (w : World) (hr : readD l = .ok (d, r)) (hg : g < w.heap.size) (hc : w.cell? ⟨g, 0, none⟩ = some v) (hz : w.frozen? ⟨g, 0, none⟩ = false) (h : RdB w v l) (hb : blk v B) (hl : l.length ≤ 200000) (hB : B ≤ g) :
    Calls Try.prog 48 #[.pointer (some ⟨g, 0, none⟩)] w fun e w' => ∃ u, e = .returned u ∧ Fr w' w.heap.size u d ∧ Only g w w' ∧ w'.frozen? ⟨g, 0, none⟩ = false ∧ ∃ v', w'.cell? ⟨g, 0, none⟩ = some v' ∧ RdB w' v' r ∧ blk v' B := by
  unfold readD at hr
  rcases hi : readI l with k2 | ⟨n, s⟩
  · rw [hi] at hr; cases hr
  · rw [hi] at hr
    dsimp only at hr
    have C := Lib.hid (int_ok g B v l s n w hi hc hz h hb hl)
    have HC := Lib.hid hc
    have hn := readI_len l n s hi
    split at hr
    · cases hr
    rename_i h0
    split at hr
    · cases hr
    rename_i h1
    injection hr with hr
    injection hr with e1 e2
    obtain ⟨N, rfl⟩ := Int.eq_ofNat_of_zero_le (show 0 ≤ n by omega)
    rw [Int.toNat_natCast] at e1 e2
    have hN : N ≤ s.length := by omega
    have HE1 := Lib.hid e1
    have HE2 := Lib.hid e2
    have HG := Lib.hid hg
    have HZ := Lib.hid hz
    have HB := Lib.hid hB
    have hs : s.length ≤ 200000 := by omega
    have hN2 : N ≤ 200000 := by omega
    clear h0 h1 e1 e2 hn hi
    go_enter Try.func48, Try.ntmps48
    go_wp2_with fail
    refine C.out.mono ?_
    rintro e w2 ⟨rfl, v2, hw, R, hbk⟩
    have S1 := Lib.hid (Only.set g 0 v2 w)
    have hc1 := cell_set w g v2 v HC.out
    have hz1 : (w.setCell ⟨g, 0, none⟩ v2).frozen? ⟨g, 0, none⟩ = false := by rw [World.frozen?_setCell]; exact HZ.out
    have hsz := set_size w g v2
    rw [← hw] at S1 hc1 hz1 hsz
    have R1 := Lib.hid (R.below2 hbk ((S1.out.below HG.out).mono HB.out))
    have BK := Lib.hid hbk
    have HSZ := Lib.hid hsz
    clear R hbk hsz hw C
    obtain ⟨p2, c2, rfl, hc2, hm2, hat2⟩ := R1.out
    have hNc : N ≤ c2 := by omega
    have CL := Lib.hid (clone_run (.slice p2 N c2) (s.take N) w2 (rd_take R1.out N hN) (by rw [List.length_take]; omega))
    clear hat2
    go_wp2_with fail
    refine CL.out.mono ?_
    rintro e w3 ⟨u, rfl, fu, b3⟩
    have hg2 : g < w2.heap.size := by rw [HSZ.out]; exact HG.out
    have hc3 := (b3.cell (p := ⟨g, 0, none⟩) hg2).trans hc1
    have hz3 := (b3.frozen (p := ⟨g, 0, none⟩) hg2).trans hz1
    have FU := Lib.hid fu
    have S3 := Lib.hid (S1.out.trans (Only.of_below b3))
    have R3 := Lib.hid (R1.out.below b3)
    have HC3 := Lib.hid hc3
    have HZ3 := Lib.hid hz3
    have FD : Hid (Fr w3 w.heap.size u d) := by
      have := FU.out
      rw [HSZ.out, HE1.out] at this
      exact this
    clear fu b3 hg2 hc1 hz1 CL FU
    cases p2 with
    | none =>
      have hs0 : s.length = 0 := by
        obtain ⟨_, _, e, _, _, hat⟩ := R3.out
        by_cases e0 : s.length = 0
        · exact e0
        · obtain ⟨b, o, e1, _⟩ := hat (fun z => e0 (by rw [z]; rfl))
          injection e with e2
          rw [← e2] at e1; cases e1
      obtain rfl : N = 0 := by omega
      have RR : Hid (RdB w3 (.slice none 0 c2) r) := by
        have := rd_drop_any R3.out 0 (Nat.zero_le _) none (fun h => absurd hs0 (by omega))
        rw [HE2.out, hs0] at this
        exact this
      have BB : Hid (blk (.slice none 0 c2) B) := Lib.hid (fun b o n c e => by injection e with e1; cases e1)
      go_wp2_with fail
      go_ret
      exact ⟨_, rfl, data_end HG.out HB.out HC3.out HZ3.out S3.out FD.out RR.out BB.out⟩
    | some a =>
      obtain ⟨b, o, sp⟩ := a
      by_cases hcc : c2 = N
      · subst hcc
        have RR : Hid (RdB w3 (.slice (some ⟨b, o, sp⟩) 0 0) r) := by
          have := rd_drop_any R3.out c2 hN (some ⟨b, o, sp⟩) (fun h => absurd h (by omega))
          rw [HE2.out, show s.length - c2 = 0 by omega, Nat.sub_self] at this
          exact this
        have BB : Hid (blk (.slice (some ⟨b, o, sp⟩) 0 0) B) := Lib.hid (fun b o n c e hn => by injection e with _ e2; exact absurd e2.symm hn)
        go_wp2_with fail
        go_ret
        exact ⟨_, rfl, data_end HG.out HB.out HC3.out HZ3.out S3.out FD.out RR.out BB.out⟩
      · cases sp with
        | none =>
          have RR : Hid (RdB w3 (.slice (some ⟨b, o + N, none⟩) (s.length - N) (c2 - N)) r) := by
            have := rd_drop_any R3.out N hN (some ⟨b, o + N, none⟩) (fun h b' o' e => by injection e with e; injection e with e1 e2 e3; subst e1 e2; rfl)
            rw [HE2.out] at this
            exact this
          have BB : Hid (blk (.slice (some ⟨b, o + N, none⟩) (s.length - N) (c2 - N)) B) := Lib.hid (blk_cut BK.out (fun h => by omega) (fun _ b' o' e => ⟨o, by injection e with e; injection e with e1 e2 e3; subst e1; rfl⟩))
          go_wp2_with fail
          go_ret
          exact ⟨_, rfl, data_end HG.out HB.out HC3.out HZ3.out S3.out FD.out RR.out BB.out⟩
        | some t =>
          have hs0 : s.length = 0 := by
            obtain ⟨_, _, e, _, _, hat⟩ := R3.out
            by_cases e0 : s.length = 0
            · exact e0
            · obtain ⟨b, o, e1, _⟩ := hat (fun z => e0 (by rw [z]; rfl))
              injection e with e2
              rw [← e2] at e1; injection e1 with e1; injection e1 with _ _ e1; cases e1
          have RR : Hid (RdB w3 (.slice (some ((⟨b, o, some t⟩ : Addr).add N)) 0 (c2 - N)) r) := by
            have := rd_drop_any R3.out N hN (some ((⟨b, o, some t⟩ : Addr).add N)) (fun h => absurd hs0 (by omega))
            rw [HE2.out, show s.length - N = 0 by omega] at this
            exact this
          have BB : Hid (blk (.slice (some ((⟨b, o, some t⟩ : Addr).add N)) 0 (c2 - N)) B) := Lib.hid (fun b o n c e hn => by injection e with _ e2; exact absurd e2.symm hn)
          go_wp2_with fail
          go_ret
          exact ⟨_, rfl, data_end HG.out HB.out HC3.out HZ3.out S3.out FD.out RR.out BB.out⟩

/-- What TakeInt returns. -/
def intR (l : List UInt8) : Int × Int :=
  match readI l with
  | .error k => (0, k)
  | .ok (n, r) => if r = [] then (n, 0) else (0, 5)
/-- What stands when a decoder begins to read. -/
def beg (w : World) (v : Value) : World := (w.alloc (.cells #[.int .i64 0] 24)).alloc (.cells #[v] 52)
theorem beg_size (w : World) (v : Value) : (beg w v).heap.size = w.heap.size + 2 := by unfold beg; simp
theorem beg_below (w : World) (v : Value) : Below w.heap.size w (beg w v) := ((Below.refl _ w).alloc (Nat.le_refl _) _).alloc (by simp) _
theorem beg_e (w : World) (v : Value) : (beg w v).cell? ⟨w.heap.size, 0, none⟩ = some (.int .i64 0) ∧ (beg w v).frozen? ⟨w.heap.size, 0, none⟩ = false := by
  unfold beg
  exact ⟨by simp [go_sem, World.cell?_alloc_past], by simp [go_sem]⟩
theorem beg_g (w : World) (p : Option Addr) (n c : Nat) : (beg w (.slice p n c)).cell? ⟨w.heap.size + 1, 0, none⟩ = some (.slice p n c) ∧ (beg w (.slice p n c)).frozen? ⟨w.heap.size + 1, 0, none⟩ = false := by
  unfold beg
  exact ⟨by simp [go_sem], by simp [go_sem]⟩
theorem set_cell (w : World) (g : Nat) (v x : Value) (h : w.cell? ⟨g, 0, none⟩ = some x) : (w.setCell ⟨g, 0, none⟩ v).cell? ⟨g, 0, none⟩ = some v := by simp [go_sem, h]

set_option maxHeartbeats 4000000 in
set_option maxRecDepth 10000 in
theorem takeInt_run (v : Value) (l : List UInt8) (w : World) (h : RdB w v l) (hl : l.length ≤ 200000) :
    Calls Try.prog 13 #[v] w fun e w' => e = .returned (.tuple #[.int .i64 (intR l).1, .int .i64 (intR l).2]) ∧ Below w.heap.size w w' := by
  have hmf : ∀ (fn : Fn) (first cap : Array Value) (w : World), (Instr.makeFunc fn first cap).run Try.prog w = .ok (.func fn first cap) w := fun _ _ _ _ => rfl
  have R := Lib.hid (h.below (beg_below w v))
  have HB := Lib.hid (rd_block h)
  obtain ⟨p, c, rfl, _, _, _⟩ := h
  have E0 := Lib.hid (beg_e w (.slice p l.length c))
  have G0 := Lib.hid (beg_g w p l.length c)
  have B0 := Lib.hid (beg_below w (.slice p l.length c))
  have Z0 := Lib.hid (beg_size w (.slice p l.length c))
  rcases hi : readI l with k | ⟨n, r⟩
  · have e1 : intR l = (0, k) := by unfold intR; rw [hi]
    rw [e1]
    have C := Lib.hid (int_err (w.heap.size + 1) _ l k _ hi G0.out.1 R.out hl)
    clear hi e1
    go_enter_defers Try.func13, Try.ntmps13
    go_wp2_with fail
    refine C.out.mono ?_
    rintro e w2 ⟨rfl, hw⟩
    rw [hw]
    clear hw w2 C
    refine leaves_cons (f := 33) (args := #[.pointer (some ⟨w.heap.size, 0, none⟩)]) (by simp) (by simp [go_sem]) ?_
    refine (catch1_err ⟨w.heap.size, 0, none⟩ k 0 [] _ E0.out.1 E0.out.2).mono ?_
    rintro e u' w'' ⟨rfl, rfl, rfl⟩
    have hx := set_cell _ _ (.int .i64 k) _ E0.out.1
    have hb := B0.out.setCell (p := ⟨w.heap.size, 0, none⟩) (Nat.le_refl _) (.int .i64 k)
    simp [Leaves, settle, results, Try.results13, go_sem, hx]
    exact hb
  · have C := Lib.hid (int_ok (w.heap.size + 1) w.heap.size _ l r n _ hi G0.out.1 G0.out.2 R.out HB.out hl)
    by_cases h0 : r = []
    · subst h0
      have e1 : intR l = (n, 0) := by unfold intR; rw [hi]; rfl
      rw [e1]
      clear hi e1
      go_enter_defers Try.func13, Try.ntmps13
      go_wp2_with fail
      refine C.out.mono ?_
      rintro e w2 ⟨rfl, v2, hw, r2, k2⟩
      rw [hw]
      clear hw w2 C
      have S := Lib.hid (Only.set (w.heap.size + 1) 0 v2 (beg w (.slice p l.length c)))
      have hc2 := cell_set _ (w.heap.size + 1) v2 _ G0.out.1
      have bS := S.out.below (by rw [Z0.out]; omega)
      have E2 := Lib.hid (And.intro ((bS.cell (p := ⟨w.heap.size, 0, none⟩) (Nat.lt_succ_self _)).trans E0.out.1) ((bS.frozen (p := ⟨w.heap.size, 0, none⟩) (Nat.lt_succ_self _)).trans E0.out.2))
      have B2 := Lib.hid (B0.out.trans (bS.mono (Nat.le_succ _)))
      have R2 := Lib.hid (r2.below2 k2 (bS.mono (Nat.le_succ _)))
      have D := Lib.hid (end_ok (w.heap.size + 1) v2 _ hc2 R2.out)
      clear hc2 bS r2 k2 R2 S
      revert E2 B2 D
      generalize (beg w (.slice p l.length c)).setCell { block := w.heap.size + 1, off := 0 } v2 = w3
      intro E2 B2 D
      go_wp2_with fail
      refine D.out.mono ?_
      rintro e w4 ⟨rfl, hw⟩
      rw [hw]
      clear hw w4 D
      have e2 := E2.out.1
      have e3 := E2.out.2
      have E4 := Lib.hid (set_cell _ _ (.int .i64 0) _ e2)
      have Z4 : Hid ((w3.setCell ⟨w.heap.size, 0, none⟩ (.int .i64 0)).frozen? ⟨w.heap.size, 0, none⟩ = false) := Lib.hid (by rw [World.frozen?_setCell]; exact e3)
      have B4 := Lib.hid (B2.out.setCell (p := ⟨w.heap.size, 0, none⟩) (Nat.le_refl _) (.int .i64 0))
      go_wp2_with fail
      refine leaves_cons (f := 33) (args := #[.pointer (some ⟨w.heap.size, 0, none⟩)]) (by simp) (by simp [go_sem]) ?_
      refine (catch1_idle ⟨w.heap.size, 0, none⟩ 0 _ E4.out Z4.out).mono ?_
      rintro e u' w'' ⟨rfl, rfl, rfl⟩
      have hx := set_cell _ _ (.int .i64 0) _ E4.out
      have hb := B4.out.setCell (p := ⟨w.heap.size, 0, none⟩) (Nat.le_refl _) (.int .i64 0)
      simp [Leaves, settle, results, Try.results13, go_sem, hx]
      exact hb
    · have e1 : intR l = (0, 5) := by unfold intR; rw [hi]; dsimp only; rw [if_neg h0]
      rw [e1]
      clear hi e1
      go_enter_defers Try.func13, Try.ntmps13
      go_wp2_with fail
      refine C.out.mono ?_
      rintro e w2 ⟨rfl, v2, hw, r2, k2⟩
      rw [hw]
      clear hw w2 C
      have S := Lib.hid (Only.set (w.heap.size + 1) 0 v2 (beg w (.slice p l.length c)))
      have hc2 := cell_set _ (w.heap.size + 1) v2 _ G0.out.1
      have bS := S.out.below (by rw [Z0.out]; omega)
      have E2 := Lib.hid (And.intro ((bS.cell (p := ⟨w.heap.size, 0, none⟩) (Nat.lt_succ_self _)).trans E0.out.1) ((bS.frozen (p := ⟨w.heap.size, 0, none⟩) (Nat.lt_succ_self _)).trans E0.out.2))
      have B2 := Lib.hid (B0.out.trans (bS.mono (Nat.le_succ _)))
      have R2 := Lib.hid (r2.below2 k2 (bS.mono (Nat.le_succ _)))
      have D := Lib.hid (end_bad (w.heap.size + 1) v2 r _ hc2 R2.out h0)
      clear hc2 bS r2 k2 R2 S
      revert E2 B2 D
      generalize (beg w (.slice p l.length c)).setCell { block := w.heap.size + 1, off := 0 } v2 = w3
      intro E2 B2 D
      go_wp2_with fail
      refine D.out.mono ?_
      rintro e w4 ⟨rfl, hw⟩
      rw [hw]
      clear hw w4 D
      refine leaves_cons (f := 33) (args := #[.pointer (some ⟨w.heap.size, 0, none⟩)]) (by simp) (by simp [go_sem]) ?_
      refine (catch1_err ⟨w.heap.size, 0, none⟩ 5 0 [] _ E2.out.1 E2.out.2).mono ?_
      rintro e u' w'' ⟨rfl, rfl, rfl⟩
      have hx := set_cell _ _ (.int .i64 5) _ E2.out.1
      have hb := B2.out.setCell (p := ⟨w.heap.size, 0, none⟩) (Nat.le_refl _) (.int .i64 5)
      simp [Leaves, settle, results, Try.results13, go_sem, hx]
      exact hb
end Go.Proofs.Ytlnnkdnnhmeldaa
