/-
  What Energy returns, in the reference.
-/
import Derived.Test.YtapfinnbfnhdbabSerU
namespace Go.Proofs.Ytapfinnbfnhdbab
open Go.RowKit
open Ser
set_option linter.unusedVariables false

theorem acc_lo2 (lo x2 D : Int) (h1 : 0 ≤ lo) (h2 : lo ≤ 144115188075855872) (h3 : 0 ≤ D) (h4 : D ≤ 268435456) : wrap64 (lo + wrap64 ((x2 - x2 / 1048576 * 1048576) * D)) = lo + x2 % 1048576 * D := by
  rw [show x2 - x2 / 1048576 * 1048576 = x2 % 1048576 by omega]
  have := mul_bd (x2 % 1048576) D 0 1048576 h3 h4 (by omega) (by omega) (by omega) (by omega)
  generalize x2 % 1048576 * D = P at *
  rw [w64 P (by omega) (by omega), w64 _ (by omega) (by omega)]
theorem none1 {n1 t f x1 : Int} (h : (if n1 < t then n1 else t) ≤ if x1 < f then f else x1) : max 0 (min t n1 - max f x1) = 0 := by
  have e1 : (if n1 < t then n1 else t) = min t n1 := by split <;> omega
  have e2 : (if x1 < f then f else x1) = max f x1 := by split <;> omega
  rw [e1, e2] at h; omega
theorem some1 {n1 t f x1 : Int} (h : (if x1 < f then f else x1) < if n1 < t then n1 else t) : (if n1 < t then n1 else t) - (if x1 < f then f else x1) = max 0 (min t n1 - max f x1) := by
  have e1 : (if n1 < t then n1 else t) = min t n1 := by split <;> omega
  have e2 : (if x1 < f then f else x1) = max f x1 := by split <;> omega
  rw [e1, e2] at h ⊢; omega
theorem none2 {t f x1 : Int} (h : t ≤ if x1 < f then f else x1) : max 0 (t - max f x1) = 0 := by
  have e2 : (if x1 < f then f else x1) = max f x1 := by split <;> omega
  rw [e2] at h; omega
theorem some2 {t f x1 : Int} (h : (if x1 < f then f else x1) < t) : t - (if x1 < f then f else x1) = max 0 (t - max f x1) := by
  have e2 : (if x1 < f then f else x1) = max f x1 := by split <;> omega
  rw [e2] at h ⊢; omega

set_option maxHeartbeats 8000000 in
set_option maxRecDepth 1000000 in
theorem refEnergy_some (b o c : Nat) (l : List St) (f t : Int) (w : World) (hl : l.length ≤ 2000000) (hne : l ≠ []) (hA : At w b o l) (hR : Rd w (.slice (some ⟨b, o, none⟩) l.length c) l) (ol : Ok l) (f0 : 0 ≤ f) (ft : f ≤ t) (tm : t ≤ 268435456) (hc : cE l f t = 0) :
    Calls Try.prog 28 #[.slice (some ⟨b, o, none⟩) l.length c, .agg #[.int .i64 f, .int .i64 t]] w fun e w' => e = .returned (.tuple #[.int .i64 (enV l f t), .int .i64 (enE l f t)]) ∧ Below w.heap.size w w' := by
  have V := Lib.hid (refValid_any _ l (w.alloc (.cells #[.int .i64 f, .int .i64 t] 35)) hl (hR.below (b_new _ _)))
  have HB := Lib.hid (b_new w (.cells #[.int .i64 f, .int .i64 t] 35))
  have HA := Lib.hid hA
  have OL := Lib.hid ol
  have l1 := ol.len
  have HV := Lib.hid (show enV l f t = if fitB (enR f t l) then enR f t l else 0 from if_pos hc)
  have HE := Lib.hid (show enE l f t = if fitB (enR f t l) then 0 else 20 from if_pos hc)
  rw [(ok_iff l).2 ol] at V
  have hsp : spB f t = true := by unfold spB; simp; omega
  have S := Lib.hid (fun W => span_b f t true W hsp)
  clear hR hA ol hc hsp
  go_enter Try.func28, Try.ntmps28
  go_wp2_with fail
  refine V.out.mono ?_
  rintro e w1 ⟨rfl, h1⟩
  obtain ⟨hc, hf⟩ := bcell h1
  have H1 := Lib.hid (b2 HB.out h1)
  have hsz := h1.size
  simp at hsz
  clear h1
  go_wp2_with fail
  refine (S.out _).mono ?_
  rintro e w2 ⟨rfl, h2⟩
  obtain ⟨hc2, hf2⟩ := bcell h2
  have H2 := Lib.hid (b2 H1.out h2)
  have hsz2 := h2.size
  have hsz3 : w.heap.size < w2.heap.size := by omega
  have k0 : w2.cell? ⟨w.heap.size, 0, none⟩ = some (.int .i64 f) := by rw [hc2 _ _ (by omega), hc _ _ (by simp)]; simp
  have k1 : w2.cell? ⟨w.heap.size, 1, none⟩ = some (.int .i64 t) := by rw [hc2 _ _ (by omega), hc _ _ (by simp)]; simp
  clear h2 hc hf hc2 hf2
  go_wp2_with fail
  go_loopw [7, 8, 9] (fun h lo i wr => ∃ k : Nat, k ≤ l.length ∧ i = .int .i64 k ∧ h = .int .i64 (hiS l f t k) ∧ lo = .int .i64 (loS l f t k) ∧ Below w.heap.size w wr ∧ w.heap.size < wr.heap.size ∧ wr.cell? ⟨w.heap.size, 0, none⟩ = some (.int .i64 f) ∧ wr.cell? ⟨w.heap.size, 1, none⟩ = some (.int .i64 t))
    (fun _ _ i _ => l.length - (intOf i).toNat)
  case atStart => exact ⟨0, Nat.zero_le _, rfl, rfl, rfl, H2.out, hsz3, k0, k1⟩
  case round =>
    clear k0 k1 hsz hsz2 hsz3
    obtain ⟨k, hk, rfl, rfl, rfl, hb, hsz, k0, k1⟩ := hrel
    obtain ⟨⟨hb1, hb2⟩, hb3, hb4⟩ := hl_bd l f t f0 tm OL.out.all k hk
    have heq := hl_eq l f t k
    obtain ⟨hi, ehi⟩ : ∃ x, hiS l f t k = x := ⟨_, rfl⟩
    obtain ⟨lo, elo⟩ : ∃ x, loS l f t k = x := ⟨_, rfl⟩
    rw [ehi] at hb1 hb2 heq ⊢
    rw [elo] at hb3 hb4 heq ⊢
    by_cases hlt : k < l.length
    · obtain ⟨g1, g2⟩ := HA.out.get hb k hlt
      have hbd := (okS_iff _).1 (OL.out.all l[k] (List.getElem_mem _))
      have eg : l.getD k (0, 0) = l[k] := by simp [hlt]
      obtain ⟨x1, e1⟩ : ∃ x, l[k].1 = x := ⟨_, rfl⟩
      obtain ⟨x2, e2⟩ : ∃ x, l[k].2 = x := ⟨_, rfl⟩
      have HH : Hid (hiS l f t (k + 1) = hi + x2 / 1048576 * mn l f t k) := Lib.hid (by show hiS l f t k + _ = _; rw [ehi, eg, e2])
      have HL : Hid (loS l f t (k + 1) = lo + x2 % 1048576 * mn l f t k) := Lib.hid (by show loS l f t k + _ = _; rw [elo, eg, e2])
      have HM : Hid (mn l f t k = max 0 (nxT l t k - max f x1)) := Lib.hid (by unfold mn; rw [eg, e1])
      have md := mn_bd l f t k f0 tm
      rw [e1] at g1
      rw [e2] at g2
      rw [e1, e2] at hbd
      obtain ⟨⟨d1, d2⟩, d3, d4⟩ := hbd
      have hz3 : -144115188075855872 ≤ hi := by omega
      have hz4 : hi ≤ 144115188075855872 := by omega
      have hz5 : lo ≤ 144115188075855872 := by omega
      clear e1 e2 eg ehi elo heq hb1 hb2 hb4
      by_cases hn : k + 1 < l.length
      · obtain ⟨g3, _⟩ := HA.out.get hb (k + 1) hn
        obtain ⟨n1, e3⟩ : ∃ x, l[k + 1].1 = x := ⟨_, rfl⟩
        have hbd := ((okS_iff _).1 (OL.out.all l[k + 1] (List.getElem_mem _))).1
        have HM2 : Hid (mn l f t k = max 0 (min t n1 - max f x1)) := Lib.hid (by rw [HM.out]; unfold nxT; rw [if_pos hn, show l.getD (k + 1) (0, 0) = l[k + 1] by simp [hn], e3])
        rw [e3] at g3 hbd
        obtain ⟨y1, y2⟩ := hbd
        clear e3
        go_wp2_with fail
        go_quiet (fail)
        go_wp2_with fail
        all_goals
          go_roundw
          case rel =>
            first
            | exact ⟨k + 1, by omega, by go_num, by rw [HH.out, HM2.out, none1 (by assumption), Int.mul_zero, Int.add_zero], by rw [HL.out, HM2.out, none1 (by assumption), Int.mul_zero, Int.add_zero], (dNb hb _), hsz, k0, k1⟩
            | exact ⟨k + 1, by omega, by go_num, by rw [some1 (by assumption), ← HM2.out, acc_hi _ _ _ hz3 hz4 md.1 md.2 d3 d4, HH.out], by rw [some1 (by assumption), ← HM2.out, acc_lo2 _ _ _ hb3 hz5 md.1 md.2, HL.out], (dNb hb _), hsz, k0, k1⟩
          case measure => simp [intOf]; omega
      · have HM2 : Hid (mn l f t k = max 0 (t - max f x1)) := Lib.hid (by rw [HM.out]; unfold nxT; rw [if_neg hn])
        go_wp2_with fail
        go_quiet (fail)
        go_wp2_with fail
        all_goals
          go_roundw
          case rel =>
            first
            | exact ⟨k + 1, by omega, by go_num, by rw [HH.out, HM2.out, none2 (by assumption), Int.mul_zero, Int.add_zero], by rw [HL.out, HM2.out, none2 (by assumption), Int.mul_zero, Int.add_zero], (dNb hb _), hsz, k0, k1⟩
            | exact ⟨k + 1, by omega, by go_num, by rw [some2 (by assumption), ← HM2.out, acc_hi _ _ _ hz3 hz4 md.1 md.2 d3 d4, HH.out], by rw [some2 (by assumption), ← HM2.out, acc_lo2 _ _ _ hb3 hz5 md.1 md.2, HL.out], (dNb hb _), hsz, k0, k1⟩
          case measure => simp [intOf]; omega
    · obtain rfl : k = l.length := by omega
      have hE := enS_enR l f t l.length (Nat.le_refl _)
      rw [List.drop_eq_nil_of_le (Nat.le_refl _)] at hE
      have heq2 : hi * 1048576 + lo = enR f t l := by rw [heq, ← hE]; show _ = _ + 0; omega
      have EQ := Lib.hid heq2
      have hz3 : -144115188075855872 ≤ hi := by omega
      have hz4 : hi ≤ 144115188075855872 := by omega
      have hz5 : lo ≤ 144115188075855872 := by omega
      clear ehi elo heq hE heq2 hb1 hb2 hb4
      by_cases c1 : hi + lo / 1048576 < -8796093022208
      · have F := Lib.hid (fit_low hb3 EQ.out (.inl c1))
        go_wp2_with fail
        go_ret2
        exact ⟨ret_ee (by rw [HV.out, F.out]; rfl) (by rw [HE.out, F.out]; rfl), hb⟩
      · by_cases c2 : 8796093022208 ≤ hi + lo / 1048576
        · have F := Lib.hid (fit_low hb3 EQ.out (.inr c2))
          go_wp2_with fail
          go_ret2
          exact ⟨ret_ee (by rw [HV.out, F.out]; rfl) (by rw [HE.out, F.out]; rfl), hb⟩
        · have F := Lib.hid (fit_in hb3 EQ.out (by omega) (by omega))
          go_wp2_with fail
          go_ret2
          exact ⟨ret_ee (by rw [HV.out, F.out.1, F.out.2]; rfl) (by rw [HE.out, F.out.1]; rfl), hb⟩


set_option maxHeartbeats 8000000 in
set_option maxRecDepth 1000000 in
theorem refEnergy_nil (p : Option Addr) (c : Nat) (f t : Int) (w : World) (hR : Rd w (.slice p 0 c) []) (hc : cE [] f t = 0) :
    Calls Try.prog 28 #[.slice p 0 c, .agg #[.int .i64 f, .int .i64 t]] w fun e w' => e = .returned (.tuple #[.int .i64 (enV [] f t), .int .i64 (enE [] f t)]) ∧ Below w.heap.size w w' := by
  have V := Lib.hid (refValid_any _ [] (w.alloc (.cells #[.int .i64 f, .int .i64 t] 35)) (Nat.zero_le _) (hR.below (b_new _ _)))
  have HB := Lib.hid (b_new w (.cells #[.int .i64 f, .int .i64 t] 35))
  have HV := Lib.hid (show enV [] f t = 0 by unfold enV; rw [if_pos hc]; rfl)
  have HE := Lib.hid (show enE [] f t = 0 by unfold enE; rw [if_pos hc]; rfl)
  obtain ⟨_, f0, ft, tm⟩ := cE_ok hc
  rw [(ok_iff []).2 ok_nil] at V
  have hsp : spB f t = true := by unfold spB; simp; omega
  have S := Lib.hid (fun W => span_b f t true W hsp)
  clear hR hc hsp
  go_enter Try.func28, Try.ntmps28
  go_wp2_with fail
  refine V.out.mono ?_
  rintro e w1 ⟨rfl, h1⟩
  obtain ⟨hc, hf⟩ := bcell h1
  have H1 := Lib.hid (b2 HB.out h1)
  have hsz := h1.size
  simp at hsz
  clear h1
  go_wp2_with fail
  refine (S.out _).mono ?_
  rintro e w2 ⟨rfl, h2⟩
  have H2 := Lib.hid (b2 H1.out h2)
  clear h2 hc hf
  go_wp2_with fail
  refine wp_loop_rounds 1 ?_
  rw [rounds_succ]
  go_wp2_with fail
  go_ret2
  exact ⟨ret_ee HV.out.symm HE.out.symm, H2.out⟩

set_option maxHeartbeats 8000000 in
set_option maxRecDepth 1000000 in
theorem refEnergy_bad (v : Value) (l : List St) (f t E : Int) (w : World) (hl : l.length ≤ 2000000) (hR : Rd w v l) (hE : validE l = E) (h0 : E ≠ 0) :
    Calls Try.prog 28 #[v, .agg #[.int .i64 f, .int .i64 t]] w fun e w' => e = .returned (.tuple #[.int .i64 0, .int .i64 E]) ∧ Below w.heap.size w w' := by
  have V := Lib.hid (refValid_any _ l (w.alloc (.cells #[.int .i64 f, .int .i64 t] 35)) hl (hR.below (b_new _ _)))
  have HB := Lib.hid (b_new w (.cells #[.int .i64 f, .int .i64 t] 35))
  rw [hE] at V
  have he : (E == 0) = false := by simpa using h0
  clear hR h0 hE
  go_enter Try.func28, Try.ntmps28
  go_wp2_with fail
  refine V.out.mono ?_
  rintro e w1 ⟨rfl, h1⟩
  go_wp2_with fail
  go_ret2
  exact ⟨rfl, b2 HB.out h1⟩

set_option maxHeartbeats 8000000 in
set_option maxRecDepth 1000000 in
theorem refEnergy_span (v : Value) (l : List St) (f t : Int) (w : World) (hl : l.length ≤ 2000000) (hR : Rd w v l) (ol : Ok l) (hsp : spB f t = false) :
    Calls Try.prog 28 #[v, .agg #[.int .i64 f, .int .i64 t]] w fun e w' => e = .returned (.tuple #[.int .i64 0, .int .i64 2]) ∧ Below w.heap.size w w' := by
  have V := Lib.hid (refValid_any _ l (w.alloc (.cells #[.int .i64 f, .int .i64 t] 35)) hl (hR.below (b_new _ _)))
  have HB := Lib.hid (b_new w (.cells #[.int .i64 f, .int .i64 t] 35))
  rw [(ok_iff l).2 ol] at V
  have S := Lib.hid (fun W => span_b f t false W hsp)
  clear hR ol hsp
  go_enter Try.func28, Try.ntmps28
  go_wp2_with fail
  refine V.out.mono ?_
  rintro e w1 ⟨rfl, h1⟩
  obtain ⟨hc, hf⟩ := bcell h1
  have H1 := Lib.hid (b2 HB.out h1)
  clear h1
  go_wp2_with fail
  refine (S.out _).mono ?_
  rintro e w2 ⟨rfl, h2⟩
  go_wp2_with fail
  go_ret2
  exact ⟨rfl, b2 H1.out h2⟩

theorem refEnergy_any (v : Value) (l : List St) (f t : Int) (w : World) (hl : l.length ≤ 2000000) (hR : Rd w v l) :
    Calls Try.prog 28 #[v, .agg #[.int .i64 f, .int .i64 t]] w fun e w' => e = .returned (.tuple #[.int .i64 (enV l f t), .int .i64 (enE l f t)]) ∧ Below w.heap.size w w' := by
  by_cases e : validE l = 0
  · have ol := (ok_iff l).1 e
    cases hs : spB f t with
    | false =>
      have hc : cE l f t = 2 := by unfold cE; rw [if_pos e, hs]; rfl
      have h1 : enV l f t = 0 := by unfold enV; rw [hc]; rfl
      have h2 : enE l f t = 2 := by unfold enE; rw [hc]; rfl
      rw [h1, h2]
      exact refEnergy_span v l f t w hl hR ol hs
    | true =>
      have hc : cE l f t = 0 := by unfold cE; rw [if_pos e, hs]; rfl
      obtain ⟨_, f0, ft, tm⟩ := cE_ok hc
      have hR' := hR
      obtain ⟨p, c, rfl, h2, h3, h4⟩ := hR
      by_cases en : l = []
      · subst en; exact refEnergy_nil p c f t w hR' hc
      · obtain ⟨b, o, rfl, ha⟩ := h4 en; exact refEnergy_some b o c l f t w hl en ha hR' ol f0 ft tm hc
  · have hc : cE l f t = validE l := if_neg e
    have h1 : enV l f t = 0 := by unfold enV; rw [hc, if_neg e]
    have h2 : enE l f t = validE l := by unfold enE; rw [hc, if_neg e]
    rw [h1, h2]
    exact refEnergy_bad v l f t _ w hl hR rfl e
end Go.Proofs.Ytapfinnbfnhdbab
