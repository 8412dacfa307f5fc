/-
  What Energy returns, in the package series.
-/
import Derived.Test.YtapfinnbfnhdbabSerS
import Derived.Laws.BitsLemmas
namespace Go.Proofs.Ytapfinnbfnhdbab
open Go.RowKit
open Ser
set_option linter.unusedVariables false

theorem and_mask (n : Int) : bits .and .i64 n 1048575 = n % 1048576 := by
  have h : (BitVec.ofInt 64 1048575).toNat = 2 ^ 20 - 1 := by decide
  have key : (BitVec.ofInt 64 n &&& BitVec.ofInt 64 1048575).toNat = (n % ((2 ^ 64 : Nat) : Int)).toNat % 2 ^ 20 := by
    rw [BitVec.toNat_and, BitVec.toNat_ofInt, h, Nat.and_two_pow_sub_one_eq_mod]
  show IntKind.i64.wrap ((BitVec.ofInt 64 n &&& BitVec.ofInt 64 1048575).toNat : Nat) = n % 1048576
  rw [key, IntKind.wrap_i64]
  omega
theorem w64 (x : Int) (h : -9223372036854775808 ≤ x) (h' : x ≤ 9223372036854775807) : wrap64 x = x := by unfold wrap64; omega
theorem dur1 (n1 t f x1 : Int) : (if (if f < x1 then x1 else f) < (if n1 < t then n1 else t) then (if n1 < t then n1 else t) - (if f < x1 then x1 else f) else 0) = max 0 (min t n1 - max f x1) := by
  have e1 : (if n1 < t then n1 else t) = min t n1 := by split <;> omega
  have e2 : (if f < x1 then x1 else f) = max f x1 := by split <;> omega
  rw [e1, e2]; split <;> omega
theorem dur2 (t f x1 : Int) : (if (if f < x1 then x1 else f) < t then t - (if f < x1 then x1 else f) else 0) = max 0 (t - max f x1) := by
  have e2 : (if f < x1 then x1 else f) = max f x1 := by split <;> omega
  rw [e2]; split <;> omega
theorem acc_hi (hi x2 D : Int) (h1 : -144115188075855872 ≤ hi) (h2 : hi ≤ 144115188075855872) (h3 : 0 ≤ D) (h4 : D ≤ 268435456) (h5 : -1099511627776 ≤ x2) (h6 : x2 ≤ 1099511627776) : wrap64 (hi + wrap64 (x2 / 1048576 * D)) = hi + x2 / 1048576 * D := by
  have := mul_bd (x2 / 1048576) D (-1048576) 1048576 h3 h4 (by omega) (by omega) (by omega) (by omega)
  generalize x2 / 1048576 * D = P at *
  rw [w64 P (by omega) (by omega), w64 _ (by omega) (by omega)]
theorem acc_lo (lo x2 D : Int) (h1 : 0 ≤ lo) (h2 : lo ≤ 144115188075855872) (h3 : 0 ≤ D) (h4 : D ≤ 268435456) : wrap64 (lo + wrap64 (bits .and .i64 x2 1048575 * D)) = lo + x2 % 1048576 * D := by
  rw [and_mask]
  have := mul_bd (x2 % 1048576) D 0 1048576 h3 h4 (by omega) (by omega) (by omega) (by omega)
  generalize x2 % 1048576 * D = P at *
  rw [w64 P (by omega) (by omega), w64 _ (by omega) (by omega)]
def fitB (E : Int) : Bool := decide (-9223372036854775808 ≤ E ∧ E < 9223372036854775808)
def enV (l : List St) (f t : Int) : Int := if cE l f t = 0 then (if fitB (enR f t l) then enR f t l else 0) else 0
def enE (l : List St) (f t : Int) : Int := if cE l f t = 0 then (if fitB (enR f t l) then 0 else 20) else cE l f t
theorem fit_low {h lo E : Int} (h0 : 0 ≤ lo) (e : h * 1048576 + lo = E) (c : h + lo / 1048576 < -8796093022208 ∨ 8796093022208 ≤ h + lo / 1048576) : fitB E = false := by
  unfold fitB
  have := (enS_out (h := h) h0).1.1 c
  rw [e] at this
  exact decide_eq_false this
theorem fit_in {h lo E : Int} (h0 : 0 ≤ lo) (e : h * 1048576 + lo = E) (c : -8796093022208 ≤ h + lo / 1048576) (c' : h + lo / 1048576 < 8796093022208) : fitB E = true ∧ (h + lo / 1048576) * 1048576 + lo % 1048576 = E := by
  have h2 := enS_out (h := h) h0
  refine ⟨?_, by rw [h2.2, e]⟩
  unfold fitB
  refine decide_eq_true ?_
  have := (not_congr h2.1).1 (by omega)
  rw [e] at this
  exact Decidable.not_not.1 this
theorem fit_bd {E : Int} (h : fitB E = true) : -9223372036854775808 ≤ E ∧ E ≤ 9223372036854775807 := by unfold fitB at h; simp at h; omega
theorem ret_ee {a b c d : Int} (h : a = b) (h' : c = d) : Ending.returned (.tuple #[.int .i64 a, .int .i64 c]) = .returned (.tuple #[.int .i64 b, .int .i64 d]) := by rw [h, h']

set_option maxHeartbeats 8000000 in
set_option maxRecDepth 1000000 in
theorem energy_some (b o c : Nat) (l : List St) (f t : Int) (w : World) (hl : l.length ≤ 2000000) (hne : l ≠ []) (hA : At w b o l) (hR : Rd w (.slice (some ⟨b, o, none⟩) l.length c) l) (ol : Ok l) (f0 : 0 ≤ f) (ft : f ≤ t) (tm : t ≤ 268435456) (hc : cE l f t = 0) :
    Calls Try.prog 27 #[.slice (some ⟨b, o, none⟩) l.length c, .agg #[.int .i64 f, .int .i64 t]] w fun e w' => e = .returned (.tuple #[.int .i64 (enV l f t), .int .i64 (enE l f t)]) ∧ Below w.heap.size w w' := by
  have V := Lib.hid (checked_any _ l f t (w.alloc (.cells #[.int .i64 f, .int .i64 t] 35)) hl (hR.below (b_new _ _)))
  have HB := Lib.hid (b_new w (.cells #[.int .i64 f, .int .i64 t] 35))
  have HA := Lib.hid hA
  have OL := Lib.hid ol
  have l1 := ol.len
  have HV := Lib.hid (show enV l f t = if fitB (enR f t l) then enR f t l else 0 from if_pos hc)
  have HE := Lib.hid (show enE l f t = if fitB (enR f t l) then 0 else 20 from if_pos hc)
  rw [hc] at V
  clear hR hA ol hc
  go_enter Try.func27, Try.ntmps27
  go_wp2_with fail
  refine V.out.mono ?_
  rintro e w1 ⟨rfl, h1⟩
  obtain ⟨hc1, hf1⟩ := bcell h1
  have H1 := Lib.hid (b2 HB.out h1)
  have hsz := h1.size
  simp at hsz
  have k0 : w1.cell? ⟨w.heap.size, 0, none⟩ = some (.int .i64 f) := by rw [hc1 _ _ (by simp)]; simp
  have k1 : w1.cell? ⟨w.heap.size, 1, none⟩ = some (.int .i64 t) := by rw [hc1 _ _ (by simp)]; simp
  clear h1 hc1 hf1
  go_wp2_with fail
  go_loopw [7, 8, 21] (fun h lo i wr => ∃ k : Nat, k ≤ l.length ∧ i = .int .i64 k ∧ h = .int .i64 (hiS l f t k) ∧ lo = .int .i64 (loS l f t k) ∧ Below w.heap.size w wr ∧ w.heap.size < wr.heap.size ∧ wr.cell? ⟨w.heap.size, 0, none⟩ = some (.int .i64 f) ∧ wr.cell? ⟨w.heap.size, 1, none⟩ = some (.int .i64 t))
    (fun _ _ i _ => l.length - (intOf i).toNat)
  case atStart => exact ⟨0, Nat.zero_le _, rfl, rfl, rfl, H1.out, hsz, k0, k1⟩
  case round =>
    clear k0 k1 hsz
    obtain ⟨k, hk, rfl, rfl, rfl, hb, hsz, k0, k1⟩ := hrel
    obtain ⟨⟨hb1, hb2⟩, hb3, hb4⟩ := hl_bd l f t f0 tm OL.out.all k hk
    have heq := hl_eq l f t k
    obtain ⟨hi, ehi⟩ : ∃ x, hiS l f t k = x := ⟨_, rfl⟩
    obtain ⟨lo, elo⟩ : ∃ x, loS l f t k = x := ⟨_, rfl⟩
    rw [ehi] at hb1 hb2 heq ⊢
    rw [elo] at hb3 hb4 heq ⊢
    by_cases hlt : k < l.length
    · obtain ⟨g1, g2⟩ := HA.out.get hb k hlt
      have hbd := (okS_iff _).1 (OL.out.all l[k] (List.getElem_mem _))
      have eg : l.getD k (0, 0) = l[k] := by simp [hlt]
      obtain ⟨x1, e1⟩ : ∃ x, l[k].1 = x := ⟨_, rfl⟩
      obtain ⟨x2, e2⟩ : ∃ x, l[k].2 = x := ⟨_, rfl⟩
      have HH : Hid (hiS l f t (k + 1) = hi + x2 / 1048576 * mn l f t k) := Lib.hid (by show hiS l f t k + _ = _; rw [ehi, eg, e2])
      have HL : Hid (loS l f t (k + 1) = lo + x2 % 1048576 * mn l f t k) := Lib.hid (by show loS l f t k + _ = _; rw [elo, eg, e2])
      have HM : Hid (mn l f t k = max 0 (nxT l t k - max f x1)) := Lib.hid (by unfold mn; rw [eg, e1])
      have md := mn_bd l f t k f0 tm
      rw [e1] at g1
      rw [e2] at g2
      rw [e1, e2] at hbd
      obtain ⟨⟨d1, d2⟩, d3, d4⟩ := hbd
      have hbn := hb.alloc (by have := hb.size; omega) (.cells #[.int .i64 x1, .int .i64 x2] 30)
      have hz3 : -144115188075855872 ≤ hi := by omega
      have hz4 : hi ≤ 144115188075855872 := by omega
      have hz5 : lo ≤ 144115188075855872 := by omega
      have q0 : (wr.alloc (.cells #[.int .i64 x1, .int .i64 x2] 30)).cell? ⟨w.heap.size, 0, none⟩ = some (.int .i64 f) := by rw [World.cell?_alloc_past _ _ _ hsz]; exact k0
      have q1 : (wr.alloc (.cells #[.int .i64 x1, .int .i64 x2] 30)).cell? ⟨w.heap.size, 1, none⟩ = some (.int .i64 t) := by rw [World.cell?_alloc_past _ _ _ hsz]; exact k1
      clear e1 e2 eg ehi elo heq hb1 hb2 hb4
      by_cases hn : k + 1 < l.length
      · obtain ⟨g3, _⟩ := HA.out.get hbn (k + 1) hn
        obtain ⟨n1, e3⟩ : ∃ x, l[k + 1].1 = x := ⟨_, rfl⟩
        have hbd := ((okS_iff _).1 (OL.out.all l[k + 1] (List.getElem_mem _))).1
        have HM2 : Hid (mn l f t k = max 0 (min t n1 - max f x1)) := Lib.hid (by rw [HM.out]; unfold nxT; rw [if_pos hn, show l.getD (k + 1) (0, 0) = l[k + 1] by simp [hn], e3])
        rw [e3] at g3 hbd
        obtain ⟨y1, y2⟩ := hbd
        clear e3
        go_wp2_with fail
        go_roundw
        case rel => exact ⟨k + 1, by omega, by go_num, by rw [dur1, ← HM2.out, acc_hi _ _ _ hz3 hz4 md.1 md.2 d3 d4, HH.out], by rw [dur1, ← HM2.out, acc_lo _ _ _ hb3 hz5 md.1 md.2, HL.out], hbn, by simp; omega, q0, q1⟩
        case measure => simp [intOf]; omega
      · have HM2 : Hid (mn l f t k = max 0 (t - max f x1)) := Lib.hid (by rw [HM.out]; unfold nxT; rw [if_neg hn])
        go_wp2_with fail
        go_roundw
        case rel => exact ⟨k + 1, by omega, by go_num, by rw [dur2, ← HM2.out, acc_hi _ _ _ hz3 hz4 md.1 md.2 d3 d4, HH.out], by rw [dur2, ← HM2.out, acc_lo _ _ _ hb3 hz5 md.1 md.2, HL.out], hbn, by simp; omega, q0, q1⟩
        case measure => simp [intOf]; omega
    · obtain rfl : k = l.length := by omega
      have hE := enS_enR l f t l.length (Nat.le_refl _)
      rw [List.drop_eq_nil_of_le (Nat.le_refl _)] at hE
      have heq2 : hi * 1048576 + lo = enR f t l := by rw [heq, ← hE]; show _ = _ + 0; omega
      have EQ := Lib.hid heq2
      have hz3 : -144115188075855872 ≤ hi := by omega
      have hz4 : hi ≤ 144115188075855872 := by omega
      have hz5 : lo ≤ 144115188075855872 := by omega
      clear ehi elo heq hE heq2 hb1 hb2 hb4
      by_cases c1 : hi + lo / 1048576 < -8796093022208
      · have F := Lib.hid (fit_low hb3 EQ.out (.inl c1))
        go_wp2_with fail
        go_ret2
        exact ⟨ret_ee (by rw [HV.out, F.out]; rfl) (by rw [HE.out, F.out]; rfl), hb⟩
      · by_cases c2 : 8796093022208 ≤ hi + lo / 1048576
        · have F := Lib.hid (fit_low hb3 EQ.out (.inr c2))
          go_wp2_with fail
          go_ret2
          exact ⟨ret_ee (by rw [HV.out, F.out]; rfl) (by rw [HE.out, F.out]; rfl), hb⟩
        · have F := Lib.hid (fit_in hb3 EQ.out (by omega) (by omega))
          go_wp2_with fail
          go_ret2
          exact ⟨ret_ee (by rw [HV.out, F.out.1, and_mask, F.out.2]; exact w64 _ (fit_bd F.out.1).1 (fit_bd F.out.1).2) (by rw [HE.out, F.out.1]; rfl), hb⟩

set_option maxHeartbeats 8000000 in
set_option maxRecDepth 1000000 in
theorem energy_nil (p : Option Addr) (c : Nat) (f t : Int) (w : World) (hR : Rd w (.slice p 0 c) []) (hc : cE [] f t = 0) :
    Calls Try.prog 27 #[.slice p 0 c, .agg #[.int .i64 f, .int .i64 t]] w fun e w' => e = .returned (.tuple #[.int .i64 (enV [] f t), .int .i64 (enE [] f t)]) ∧ Below w.heap.size w w' := by
  have V := Lib.hid (checked_any _ [] f t (w.alloc (.cells #[.int .i64 f, .int .i64 t] 35)) (Nat.zero_le _) (hR.below (b_new _ _)))
  have HB := Lib.hid (b_new w (.cells #[.int .i64 f, .int .i64 t] 35))
  have HV := Lib.hid (show enV [] f t = 0 by unfold enV; rw [if_pos hc]; rfl)
  have HE := Lib.hid (show enE [] f t = 0 by unfold enE; rw [if_pos hc]; rfl)
  rw [hc] at V
  clear hR hc
  go_enter Try.func27, Try.ntmps27
  go_wp2_with fail
  refine V.out.mono ?_
  rintro e w1 ⟨rfl, h1⟩
  have H1 := Lib.hid (b2 HB.out h1)
  clear h1
  go_wp2_with fail
  refine wp_loop_rounds 1 ?_
  rw [rounds_succ]
  go_wp2_with fail
  go_ret2
  exact ⟨ret_ee (by rw [HV.out, and_mask]; exact w64 0 (by decide) (by decide)) HE.out.symm, H1.out⟩

set_option maxHeartbeats 8000000 in
set_option maxRecDepth 1000000 in
theorem energy_bad (v : Value) (l : List St) (f t E : Int) (w : World) (hl : l.length ≤ 2000000) (hR : Rd w v l) (hE : cE l f t = E) (h0 : E ≠ 0) :
    Calls Try.prog 27 #[v, .agg #[.int .i64 f, .int .i64 t]] w fun e w' => e = .returned (.tuple #[.int .i64 0, .int .i64 E]) ∧ Below w.heap.size w w' := by
  have V := Lib.hid (checked_any _ l f t (w.alloc (.cells #[.int .i64 f, .int .i64 t] 35)) hl (hR.below (b_new _ _)))
  have HB := Lib.hid (b_new w (.cells #[.int .i64 f, .int .i64 t] 35))
  rw [hE] at V
  have he : (E == 0) = false := by simpa using h0
  clear hR h0 hE
  go_enter Try.func27, Try.ntmps27
  go_wp2_with fail
  refine V.out.mono ?_
  rintro e w1 ⟨rfl, h1⟩
  go_wp2_with fail
  go_ret2
  exact ⟨rfl, b2 HB.out h1⟩

theorem energy_any (v : Value) (l : List St) (f t : Int) (w : World) (hl : l.length ≤ 2000000) (hR : Rd w v l) :
    Calls Try.prog 27 #[v, .agg #[.int .i64 f, .int .i64 t]] w fun e w' => e = .returned (.tuple #[.int .i64 (enV l f t), .int .i64 (enE l f t)]) ∧ Below w.heap.size w w' := by
  by_cases e : cE l f t = 0
  · obtain ⟨ol, f0, ft, tm⟩ := cE_ok e
    have hR' := hR
    obtain ⟨p, c, rfl, h2, h3, h4⟩ := hR
    by_cases en : l = []
    · subst en; exact energy_nil p c f t w hR' e
    · obtain ⟨b, o, rfl, ha⟩ := h4 en; exact energy_some b o c l f t w hl en ha hR' ol f0 ft tm e
  · have h1 : enV l f t = 0 := if_neg e
    have h2 : enE l f t = cE l f t := if_neg e
    rw [h1, h2]
    exact energy_bad v l f t _ w hl hR rfl e
end Go.Proofs.Ytapfinnbfnhdbab
