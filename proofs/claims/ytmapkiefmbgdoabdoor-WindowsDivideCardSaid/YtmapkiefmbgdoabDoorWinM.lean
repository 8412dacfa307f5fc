/-
  Plain facts on windows: where a window may change, and what a week decides.
-/
import Derived.Test.YtmapkiefmbgdoabDoorWinB
namespace Go.Proofs.YtmapkiefmbgdoabDoor
open Go.RowKit
open Cal

/-! ### Changes of summer time lie far apart -/
theorem cum_3 (y : Int) : cum y 3 = 59 + lp y := by unfold cum; simp; omega
theorem cum_10 (y : Int) : cum y 10 = 273 + lp y := by unfold cum; simp; omega
theorem sun_in (y m : Int) : ys y + cum y m + 24 ≤ sunday y m ∧ sunday y m ≤ ys y + cum y m + 30 := by
  unfold sunday wd; omega
theorem sun_gap (y m y' m' : Int) (hm : m = 3 ∨ m = 10) (hm' : m' = 3 ∨ m' = 10) (h : sunday y m < sunday y' m') : sunday y m + 100 ≤ sunday y' m' := by
  have a := sun_in y m
  have b := sun_in y' m'
  have l1 := lp_bd y
  have l2 := lp_bd y'
  have e1 := cum_3 y
  have e2 := cum_10 y
  have e3 := cum_3 y'
  have e4 := cum_10 y'
  by_cases hy : y = y'
  · subst hy
    rcases hm with rfl | rfl <;> rcases hm' with rfl | rfl <;> omega
  · by_cases h1 : y + 1 ≤ y'
    · have k1 := ys_mono _ _ h1
      have k2 := ys_succ y
      rcases hm with rfl | rfl <;> rcases hm' with rfl | rfl <;> omega
    · have k1 := ys_mono (y' + 1) y (by omega)
      have k2 := ys_succ y'
      rcases hm with rfl | rfl <;> rcases hm' with rfl | rfl <;> omega
theorem sun_change (t : Int) (h0 : 0 ≤ t) (h1 : t < 268435456) (hc : summerB (t + 1) ≠ summerB t) : ∃ y m, (m = 3 ∨ m = 10) ∧ t + 1 = sunday y m * 1440 + 60 := by
  have hd0 : -365 ≤ t / 1440 := by omega
  obtain ⟨a1, a2, _⟩ := isC_civ (t / 1440) (by omega) (by omega)
  obtain ⟨b1, b2, _⟩ := isC_civ ((t + 1) / 1440) (by omega) (by omega)
  by_cases hy : yr ((t + 1) / 1440) = yr (t / 1440)
  · by_cases e3 : t + 1 = sunday (yr (t / 1440)) 3 * 1440 + 60
    · exact ⟨_, 3, .inl rfl, e3⟩
    · by_cases e10 : t + 1 = sunday (yr (t / 1440)) 10 * 1440 + 60
      · exact ⟨_, 10, .inr rfl, e10⟩
      · exfalso
        apply hc
        unfold summerB
        rw [hy, decide_eq_true (show 0 ≤ t + 1 ∧ t + 1 ≤ 268435456 by omega), decide_eq_true (show 0 ≤ t ∧ t ≤ 268435456 by omega), Bool.true_and, Bool.true_and]
        rw [Bool.eq_iff_iff]
        simp only [Bool.and_eq_true, decide_eq_true_eq]
        omega
  · exfalso
    apply hc
    have hlt : yr (t / 1440) + 1 ≤ yr ((t + 1) / 1440) := by
      by_cases h : yr ((t + 1) / 1440) + 1 ≤ yr (t / 1440)
      · have := ys_mono _ _ h; omega
      · omega
    have hle := ys_mono _ _ hlt
    have hday : (t + 1) / 1440 = t / 1440 + 1 := by omega
    have s3 := (sun_in (yr ((t + 1) / 1440)) 3).1
    have k3 := cum_bd (yr ((t + 1) / 1440)) 3 (by decide) (by decide)
    have s10 := (sun_in (yr (t / 1440)) 10).2
    have hys := ys_succ (yr (t / 1440))
    have hlp := lp_bd (yr (t / 1440))
    have c10 := cum_10 (yr (t / 1440))
    have f1 : summerB (t + 1) = false := by
      unfold summerB
      rw [decide_eq_false (show ¬ sunday (yr ((t + 1) / 1440)) 3 * 1440 + 60 ≤ t + 1 by omega)]
      simp
    have f2 : summerB t = false := by
      unfold summerB
      rw [decide_eq_false (show ¬ t < sunday (yr (t / 1440)) 10 * 1440 + 60 by omega)]
      simp
    rw [f1, f2]
theorem change_gap (t1 t2 : Int) (h0 : 0 ≤ t1) (h1 : t1 < t2) (h2 : t2 < 268435456) (c1 : summerB (t1 + 1) ≠ summerB t1) (c2 : summerB (t2 + 1) ≠ summerB t2) : t1 + 144000 ≤ t2 := by
  obtain ⟨y, m, hm, e⟩ := sun_change t1 h0 (by omega) c1
  obtain ⟨y', m', hm', e'⟩ := sun_change t2 (by omega) h2 c2
  have := sun_gap y m y' m' hm hm' (by omega)
  omega

/-! ### Steps of one minute -/
theorem step_ex {β : Type} (f : Int → β) (a : Int) (n : Nat) (hf : f (a + n) ≠ f a) : ∃ q, a ≤ q ∧ q < a + n ∧ f (q + 1) ≠ f q := by
  induction n with
  | zero => simp at hf
  | succ n ih =>
    by_cases h : f (a + n) = f a
    · refine ⟨a + n, by omega, by omega, ?_⟩
      rw [h, show a + n + 1 = a + ((n + 1 : Nat) : Int) by omega]; exact hf
    · obtain ⟨q, q1, q2, q3⟩ := ih h
      exact ⟨q, q1, by omega, q3⟩
theorem const_of {β : Type} (f : Int → β) (a b : Int) (h : ∀ v, a < v → v ≤ b → f v = f (v - 1)) : ∀ v, a ≤ v → v ≤ b → f v = f a := by
  intro v h1 h2
  refine Classical.byContradiction fun hne => ?_
  obtain ⟨q, q1, q2, q3⟩ := step_ex f a (v - a).toNat (by rw [show a + ((v - a).toNat : Int) = v by omega]; exact hne)
  apply q3
  have := h (q + 1) (by omega) (by omega)
  rw [this]; congr 1; omega

/-- Within 15 days there are seven days without a change of summer time. -/
theorem calm_week (a : Int) (h0 : 0 ≤ a) (h1 : a + 20160 ≤ 268435456) : ∃ p, a ≤ p ∧ p + 10080 ≤ a + 20160 ∧ ∀ v, p ≤ v → v < p + 10080 → summerB v = summerB p := by
  by_cases h : ∀ v, a ≤ v → v < a + 10080 → summerB v = summerB a
  · exact ⟨a, by omega, by omega, h⟩
  · refine ⟨a + 10080, by omega, by omega, fun v v1 v2 => ?_⟩
    refine Classical.byContradiction fun hne => h fun u u1 u2 => ?_
    refine Classical.byContradiction fun hne2 => ?_
    obtain ⟨q, q1, q2, q3⟩ := step_ex summerB (a + 10080) (v - (a + 10080)).toNat (by rw [show a + 10080 + ((v - (a + 10080)).toNat : Int) = v by omega]; exact hne)
    obtain ⟨r, r1, r2, r3⟩ := step_ex summerB a (u - a).toNat (by rw [show a + ((u - a).toNat : Int) = u by omega]; exact hne2)
    have := change_gap r q (by omega) (by omega) (by omega) r3 q3
    omega

/-! ### A window by local time -/
def lB (d s e L : Int) : Bool := dayB d s e (wd (L / 1440)) (L % 1440)
theorem lB_week (d s e L k : Int) : lB d s e (L + 10080 * k) = lB d s e L := by
  unfold lB
  have h1 : wd ((L + 10080 * k) / 1440) = wd (L / 1440) := by unfold wd; omega
  have h2 : (L + 10080 * k) % 1440 = L % 1440 := by omega
  rw [h1, h2]
/-- The minutes of the local day at which a window may change. -/
def tgt (s e x : Int) : Bool := if s = e then decide (x = 0) else decide (x = s) || decide (x = e)
theorem pw_wd (L : Int) : pw (wd (L + 1)) = wd L := by unfold pw wd; omega
theorem lB_calm (d s e L : Int) (hs : 0 ≤ s ∧ s ≤ 1439) (he : 0 ≤ e ∧ e ≤ 1439) (h : tgt s e (L % 1440) = false) : lB d s e L = lB d s e (L - 1) := by
  unfold tgt at h
  unfold lB
  by_cases h0 : L % 1440 = 0
  · have hd : L / 1440 = (L - 1) / 1440 + 1 := by omega
    have hm : (L - 1) % 1440 = 1439 := by omega
    rw [hd, hm, h0]
    by_cases hse : s = e
    · rw [if_pos hse, h0] at h; simp at h
    · rw [if_neg hse, h0] at h
      simp only [Bool.or_eq_false_iff, decide_eq_false_iff_not] at h
      by_cases hlt : s < e
      · rw [dayB_lt hlt, dayB_lt hlt, decide_eq_false (show ¬ s ≤ 0 by omega), decide_eq_false (show ¬ (1439 : Int) < e by omega)]; simp
      · rw [dayB_gt (show e < s by omega), dayB_gt (show e < s by omega), pw_wd, decide_eq_false (show ¬ s ≤ 0 by omega), decide_eq_true (show 0 < e by omega), decide_eq_true (show s ≤ 1439 by omega), decide_eq_false (show ¬ (1439 : Int) < e by omega)]; simp
  · have hd : (L - 1) / 1440 = L / 1440 := by omega
    have hm : (L - 1) % 1440 = L % 1440 - 1 := by omega
    rw [hd, hm]
    by_cases hse : s = e
    · rw [dayB_eq hse, dayB_eq hse]
    · rw [if_neg hse] at h
      simp only [Bool.or_eq_false_iff, decide_eq_false_iff_not] at h
      have e1 : decide (s ≤ L % 1440 - 1) = decide (s ≤ L % 1440) := by rw [Bool.eq_iff_iff]; simp only [decide_eq_true_eq]; omega
      have e2 : decide (L % 1440 - 1 < e) = decide (L % 1440 < e) := by rw [Bool.eq_iff_iff]; simp only [decide_eq_true_eq]; omega
      by_cases hlt : s < e
      · rw [dayB_lt hlt, dayB_lt hlt, e1, e2]
      · rw [dayB_gt (show e < s by omega), dayB_gt (show e < s by omega), e1, e2]
/-- A window by time, whatever its dates. -/
noncomputable def dB (d s e o : Int) (sm : Bool) (t : Int) : Bool := lB d s e (t + offI o sm t)
theorem offI_in (o : Int) (sm : Bool) (t : Int) (h0 : -840 ≤ o) (h1 : o ≤ 840) : offI o sm t = if sm && summerB t then o + 60 else o := by unfold offI; rw [if_pos ⟨h0, h1⟩]
theorem offI_same {o : Int} {sm : Bool} {t t' : Int} (h : summerB t = summerB t') : offI o sm t = offI o sm t' := by unfold offI; rw [h]
/-- A time at which a window may change, whatever its dates. -/
def isE (s e o : Int) (sm : Bool) (t : Int) : Bool := tgt s e ((t + o) % 1440) || (sm && (tgt s e ((t + (o + 60)) % 1440) || decide (t % 1440 = 60)))
theorem dB_calm (d s e o : Int) (sm : Bool) (t : Int) (hs : 0 ≤ s ∧ s ≤ 1439) (he : 0 ≤ e ∧ e ≤ 1439) (o0 : -840 ≤ o) (o1 : o ≤ 840) (t0 : 0 < t) (t1 : t ≤ 268435456)
    (h : isE s e o sm t = false) : dB d s e o sm t = dB d s e o sm (t - 1) := by
  unfold isE at h
  unfold dB
  have hoff : offI o sm t = offI o sm (t - 1) := by
    cases sm with
    | false => rw [offI_in _ _ _ o0 o1, offI_in _ _ _ o0 o1]; rfl
    | true =>
      refine offI_same (Classical.byContradiction fun hne => ?_)
      obtain ⟨y, m, _, hy⟩ := sun_change (t - 1) (by omega) (by omega) (by rw [show t - 1 + 1 = t by omega]; exact hne)
      simp only [Bool.true_and, Bool.or_eq_false_iff, decide_eq_false_iff_not] at h
      omega
  have htg : tgt s e ((t + offI o sm t) % 1440) = false := by
    rw [offI_in _ _ _ o0 o1]
    cases sm with
    | false => simpa using h
    | true =>
      simp only [Bool.true_and, Bool.or_eq_false_iff] at h ⊢
      split
      · exact h.2.1
      · exact h.1
  rw [lB_calm d s e _ hs he htg, hoff, show t + offI o sm (t - 1) - 1 = t - 1 + offI o sm (t - 1) by omega]
/-- What holds for 14 days holds for ever. -/
theorem dB_all (d s e o : Int) (sm : Bool) (a : Int) (h0 : 0 ≤ a) (h1 : a + 20160 ≤ 268435456) (hc : ∀ v, a ≤ v → v ≤ a + 20160 → dB d s e o sm v = dB d s e o sm a) (c : Int) : dB d s e o sm c = dB d s e o sm a := by
  obtain ⟨p, p1, p2, hp⟩ := calm_week a h0 h1
  obtain ⟨L, hL⟩ : ∃ L, L = c + offI o sm c := ⟨_, rfl⟩
  obtain ⟨F, hF⟩ : ∃ F, F = offI o sm p := ⟨_, rfl⟩
  have hv : offI o sm (p + (L - (p + F)) % 10080) = F := by rw [hF]; exact offI_same (hp _ (by omega) (by omega))
  rw [← hc (p + (L - (p + F)) % 10080) (by omega) (by omega)]
  unfold dB
  rw [hv, ← hL, ← lB_week d s e (p + (L - (p + F)) % 10080 + F) ((L - (p + F)) / 10080)]
  congr 1
  omega
/-- A valid window in a valid zone holds at a time. -/
noncomputable def hB (d s e f u o : Int) (sm : Bool) (t : Int) : Bool :=
  decide ((0 ≤ t ∧ t ≤ 268435456) ∧ f ≤ t ∧ (u = -1 ∨ t < u)) && dB d s e o sm t
theorem hB_calm (d s e f u o : Int) (sm : Bool) (t : Int) (hs : 0 ≤ s ∧ s ≤ 1439) (he : 0 ≤ e ∧ e ≤ 1439) (o0 : -840 ≤ o) (o1 : o ≤ 840) (t0 : 0 < t) (t1 : t ≤ 268435456) (hf : t ≠ f) (hu : t ≠ u)
    (h : isE s e o sm t = false) : hB d s e f u o sm t = hB d s e f u o sm (t - 1) := by
  unfold hB
  rw [dB_calm d s e o sm t hs he o0 o1 t0 t1 h]
  congr 1
  rw [Bool.eq_iff_iff]
  simp only [decide_eq_true_eq]
  omega
theorem hB_in {d s e f u o : Int} {sm : Bool} {t : Int} (h : (0 ≤ t ∧ t ≤ 268435456) ∧ f ≤ t ∧ (u = -1 ∨ t < u)) : hB d s e f u o sm t = dB d s e o sm t := by unfold hB; rw [decide_eq_true h]; rfl
theorem hB_out {d s e f u o : Int} {sm : Bool} {t : Int} (h : ¬ ((0 ≤ t ∧ t ≤ 268435456) ∧ f ≤ t ∧ (u = -1 ∨ t < u))) : hB d s e f u o sm t = false := by unfold hB; rw [decide_eq_false h]; rfl
end Go.Proofs.YtmapkiefmbgdoabDoor
