/-
  Plain facts for the laws on weeks and steps: the next day, the day 400 years on, the change of the offset.
-/
import Derived.Test.YtkimniggdnlliabDoorCalO
namespace Go.Proofs.YtkimniggdnlliabDoor
open Go.RowKit
open Cal

/-! ### 400 years -/
theorem lp_400 (y : Int) : lp (y + 400) = lp y := by unfold lp; split <;> split <;> omega
theorem ys_400 (y : Int) : ys (y + 400) = ys y + 146097 := by unfold ys; omega
theorem cum_400 (y m : Int) : cum (y + 400) m = cum y m := by unfold cum; rw [lp_400]
theorem isC_400 {d y m : Int} (h : IsC d y m) : IsC (d + 146097) (y + 400) m := by
  obtain ⟨a1, a2, a3, a4, a5, a6⟩ := h
  have e1 := ys_400 y
  have e2 := ys_400 (y + 1)
  rw [show y + 1 + 400 = y + 400 + 1 by omega] at e2
  exact ⟨by omega, by omega, a3, a4, by rw [cum_400]; omega, by rw [cum_400]; omega⟩
theorem later_400 (d : Int) (h0 : 0 ≤ d) (h1 : d ≤ 200000) : yr (d + 146097) = yr d + 400 ∧ mo (d + 146097) = mo d ∧ dy (d + 146097) = dy d ∧ wd (d + 146097) = wd d := by
  have hc := isC_400 (isC_civ d (by omega) (by omega))
  obtain ⟨e1, e2⟩ := civ_of hc
  refine ⟨e1, e2, ?_, ?_⟩
  · unfold dy; rw [e1, e2, cum_400, ys_400]; omega
  · unfold wd; omega

/-! ### The next day -/
theorem next_day (d : Int) (h0 : -365 ≤ d) (h1 : d ≤ 200000) :
    (yr (d + 1) = yr d ∧ mo (d + 1) = mo d ∧ dy (d + 1) = dy d + 1) ∨ (dy (d + 1) = 1 ∧ 28 ≤ dy d ∧ ((yr (d + 1) = yr d ∧ mo (d + 1) = mo d + 1) ∨ (yr (d + 1) = yr d + 1 ∧ mo d = 12 ∧ mo (d + 1) = 1))) := by
  obtain ⟨a1, a2, a3, a4, a5, a6⟩ := isC_civ d (by omega) (by omega)
  have hs := cum_succ (yr d) (mo d) a3 a4
  have hml := ml_bd (yr d) (mo d)
  have hys := ys_succ (yr d)
  have h13 := cum_13 (yr d)
  by_cases c1 : d + 1 - ys (yr d) < cum (yr d) (mo d + 1)
  · have hle := cum_mono (yr d) (mo d + 1) 13 (by omega) (by omega) (by omega)
    obtain ⟨e1, e2⟩ := civ_of (show IsC (d + 1) (yr d) (mo d) from ⟨by omega, by omega, a3, a4, by omega, c1⟩)
    refine .inl ⟨e1, e2, ?_⟩
    unfold dy; rw [e1, e2]; omega
  · have hday : 28 ≤ dy d := by unfold dy; omega
    by_cases c2 : mo d = 12
    · rw [c2] at c1 a6
      rw [show (12 : Int) + 1 = 13 by rfl, h13] at c1 a6
      have hn := ys_succ (yr d + 1)
      have hl := lp_bd (yr d + 1)
      have k1 := cum_1 (yr d + 1)
      have k2 : cum (yr d + 1) (1 + 1) = 31 := by rw [cum_succ _ 1 (by decide) (by decide), k1]; unfold ml; rfl
      obtain ⟨e1, e2⟩ := civ_of (show IsC (d + 1) (yr d + 1) 1 from ⟨by omega, by omega, by decide, by decide, by omega, by omega⟩)
      refine .inr ⟨?_, hday, .inr ⟨e1, c2, e2⟩⟩
      unfold dy; rw [e1, e2, k1]; omega
    · have hs2 := cum_succ (yr d) (mo d + 1) (by omega) (by omega)
      have hml2 := ml_bd (yr d) (mo d + 1)
      have hle := cum_mono (yr d) (mo d + 1 + 1) 13 (by omega) (by omega) (by omega)
      obtain ⟨e1, e2⟩ := civ_of (show IsC (d + 1) (yr d) (mo d + 1) from ⟨by omega, by omega, by omega, by omega, by omega, by omega⟩)
      refine .inr ⟨?_, hday, .inl ⟨e1, e2⟩⟩
      unfold dy; rw [e1, e2]; omega

/-! ### The change of the offset -/
theorem sunday_in (y m : Int) (_hm : m = 3 ∨ m = 10) : ys y + cum y m + 24 ≤ sunday y m ∧ sunday y m ≤ ys y + cum y m + 30 ∧ wd (sunday y m) = 7 := by
  unfold sunday wd; omega
theorem sunday_date (y m : Int) (hm : m = 3 ∨ m = 10) : mo (sunday y m) = m ∧ 25 ≤ dy (sunday y m) := by
  obtain ⟨s1, s2, _⟩ := sunday_in y m hm
  have h31 : ml y m = 31 := by unfold ml; rcases hm with rfl | rfl <;> simp
  have hs := cum_succ y m (by omega) (by omega)
  have hc := cum_bd y m (by omega) (by omega)
  have h13 := cum_13 y
  have hle := cum_mono y (m + 1) 13 (by omega) (by omega) (by omega)
  have hys := ys_succ y
  obtain ⟨e1, e2⟩ := civ_of (show IsC (sunday y m) y m from ⟨by omega, by omega, by omega, by omega, by omega, by omega⟩)
  refine ⟨e2, ?_⟩
  unfold dy; rw [e1, e2]; omega
/-- Where summer begins or ends at the minute t + 1, it is 01:00 of such a Sunday. -/
theorem change_at (t : Int) (h0 : 0 ≤ t) (h1 : t < 268435456) (hc : summerB (t + 1) ≠ summerB t) : ∃ y m, (m = 3 ∨ m = 10) ∧ t + 1 = sunday y m * 1440 + 60 := by
  have hd0 : -365 ≤ t / 1440 := by omega
  obtain ⟨a1, a2, _⟩ := isC_civ (t / 1440) (by omega) (by omega)
  obtain ⟨b1, b2, _⟩ := isC_civ ((t + 1) / 1440) (by omega) (by omega)
  by_cases hy : yr ((t + 1) / 1440) = yr (t / 1440)
  · by_cases e3 : t + 1 = sunday (yr (t / 1440)) 3 * 1440 + 60
    · exact ⟨_, 3, .inl rfl, e3⟩
    · by_cases e10 : t + 1 = sunday (yr (t / 1440)) 10 * 1440 + 60
      · exact ⟨_, 10, .inr rfl, e10⟩
      · exfalso
        apply hc
        unfold summerB
        rw [hy, decide_eq_true (show 0 ≤ t + 1 ∧ t + 1 ≤ 268435456 by omega), decide_eq_true (show 0 ≤ t ∧ t ≤ 268435456 by omega), Bool.true_and, Bool.true_and]
        rw [Bool.eq_iff_iff]
        simp only [Bool.and_eq_true, decide_eq_true_eq]
        omega
  · exfalso
    apply hc
    have hlt : yr (t / 1440) + 1 ≤ yr ((t + 1) / 1440) := by
      by_cases h : yr ((t + 1) / 1440) + 1 ≤ yr (t / 1440)
      · have := ys_mono _ _ h; omega
      · omega
    have hle := ys_mono _ _ hlt
    have hday : (t + 1) / 1440 = t / 1440 + 1 := by omega
    have s3 := (sunday_in (yr ((t + 1) / 1440)) 3 (.inl rfl)).1
    have k3 := cum_bd (yr ((t + 1) / 1440)) 3 (by decide) (by decide)
    have s10 := (sunday_in (yr (t / 1440)) 10 (.inr rfl)).2.1
    have hys := ys_succ (yr (t / 1440))
    have h13 := cum_13 (yr (t / 1440))
    have k11 := cum_succ (yr (t / 1440)) 10 (by decide) (by decide)
    have k12 := cum_succ (yr (t / 1440)) 11 (by decide) (by decide)
    have k13 := cum_succ (yr (t / 1440)) 12 (by decide) (by decide)
    have m10 := ml_bd (yr (t / 1440)) 10
    have m11 := ml_bd (yr (t / 1440)) 11
    have m12 := ml_bd (yr (t / 1440)) 12
    rw [show (10 : Int) + 1 = 11 by rfl] at k11
    rw [show (11 : Int) + 1 = 12 by rfl] at k12
    rw [show (12 : Int) + 1 = 13 by rfl] at k13
    have f1 : summerB (t + 1) = false := by
      unfold summerB
      rw [decide_eq_false (show ¬ sunday (yr ((t + 1) / 1440)) 3 * 1440 + 60 ≤ t + 1 by omega)]
      simp
    have f2 : summerB t = false := by
      unfold summerB
      rw [decide_eq_false (show ¬ t < sunday (yr (t / 1440)) 10 * 1440 + 60 by omega)]
      simp
    rw [f1, f2]
end Go.Proofs.YtkimniggdnlliabDoor
