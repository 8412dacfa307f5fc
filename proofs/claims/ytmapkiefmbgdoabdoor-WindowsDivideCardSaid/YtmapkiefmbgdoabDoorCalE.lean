/-
  What Summer of the reference, Offset and Local return, in the package calendar and in its reference.
-/
import Derived.Test.YtmapkiefmbgdoabDoorCalD
namespace Go.Proofs.YtmapkiefmbgdoabDoor
open Go.RowKit
open Cal

/-- The Sunday of the last seven days of a month of 31 days, reckoned from a day of it. -/
def sund (D W : Int) : Int := 31 - (31 - (D - W % 7)) % 7
def aftB (M D W N m : Int) : Bool := if M = m then decide (sund D W < D) || (decide (D = sund D W) && decide (60 ≤ N)) else decide (m < M)

theorem dy_bd (d : Int) (h0 : -365 ≤ d) (h1 : d ≤ 365000) : 1 ≤ dy d ∧ dy d ≤ ml (yr d) (mo d) := by
  obtain ⟨c1, c2, c3, c4, c5, c6⟩ := isC_civ d h0 h1
  have := cum_succ (yr d) (mo d) c3 c4
  unfold dy; omega

/-- To be after the change, is to have a time from it on. -/
theorem aft_sunday (t m : Int) (h0 : 0 ≤ t) (h1 : t ≤ 268435456) (hm : m = 3 ∨ m = 10) :
    aftB (mo (t / 1440)) (dy (t / 1440)) (wd (t / 1440)) (t % 1440) m = decide (sunday (yr (t / 1440)) m * 1440 + 60 ≤ t) := by
  obtain ⟨d, hd⟩ : ∃ d, d = t / 1440 := ⟨_, rfl⟩
  rw [← hd]
  have d0 : 0 ≤ d := by omega
  have d1 : d ≤ 186500 := by omega
  obtain ⟨c1, c2, c3, c4, c5, c6⟩ := isC_civ d (by omega) (by omega)
  have hs := cum_succ (yr d) (mo d) c3 c4
  have h31 : ml (yr d) m = 31 := by unfold ml; rcases hm with rfl | rfl <;> simp
  have hsm := cum_succ (yr d) m (by omega) (by omega)
  obtain ⟨e1, e2⟩ := dy_bd d (by omega) (by omega)
  have hdy : dy d = d - ys (yr d) - cum (yr d) (mo d) + 1 := rfl
  unfold aftB
  by_cases hmm : mo d = m
  · rw [if_pos hmm, Bool.eq_iff_iff]
    rw [hmm] at hdy e2 hs c5 c6
    rw [h31] at e2
    simp only [Bool.or_eq_true, Bool.and_eq_true, decide_eq_true_eq]
    unfold sund sunday wd
    rw [hdy]
    omega
  · rw [if_neg hmm, decide_eq_decide]
    by_cases hlt : m < mo d
    · have := cum_mono (yr d) (m + 1) (mo d) (by omega) (by omega) (by omega)
      refine ⟨fun _ => ?_, fun _ => hlt⟩
      unfold sunday wd; omega
    · have := cum_mono (yr d) (mo d + 1) m (by omega) (by omega) (by omega)
      refine ⟨fun h => absurd h hlt, fun h => ?_⟩
      unfold sunday wd at h; omega

theorem summer_aft (t : Int) (h0 : 0 ≤ t) (h1 : t ≤ 268435456) :
    summerB t = (aftB (mo (t / 1440)) (dy (t / 1440)) (wd (t / 1440)) (t % 1440) 3 && !aftB (mo (t / 1440)) (dy (t / 1440)) (wd (t / 1440)) (t % 1440) 10) := by
  rw [aft_sunday t 3 h0 h1 (.inl rfl), aft_sunday t 10 h0 h1 (.inr rfl)]
  unfold summerB
  rw [decide_eq_true (⟨h0, h1⟩ : 0 ≤ t ∧ t ≤ 268435456), Bool.true_and]
  congr 1
  rw [Bool.eq_iff_iff]; simp

end Go.Proofs.YtmapkiefmbgdoabDoor
