/-
  Plain facts on the calendar: how many days lie ahead of a year and of a month. No program is named here.
-/
namespace Go.Proofs.YtmapkiefmbgdoabDoor.Cal

/-- One day more in a leap year. -/
def lp (y : Int) : Int := if y % 4 = 0 ∧ (y % 100 ≠ 0 ∨ y % 400 = 0) then 1 else 0
theorem lp_bd (y : Int) : 0 ≤ lp y ∧ lp y ≤ 1 := by unfold lp; split <;> omega
/-- The days from 2000-01-01 to the first day of a year. -/
def ys (y : Int) : Int := 365 * (y - 2000) + ((y - 2000 + 3) / 4 - (y - 2000 + 99) / 100 + (y - 2000 + 399) / 400)
theorem ys_succ (y : Int) : ys (y + 1) = ys y + 365 + lp y := by unfold ys lp; split <;> omega
theorem ys_mono (a b : Int) (h : a ≤ b) : ys a ≤ ys b := by
  obtain ⟨n, hn⟩ : ∃ n : Nat, b = a + n := ⟨(b - a).toNat, by omega⟩
  subst hn
  induction n with
  | zero => simp
  | succ n ih =>
    have h1 := ys_succ (a + n)
    have h2 := lp_bd (a + n)
    have h3 := ih (by omega)
    rw [show a + ((n + 1 : Nat) : Int) = a + n + 1 by omega]; omega
theorem ys_bd (y : Int) (h1 : 1999 ≤ y) (h2 : y ≤ 3000) : -365 ≤ ys y ∧ ys y ≤ 400000 := by unfold ys; omega
theorem ys_1999 : ys 1999 = -365 := by decide
theorem ys_2000 : ys 2000 = 0 := by decide
theorem ys_2511 : 186413 < ys 2511 := by decide
theorem ys_3000 : 365000 < ys 3000 := by decide

/-- The days of a month. -/
def ml (y m : Int) : Int := if m = 2 then 28 + lp y else if m = 4 ∨ m = 6 ∨ m = 9 ∨ m = 11 then 30 else 31
theorem ml_bd (y m : Int) : 28 ≤ ml y m ∧ ml y m ≤ 31 := by have := lp_bd y; unfold ml; split <;> (try split) <;> omega
/-- The days of a year ahead of a month. -/
def cum (y m : Int) : Int := (367 * m - 362) / 12 - if m ≤ 2 then 0 else 2 - lp y
theorem cum_1 (y : Int) : cum y 1 = 0 := by unfold cum; simp
theorem cum_13 (y : Int) : cum y 13 = 365 + lp y := by unfold cum; simp; omega
theorem cum_succ (y m : Int) (h1 : 1 ≤ m) (h2 : m ≤ 12) : cum y (m + 1) = cum y m + ml y m := by
  have h : m = 1 ∨ m = 2 ∨ m = 3 ∨ m = 4 ∨ m = 5 ∨ m = 6 ∨ m = 7 ∨ m = 8 ∨ m = 9 ∨ m = 10 ∨ m = 11 ∨ m = 12 := by omega
  rcases h with rfl | rfl | rfl | rfl | rfl | rfl | rfl | rfl | rfl | rfl | rfl | rfl <;> (unfold cum ml; simp; try omega)
theorem cum_bd (y m : Int) (h1 : 1 ≤ m) (h2 : m ≤ 13) : 0 ≤ cum y m ∧ cum y m ≤ 366 := by have := lp_bd y; unfold cum; split <;> omega
theorem cum_mono (y a b : Int) (h1 : 1 ≤ a) (h2 : a ≤ b) (h3 : b ≤ 13) : cum y a ≤ cum y b := by have := lp_bd y; unfold cum; split <;> split <;> omega

/-- y and m are the year and the month of a day. -/
def IsC (d y m : Int) : Prop := ys y ≤ d ∧ d < ys (y + 1) ∧ 1 ≤ m ∧ m ≤ 12 ∧ cum y m ≤ d - ys y ∧ d - ys y < cum y (m + 1)
theorem isC_one {d y m y' m' : Int} (h : IsC d y m) (h' : IsC d y' m') : y = y' ∧ m = m' := by
  obtain ⟨a1, a2, a3, a4, a5, a6⟩ := h
  obtain ⟨b1, b2, b3, b4, b5, b6⟩ := h'
  have hy : y = y' := by
    by_cases c1 : y + 1 ≤ y'
    · have := ys_mono _ _ c1; omega
    · by_cases c2 : y' + 1 ≤ y
      · have := ys_mono _ _ c2; omega
      · omega
  subst hy
  refine ⟨rfl, ?_⟩
  by_cases c1 : m + 1 ≤ m'
  · have := cum_mono y _ _ (by omega) c1 (by omega); omega
  · by_cases c2 : m' + 1 ≤ m
    · have := cum_mono y _ _ (by omega) c2 (by omega); omega
    · omega

theorem year_ex (n : Nat) : ∀ d : Int, -365 ≤ d → d < ys (1999 + n) → ∃ y, 1999 ≤ y ∧ ys y ≤ d ∧ d < ys (y + 1) := by
  induction n with
  | zero => intro d h1 h2; have := ys_1999; simp at h2; omega
  | succ n ih =>
    intro d h1 h2
    by_cases h : d < ys (1999 + n)
    · exact ih d h1 h
    · exact ⟨1999 + n, by omega, by omega, by rw [show (1999 : Int) + n + 1 = 1999 + ((n + 1 : Nat) : Int) by omega]; exact h2⟩
theorem month_ex (y r : Int) (h1 : 0 ≤ r) (h2 : r < 365 + lp y) : ∃ m, 1 ≤ m ∧ m ≤ 12 ∧ cum y m ≤ r ∧ r < cum y (m + 1) := by
  have h13 := cum_13 y
  have hc1 := cum_1 y
  have key : ∀ n : Nat, n ≤ 12 → r < cum y (1 + n) → ∃ m, 1 ≤ m ∧ m ≤ 12 ∧ cum y m ≤ r ∧ r < cum y (m + 1) := by
    intro n
    induction n with
    | zero => intro _ h; simp at h; omega
    | succ n ih =>
      intro hn h
      by_cases hh : r < cum y (1 + n)
      · exact ih (by omega) hh
      · exact ⟨1 + n, by omega, by omega, by omega, by rw [show (1 : Int) + n + 1 = 1 + ((n + 1 : Nat) : Int) by omega]; exact h⟩
  exact key 12 (by omega) (by show r < cum y 13; omega)
theorem isC_ex (d : Int) (h1 : -365 ≤ d) (h2 : d ≤ 365000) : ∃ y m, IsC d y m := by
  obtain ⟨y, _, y1, y2⟩ := year_ex 1001 d h1 (by have := ys_3000; show d < ys 3000; omega)
  obtain ⟨m, m1, m2, m3, m4⟩ := month_ex y (d - ys y) (by omega) (by have := ys_succ y; omega)
  exact ⟨y, m, y1, y2, m1, m2, m3, m4⟩

/-- The year and the month of a day. -/
noncomputable def civ (d : Int) : Int × Int := Classical.epsilon fun p : Int × Int => IsC d p.1 p.2
theorem civ_eq {d y m : Int} (h : IsC d y m) : civ d = (y, m) := by
  have hex : ∃ p : Int × Int, IsC d p.1 p.2 := ⟨(y, m), h⟩
  have := isC_one (Classical.epsilon_spec hex) h
  exact Prod.ext this.1 this.2
noncomputable def yr (d : Int) : Int := (civ d).1
noncomputable def mo (d : Int) : Int := (civ d).2
noncomputable def dy (d : Int) : Int := d - ys (yr d) - cum (yr d) (mo d) + 1
def wd (d : Int) : Int := (d + 5) % 7 + 1
theorem isC_civ (d : Int) (h1 : -365 ≤ d) (h2 : d ≤ 365000) : IsC d (yr d) (mo d) := by
  obtain ⟨y, m, h⟩ := isC_ex d h1 h2
  unfold yr mo; rw [civ_eq h]; exact h
theorem civ_of {d y m : Int} (h : IsC d y m) : yr d = y ∧ mo d = m := by unfold yr mo; rw [civ_eq h]; exact ⟨rfl, rfl⟩
theorem yr_bd (d : Int) (h1 : -365 ≤ d) (h2 : d ≤ 365000) : 1999 ≤ yr d ∧ yr d ≤ 3000 := by
  obtain ⟨a, b, _⟩ := isC_civ d h1 h2
  constructor
  · by_cases h : 1999 ≤ yr d
    · exact h
    · have := ys_mono (yr d + 1) 1999 (by omega); rw [ys_1999] at this; omega
  · by_cases h : yr d ≤ 3000
    · exact h
    · have := ys_mono 3000 (yr d) (by omega); have := ys_3000; omega
/-- A year in which the day lies, is its year. -/
theorem yr_of {d y : Int} (h1 : ys y ≤ d) (h2 : d < ys (y + 1)) : yr d = y := by
  obtain ⟨m, m1, m2, m3, m4⟩ := month_ex y (d - ys y) (by omega) (by have := ys_succ y; omega)
  exact (civ_of ⟨h1, h2, m1, m2, m3, m4⟩).1
theorem mo_of {d m : Int} (h1 : ys (yr d) ≤ d) (h2 : d < ys (yr d + 1)) (m1 : 1 ≤ m) (m2 : m ≤ 12) (m3 : cum (yr d) m ≤ d - ys (yr d)) (m4 : d - ys (yr d) < cum (yr d) (m + 1)) : mo d = m :=
  (civ_of ⟨h1, h2, m1, m2, m3, m4⟩).2

theorem quo_floor (m : Int) (h : m < 0) : m.tdiv 1440 = -((-m) / 1440) ∧ m.tmod 1440 = -((-m) % 1440) := by
  obtain ⟨n, rfl⟩ : ∃ n : Nat, m = -(n : Int) := ⟨(-m).toNat, by omega⟩
  rw [Int.neg_tdiv, Int.neg_tmod, Int.tdiv_eq_ediv_of_nonneg (by omega), Int.tmod_eq_emod_of_nonneg (by omega)]
  simp
end Go.Proofs.YtmapkiefmbgdoabDoor.Cal
