/-
  What the small functions of the calendar return: the first day of a year, leap years, the length of a month, the year of a day.
-/
import Derived.Test.YtmapkiefmbgdoabDoorRows
import Derived.Test.YtmapkiefmbgdoabDoorCal
import Derived.WalkKit
import Derived.WalkSpells
import Derived.WalkLawsBesides
import Derived.Lib.Hide
import Derived.Deep.QuietTactic
import Derived.BigQuiet
namespace Go.Proofs.YtmapkiefmbgdoabDoor
open Go.RowKit
open Cal

theorem ret_int {k : IntKind} {a b : Int} (h : a = b) : Ending.returned (.int k a) = .returned (.int k b) := by rw [h]
theorem ret_bool {a b : Bool} (h : a = b) : Ending.returned (.bool a) = .returned (.bool b) := by rw [h]
theorem eq_f (a x : Int) (h : a ≠ x) : (a == x) = false := by simp [h]
theorem eq_t (a x : Int) (h : a = x) : (a == x) = true := by simp [h]
theorem ne_t (a x : Int) (h : a ≠ x) : (a != x) = true := by rw [bne_iff_ne]; exact h
theorem ne_f (a x : Int) (h : a = x) : (a != x) = false := by rw [h]; simp

/-- The lengths of the months of a year that is no leap year. -/
def tabAt (k : Nat) : Int := if k = 1 then 28 else if k = 3 ∨ k = 5 ∨ k = 8 ∨ k = 10 then 30 else 31
/-- The table of the lengths of the months lies where it was laid. -/
def Tab (w : World) : Prop := ∀ k, k < 12 → w.cell? ⟨2, k, none⟩ = some (.int .i64 (tabAt k))
theorem Tab.low {w : World} (h : Tab w) : 2 < w.heap.size := World.block_lt_of_cell? w _ (h 0 (by decide))
theorem Tab.below {w w' : World} (h : Tab w) (hb : Below w.heap.size w w') : Tab w' := fun k hk => (hb.cell (p := ⟨2, k, none⟩) h.low).trans (h k hk)
theorem ml_tab (y : Int) (k : Nat) (hk : k < 12) (h : k = 1 → lp y = 0) : ml y ((k : Int) + 1) = tabAt k := by
  unfold ml tabAt
  by_cases h1 : k = 1
  · rw [if_pos h1, if_pos (by omega), h h1]; rfl
  · rw [if_neg h1, if_neg (by omega)]
    split <;> split <;> omega

theorem lp_yes (y : Int) (h : lp y = 1) : y % 4 = 0 ∧ (y % 100 ≠ 0 ∨ y % 400 = 0) := by
  unfold lp at h; split at h
  · assumption
  · omega
theorem lp_no (y : Int) (h : lp y = 0) : ¬ (y % 4 = 0 ∧ (y % 100 ≠ 0 ∨ y % 400 = 0)) := by
  unfold lp at h; split at h
  · omega
  · assumption

set_option maxHeartbeats 400000 in
theorem leap_yes (y : Int) (w : World) (h0 : 0 ≤ y) (h1 : y ≤ 4000) (h : lp y = 1) :
    Calls Tryd.prog 80 #[.int .i64 y] w fun e w' => e = .returned (.bool true) ∧ w = w' := by
  obtain ⟨a, b⟩ := lp_yes y h
  have t4 := eq_t _ _ a
  by_cases c : y % 100 = 0
  · have t100 := ne_f _ _ c
    have t400 := eq_t (y % 400) 0 (by omega)
    clear a b c h
    go_enter Tryd.func80, Tryd.ntmps80
    go_wp2
    go_ret
    exact ⟨rfl, rfl⟩
  · have t100 := ne_t _ _ c
    clear a b c h
    go_enter Tryd.func80, Tryd.ntmps80
    go_wp2
    go_ret
    exact ⟨rfl, rfl⟩

set_option maxHeartbeats 400000 in
theorem leap_no (y : Int) (w : World) (h0 : 0 ≤ y) (h1 : y ≤ 4000) (h : lp y = 0) :
    Calls Tryd.prog 80 #[.int .i64 y] w fun e w' => e = .returned (.bool false) ∧ w = w' := by
  have hn := lp_no y h
  by_cases a : y % 4 = 0
  · have t4 := eq_t _ _ a
    have t100 := ne_f (y % 100) 0 (by omega)
    have t400 := eq_f (y % 400) 0 (by omega)
    clear a hn h
    go_enter Tryd.func80, Tryd.ntmps80
    go_wp2
    go_ret
    exact ⟨rfl, rfl⟩
  · have t4 := eq_f _ _ a
    clear a hn h
    go_enter Tryd.func80, Tryd.ntmps80
    go_wp2
    go_ret
    exact ⟨rfl, rfl⟩

/-- From 0 to MaxTime. -/
theorem isTime_yes (t : Int) (w : World) (h0 : 0 ≤ t) (h1 : t ≤ 268435456) :
    Calls Tryd.prog 47 #[.int .i64 t] w fun e w' => e = .returned (.bool true) ∧ w = w' := by
  go_enter Tryd.func47, Tryd.ntmps47
  go_wp2
  go_ret
  exact ⟨rfl, rfl⟩
theorem isTime_no (t : Int) (w : World) (h : t < 0 ∨ 268435456 < t) :
    Calls Tryd.prog 47 #[.int .i64 t] w fun e w' => e = .returned (.bool false) ∧ w = w' := by
  by_cases h0 : 0 ≤ t
  · have h1 : 268435456 < t := by omega
    have hD : Hid (decide (t ≤ 268435456) = false) := Lib.hid (decide_eq_false (by omega))
    clear h
    go_enter Tryd.func47, Tryd.ntmps47
    go_wp2
    go_ret
    exact ⟨ret_bool hD.out, rfl⟩
  · have h1 : t < 0 := by omega
    clear h h0
    go_enter Tryd.func47, Tryd.ntmps47
    go_wp2
    go_ret
    exact ⟨rfl, rfl⟩

set_option maxHeartbeats 400000 in
theorem yearStart_any (y : Int) (w : World) (h0 : 1999 ≤ y) (h1 : y ≤ 4000) :
    Calls Tryd.prog 62 #[.int .i64 y] w fun e w' => e = .returned (.int .i64 (ys y)) ∧ w = w' := by
  go_enter Tryd.func62, Tryd.ntmps62
  go_wp2
  go_ret
  exact ⟨ret_int (by unfold ys; omega), rfl⟩

theorem weekday_any (d : Int) (w : World) (h0 : -5 ≤ d) (h1 : d ≤ 400000) :
    Calls Tryd.prog 64 #[.int .i64 d] w fun e w' => e = .returned (.int .i64 (wd d)) ∧ w = w' := by
  have h2 : 0 ≤ d + 5 := by omega
  go_enter Tryd.func64, Tryd.ntmps64
  go_wp2
  go_ret
  exact ⟨rfl, rfl⟩

set_option maxHeartbeats 400000 in
theorem monthLength_any (y m : Int) (w : World) (hT : Tab w) (h0 : 0 ≤ y) (h1 : y ≤ 4000) (m1 : 1 ≤ m) (m2 : m ≤ 12) :
    Calls Tryd.prog 63 #[.int .i64 y, .int .i64 m] w fun e w' => e = .returned (.int .i64 (ml y m)) ∧ w = w' := by
  have hl := lp_bd y
  by_cases c : m = 2
  · subst c
    by_cases l : lp y = 1
    · have Hm : Hid (ml y 2 = 29) := Lib.hid (by unfold ml; rw [if_pos rfl, l]; rfl)
      have L := Lib.hid (fun W => leap_yes y W h0 h1 l)
      clear l hl
      go_enter Tryd.func63, Tryd.ntmps63
      go_wp2_with fail
      refine (L.out _).mono ?_
      rintro e w1 ⟨rfl, rfl⟩
      go_wp2
      go_ret
      exact ⟨ret_int Hm.out.symm, rfl⟩
    · have l0 : lp y = 0 := by omega
      have Hm : Hid (ml y 2 = 28) := Lib.hid (by unfold ml; rw [if_pos rfl, l0]; rfl)
      have L := Lib.hid (fun W => leap_no y W h0 h1 l0)
      have hc : w.cell? ⟨2, 1, none⟩ = some (.int .i64 28) := hT 1 (by decide)
      clear l hl l0 hT
      go_enter Tryd.func63, Tryd.ntmps63
      go_wp2_with fail
      refine (L.out _).mono ?_
      rintro e w1 ⟨rfl, rfl⟩
      go_wp2
      go_ret
      exact ⟨ret_int Hm.out.symm, rfl⟩
  · obtain ⟨k, rfl⟩ : ∃ k : Nat, m = (k : Int) + 1 := ⟨(m - 1).toNat, by omega⟩
    have hk : k < 12 := by omega
    have hc : w.cell? ⟨2, k, none⟩ = some (.int .i64 (tabAt k)) := hT k hk
    have Hm := Lib.hid (ml_tab y k hk (fun e => by omega))
    have t2 := eq_f ((k : Int) + 1) 2 c
    clear c hl hT
    go_enter Tryd.func63, Tryd.ntmps63
    go_wp2
    go_ret
    exact ⟨ret_int Hm.out.symm, rfl⟩

theorem guess_le (d : Int) (h : 0 ≤ d) : ys (1999 + d / 366) ≤ d ∧ ys (2000 + d / 366) ≤ d := by unfold ys; omega

set_option maxHeartbeats 1000000 in
theorem yearOf_any (d : Int) (w : World) (h0 : -1 ≤ d) (h1 : d ≤ 200000) :
    Calls Tryd.prog 61 #[.int .i64 d] w fun e w' => e = .returned (.int .i64 (yr d)) ∧ w = w' := by
  have key : ∀ y0 : Int, 1999 ≤ y0 → y0 ≤ 3000 → ys y0 ≤ d → 1999 ≤ y0 ∧ y0 ≤ 3000 ∧ ys y0 ≤ d := fun y0 a b c => ⟨a, b, c⟩
  have hstart : ∃ y0 : Int, (if 0 ≤ d then 1999 + d / 366 else 1999) = y0 ∧ 1999 ≤ y0 ∧ y0 ≤ 2600 ∧ ys y0 ≤ d := by
    refine ⟨_, rfl, ?_⟩
    split
    · have := guess_le d (by assumption); omega
    · have := ys_1999; omega
  clear key
  obtain ⟨y0, hy0, b1, b2, b3⟩ := hstart
  by_cases hd : 0 ≤ d
  · rw [if_pos hd] at hy0
    have hq : 0 ≤ d / 366 := by omega
    have hq2 : d / 366 ≤ 600 := by omega
    have B3 := Lib.hid b3
    have Hy := Lib.hid hy0
    clear b3 hy0
    go_enter Tryd.func61, Tryd.ntmps61
    go_wp2_with fail
    go_loop [3] (fun t => ∃ y : Int, 1999 ≤ y ∧ y ≤ 2600 ∧ Hid (ys y ≤ d) ∧ t = .int .i64 y) (fun t => (2600 - intOf t).toNat)
    case atStart => exact ⟨1999 + d / 366, by omega, by omega, by rw [Hy.out]; exact B3, rfl⟩
    case round =>
      obtain ⟨y, y1, y2, Hle, rfl⟩ := hrel
      by_cases hlt : ys (y + 1) ≤ d
      · have y3 : y < 2600 := by
          by_cases e : y < 2600
          · exact e
          · have := ys_mono 2511 (y + 1) (by omega); have := ys_2511; have h3 : 200000 < ys 2601 := by decide
            have := ys_mono 2601 (y + 1) (by omega); omega
        go_wp2_with (go_at_call 62; refine (yearStart_any _ _ (by omega) (by omega)).mono ?_; rintro e w' ⟨rfl, rfl⟩)
        go_round
        case rel => exact ⟨y + 1, by omega, by omega, Lib.hid hlt, rfl⟩
        case measure => simp [intOf]; omega
      · have hgt : d < ys (y + 1) := by omega
        have Hr := Lib.hid (yr_of Hle.out hgt)
        clear hlt
        go_wp2_with (go_at_call 62; refine (yearStart_any _ _ (by omega) (by omega)).mono ?_; rintro e w' ⟨rfl, rfl⟩)
        go_ret
        exact ⟨ret_int Hr.out.symm, rfl⟩
  · obtain rfl : d = -1 := by omega
    have Hr : Hid (yr (-1) = 1999) := Lib.hid (yr_of (by decide) (by decide))
    have hgt : (-1 : Int) < ys 2000 := by rw [ys_2000]; decide
    clear hy0 b1 b2 b3 hd
    go_enter Tryd.func61, Tryd.ntmps61
    go_wp2_with fail
    go_loop [3] (fun t => t = .int .i64 1999) (fun t => (2600 - intOf t).toNat)
    case atStart => rfl
    case round =>
      subst hrel
      go_wp2_with (go_at_call 62; refine (yearStart_any _ _ (by omega) (by omega)).mono ?_; rintro e w' ⟨rfl, rfl⟩)
      go_ret
      exact ⟨ret_int Hr.out.symm, rfl⟩
end Go.Proofs.YtmapkiefmbgdoabDoor
