/-
  What civil of the reference, dayOf, lastSunday and Date return.
-/
import Derived.Test.YtmapkiefmbgdoabDoorCalB
namespace Go.Proofs.YtmapkiefmbgdoabDoor
open Go.RowKit
open Cal

set_option maxHeartbeats 1000000 in
theorem dayOf_any (y m d : Int) (w : World) (hT : Tab w) (h0 : 1999 ≤ y) (h1 : y ≤ 3000) (m1 : 1 ≤ m) (m2 : m ≤ 12) (d1 : 0 ≤ d) (d2 : d ≤ 40) :
    Calls Tryd.prog 101 #[.int .i64 y, .int .i64 m, .int .i64 d] w fun e w' => e = .returned (.int .i64 (ys y + d - 1 + cum y m)) ∧ w = w' := by
  have hb := ys_bd y h0 h1
  go_enter Tryd.func101, Tryd.ntmps101
  go_wp2_with fail
  refine (yearStart_any y _ h0 (by omega)).mono ?_
  rintro e w' ⟨rfl, rfl⟩
  go_wp2_with fail
  go_loop [7, 8] (fun n k => ∃ j : Int, 1 ≤ j ∧ j ≤ m ∧ k = .int .i64 j ∧ n = .int .i64 (ys y + d - 1 + cum y j)) (fun _ k => (12 - intOf k).toNat)
  case atStart => exact ⟨1, by omega, by omega, rfl, by rw [cum_1, Int.add_zero]⟩
  case round =>
    obtain ⟨j, j1, j2, rfl, rfl⟩ := hrel
    have hcb := cum_bd y j j1 (by omega)
    have hmb := ml_bd y j
    by_cases hlt : j < m
    · have Hs := Lib.hid (cum_succ y j j1 (by omega))
      go_wp2_with (go_at_call 63; refine (monthLength_any _ _ _ hT (by omega) (by omega) (by omega) (by omega)).mono ?_; rintro e w' ⟨rfl, rfl⟩)
      go_round
      case rel => exact ⟨j + 1, by omega, by omega, rfl, by rw [Hs.out, Int.add_assoc]⟩
      case measure => simp [intOf]; omega
    · obtain rfl : j = m := by omega
      go_wp2_with fail
      go_ret
      exact ⟨rfl, rfl⟩

theorem weekdayFar (d : Int) (w : World) (h0 : 0 ≤ d) (h1 : d ≤ 401000) :
    Calls Tryd.prog 64 #[.int .i64 d] w fun e w' => e = .returned (.int .i64 (wd d)) ∧ w = w' := by
  go_enter Tryd.func64, Tryd.ntmps64
  go_wp2
  go_ret
  exact ⟨rfl, rfl⟩

/-- The last Sunday of March or October, as a day. -/
def sunday (y m : Int) : Int := ys y + 31 - 1 + cum y m - wd (ys y + 31 - 1 + cum y m) % 7
theorem sunday_bd (y m : Int) (h0 : 1999 ≤ y) (h1 : y ≤ 3000) (m1 : 1 ≤ m) (m2 : m ≤ 12) : -400 ≤ sunday y m ∧ sunday y m ≤ 401000 := by
  have := ys_bd y h0 h1; have := cum_bd y m m1 (by omega)
  unfold sunday wd; omega

set_option maxHeartbeats 1000000 in
theorem lastSunday_any (y m : Int) (w : World) (hT : Tab w) (h0 : 2000 ≤ y) (h1 : y ≤ 3000) (m1 : 1 ≤ m) (m2 : m ≤ 12) (h31 : ml y m = 31) :
    Calls Tryd.prog 81 #[.int .i64 y, .int .i64 m] w fun e w' => e = .returned (.int .i64 (sunday y m)) ∧ w = w' := by
  have hb := ys_bd y (by omega) h1
  have hb0 : 0 ≤ ys y := by have := ys_mono 2000 y h0; rw [ys_2000] at this; exact this
  have hc := cum_bd y m m1 (by omega)
  have Hm : Hid (∀ W, Tab W → Calls Tryd.prog 63 #[.int .i64 y, .int .i64 m] W fun e w' => e = .returned (.int .i64 31) ∧ W = w') := Lib.hid (fun W hW => by
    have := monthLength_any y m W hW (by omega) (by omega) m1 m2; rw [h31] at this; exact this)
  obtain ⟨L, hL⟩ : ∃ L, L = ys y + 31 - 1 + cum y m := ⟨_, rfl⟩
  have Hd : Hid (∀ W, Tab W → Calls Tryd.prog 101 #[.int .i64 y, .int .i64 m, .int .i64 31] W fun e w' => e = .returned (.int .i64 L) ∧ W = w') := Lib.hid (fun W hW => by
    rw [hL]; exact dayOf_any y m 31 W hW (by omega) h1 m1 m2 (by decide) (by decide))
  have l1 : 0 ≤ L := by omega
  have l2 : L ≤ 401000 := by omega
  have w1 : 0 ≤ wd L := by unfold wd; omega
  have w2 : wd L ≤ 7 := by unfold wd; omega
  have Hs : Hid (sunday y m = L - wd L % 7) := Lib.hid (by rw [hL]; rfl)
  have hwd : ∀ W, Calls Tryd.prog 64 #[.int .i64 L] W fun e w' => e = .returned (.int .i64 (wd L)) ∧ W = w' := fun W => weekdayFar L W l1 l2
  have Hwd := Lib.hid hwd
  clear hL h31 hb hb0 hc hwd
  go_enter Tryd.func81, Tryd.ntmps81
  go_wp2_with fail
  refine (Hm.out _ hT).mono ?_
  rintro e w' ⟨rfl, rfl⟩
  go_wp2_with fail
  refine (Hd.out _ hT).mono ?_
  rintro e w' ⟨rfl, rfl⟩
  go_wp2_with fail
  refine (Hwd.out _).mono ?_
  rintro e w' ⟨rfl, rfl⟩
  go_wp2_with fail
  go_ret
  exact ⟨ret_int Hs.out.symm, rfl⟩
end Go.Proofs.YtmapkiefmbgdoabDoor
