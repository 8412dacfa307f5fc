/-
  What Next returns outside its range, in the package calendar; and what Next of the reference returns.
-/
import Derived.Test.YtkimniggdnlliabDoorCalJ
namespace Go.Proofs.YtkimniggdnlliabDoor
open Go.RowKit
open Cal

/-- What Next is asked for is in range. -/
def Asked (o days minute : Int) : Prop := -840 ≤ o ∧ o ≤ 840 ∧ 0 ≤ days ∧ days ≤ 127 ∧ 0 ≤ minute ∧ minute ≤ 1439

set_option maxHeartbeats 400000 in
theorem next_zone (o t days minute : Int) (sm : Bool) (w : World) (h : o < -840 ∨ 840 < o) :
    Calls Tryd.prog 10 #[.agg #[.int .i64 o, .bool sm], .int .i64 t, .int .i64 days, .int .i64 minute] w fun e w' => e = .returned (.tuple #[.int .i64 0, .int .i64 1]) ∧ Below w.heap.size w w' := by
  have Hz := Lib.hid (fun W => zone_no o sm W h)
  clear h
  go_enter Tryd.func10, Tryd.ntmps10
  go_wp2_with fail
  refine (Hz.out _).mono ?_
  rintro e w1 ⟨rfl, g1⟩
  go_wp2_with fail
  go_ret2
  exact ⟨rfl, b2 (b_new _ _) g1⟩

set_option maxHeartbeats 400000 in
theorem next_bad0 (o t days minute : Int) (sm : Bool) (w : World) (h0 : -840 ≤ o) (h1 : o ≤ 840)  (n0 : days < 0) :
    Calls Tryd.prog 10 #[.agg #[.int .i64 o, .bool sm], .int .i64 t, .int .i64 days, .int .i64 minute] w fun e w' => e = .returned (.tuple #[.int .i64 0, .int .i64 1]) ∧ Below w.heap.size w w' := by
  go_enter Tryd.func10, Tryd.ntmps10
  go_wp2_with fail
  refine (zone_yes o sm _ h0 h1).mono ?_
  rintro e w1 ⟨rfl, g1⟩
  go_wp2_with fail
  go_ret2
  exact ⟨rfl, b2 (b_new _ _) g1⟩

set_option maxHeartbeats 400000 in
theorem next_bad1 (o t days minute : Int) (sm : Bool) (w : World) (h0 : -840 ≤ o) (h1 : o ≤ 840) (c0 : 0 ≤ days) (n1 : 127 < days) :
    Calls Tryd.prog 10 #[.agg #[.int .i64 o, .bool sm], .int .i64 t, .int .i64 days, .int .i64 minute] w fun e w' => e = .returned (.tuple #[.int .i64 0, .int .i64 1]) ∧ Below w.heap.size w w' := by
  go_enter Tryd.func10, Tryd.ntmps10
  go_wp2_with fail
  refine (zone_yes o sm _ h0 h1).mono ?_
  rintro e w1 ⟨rfl, g1⟩
  go_wp2_with fail
  go_ret2
  exact ⟨rfl, b2 (b_new _ _) g1⟩

set_option maxHeartbeats 400000 in
theorem next_bad2 (o t days minute : Int) (sm : Bool) (w : World) (h0 : -840 ≤ o) (h1 : o ≤ 840) (c0 : 0 ≤ days) (c1 : days ≤ 127) (n2 : minute < 0) :
    Calls Tryd.prog 10 #[.agg #[.int .i64 o, .bool sm], .int .i64 t, .int .i64 days, .int .i64 minute] w fun e w' => e = .returned (.tuple #[.int .i64 0, .int .i64 1]) ∧ Below w.heap.size w w' := by
  go_enter Tryd.func10, Tryd.ntmps10
  go_wp2_with fail
  refine (zone_yes o sm _ h0 h1).mono ?_
  rintro e w1 ⟨rfl, g1⟩
  go_wp2_with fail
  go_ret2
  exact ⟨rfl, b2 (b_new _ _) g1⟩

set_option maxHeartbeats 400000 in
theorem next_bad3 (o t days minute : Int) (sm : Bool) (w : World) (h0 : -840 ≤ o) (h1 : o ≤ 840) (c0 : 0 ≤ days) (c1 : days ≤ 127) (c2 : 0 ≤ minute) (n3 : 1439 < minute) :
    Calls Tryd.prog 10 #[.agg #[.int .i64 o, .bool sm], .int .i64 t, .int .i64 days, .int .i64 minute] w fun e w' => e = .returned (.tuple #[.int .i64 0, .int .i64 1]) ∧ Below w.heap.size w w' := by
  go_enter Tryd.func10, Tryd.ntmps10
  go_wp2_with fail
  refine (zone_yes o sm _ h0 h1).mono ?_
  rintro e w1 ⟨rfl, g1⟩
  go_wp2_with fail
  go_ret2
  exact ⟨rfl, b2 (b_new _ _) g1⟩

theorem next_bad (o t days minute : Int) (sm : Bool) (w : World) (h : ¬ Asked o days minute) :
    Calls Tryd.prog 10 #[.agg #[.int .i64 o, .bool sm], .int .i64 t, .int .i64 days, .int .i64 minute] w fun e w' => e = .returned (.tuple #[.int .i64 0, .int .i64 1]) ∧ Below w.heap.size w w' := by
  by_cases z : o < -840 ∨ 840 < o
  · exact next_zone o t days minute sm w z
  · have h0 : -840 ≤ o := by omega
    have h1 : o ≤ 840 := by omega
    by_cases c0 : 0 ≤ days
    · by_cases c1 : days ≤ 127
      · by_cases c2 : 0 ≤ minute
        · by_cases c3 : minute ≤ 1439
          · exact absurd ⟨h0, h1, c0, c1, c2, c3⟩ h
          · exact next_bad3 o t days minute sm w h0 h1 c0 c1 c2 (by omega)
        · exact next_bad2 o t days minute sm w h0 h1 c0 c1 (by omega)
      · exact next_bad1 o t days minute sm w h0 h1 c0 (by omega)
    · exact next_bad0 o t days minute sm w h0 h1 (by omega)

set_option maxHeartbeats 400000 in
theorem next_range (o t days minute : Int) (sm : Bool) (w : World) (h : Asked o days minute) (ht : t < 0 ∨ 268435456 < t) :
    Calls Tryd.prog 10 #[.agg #[.int .i64 o, .bool sm], .int .i64 t, .int .i64 days, .int .i64 minute] w fun e w' => e = .returned (.tuple #[.int .i64 0, .int .i64 2]) ∧ Below w.heap.size w w' := by
  obtain ⟨h0, h1, d0, d1, m0, m1⟩ := h
  have Ht := Lib.hid (fun W => isTime_no t W ht)
  clear ht
  go_enter Tryd.func10, Tryd.ntmps10
  go_wp2_with fail
  refine (zone_yes o sm _ h0 h1).mono ?_
  rintro e w1 ⟨rfl, g1⟩
  go_wp2_with fail
  refine (Ht.out _).mono ?_
  rintro e w2 ⟨rfl, rfl⟩
  go_wp2_with fail
  go_ret2
  exact ⟨rfl, b2 (b_new _ _) g1⟩

theorem dateV_full (m : Int) : ∃ Y M D, dateV m = .agg #[.int .i64 Y, .int .i64 M, .int .i64 D, .int .i64 (wd (m / 1440)), .int .i64 (m % 1440)] := ⟨_, _, _, rfl⟩

end Go.Proofs.YtkimniggdnlliabDoor
