/-
  Days and minutes of a window: hasDay, dayBefore, the reference's On and Day.
-/
import Derived.Test.YtmapkiefmbgdoabDoorWinA
namespace Go.Proofs.YtmapkiefmbgdoabDoor
open Go.RowKit
open Cal

/-- The weekday's bit is set. -/
def bitB (d W : Int) : Bool := bits .and .i64 (d / 2 ^ (W.toNat - 1)) 1 == 1
def onB (d W : Int) : Bool := (d == 0) || bitB d W
theorem wd_bd (d : Int) : 1 ≤ wd d ∧ wd d ≤ 7 := by unfold wd; omega
/-- The weekday before. -/
def pw (W : Int) : Int := (W + 5) % 7 + 1
theorem pw_bd (W : Int) : 1 ≤ pw W ∧ pw W ≤ 7 := by unfold pw; omega
theorem hasDay_any (d s e f u W : Int) (w : World) (_d0 : 0 ≤ d) (_d1 : d ≤ 127) (w1 : 1 ≤ W) (w2 : W ≤ 7) :
    Calls Tryd.prog 30 #[.agg #[.int .i64 d, .int .i64 s, .int .i64 e, .int .i64 f, .int .i64 u], .int .i64 W] w fun e w' => e = .returned (.bool (onB d W)) ∧ Below w.heap.size w w' := by
  by_cases h : d = 0
  · have td := eq_t _ _ h
    have Ho : Hid (onB d W = true) := Lib.hid (by unfold onB; rw [td]; rfl)
    clear h
    go_enter Tryd.func30, Tryd.ntmps30
    go_wp2
    go_ret
    exact ⟨ret_bool Ho.out.symm, b_new _ _⟩
  · have td := eq_f _ _ h
    have Ho : Hid (onB d W = bitB d W) := Lib.hid (by unfold onB; rw [td]; rfl)
    clear h
    go_enter Tryd.func30, Tryd.ntmps30
    go_wp2
    go_ret
    exact ⟨ret_bool Ho.out.symm, b_new _ _⟩
theorem dayBefore_any (W : Int) (w : World) (w1 : 1 ≤ W) (w2 : W ≤ 7) :
    Calls Tryd.prog 31 #[.int .i64 W] w fun e w' => e = .returned (.int .i64 (pw W)) ∧ w = w' := by
  have H : Hid ((W + 7 - 2) % 7 + 1 = pw W) := Lib.hid (by unfold pw; rw [show W + 7 - 2 = W + 5 by omega])
  go_enter Tryd.func31, Tryd.ntmps31
  go_wp2
  go_ret
  exact ⟨by rw [H.out]; rfl, rfl⟩
/-- What Day returns. -/
def dayB (d s e W N : Int) : Bool :=
  if s = e then onB d W else if s < e then onB d W && decide (s ≤ N) && decide (N < e) else onB d W && decide (s ≤ N) || onB d (pw W) && decide (N < e)
theorem dayB_eq {d s e W N : Int} (h : s = e) : dayB d s e W N = onB d W := by unfold dayB; rw [if_pos h]
theorem dayB_lt {d s e W N : Int} (h : s < e) : dayB d s e W N = (onB d W && decide (s ≤ N) && decide (N < e)) := by unfold dayB; rw [if_neg (by omega), if_pos h]
theorem dayB_gt {d s e W N : Int} (h : e < s) : dayB d s e W N = (onB d W && decide (s ≤ N) || onB d (pw W) && decide (N < e)) := by unfold dayB; rw [if_neg (by omega), if_neg (by omega)]
end Go.Proofs.YtmapkiefmbgdoabDoor
