/-
  Days and minutes of a window: hasDay, dayBefore, the reference's On and Day.
-/
import Derived.Test.YtmapkiefmbgdoaaDoorWinA
namespace Go.Proofs.YtmapkiefmbgdoaaDoor
open Go.RowKit
open Cal

/-- The weekday's bit is set. -/
def bitB (d W : Int) : Bool := bits .and .i64 (d / 2 ^ (W.toNat - 1)) 1 == 1
def onB (d W : Int) : Bool := (d == 0) || bitB d W
theorem wd_bd (d : Int) : 1 ≤ wd d ∧ wd d ≤ 7 := by unfold wd; omega
/-- The weekday before. -/
def pw (W : Int) : Int := (W + 5) % 7 + 1
theorem pw_bd (W : Int) : 1 ≤ pw W ∧ pw W ≤ 7 := by unfold pw; omega
theorem on_any (d W : Int) (w : World) (_d0 : 0 ≤ d) (_d1 : d ≤ 127) (w1 : 1 ≤ W) (w2 : W ≤ 7) :
    Calls Tryd.prog 55 #[.int .i64 d, .int .i64 W] w fun e w' => e = .returned (.bool (onB d W)) ∧ w = w' := by
  by_cases h : d = 0
  · have td := eq_t _ _ h
    have Ho : Hid (onB d W = true) := Lib.hid (by unfold onB; rw [td]; rfl)
    clear h
    go_enter Tryd.func55, Tryd.ntmps55
    go_wp2
    go_ret
    exact ⟨ret_bool Ho.out.symm, rfl⟩
  · have td := eq_f _ _ h
    have Ho : Hid (onB d W = bitB d W) := Lib.hid (by unfold onB; rw [td]; rfl)
    clear h
    go_enter Tryd.func55, Tryd.ntmps55
    go_wp2
    go_ret
    exact ⟨ret_bool Ho.out.symm, rfl⟩
theorem hasDay_any (d s e f u W : Int) (w : World) (_d0 : 0 ≤ d) (_d1 : d ≤ 127) (w1 : 1 ≤ W) (w2 : W ≤ 7) :
    Calls Tryd.prog 29 #[.agg #[.int .i64 d, .int .i64 s, .int .i64 e, .int .i64 f, .int .i64 u], .int .i64 W] w fun e w' => e = .returned (.bool (onB d W)) ∧ Below w.heap.size w w' := by
  by_cases h : d = 0
  · have td := eq_t _ _ h
    have Ho : Hid (onB d W = true) := Lib.hid (by unfold onB; rw [td]; rfl)
    clear h
    go_enter Tryd.func29, Tryd.ntmps29
    go_wp2
    go_ret
    exact ⟨ret_bool Ho.out.symm, b_new _ _⟩
  · have td := eq_f _ _ h
    have Ho : Hid (onB d W = bitB d W) := Lib.hid (by unfold onB; rw [td]; rfl)
    clear h
    go_enter Tryd.func29, Tryd.ntmps29
    go_wp2
    go_ret
    exact ⟨ret_bool Ho.out.symm, b_new _ _⟩
theorem dayBefore_any (W : Int) (w : World) (w1 : 1 ≤ W) (w2 : W ≤ 7) :
    Calls Tryd.prog 30 #[.int .i64 W] w fun e w' => e = .returned (.int .i64 (pw W)) ∧ w = w' := by
  have H : Hid ((W + 7 - 2) % 7 + 1 = pw W) := Lib.hid (by unfold pw; rw [show W + 7 - 2 = W + 5 by omega])
  go_enter Tryd.func30, Tryd.ntmps30
  go_wp2
  go_ret
  exact ⟨by rw [H.out]; rfl, rfl⟩
/-- What Day returns. -/
def dayB (d s e W N : Int) : Bool :=
  if s = e then onB d W else if s < e then onB d W && decide (s ≤ N) && decide (N < e) else onB d W && decide (s ≤ N) || onB d (pw W) && decide (N < e)
theorem dayB_eq {d s e W N : Int} (h : s = e) : dayB d s e W N = onB d W := by unfold dayB; rw [if_pos h]
theorem dayB_lt {d s e W N : Int} (h : s < e) : dayB d s e W N = (onB d W && decide (s ≤ N) && decide (N < e)) := by unfold dayB; rw [if_neg (by omega), if_pos h]
theorem dayB_gt {d s e W N : Int} (h : e < s) : dayB d s e W N = (onB d W && decide (s ≤ N) || onB d (pw W) && decide (N < e)) := by unfold dayB; rw [if_neg (by omega), if_neg (by omega)]
set_option maxRecDepth 100000 in
set_option maxHeartbeats 2000000 in
theorem day_any (d s e Y M D W N : Int) (w : World) (d0 : 0 ≤ d) (d1 : d ≤ 127) (w1 : 1 ≤ W) (w2 : W ≤ 7) :
    Calls Tryd.prog 33 #[.int .i64 d, .int .i64 s, .int .i64 e, .agg #[.int .i64 Y, .int .i64 M, .int .i64 D, .int .i64 W, .int .i64 N]] w fun e' w' => e' = .returned (.bool (dayB d s e W N)) ∧ Below w.heap.size w w' := by
  have C1 := Lib.hid (fun X => on_any d W X d0 d1 w1 w2)
  have p := pw_bd W
  have C2 := Lib.hid (fun X => on_any d (pw W) X d0 d1 p.1 p.2)
  have HP : Hid ((W + 5) % 7 + 1 = pw W) := Lib.hid rfl
  clear p
  by_cases h : s = e
  · have HB := Lib.hid (dayB_eq (d := d) (W := W) (N := N) h)
    subst h
    obtain ⟨T, hT⟩ : ∃ T, T = onB d W := ⟨_, rfl⟩
    rw [← hT] at C1 HB
    clear hT
    go_enter Tryd.func33, Tryd.ntmps33
    go_wp2_with fail
    refine (C1.out _).mono ?_
    rintro e w3 ⟨rfl, rfl⟩
    go_wp2_with fail
    go_ret
    exact ⟨ret_bool HB.out.symm, b_new _ _⟩
  · have h1 := eq_f _ _ h
    by_cases h2 : s < e
    · have HB := Lib.hid (dayB_lt (d := d) (W := W) (N := N) h2)
      obtain ⟨T, hT⟩ : ∃ T, T = onB d W := ⟨_, rfl⟩
      rw [← hT] at C1 HB
      clear hT h
      cases T with
      | false =>
        go_enter Tryd.func33, Tryd.ntmps33
        go_wp2_with fail
        refine (C1.out _).mono ?_
        rintro e w3 ⟨rfl, rfl⟩
        go_wp2_with fail
        go_ret
        exact ⟨ret_bool HB.out.symm, b_new _ _⟩
      | true =>
        by_cases h3 : s ≤ N
        · rw [decide_eq_true h3] at HB
          go_enter Tryd.func33, Tryd.ntmps33
          go_wp2_with fail
          refine (C1.out _).mono ?_
          rintro e w3 ⟨rfl, rfl⟩
          go_wp2_with fail
          go_ret
          exact ⟨ret_bool (by rw [HB.out]; simp), b_new _ _⟩
        · rw [decide_eq_false h3] at HB
          have h3 : N < s := by omega
          go_enter Tryd.func33, Tryd.ntmps33
          go_wp2_with fail
          refine (C1.out _).mono ?_
          rintro e w3 ⟨rfl, rfl⟩
          go_wp2_with fail
          go_ret
          exact ⟨ret_bool (by rw [HB.out]; simp; try omega), b_new _ _⟩
    · have h3 : e < s := by omega
      have HB := Lib.hid (dayB_gt (d := d) (W := W) (N := N) h3)
      obtain ⟨T, hT⟩ : ∃ T, T = onB d W := ⟨_, rfl⟩
      obtain ⟨U, hU⟩ : ∃ U, U = onB d (pw W) := ⟨_, rfl⟩
      obtain ⟨K, hK⟩ : ∃ K, K = pw W := ⟨_, rfl⟩
      rw [← hT] at C1 HB
      rw [← hU] at C2 HB
      rw [← hK] at C2 HP
      have x2 : decide (s < e) = false := decide_eq_false h2
      clear hT hU h hK h2
      by_cases h4 : s ≤ N
      · rw [decide_eq_true h4] at HB
        have x4 : decide (s ≤ N) = true := decide_eq_true h4
        cases T <;> cases U <;>
        · go_enter Tryd.func33, Tryd.ntmps33
          go_wp2_with fail
          refine (C1.out _).mono ?_
          rintro e w3 ⟨rfl, rfl⟩
          go_wp2_with fail
          rw [HP.out]
          refine (C2.out _).mono ?_
          rintro e w3 ⟨rfl, rfl⟩
          go_wp2_with fail
          go_ret
          exact ⟨ret_bool (by rw [HB.out]; simp), b_new _ _⟩
      · rw [decide_eq_false h4] at HB
        have h4 : N < s := by omega
        cases T <;> cases U <;>
        · go_enter Tryd.func33, Tryd.ntmps33
          go_wp2_with fail
          refine (C1.out _).mono ?_
          rintro e w3 ⟨rfl, rfl⟩
          go_wp2_with fail
          rw [HP.out]
          refine (C2.out _).mono ?_
          rintro e w3 ⟨rfl, rfl⟩
          go_wp2_with fail
          go_ret
          exact ⟨ret_bool (by rw [HB.out]; simp; try omega), b_new _ _⟩
end Go.Proofs.YtmapkiefmbgdoaaDoor
