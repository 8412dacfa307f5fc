/-
  What Date, Summer, Offset and Local return, in the package calendar and in its reference.
-/
import Derived.Test.YtmapkiefmbgdoabDoorCalC
namespace Go.Proofs.YtmapkiefmbgdoabDoor
open Go.RowKit
open Cal

theorem bcell {W w1 : World} (hb : Below W.heap.size W w1) : (∀ b o, b < W.heap.size → w1.cell? ⟨b, o, none⟩ = W.cell? ⟨b, o, none⟩) ∧ (∀ b o, b < W.heap.size → w1.frozen? ⟨b, o, none⟩ = W.frozen? ⟨b, o, none⟩) :=
  ⟨fun b o h => hb.cell (p := ⟨b, o, none⟩) h, fun b o h => hb.frozen (p := ⟨b, o, none⟩) h⟩
theorem b2 {w w1 w2 : World} (h1 : Below w.heap.size w w1) (h2 : Below w1.heap.size w1 w2) : Below w.heap.size w w2 := h1.trans (h2.mono h1.size)
theorem b_new (w : World) (o : Obj) : Below w.heap.size w (w.alloc o) := (Below.refl _ _).alloc (Nat.le_refl _) _
theorem b_five {B : Nat} {w w1 : World} {b : Nat} (h : Below B w w1) (hb : B ≤ b) (a1 a2 a3 a4 a5 : Value) : Below B w (((((w1.setCell ⟨b, 0, none⟩ a1).setCell ⟨b, 1, none⟩ a2).setCell ⟨b, 2, none⟩ a3).setCell ⟨b, 3, none⟩ a4).setCell ⟨b, 4, none⟩ a5) :=
  ((((h.setCell (p := ⟨b, 0, none⟩) hb a1).setCell (p := ⟨b, 1, none⟩) hb a2).setCell (p := ⟨b, 2, none⟩) hb a3).setCell (p := ⟨b, 3, none⟩) hb a4).setCell (p := ⟨b, 4, none⟩) hb a5
theorem dateV_agg (m : Int) : ∃ Y M D W N, dateV m = .agg #[.int .i64 Y, .int .i64 M, .int .i64 D, .int .i64 W, .int .i64 N] := ⟨_, _, _, _, _, rfl⟩
/-- A date of zeros. -/
def zeroV : Value := .agg #[.int .i64 0, .int .i64 0, .int .i64 0, .int .i64 0, .int .i64 0]

/-! ### Summer -/
noncomputable def summerB (t : Int) : Bool := decide (0 ≤ t ∧ t ≤ 268435456) && (decide (sunday (yr (t / 1440)) 3 * 1440 + 60 ≤ t) && decide (t < sunday (yr (t / 1440)) 10 * 1440 + 60))
theorem summer_out (t : Int) (h : t < 0 ∨ 268435456 < t) : summerB t = false := by
  unfold summerB; rw [decide_eq_false (by omega)]; rfl
theorem year_time (t : Int) (h0 : 0 ≤ t) (h1 : t ≤ 268435456) : 2000 ≤ yr (t / 1440) ∧ yr (t / 1440) ≤ 2510 := by
  obtain ⟨c1, c2, _⟩ := isC_civ (t / 1440) (by omega) (by omega)
  constructor
  · by_cases h : 2000 ≤ yr (t / 1440)
    · exact h
    · have := ys_mono (yr (t / 1440) + 1) 2000 (by omega); rw [ys_2000] at this; omega
  · by_cases h : yr (t / 1440) ≤ 2510
    · exact h
    · have := ys_mono 2511 (yr (t / 1440)) (by omega); have := ys_2511; omega

set_option maxHeartbeats 1000000 in
theorem summer_any (t : Int) (w : World) (hT : Tab w) :
    Calls Tryd.prog 65 #[.int .i64 t] w fun e w' => e = .returned (.bool (summerB t)) ∧ w = w' := by
  by_cases h : t < 0 ∨ 268435456 < t
  · have Ht := Lib.hid (fun W => isTime_no t W h)
    have Hs := Lib.hid (summer_out t h)
    clear h
    go_enter Tryd.func65, Tryd.ntmps65
    go_wp2_with fail
    refine (Ht.out _).mono ?_
    rintro e w1 ⟨rfl, rfl⟩
    go_wp2_with fail
    go_ret
    exact ⟨ret_bool Hs.out.symm, rfl⟩
  · have h0 : 0 ≤ t := by omega
    have h1 : t ≤ 268435456 := by omega
    obtain ⟨y1, y2⟩ := year_time t h0 h1
    have Hy := Lib.hid (fun W => yearOf_any (t / 1440) W (by omega) (by omega))
    obtain ⟨Y, hY⟩ : ∃ Y, Y = yr (t / 1440) := ⟨_, rfl⟩
    have Hs : Hid (summerB t = (decide (sunday Y 3 * 1440 + 60 ≤ t) && decide (t < sunday Y 10 * 1440 + 60))) := Lib.hid (by
      unfold summerB; rw [decide_eq_true (⟨h0, h1⟩ : 0 ≤ t ∧ t ≤ 268435456), ← hY]; rfl)
    rw [← hY] at y1 y2 Hy
    obtain ⟨s1, s2⟩ := sunday_bd Y 3 (by omega) (by omega) (by decide) (by decide)
    obtain ⟨s3, s4⟩ := sunday_bd Y 10 (by omega) (by omega) (by decide) (by decide)
    have H3 := Lib.hid (fun W hW => lastSunday_any Y 3 W hW y1 (by omega) (by decide) (by decide) (by unfold ml; simp))
    have H10 := Lib.hid (fun W hW => lastSunday_any Y 10 W hW y1 (by omega) (by decide) (by decide) (by unfold ml; simp))
    clear hY h
    by_cases c1 : sunday Y 3 * 1440 + 60 ≤ t
    · go_enter Tryd.func65, Tryd.ntmps65
      go_wp2_with fail
      refine (isTime_yes t _ h0 h1).mono ?_
      rintro e w1 ⟨rfl, rfl⟩
      go_wp2_with fail
      refine (Hy.out _).mono ?_
      rintro e w1 ⟨rfl, rfl⟩
      go_wp2_with fail
      refine (H3.out _ hT).mono ?_
      rintro e w1 ⟨rfl, rfl⟩
      go_wp2_with fail
      refine (H10.out _ hT).mono ?_
      rintro e w1 ⟨rfl, rfl⟩
      go_wp2_with fail
      go_ret
      exact ⟨ret_bool (by rw [Hs.out, decide_eq_true c1, Bool.true_and]), rfl⟩
    · have c1' := decide_eq_false c1
      have C1 := Lib.hid c1
      clear c1
      go_enter Tryd.func65, Tryd.ntmps65
      go_wp2_with fail
      refine (isTime_yes t _ h0 h1).mono ?_
      rintro e w1 ⟨rfl, rfl⟩
      go_wp2_with fail
      refine (Hy.out _).mono ?_
      rintro e w1 ⟨rfl, rfl⟩
      go_wp2_with fail
      refine (H3.out _ hT).mono ?_
      rintro e w1 ⟨rfl, rfl⟩
      go_wp2_with fail
      refine (H10.out _ hT).mono ?_
      rintro e w1 ⟨rfl, rfl⟩
      go_wp2_with fail
      go_ret
      exact ⟨ret_bool (by rw [Hs.out, decide_eq_false (by have := C1.out; omega), Bool.false_and]), rfl⟩
end Go.Proofs.YtmapkiefmbgdoabDoor
