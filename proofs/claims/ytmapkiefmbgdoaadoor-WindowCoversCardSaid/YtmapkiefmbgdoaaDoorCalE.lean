/-
  What Summer of the reference, Offset and Local return, in the package calendar and in its reference.
-/
import Derived.Test.YtmapkiefmbgdoaaDoorCalD
namespace Go.Proofs.YtmapkiefmbgdoaaDoor
open Go.RowKit
open Cal

/-- The Sunday of the last seven days of a month of 31 days, reckoned from a day of it. -/
def sund (D W : Int) : Int := 31 - (31 - (D - W % 7)) % 7
def aftB (M D W N m : Int) : Bool := if M = m then decide (sund D W < D) || (decide (D = sund D W) && decide (60 ≤ N)) else decide (m < M)

set_option maxHeartbeats 1000000 in
theorem after_any (Y M D W N m : Int) (w : World) (d1 : 1 ≤ D) (d2 : D ≤ 31) (w1 : 1 ≤ W) (w2 : W ≤ 7) :
    Calls Tryd.prog 93 #[.agg #[.int .i64 Y, .int .i64 M, .int .i64 D, .int .i64 W, .int .i64 N], .int .i64 m] w fun e w' => e = .returned (.bool (aftB M D W N m)) ∧ Below w.heap.size w w' := by
  by_cases hm : M = m
  · have t1 := ne_f _ _ hm
    have Ha : Hid (aftB M D W N m = (decide (sund D W < D) || (decide (D = sund D W) && decide (60 ≤ N)))) := Lib.hid (by unfold aftB; rw [if_pos hm])
    clear hm
    go_enter Tryd.func93, Tryd.ntmps93
    go_wp2_with fail
    go_loop [5] (fun s => ∃ x : Int, x ≤ 31 ∧ -7 ≤ x ∧ Hid ((31 - x) % 7 = (31 - (D - W % 7)) % 7) ∧ s = .int .i64 x) (fun s => (31 - intOf s).toNat)
    case atStart => exact ⟨D - W % 7, by omega, by omega, rfl, rfl⟩
    case round =>
      obtain ⟨x, x1, x2, Hx, rfl⟩ := hrel
      by_cases hlt : x + 7 ≤ 31
      · have Hn : Hid ((31 - (x + 7)) % 7 = (31 - (D - W % 7)) % 7) := Lib.hid (by have := Hx.out; omega)
        go_wp2_with fail
        go_round
        case rel => exact ⟨x + 7, by omega, by omega, Hn, rfl⟩
        case measure => simp [intOf]; omega
      · have hx : x = sund D W := by unfold sund; have := Hx.out; omega
        have HX := Lib.hid hx
        clear hx hlt
        have hx3 : 31 < x + 7 := by have := HX.out; unfold sund at this; omega
        by_cases c1 : x < D
        · go_wp2_with fail
          go_ret
          exact ⟨ret_bool (by rw [Ha.out, decide_eq_true (by rw [← HX.out]; exact c1)]; rfl), b_new _ _⟩
        · have c1' := decide_eq_false c1
          by_cases c2 : D = x
          · have t2 := eq_t _ _ c2
            have C2 := Lib.hid c2
            clear c2 c1
            by_cases c3 : 60 ≤ N
            · go_wp2_with fail
              go_ret
              exact ⟨ret_bool (by rw [Ha.out, decide_eq_true (show D = sund D W by rw [← HX.out]; exact C2.out), decide_eq_true c3]; simp), b_new _ _⟩
            · have c3' := decide_eq_false c3
              have C3 := Lib.hid c3
              clear c3
              go_wp2_with fail
              go_ret
              exact ⟨ret_bool (by rw [Ha.out, decide_eq_false (show ¬ sund D W < D by rw [← HX.out, C2.out]; omega), decide_eq_false (show ¬ 60 ≤ N by have := C3.out; omega)]; simp), b_new _ _⟩
          · have t2 := eq_f _ _ c2
            have C2 := Lib.hid c2
            have C1 := Lib.hid (show D < x by omega)
            clear c2 c1
            go_wp2_with fail
            go_ret
            exact ⟨ret_bool (by rw [Ha.out, decide_eq_false (show ¬ sund D W < D by rw [← HX.out]; have := C1.out; omega), decide_eq_false (show ¬ D = sund D W by rw [← HX.out]; have := C1.out; omega)]; rfl), b_new _ _⟩
  · have t1 := ne_t _ _ hm
    have Ha : Hid (aftB M D W N m = decide (m < M)) := Lib.hid (by unfold aftB; rw [if_neg hm])
    clear hm
    go_enter Tryd.func93, Tryd.ntmps93
    go_wp2_with fail
    go_ret
    exact ⟨ret_bool Ha.out.symm, b_new _ _⟩

theorem dy_bd (d : Int) (h0 : -365 ≤ d) (h1 : d ≤ 365000) : 1 ≤ dy d ∧ dy d ≤ ml (yr d) (mo d) := by
  obtain ⟨c1, c2, c3, c4, c5, c6⟩ := isC_civ d h0 h1
  have := cum_succ (yr d) (mo d) c3 c4
  unfold dy; omega

/-- To be after the change, is to have a time from it on. -/
theorem aft_sunday (t m : Int) (h0 : 0 ≤ t) (h1 : t ≤ 268435456) (hm : m = 3 ∨ m = 10) :
    aftB (mo (t / 1440)) (dy (t / 1440)) (wd (t / 1440)) (t % 1440) m = decide (sunday (yr (t / 1440)) m * 1440 + 60 ≤ t) := by
  obtain ⟨d, hd⟩ : ∃ d, d = t / 1440 := ⟨_, rfl⟩
  rw [← hd]
  have d0 : 0 ≤ d := by omega
  have d1 : d ≤ 186500 := by omega
  obtain ⟨c1, c2, c3, c4, c5, c6⟩ := isC_civ d (by omega) (by omega)
  have hs := cum_succ (yr d) (mo d) c3 c4
  have h31 : ml (yr d) m = 31 := by unfold ml; rcases hm with rfl | rfl <;> simp
  have hsm := cum_succ (yr d) m (by omega) (by omega)
  obtain ⟨e1, e2⟩ := dy_bd d (by omega) (by omega)
  have hdy : dy d = d - ys (yr d) - cum (yr d) (mo d) + 1 := rfl
  unfold aftB
  by_cases hmm : mo d = m
  · rw [if_pos hmm, Bool.eq_iff_iff]
    rw [hmm] at hdy e2 hs c5 c6
    rw [h31] at e2
    simp only [Bool.or_eq_true, Bool.and_eq_true, decide_eq_true_eq]
    unfold sund sunday wd
    rw [hdy]
    omega
  · rw [if_neg hmm, decide_eq_decide]
    by_cases hlt : m < mo d
    · have := cum_mono (yr d) (m + 1) (mo d) (by omega) (by omega) (by omega)
      refine ⟨fun _ => ?_, fun _ => hlt⟩
      unfold sunday wd; omega
    · have := cum_mono (yr d) (mo d + 1) m (by omega) (by omega) (by omega)
      refine ⟨fun h => absurd h hlt, fun h => ?_⟩
      unfold sunday wd at h; omega

theorem summer_aft (t : Int) (h0 : 0 ≤ t) (h1 : t ≤ 268435456) :
    summerB t = (aftB (mo (t / 1440)) (dy (t / 1440)) (wd (t / 1440)) (t % 1440) 3 && !aftB (mo (t / 1440)) (dy (t / 1440)) (wd (t / 1440)) (t % 1440) 10) := by
  rw [aft_sunday t 3 h0 h1 (.inl rfl), aft_sunday t 10 h0 h1 (.inr rfl)]
  unfold summerB
  rw [decide_eq_true (⟨h0, h1⟩ : 0 ≤ t ∧ t ≤ 268435456), Bool.true_and]
  congr 1
  rw [Bool.eq_iff_iff]; simp

set_option maxHeartbeats 1000000 in
theorem refSummer_any (t : Int) (w : World) :
    Calls Tryd.prog 79 #[.int .i64 t] w fun e w' => e = .returned (.bool (summerB t)) ∧ Below w.heap.size w w' := by
  by_cases h : t < 0 ∨ 268435456 < t
  · have Ht := Lib.hid (fun W => right_no t W h)
    have Hs := Lib.hid (summer_out t h)
    clear h
    go_enter Tryd.func79, Tryd.ntmps79
    go_wp2_with fail
    refine (Ht.out _).mono ?_
    rintro e w1 ⟨rfl, rfl⟩
    go_wp2_with fail
    go_ret
    exact ⟨ret_bool Hs.out.symm, Below.refl _ _⟩
  · have h0 : 0 ≤ t := by omega
    have h1 : t ≤ 268435456 := by omega
    have hsa := summer_aft t h0 h1
    obtain ⟨e1, e2⟩ := dy_bd (t / 1440) (by omega) (by omega)
    have e3 := ml_bd (yr (t / 1440)) (mo (t / 1440))
    have e4 : 1 ≤ wd (t / 1440) ∧ wd (t / 1440) ≤ 7 := by unfold wd; omega
    obtain ⟨Y, M, D, W, N, hY, hM, hD, hW, hN⟩ : ∃ Y M D W N, Y = yr (t / 1440) ∧ M = mo (t / 1440) ∧ D = dy (t / 1440) ∧ W = wd (t / 1440) ∧ N = t % 1440 := ⟨_, _, _, _, _, rfl, rfl, rfl, rfl, rfl⟩
    have Hc : Hid (∀ X, Calls Tryd.prog 53 #[.int .i64 t] X fun e w' => e = .returned (.agg #[.int .i64 Y, .int .i64 M, .int .i64 D, .int .i64 W, .int .i64 N]) ∧ Below X.heap.size X w') := Lib.hid (fun X => by
      have := refCivil_any t X (by omega) (by omega)
      rw [hY, hM, hD, hW, hN]; exact this)
    have d1 : 1 ≤ D := by omega
    have d2 : D ≤ 31 := by omega
    have w1 : 1 ≤ W := by omega
    have w2 : W ≤ 7 := by omega
    rw [← hM, ← hD, ← hW, ← hN] at hsa
    have H3 : Hid (∀ X, Calls Tryd.prog 93 #[.agg #[.int .i64 Y, .int .i64 M, .int .i64 D, .int .i64 W, .int .i64 N], .int .i64 3] X fun e w' => e = .returned (.bool (aftB M D W N 3)) ∧ Below X.heap.size X w') := Lib.hid (fun X => after_any Y M D W N 3 X d1 d2 w1 w2)
    have H10 : Hid (∀ X, Calls Tryd.prog 93 #[.agg #[.int .i64 Y, .int .i64 M, .int .i64 D, .int .i64 W, .int .i64 N], .int .i64 10] X fun e w' => e = .returned (.bool (aftB M D W N 10)) ∧ Below X.heap.size X w') := Lib.hid (fun X => after_any Y M D W N 10 X d1 d2 w1 w2)
    have Hs := Lib.hid hsa
    clear hY hM hD hW hN hsa e1 e2 e3 e4 h d1 d2 w1 w2
    cases c3 : aftB M D W N 3 with
    | false =>
      rw [c3] at H3 Hs
      go_enter Tryd.func79, Tryd.ntmps79
      go_wp2_with fail
      refine (right_yes t _ h0 h1).mono ?_
      rintro e w1 ⟨rfl, rfl⟩
      go_wp2_with fail
      refine (Hc.out _).mono ?_
      rintro e w1 ⟨rfl, g1⟩
      go_wp2_with fail
      refine (H3.out _).mono ?_
      rintro e w2 ⟨rfl, g2⟩
      go_wp2_with fail
      go_ret
      exact ⟨ret_bool (by rw [Hs.out]; rfl), b2 (b2 g1 (b_new _ _)) g2⟩
    | true =>
      rw [c3] at H3 Hs
      go_enter Tryd.func79, Tryd.ntmps79
      go_wp2_with fail
      refine (right_yes t _ h0 h1).mono ?_
      rintro e w1 ⟨rfl, rfl⟩
      go_wp2_with fail
      refine (Hc.out _).mono ?_
      rintro e w1 ⟨rfl, g1⟩
      go_wp2_with fail
      refine (H3.out _).mono ?_
      rintro e w2 ⟨rfl, g2⟩
      obtain ⟨hc, hf⟩ := bcell g2
      have G2 := Lib.hid g2
      clear g2
      go_wp2_with fail
      refine (H10.out _).mono ?_
      rintro e w3 ⟨rfl, g3⟩
      go_wp2_with fail
      go_ret
      exact ⟨ret_bool (by rw [Hs.out]; rfl), b2 (b2 (b2 g1 (b_new _ _)) G2.out) g3⟩
end Go.Proofs.YtmapkiefmbgdoaaDoor
