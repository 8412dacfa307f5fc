/-
  What Next returns outside its range, in the package calendar; and what Next of the reference returns.
-/
import Derived.Test.YtkimniggdnlliaaDoorCalJ
namespace Go.Proofs.YtkimniggdnlliaaDoor
open Go.RowKit
open Cal

/-- What Next is asked for is in range. -/
def Asked (o days minute : Int) : Prop := -840 ≤ o ∧ o ≤ 840 ∧ 0 ≤ days ∧ days ≤ 127 ∧ 0 ≤ minute ∧ minute ≤ 1439

set_option maxHeartbeats 400000 in
theorem next_zone (o t days minute : Int) (sm : Bool) (w : World) (h : o < -840 ∨ 840 < o) :
    Calls Tryd.prog 26 #[.agg #[.int .i64 o, .bool sm], .int .i64 t, .int .i64 days, .int .i64 minute] w fun e w' => e = .returned (.tuple #[.int .i64 0, .int .i64 1]) ∧ Below w.heap.size w w' := by
  have Hz := Lib.hid (fun W => zone_no o sm W h)
  clear h
  go_enter Tryd.func26, Tryd.ntmps26
  go_wp2_with fail
  refine (Hz.out _).mono ?_
  rintro e w1 ⟨rfl, g1⟩
  go_wp2_with fail
  go_ret2
  exact ⟨rfl, b2 (b_new _ _) g1⟩

set_option maxHeartbeats 400000 in
theorem next_bad0 (o t days minute : Int) (sm : Bool) (w : World) (h0 : -840 ≤ o) (h1 : o ≤ 840)  (n0 : days < 0) :
    Calls Tryd.prog 26 #[.agg #[.int .i64 o, .bool sm], .int .i64 t, .int .i64 days, .int .i64 minute] w fun e w' => e = .returned (.tuple #[.int .i64 0, .int .i64 1]) ∧ Below w.heap.size w w' := by
  go_enter Tryd.func26, Tryd.ntmps26
  go_wp2_with fail
  refine (zone_yes o sm _ h0 h1).mono ?_
  rintro e w1 ⟨rfl, g1⟩
  go_wp2_with fail
  go_ret2
  exact ⟨rfl, b2 (b_new _ _) g1⟩

set_option maxHeartbeats 400000 in
theorem next_bad1 (o t days minute : Int) (sm : Bool) (w : World) (h0 : -840 ≤ o) (h1 : o ≤ 840) (c0 : 0 ≤ days) (n1 : 127 < days) :
    Calls Tryd.prog 26 #[.agg #[.int .i64 o, .bool sm], .int .i64 t, .int .i64 days, .int .i64 minute] w fun e w' => e = .returned (.tuple #[.int .i64 0, .int .i64 1]) ∧ Below w.heap.size w w' := by
  go_enter Tryd.func26, Tryd.ntmps26
  go_wp2_with fail
  refine (zone_yes o sm _ h0 h1).mono ?_
  rintro e w1 ⟨rfl, g1⟩
  go_wp2_with fail
  go_ret2
  exact ⟨rfl, b2 (b_new _ _) g1⟩

set_option maxHeartbeats 400000 in
theorem next_bad2 (o t days minute : Int) (sm : Bool) (w : World) (h0 : -840 ≤ o) (h1 : o ≤ 840) (c0 : 0 ≤ days) (c1 : days ≤ 127) (n2 : minute < 0) :
    Calls Tryd.prog 26 #[.agg #[.int .i64 o, .bool sm], .int .i64 t, .int .i64 days, .int .i64 minute] w fun e w' => e = .returned (.tuple #[.int .i64 0, .int .i64 1]) ∧ Below w.heap.size w w' := by
  go_enter Tryd.func26, Tryd.ntmps26
  go_wp2_with fail
  refine (zone_yes o sm _ h0 h1).mono ?_
  rintro e w1 ⟨rfl, g1⟩
  go_wp2_with fail
  go_ret2
  exact ⟨rfl, b2 (b_new _ _) g1⟩

set_option maxHeartbeats 400000 in
theorem next_bad3 (o t days minute : Int) (sm : Bool) (w : World) (h0 : -840 ≤ o) (h1 : o ≤ 840) (c0 : 0 ≤ days) (c1 : days ≤ 127) (c2 : 0 ≤ minute) (n3 : 1439 < minute) :
    Calls Tryd.prog 26 #[.agg #[.int .i64 o, .bool sm], .int .i64 t, .int .i64 days, .int .i64 minute] w fun e w' => e = .returned (.tuple #[.int .i64 0, .int .i64 1]) ∧ Below w.heap.size w w' := by
  go_enter Tryd.func26, Tryd.ntmps26
  go_wp2_with fail
  refine (zone_yes o sm _ h0 h1).mono ?_
  rintro e w1 ⟨rfl, g1⟩
  go_wp2_with fail
  go_ret2
  exact ⟨rfl, b2 (b_new _ _) g1⟩

theorem next_bad (o t days minute : Int) (sm : Bool) (w : World) (h : ¬ Asked o days minute) :
    Calls Tryd.prog 26 #[.agg #[.int .i64 o, .bool sm], .int .i64 t, .int .i64 days, .int .i64 minute] w fun e w' => e = .returned (.tuple #[.int .i64 0, .int .i64 1]) ∧ Below w.heap.size w w' := by
  by_cases z : o < -840 ∨ 840 < o
  · exact next_zone o t days minute sm w z
  · have h0 : -840 ≤ o := by omega
    have h1 : o ≤ 840 := by omega
    by_cases c0 : 0 ≤ days
    · by_cases c1 : days ≤ 127
      · by_cases c2 : 0 ≤ minute
        · by_cases c3 : minute ≤ 1439
          · exact absurd ⟨h0, h1, c0, c1, c2, c3⟩ h
          · exact next_bad3 o t days minute sm w h0 h1 c0 c1 c2 (by omega)
        · exact next_bad2 o t days minute sm w h0 h1 c0 c1 (by omega)
      · exact next_bad1 o t days minute sm w h0 h1 c0 (by omega)
    · exact next_bad0 o t days minute sm w h0 h1 (by omega)

set_option maxHeartbeats 400000 in
theorem refNext_zone (o t days minute : Int) (sm : Bool) (w : World) (h : o < -840 ∨ 840 < o) :
    Calls Tryd.prog 27 #[.agg #[.int .i64 o, .bool sm], .int .i64 t, .int .i64 days, .int .i64 minute] w fun e w' => e = .returned (.tuple #[.int .i64 0, .int .i64 1]) ∧ Below w.heap.size w w' := by
  have Hz := Lib.hid (fun W => refZone_no o sm W h)
  clear h
  go_enter Tryd.func27, Tryd.ntmps27
  go_wp2_with fail
  refine (Hz.out _).mono ?_
  rintro e w1 ⟨rfl, g1⟩
  go_wp2_with fail
  go_ret2
  exact ⟨rfl, b2 (b_new _ _) g1⟩

set_option maxHeartbeats 400000 in
theorem refNext_bad0 (o t days minute : Int) (sm : Bool) (w : World) (h0 : -840 ≤ o) (h1 : o ≤ 840)  (n0 : days < 0) :
    Calls Tryd.prog 27 #[.agg #[.int .i64 o, .bool sm], .int .i64 t, .int .i64 days, .int .i64 minute] w fun e w' => e = .returned (.tuple #[.int .i64 0, .int .i64 1]) ∧ Below w.heap.size w w' := by
  go_enter Tryd.func27, Tryd.ntmps27
  go_wp2_with fail
  refine (refZone_yes o sm _ h0 h1).mono ?_
  rintro e w1 ⟨rfl, g1⟩
  go_wp2_with fail
  go_ret2
  exact ⟨rfl, b2 (b_new _ _) g1⟩

set_option maxHeartbeats 400000 in
theorem refNext_bad1 (o t days minute : Int) (sm : Bool) (w : World) (h0 : -840 ≤ o) (h1 : o ≤ 840) (c0 : 0 ≤ days) (n1 : 127 < days) :
    Calls Tryd.prog 27 #[.agg #[.int .i64 o, .bool sm], .int .i64 t, .int .i64 days, .int .i64 minute] w fun e w' => e = .returned (.tuple #[.int .i64 0, .int .i64 1]) ∧ Below w.heap.size w w' := by
  go_enter Tryd.func27, Tryd.ntmps27
  go_wp2_with fail
  refine (refZone_yes o sm _ h0 h1).mono ?_
  rintro e w1 ⟨rfl, g1⟩
  go_wp2_with fail
  go_ret2
  exact ⟨rfl, b2 (b_new _ _) g1⟩

set_option maxHeartbeats 400000 in
theorem refNext_bad2 (o t days minute : Int) (sm : Bool) (w : World) (h0 : -840 ≤ o) (h1 : o ≤ 840) (c0 : 0 ≤ days) (c1 : days ≤ 127) (n2 : minute < 0) :
    Calls Tryd.prog 27 #[.agg #[.int .i64 o, .bool sm], .int .i64 t, .int .i64 days, .int .i64 minute] w fun e w' => e = .returned (.tuple #[.int .i64 0, .int .i64 1]) ∧ Below w.heap.size w w' := by
  go_enter Tryd.func27, Tryd.ntmps27
  go_wp2_with fail
  refine (refZone_yes o sm _ h0 h1).mono ?_
  rintro e w1 ⟨rfl, g1⟩
  go_wp2_with fail
  go_ret2
  exact ⟨rfl, b2 (b_new _ _) g1⟩

set_option maxHeartbeats 400000 in
theorem refNext_bad3 (o t days minute : Int) (sm : Bool) (w : World) (h0 : -840 ≤ o) (h1 : o ≤ 840) (c0 : 0 ≤ days) (c1 : days ≤ 127) (c2 : 0 ≤ minute) (n3 : 1439 < minute) :
    Calls Tryd.prog 27 #[.agg #[.int .i64 o, .bool sm], .int .i64 t, .int .i64 days, .int .i64 minute] w fun e w' => e = .returned (.tuple #[.int .i64 0, .int .i64 1]) ∧ Below w.heap.size w w' := by
  go_enter Tryd.func27, Tryd.ntmps27
  go_wp2_with fail
  refine (refZone_yes o sm _ h0 h1).mono ?_
  rintro e w1 ⟨rfl, g1⟩
  go_wp2_with fail
  go_ret2
  exact ⟨rfl, b2 (b_new _ _) g1⟩

theorem refNext_bad (o t days minute : Int) (sm : Bool) (w : World) (h : ¬ Asked o days minute) :
    Calls Tryd.prog 27 #[.agg #[.int .i64 o, .bool sm], .int .i64 t, .int .i64 days, .int .i64 minute] w fun e w' => e = .returned (.tuple #[.int .i64 0, .int .i64 1]) ∧ Below w.heap.size w w' := by
  by_cases z : o < -840 ∨ 840 < o
  · exact refNext_zone o t days minute sm w z
  · have h0 : -840 ≤ o := by omega
    have h1 : o ≤ 840 := by omega
    by_cases c0 : 0 ≤ days
    · by_cases c1 : days ≤ 127
      · by_cases c2 : 0 ≤ minute
        · by_cases c3 : minute ≤ 1439
          · exact absurd ⟨h0, h1, c0, c1, c2, c3⟩ h
          · exact refNext_bad3 o t days minute sm w h0 h1 c0 c1 c2 (by omega)
        · exact refNext_bad2 o t days minute sm w h0 h1 c0 c1 (by omega)
      · exact refNext_bad1 o t days minute sm w h0 h1 c0 (by omega)
    · exact refNext_bad0 o t days minute sm w h0 h1 (by omega)

set_option maxHeartbeats 400000 in
theorem next_range (o t days minute : Int) (sm : Bool) (w : World) (h : Asked o days minute) (ht : t < 0 ∨ 268435456 < t) :
    Calls Tryd.prog 26 #[.agg #[.int .i64 o, .bool sm], .int .i64 t, .int .i64 days, .int .i64 minute] w fun e w' => e = .returned (.tuple #[.int .i64 0, .int .i64 2]) ∧ Below w.heap.size w w' := by
  obtain ⟨h0, h1, d0, d1, m0, m1⟩ := h
  have Ht := Lib.hid (fun W => isTime_no t W ht)
  clear ht
  go_enter Tryd.func26, Tryd.ntmps26
  go_wp2_with fail
  refine (zone_yes o sm _ h0 h1).mono ?_
  rintro e w1 ⟨rfl, g1⟩
  go_wp2_with fail
  refine (Ht.out _).mono ?_
  rintro e w2 ⟨rfl, rfl⟩
  go_wp2_with fail
  go_ret2
  exact ⟨rfl, b2 (b_new _ _) g1⟩

set_option maxHeartbeats 400000 in
theorem refNext_range (o t days minute : Int) (sm : Bool) (w : World) (h : Asked o days minute) (ht : t < 0 ∨ 268435456 < t) :
    Calls Tryd.prog 27 #[.agg #[.int .i64 o, .bool sm], .int .i64 t, .int .i64 days, .int .i64 minute] w fun e w' => e = .returned (.tuple #[.int .i64 0, .int .i64 2]) ∧ Below w.heap.size w w' := by
  obtain ⟨h0, h1, d0, d1, m0, m1⟩ := h
  have Ht := Lib.hid (fun W => right_no t W ht)
  clear ht
  go_enter Tryd.func27, Tryd.ntmps27
  go_wp2_with fail
  refine (refZone_yes o sm _ h0 h1).mono ?_
  rintro e w1 ⟨rfl, g1⟩
  go_wp2_with fail
  refine (Ht.out _).mono ?_
  rintro e w2 ⟨rfl, rfl⟩
  go_wp2_with fail
  go_ret2
  exact ⟨rfl, b2 (b_new _ _) g1⟩

theorem on_any (d W : Int) (w : World) (_d0 : 0 ≤ d) (_d1 : d ≤ 127) (w1 : 1 ≤ W) (w2 : W ≤ 7) :
    Calls Tryd.prog 58 #[.int .i64 d, .int .i64 W] w fun e w' => e = .returned (.bool (onB d W)) ∧ w = w' := by
  by_cases h : d = 0
  · have td := eq_t _ _ h
    have Ho : Hid (onB d W = true) := Lib.hid (by unfold onB; rw [td]; rfl)
    clear h
    go_enter Tryd.func58, Tryd.ntmps58
    go_wp2
    go_ret
    exact ⟨ret_bool Ho.out.symm, rfl⟩
  · have td := eq_f _ _ h
    have Ho : Hid (onB d W = bitB d W) := Lib.hid (by unfold onB; rw [td]; rfl)
    clear h
    go_enter Tryd.func58, Tryd.ntmps58
    go_wp2
    go_ret
    exact ⟨ret_bool Ho.out.symm, rfl⟩

theorem dateV_full (m : Int) : ∃ Y M D, dateV m = .agg #[.int .i64 Y, .int .i64 M, .int .i64 D, .int .i64 (wd (m / 1440)), .int .i64 (m % 1440)] := ⟨_, _, _, rfl⟩

set_option maxRecDepth 100000 in
set_option maxHeartbeats 2000000 in
theorem refNext_valid (o : Int) (sm : Bool) (t days minute : Int) (w : World) (h0 : -840 ≤ o) (h1 : o ≤ 840) (t0 : 0 ≤ t) (t1 : t ≤ 268435456) (d0 : 0 ≤ days) (d1 : days ≤ 127) (m0 : 0 ≤ minute) (m1 : minute ≤ 1439) :
    Calls Tryd.prog 27 #[.agg #[.int .i64 o, .bool sm], .int .i64 t, .int .i64 days, .int .i64 minute] w fun e w' => e = .returned (.tuple #[.int .i64 (nextI o sm days minute t).1, .int .i64 (nextI o sm days minute t).2]) ∧ Below w.heap.size w w' := by
  go_enter Tryd.func27, Tryd.ntmps27
  go_wp2_with fail
  refine (refZone_yes o sm _ h0 h1).mono ?_
  rintro e w1 ⟨rfl, g1⟩
  obtain ⟨hc1, hf1⟩ := bcell g1
  have cz0 : w1.cell? ⟨w.heap.size, 0, none⟩ = some (.int .i64 o) := by rw [hc1 _ _ (by simp)]; simp
  have cz1 : w1.cell? ⟨w.heap.size, 1, none⟩ = some (.bool sm) := by rw [hc1 _ _ (by simp)]; simp
  have hz1 : w.heap.size < w1.heap.size := by have := g1.size; simp at this; omega
  have G1 := Lib.hid (b2 (b_new w _) g1)
  have CZ0 := Lib.hid cz0
  have CZ1 := Lib.hid cz1
  clear g1 hc1 hf1
  go_wp2_with fail
  refine (right_yes t _ t0 t1).mono ?_
  rintro e w2 ⟨rfl, rfl⟩
  go_wp2_with fail
  clear cz0 cz1
  go_loopw [10] (fun s wr => ∃ u : Int, s = .int .i64 u ∧ t + 1 ≤ u ∧ u ≤ t + 11521 ∧ Hid (∀ v, v < u → ¬ Cand o sm days minute t v) ∧ Below w1.heap.size w1 wr) (fun s _ => (268460000 - intOf s).toNat)
  case atStart => exact ⟨t + 1, rfl, by omega, by omega, Lib.hid (fun v v1 hc => by have := hc.1; omega), Below.refl _ _⟩
  case round =>
    obtain ⟨u, rfl, u0, u1, Hno, g⟩ := hrel
    have gz0 : wr.cell? ⟨w.heap.size, 0, none⟩ = some (.int .i64 o) := (g.cell (p := ⟨w.heap.size, 0, none⟩) hz1).trans CZ0.out
    have gz1 : wr.cell? ⟨w.heap.size, 1, none⟩ = some (.bool sm) := (g.cell (p := ⟨w.heap.size, 1, none⟩) hz1).trans CZ1.out
    have G := Lib.hid g
    clear g
    by_cases hlt : u ≤ t + 11520
    · by_cases hmax : u ≤ 268435456
      · obtain ⟨b1, b3⟩ := offI_bd o sm u
        obtain ⟨m, hm⟩ : ∃ m, m = u + offI o sm u := ⟨_, rfl⟩
        obtain ⟨Y, M, D, hV⟩ := dateV_full m
        obtain ⟨k1, k2⟩ := wd_bd (m / 1440)
        obtain ⟨W, hW⟩ : ∃ W, W = wd (m / 1440) := ⟨_, rfl⟩
        obtain ⟨N, hN⟩ : ∃ N, N = m % 1440 := ⟨_, rfl⟩
        have Hl : Hid (∀ X, Calls Tryd.prog 21 #[.agg #[.int .i64 o, .bool sm], .int .i64 u] X fun e w' => e = .returned (.tuple #[.agg #[.int .i64 Y, .int .i64 M, .int .i64 D, .int .i64 W, .int .i64 N], .int .i64 0]) ∧ Below X.heap.size X w') := Lib.hid (fun X => by
          have := refLocal_yes o sm u X h0 h1 (by omega) hmax
          rw [← hm, hV, ← hW, ← hN] at this; exact this)
        rw [← hW] at k1 k2
        have HW := Lib.hid hW
        have HN := Lib.hid hN
        have HM := Lib.hid hm
        clear hW hN hV hm b1 b3
        have hdec1 : decide (u ≤ t + 11520) = true := decide_eq_true hlt
        by_cases hn : N = minute
        · have tn := eq_t _ _ hn
          have Hn := Lib.hid hn
          clear hn
          cases ho : onB days W with
          | true =>
            have HO := Lib.hid ho
            have Hon : Hid (∀ X, Calls Tryd.prog 58 #[.int .i64 days, .int .i64 W] X fun e w' => e = .returned (.bool true) ∧ X = w') := Lib.hid (fun X => by
              have := on_any days W X d0 d1 k1 k2; rw [ho] at this; exact this)
            clear ho
            have Hr := Lib.hid (next_some (⟨⟨by omega, hlt, hmax, by rw [← HM.out, ← HN.out]; exact Hn.out, by rw [← HM.out, ← HW.out]; exact HO.out⟩, Hno.out⟩ : First o sm days minute t u))
            go_wp2_with fail
            refine (Hl.out _).mono ?_
            rintro e w2 ⟨rfl, g2⟩
            have G2 := Lib.hid (b2 G.out g2)
            clear g2
            go_wp2_with fail
            refine (Hon.out _).mono ?_
            rintro e w3 ⟨rfl, rfl⟩
            go_wp2_with fail
            go_ret2
            exact ⟨ret_pair Hr.out, b2 G1.out (b2 G2.out (b_new _ _))⟩
          | false =>
            have HO := Lib.hid ho
            have Hon : Hid (∀ X, Calls Tryd.prog 58 #[.int .i64 days, .int .i64 W] X fun e w' => e = .returned (.bool false) ∧ X = w') := Lib.hid (fun X => by
              have := on_any days W X d0 d1 k1 k2; rw [ho] at this; exact this)
            clear ho
            go_wp2_with fail
            refine (Hl.out _).mono ?_
            rintro e w2 ⟨rfl, g2⟩
            have G2 := Lib.hid (b2 G.out g2)
            clear g2
            go_wp2_with fail
            refine (Hon.out _).mono ?_
            rintro e w3 ⟨rfl, rfl⟩
            go_wp2_with fail
            go_roundw
            case rel =>
              refine ⟨u + 1, rfl, by omega, by omega, Lib.hid (fun v v1 hc => ?_), b2 G2.out (b_new _ _)⟩
              by_cases e1 : v = u
              · subst e1; have := hc.2.2.2.2; rw [← HM.out, ← HW.out, HO.out] at this; cases this
              · exact Hno.out v (by omega) hc
            case measure => simp [intOf]; omega
        · have tn := eq_f _ _ hn
          have Hn := Lib.hid hn
          clear hn
          go_wp2_with fail
          refine (Hl.out _).mono ?_
          rintro e w2 ⟨rfl, g2⟩
          have G2 := Lib.hid (b2 G.out g2)
          clear g2
          go_wp2_with fail
          go_roundw
          case rel =>
            refine ⟨u + 1, rfl, by omega, by omega, Lib.hid (fun v v1 hc => ?_), b2 G2.out (b_new _ _)⟩
            by_cases e1 : v = u
            · subst e1; have := hc.2.2.2.1; rw [← HM.out, ← HN.out] at this; exact Hn.out this
            · exact Hno.out v (by omega) hc
          case measure => simp [intOf]; omega
      · have hgt : 268435456 < u := by omega
        have hdec2 : decide (u ≤ 268435456) = false := decide_eq_false hmax
        have Hr := Lib.hid (next_none (fun v hc => by
          by_cases e1 : v < u
          · exact Hno.out v e1 hc
          · have := hc.2.2.1; omega : ∀ v, ¬ Cand o sm days minute t v))
        clear hmax
        go_wp2_with fail
        go_ret2
        exact ⟨ret_pair Hr.out, b2 G1.out G.out⟩
    · have hgt : t + 11520 < u := by omega
      have Hr := Lib.hid (next_none (fun v hc => by
        by_cases e1 : v < u
        · exact Hno.out v e1 hc
        · have := hc.2.1; omega : ∀ v, ¬ Cand o sm days minute t v))
      clear hlt
      go_wp2_with fail
      go_ret2
      exact ⟨ret_pair Hr.out, b2 G1.out G.out⟩
end Go.Proofs.YtkimniggdnlliaaDoor
