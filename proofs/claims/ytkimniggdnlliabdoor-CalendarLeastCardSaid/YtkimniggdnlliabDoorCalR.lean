/-
  For the law on the least time: where Next returns none, and where it returns one.
-/
import Derived.Test.YtkimniggdnlliabDoorCalP
import Derived.Deep.RegionHeld3
namespace Go.Proofs.YtkimniggdnlliabDoor
open Go.RowKit
open Cal

theorem dateV_full2 (m : Int) : ∃ Y M D, dateV m = .agg #[.int .i64 Y, .int .i64 M, .int .i64 D, .int .i64 (wd (m / 1440)), .int .i64 (m % 1440)] := ⟨_, _, _, rfl⟩
theorem lawOn_any (d W : Int) (w : World) (_d0 : 0 ≤ d) (_d1 : d ≤ 127) (w1 : 1 ≤ W) (w2 : W ≤ 7) :
    Calls Tryd.prog 11 #[.int .i64 d, .int .i64 W] w fun e w' => e = .returned (.bool (onB d W)) ∧ w = w' := by
  by_cases h : d = 0
  · have td := eq_t _ _ h
    have Ho : Hid (onB d W = true) := Lib.hid (by unfold onB; rw [td]; rfl)
    clear h
    go_enter Tryd.func11, Tryd.ntmps11
    go_wp2
    go_ret
    exact ⟨ret_bool Ho.out.symm, rfl⟩
  · have td := eq_f _ _ h
    have Ho : Hid (onB d W = bitB d W) := Lib.hid (by unfold onB; rw [td]; rfl)
    clear h
    go_enter Tryd.func11, Tryd.ntmps11
    go_wp2
    go_ret
    exact ⟨ret_bool Ho.out.symm, rfl⟩

set_option maxRecDepth 100000 in
set_option maxHeartbeats 1000000 in
theorem least_err (o : Int) (sm : Bool) (t days minute E : Int) (w : World) (hT : Tab w) (hE : (E != 0) = true)
    (D1 : Hid (∀ X, Tab X → Calls Tryd.prog 10 #[.agg #[.int .i64 o, .bool sm], .int .i64 t, .int .i64 days, .int .i64 minute] X fun e w' => e = .returned (.tuple #[.int .i64 0, .int .i64 E]) ∧ Below X.heap.size X w')) :
    Calls Tryd.prog 4 #[.agg #[.int .i64 o, .bool sm], .agg #[.int .i64 t, .int .i64 days, .int .i64 minute]] w fun e w' => e = .returned (.bool true) ∧ Below w.heap.size w w' := by
  have HT := Lib.hid hT
  clear hT
  go_enter Tryd.func4, Tryd.ntmps4
  go_wp2_with fail
  refine (D1.out _ (HT.out.below (b2 (b_new _ _) (b_new _ _)))).mono ?_
  rintro e w1 ⟨rfl, g1⟩
  have G1 := Lib.hid (b2 (b2 (b_new w _) (b_new _ _)) g1)
  clear g1
  go_wp2_with fail
  refine (example_any _ (HT.out.below G1.out)).mono ?_
  rintro e wx ⟨rfl, gx⟩
  go_wp2_with fail
  go_ret
  exact ⟨rfl, b2 G1.out gx⟩

set_option maxRecDepth 100000 in
set_option maxHeartbeats 4000000 in
theorem least_ok (o : Int) (sm : Bool) (t days minute u : Int) (w : World) (hT : Tab w) (h0 : -840 ≤ o) (h1 : o ≤ 840) (t0 : 0 ≤ t) (t1 : t ≤ 268435456) (d0 : 0 ≤ days) (d1 : days ≤ 127)
    (hu : First o sm days minute t u)
    (D1 : Hid (∀ X, Tab X → Calls Tryd.prog 10 #[.agg #[.int .i64 o, .bool sm], .int .i64 t, .int .i64 days, .int .i64 minute] X fun e w' => e = .returned (.tuple #[.int .i64 u, .int .i64 0]) ∧ Below X.heap.size X w')) :
    Calls Tryd.prog 4 #[.agg #[.int .i64 o, .bool sm], .agg #[.int .i64 t, .int .i64 days, .int .i64 minute]] w fun e w' => e = .returned (.bool true) ∧ Below w.heap.size w w' := by
  have HT := Lib.hid hT
  clear hT
  have HF := Lib.hid hu
  obtain ⟨⟨u1, u2, u3, u4, u5⟩, u6⟩ := hu
  have HN := Lib.hid u6
  clear u6
  obtain ⟨Y, M, D, hV⟩ := dateV_full2 (u + offI o sm u)
  obtain ⟨k1, k2⟩ := wd_bd ((u + offI o sm u) / 1440)
  rw [u4] at hV
  obtain ⟨W, hW⟩ : ∃ W, W = wd ((u + offI o sm u) / 1440) := ⟨_, rfl⟩
  rw [← hW] at hV k1 k2 u5
  have D2 : Hid (∀ X, Tab X → Calls Tryd.prog 6 #[.agg #[.int .i64 o, .bool sm], .int .i64 u] X fun e w' => e = .returned (.tuple #[.agg #[.int .i64 Y, .int .i64 M, .int .i64 D, .int .i64 W, .int .i64 minute], .int .i64 0]) ∧ Below X.heap.size X w') := Lib.hid (fun X hX => by
    have := local_yes o sm u X hX h0 h1 (by omega) u3
    rw [hV] at this; exact this)
  have D3 : Hid (∀ X, Calls Tryd.prog 11 #[.int .i64 days, .int .i64 W] X fun e w' => e = .returned (.bool true) ∧ X = w') := Lib.hid (fun X => by
    have := lawOn_any days W X d0 d1 k1 k2; rw [u5] at this; exact this)
  clear hV hW u4 u5 k1 k2
  go_enter Tryd.func4, Tryd.ntmps4
  go_wp2_with fail
  refine (D1.out _ (HT.out.below (b2 (b_new _ _) (b_new _ _)))).mono ?_
  rintro e w1 ⟨rfl, g1⟩
  obtain ⟨hc1, hf1⟩ := bcell g1
  have hz1 : w.heap.size + 1 < w1.heap.size := by have := g1.size; simp at this; omega
  have c10 : w1.cell? ⟨w.heap.size, 0, none⟩ = some (.int .i64 o) := (hc1 _ _ (by simp; omega)).trans (by simp)
  have c11 : w1.cell? ⟨w.heap.size, 1, none⟩ = some (.bool sm) := (hc1 _ _ (by simp; omega)).trans (by simp)
  have c12 : w1.cell? ⟨w.heap.size + 1, 0, none⟩ = some (.int .i64 t) := (hc1 _ _ (by simp)).trans (by simp)
  have c13 : w1.cell? ⟨w.heap.size + 1, 1, none⟩ = some (.int .i64 days) := (hc1 _ _ (by simp)).trans (by simp)
  have c14 : w1.cell? ⟨w.heap.size + 1, 2, none⟩ = some (.int .i64 minute) := (hc1 _ _ (by simp)).trans (by simp)
  have G1 := Lib.hid (b2 (b2 (b_new w _) (b_new _ _)) g1)
  clear g1 hc1 hf1
  go_wp2_with fail
  refine (D2.out _ (HT.out.below G1.out)).mono ?_
  rintro e w2 ⟨rfl, g2⟩
  obtain ⟨hc2, hf2⟩ := bcell g2
  have hz2 : w.heap.size + 1 < w2.heap.size := by have := g2.size; omega
  have c20 : w2.cell? ⟨w.heap.size, 0, none⟩ = some (.int .i64 o) := (hc2 _ _ (by omega)).trans c10
  have c21 : w2.cell? ⟨w.heap.size, 1, none⟩ = some (.bool sm) := (hc2 _ _ (by omega)).trans c11
  have c22 : w2.cell? ⟨w.heap.size + 1, 0, none⟩ = some (.int .i64 t) := (hc2 _ _ (by omega)).trans c12
  have c23 : w2.cell? ⟨w.heap.size + 1, 1, none⟩ = some (.int .i64 days) := (hc2 _ _ (by omega)).trans c13
  have c24 : w2.cell? ⟨w.heap.size + 1, 2, none⟩ = some (.int .i64 minute) := (hc2 _ _ (by omega)).trans c14
  have G2 := Lib.hid (b2 G1.out g2)
  clear g2 hc2 hf2 c10 c11 c12 c13 c14
  go_wp2_with fail
  refine (D3.out _).mono ?_
  rintro e w3 ⟨rfl, rfl⟩
  have C0 := Lib.hid c20
  have C1 := Lib.hid c21
  have C3 := Lib.hid c23
  have C4 := Lib.hid c24
  go_wp2_with fail
  all_goals (
    clear c20 c21 c22 c23 c24
    go_loopw [9] (fun s wr => ∃ v : Int, s = .int .i64 v ∧ t + 1 ≤ v ∧ v ≤ u ∧ Below w2.heap.size w2 wr) (fun s _ => (268460000 - intOf s).toNat)
    case atStart => exact ⟨_, rfl, by omega, by omega, b_new _ _⟩
    case round =>
      obtain ⟨v, rfl, v0, v1, g⟩ := hrel
      by_cases hlt : v < u
      · have g0 : wr.cell? ⟨w.heap.size, 0, none⟩ = some (.int .i64 o) := (g.cell (p := ⟨w.heap.size, 0, none⟩) (by show w.heap.size < _; omega)).trans C0.out
        have g1 : wr.cell? ⟨w.heap.size, 1, none⟩ = some (.bool sm) := (g.cell (p := ⟨w.heap.size, 1, none⟩) (by show w.heap.size < _; omega)).trans C1.out
        have g3 : wr.cell? ⟨w.heap.size + 1, 1, none⟩ = some (.int .i64 days) := (g.cell (p := ⟨w.heap.size + 1, 1, none⟩) hz2).trans C3.out
        have g4 : wr.cell? ⟨w.heap.size + 1, 2, none⟩ = some (.int .i64 minute) := (g.cell (p := ⟨w.heap.size + 1, 2, none⟩) hz2).trans C4.out
        have hzr : w.heap.size + 1 < wr.heap.size := Nat.lt_of_lt_of_le hz2 g.size
        have G := Lib.hid g
        clear g
        obtain ⟨b1, b3⟩ := offI_bd o sm v
        obtain ⟨Y', M', E', hV⟩ := dateV_full2 (v + offI o sm v)
        obtain ⟨k1, k2⟩ := wd_bd ((v + offI o sm v) / 1440)
        obtain ⟨W', hW⟩ : ∃ W, W = wd ((v + offI o sm v) / 1440) := ⟨_, rfl⟩
        obtain ⟨N', hN⟩ : ∃ N, N = (v + offI o sm v) % 1440 := ⟨_, rfl⟩
        have Hl : Hid (∀ X, Tab X → Calls Tryd.prog 6 #[.agg #[.int .i64 o, .bool sm], .int .i64 v] X fun e w' => e = .returned (.tuple #[.agg #[.int .i64 Y', .int .i64 M', .int .i64 E', .int .i64 W', .int .i64 N'], .int .i64 0]) ∧ Below X.heap.size X w') := Lib.hid (fun X hX => by
          have := local_yes o sm v X hX h0 h1 (by omega) (by omega)
          rw [hV, ← hW, ← hN] at this; exact this)
        rw [← hW] at k1 k2
        have hno : N' = minute → onB days W' = false := fun hn => by
          cases ho : onB days W' with
          | false => rfl
          | true => exact absurd (show Cand o sm days minute t v from ⟨by omega, by omega, by omega, by rw [← hN]; exact hn, by rw [← hW]; exact ho⟩) (HN.out v hlt)
        clear hW hN hV b1 b3
        by_cases hn : N' = minute
        · have tn := eq_t _ _ hn
          have Hon : Hid (∀ X, Calls Tryd.prog 11 #[.int .i64 days, .int .i64 W'] X fun e w' => e = .returned (.bool false) ∧ X = w') := Lib.hid (fun X => by
            have := lawOn_any days W' X d0 d1 k1 k2; rw [hno hn] at this; exact this)
          clear hn hno
          go_wp2_with fail
          refine (Hl.out _ (HT.out.below (b2 G2.out G.out))).mono ?_
          rintro e w5 ⟨rfl, g5⟩
          obtain ⟨hc5, hf5⟩ := bcell g5
          have g53 : w5.cell? ⟨w.heap.size + 1, 1, none⟩ = some (.int .i64 days) := (hc5 _ _ hzr).trans g3
          have g54 : w5.cell? ⟨w.heap.size + 1, 2, none⟩ = some (.int .i64 minute) := (hc5 _ _ hzr).trans g4
          have hz5 : w.heap.size + 1 < w5.heap.size := Nat.lt_of_lt_of_le hzr g5.size
          have G5 := Lib.hid (b2 G.out g5)
          clear g5 hc5 hf5
          go_wp2_with fail
          refine (Hon.out _).mono ?_
          rintro e w3 ⟨rfl, rfl⟩
          go_wp2_with fail
          go_roundw
          case rel => exact ⟨v + 1, rfl, by omega, by omega, b2 G5.out (b_new _ _)⟩
          case measure => simp [intOf]; omega
        · have tn := eq_f _ _ hn
          clear hn hno
          go_wp2_with fail
          refine (Hl.out _ (HT.out.below (b2 G2.out G.out))).mono ?_
          rintro e w5 ⟨rfl, g5⟩
          obtain ⟨hc5, hf5⟩ := bcell g5
          have g53 : w5.cell? ⟨w.heap.size + 1, 1, none⟩ = some (.int .i64 days) := (hc5 _ _ hzr).trans g3
          have g54 : w5.cell? ⟨w.heap.size + 1, 2, none⟩ = some (.int .i64 minute) := (hc5 _ _ hzr).trans g4
          have hz5 : w.heap.size + 1 < w5.heap.size := Nat.lt_of_lt_of_le hzr g5.size
          have G5 := Lib.hid (b2 G.out g5)
          clear g5 hc5 hf5
          go_wp2_with fail
          go_roundw
          case rel => exact ⟨v + 1, rfl, by omega, by omega, b2 G5.out (b_new _ _)⟩
          case measure => simp [intOf]; omega
      · have G := Lib.hid g
        clear g
        go_wp2_with fail
        refine (example_any _ (HT.out.below (b2 G2.out G.out))).mono ?_
        rintro e wx ⟨rfl, gx⟩
        go_wp2_with fail
        go_ret
        exact ⟨rfl, b2 (b2 G2.out G.out) gx⟩)
end Go.Proofs.YtkimniggdnlliabDoor
