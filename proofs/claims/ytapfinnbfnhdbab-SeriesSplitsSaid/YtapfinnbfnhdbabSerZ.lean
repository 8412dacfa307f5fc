/-
  The examples of the chapter hold.
-/
import Derived.Test.YtapfinnbfnhdbabSerY
namespace Go.Proofs.Ytapfinnbfnhdbab
open Go.RowKit
open Ser
set_option linter.unusedVariables false

theorem built_rd (W : World) (l : List St) (C : Array Value) (T : TypeId) (n b : Nat) (hC : C = (stV l).toArray) (hn : n = l.length) (hm : n ≤ 1000) (hb : b = W.heap.size) : Rd (W.alloc (.cells C T)) (.slice (some ⟨b, 0, none⟩) n n) l := by
  subst hb hn hC
  refine ⟨_, _, rfl, Nat.le_refl _, by unfold maxLen; omega, fun _ => ⟨_, 0, rfl, by simp, fun i hi => ?_⟩⟩
  obtain ⟨h1, h2⟩ := stV_at l i hi
  rw [World.cell?_alloc_at _ _ _ _ rfl, World.cell?_alloc_at _ _ _ _ rfl]
  simp only [Nat.zero_add, List.getElem?_toArray]
  exact ⟨h1, h2⟩
def exL : List St := [(10, 5), (20, 0), (30, 7)]
def exB : List St := [(15, 1)]
theorem ex_len : exL.length ≤ 2000000 := by decide
theorem ex_lenB : exB.length ≤ 2000000 := by decide
theorem ex_add : addL exL exB = [(10, 5), (15, 6), (20, 1), (30, 8)] ∧ addE exL exB = 0 := by
  constructor <;> simp [addL, addE, bE, validE, exL, exB, vL, okS, combL, mergeV, cf, nL, inR, vB, limL, limE]
theorem ex_least : leastL exL exB = [(15, 1), (20, 0), (30, 1)] := by
  simp [leastL, bE, validE, exL, exB, vL, okS, combL, mergeV, cf, nL, limL, Int.min_def]
theorem ex_clip : clipL exL 12 31 = [(12, 5), (20, 0), (30, 7), (31, 0)] := by
  simp [clipL, cE, spB, validE, exL, vL, okS, combL, insL, mergeV, fMul, nL, limL]
theorem ex_shift : shL exL (-10) = [(0, 5), (10, 0), (20, 7)] := by
  simp [shL, validE, exL, vL, okS, mvOk, mvB, mvL, nL]
theorem ex_out : shE exL (-11) = 2 := by
  simp [shE, validE, exL, vL, okS, mvOk, mvB]
theorem ex_en : enV exL 12 32 = 54 := by
  simp [enV, cE, spB, validE, exL, vL, okS, enR, fitB, Int.min_def, Int.max_def]
theorem ex_over : enE [(0, 1099511627776)] 0 8388608 = 20 := by
  simp [enE, cE, spB, validE, vL, okS, enR, fitB, Int.max_def]
theorem ex_bad : validE [(5, 1), (5, 2)] = 1 := by
  simp [validE, vL, okS]
theorem ex_asc : Asc (-1) exL := by simp [Asc, exL]
theorem ex_at : atL exL 9 = 0 ∧ atL exL 10 = 5 ∧ atL exL 25 = 0 ∧ atL exL 100 = 7 := by
  simp [atL, atFrom, exL]

set_option maxHeartbeats 8000000 in
set_option maxRecDepth 1000000 in
theorem example_any (w : World) : Calls Try.prog 11 #[] w fun e w' => e = .returned (.bool true) ∧ Below w.heap.size w w' := by
  have HB2 := Lib.hid (((Below.refl w.heap.size w).alloc (Nat.le_refl _) (.cells #[.int .i64 10, .int .i64 5, .int .i64 20, .int .i64 0, .int .i64 30, .int .i64 7] 30)).alloc (by simp) (.cells #[.int .i64 15, .int .i64 1] 30))
  have RL := Lib.hid ((built_rd w exL #[.int .i64 10, .int .i64 5, .int .i64 20, .int .i64 0, .int .i64 30, .int .i64 7] 30 3 w.heap.size rfl rfl (by decide) rfl).below (b_new _ (.cells #[.int .i64 15, .int .i64 1] 30)))
  have RB := Lib.hid (built_rd (w.alloc (.cells #[.int .i64 10, .int .i64 5, .int .i64 20, .int .i64 0, .int .i64 30, .int .i64 7] 30)) exB #[.int .i64 15, .int .i64 1] 30 1 (w.heap.size + 1) rfl rfl (by decide) (by simp))
  go_enter Try.func11, Try.ntmps11
  go_wp2_with fail
  refine (add_any _ _ exL exB _ ex_len ex_lenB RL.out RB.out).mono ?_
  rintro e w1 ⟨v1, rfl, r1, g1⟩
  rw [ex_add.1] at r1
  rw [ex_add.2]
  have G1 := Lib.hid g1
  have R1 := Lib.hid r1
  clear g1 r1
  go_wp2_with fail
  refine (least_any _ _ exL exB _ ex_len ex_lenB (RL.out.below G1.out) (RB.out.below G1.out)).mono ?_
  rintro e w2 ⟨v2, rfl, r2, g2⟩
  rw [ex_least] at r2
  have G2 := Lib.hid (b2 G1.out g2)
  have R1 := Lib.hid (R1.out.below g2)
  have R2 := Lib.hid r2
  clear g2 r2
  go_wp2_with fail
  refine (clip_any _ exL 12 31 _ ex_len (RL.out.below G2.out)).mono ?_
  rintro e w3 ⟨v3, rfl, r3, g3⟩
  rw [ex_clip] at r3
  have G3 := Lib.hid (b2 G2.out g3)
  have R1 := Lib.hid (R1.out.below g3)
  have R2 := Lib.hid (R2.out.below g3)
  have R3 := Lib.hid r3
  clear g3 r3
  go_wp2_with fail
  refine (shift_any _ exL (-10) _ ex_len (RL.out.below G3.out)).mono ?_
  rintro e w4 ⟨v4, rfl, r4, g4⟩
  rw [ex_shift] at r4
  have G4 := Lib.hid (b2 G3.out g4)
  have R1 := Lib.hid (R1.out.below g4)
  have R2 := Lib.hid (R2.out.below g4)
  have R3 := Lib.hid (R3.out.below g4)
  have R4 := Lib.hid r4
  clear g4 r4
  go_wp2_with fail
  refine (shift_any _ exL (-11) _ ex_len (RL.out.below G4.out)).mono ?_
  rintro e w5 ⟨v5, rfl, r5, g5⟩
  rw [ex_out]
  have G5 := Lib.hid (b2 G4.out g5)
  have R1 := Lib.hid (R1.out.below g5)
  have R2 := Lib.hid (R2.out.below g5)
  have R3 := Lib.hid (R3.out.below g5)
  have R4 := Lib.hid (R4.out.below g5)
  clear g5 r5
  go_wp2_with fail
  refine (energy_any _ exL 12 32 _ ex_len (RL.out.below G5.out)).mono ?_
  rintro e w6 ⟨rfl, g6⟩
  rw [ex_en]
  have G6 := Lib.hid (b2 G5.out g6)
  have R1 := Lib.hid (R1.out.below g6)
  have R2 := Lib.hid (R2.out.below g6)
  have R3 := Lib.hid (R3.out.below g6)
  have R4 := Lib.hid (R4.out.below g6)
  clear g6
  go_wp2_with fail
  refine (energy_any _ [(0, 1099511627776)] 0 8388608 _ (by decide) (built_rd _ _ _ _ _ _ rfl rfl (by decide) rfl)).mono ?_
  rintro e w7 ⟨rfl, g7⟩
  rw [ex_over]
  have G7 := Lib.hid (b2 (b2 G6.out (b_new _ _)) g7)
  have R1 := Lib.hid (R1.out.below (b2 (b_new _ _) g7))
  have R2 := Lib.hid (R2.out.below (b2 (b_new _ _) g7))
  have R3 := Lib.hid (R3.out.below (b2 (b_new _ _) g7))
  have R4 := Lib.hid (R4.out.below (b2 (b_new _ _) g7))
  clear g7
  go_wp2_with fail
  refine (valid_any _ [(5, 1), (5, 2)] _ (by decide) (built_rd _ _ _ _ _ _ rfl rfl (by decide) rfl)).mono ?_
  rintro e w8 ⟨rfl, g8⟩
  rw [ex_bad]
  have G8 := Lib.hid (b2 (b2 G7.out (b_new _ _)) g8)
  have R1 := Lib.hid (R1.out.below (b2 (b_new _ _) g8))
  have R2 := Lib.hid (R2.out.below (b2 (b_new _ _) g8))
  have R3 := Lib.hid (R3.out.below (b2 (b_new _ _) g8))
  have R4 := Lib.hid (R4.out.below (b2 (b_new _ _) g8))
  clear g8
  go_wp2_with fail
  refine (at_any _ exL 9 _ ex_len (RL.out.below G8.out)).mono ?_
  rintro e w9 ⟨x9, rfl, hx9, g9⟩
  obtain rfl : x9 = 0 := (hx9 ex_asc).trans ex_at.1
  have G9 := Lib.hid (b2 G8.out g9)
  have R1 := Lib.hid (R1.out.below g9)
  have R2 := Lib.hid (R2.out.below g9)
  have R3 := Lib.hid (R3.out.below g9)
  have R4 := Lib.hid (R4.out.below g9)
  clear g9 hx9
  go_wp2_with fail
  refine (at_any _ exL 10 _ ex_len (RL.out.below G9.out)).mono ?_
  rintro e w10 ⟨x10, rfl, hx10, g10⟩
  obtain rfl : x10 = 5 := (hx10 ex_asc).trans ex_at.2.1
  have G10 := Lib.hid (b2 G9.out g10)
  have R1 := Lib.hid (R1.out.below g10)
  have R2 := Lib.hid (R2.out.below g10)
  have R3 := Lib.hid (R3.out.below g10)
  have R4 := Lib.hid (R4.out.below g10)
  clear g10 hx10
  go_wp2_with fail
  refine (at_any _ exL 25 _ ex_len (RL.out.below G10.out)).mono ?_
  rintro e w11 ⟨x11, rfl, hx11, g11⟩
  obtain rfl : x11 = 0 := (hx11 ex_asc).trans ex_at.2.2.1
  have G11 := Lib.hid (b2 G10.out g11)
  have R1 := Lib.hid (R1.out.below g11)
  have R2 := Lib.hid (R2.out.below g11)
  have R3 := Lib.hid (R3.out.below g11)
  have R4 := Lib.hid (R4.out.below g11)
  clear g11 hx11
  go_wp2_with fail
  refine (at_any _ exL 100 _ ex_len (RL.out.below G11.out)).mono ?_
  rintro e w12 ⟨x12, rfl, hx12, g12⟩
  obtain rfl : x12 = 7 := (hx12 ex_asc).trans ex_at.2.2.2
  have G12 := Lib.hid (b2 G11.out g12)
  have R1 := Lib.hid (R1.out.below g12)
  have R2 := Lib.hid (R2.out.below g12)
  have R3 := Lib.hid (R3.out.below g12)
  have R4 := Lib.hid (R4.out.below g12)
  clear g12 hx12
  go_wp2_with fail
  refine (equal_any _ _ [(10, 5), (15, 6), (20, 1), (30, 8)] [(10, 5), (15, 6), (20, 1), (30, 8)] _ (by decide) (R1.out.below (b_new _ _)) (built_rd _ _ _ _ _ _ rfl rfl (by decide) rfl)).mono ?_
  rintro e w13 ⟨rfl, g13⟩
  rw [decide_eq_true rfl]
  have G13 := Lib.hid (b2 (b2 G12.out (b_new _ _)) g13)
  have R1 := Lib.hid (R1.out.below (b2 (b_new _ _) g13))
  have R2 := Lib.hid (R2.out.below (b2 (b_new _ _) g13))
  have R3 := Lib.hid (R3.out.below (b2 (b_new _ _) g13))
  have R4 := Lib.hid (R4.out.below (b2 (b_new _ _) g13))
  clear g13
  go_wp2_with fail
  refine (equal_any _ _ [(15, 1), (20, 0), (30, 1)] [(15, 1), (20, 0), (30, 1)] _ (by decide) (R2.out.below (b_new _ _)) (built_rd _ _ _ _ _ _ rfl rfl (by decide) rfl)).mono ?_
  rintro e w14 ⟨rfl, g14⟩
  rw [decide_eq_true rfl]
  have G14 := Lib.hid (b2 (b2 G13.out (b_new _ _)) g14)
  have R1 := Lib.hid (R1.out.below (b2 (b_new _ _) g14))
  have R2 := Lib.hid (R2.out.below (b2 (b_new _ _) g14))
  have R3 := Lib.hid (R3.out.below (b2 (b_new _ _) g14))
  have R4 := Lib.hid (R4.out.below (b2 (b_new _ _) g14))
  clear g14
  go_wp2_with fail
  refine (equal_any _ _ [(12, 5), (20, 0), (30, 7), (31, 0)] [(12, 5), (20, 0), (30, 7), (31, 0)] _ (by decide) (R3.out.below (b_new _ _)) (built_rd _ _ _ _ _ _ rfl rfl (by decide) rfl)).mono ?_
  rintro e w15 ⟨rfl, g15⟩
  rw [decide_eq_true rfl]
  have G15 := Lib.hid (b2 (b2 G14.out (b_new _ _)) g15)
  have R1 := Lib.hid (R1.out.below (b2 (b_new _ _) g15))
  have R2 := Lib.hid (R2.out.below (b2 (b_new _ _) g15))
  have R3 := Lib.hid (R3.out.below (b2 (b_new _ _) g15))
  have R4 := Lib.hid (R4.out.below (b2 (b_new _ _) g15))
  clear g15
  go_wp2_with fail
  refine (equal_any _ _ [(0, 5), (10, 0), (20, 7)] [(0, 5), (10, 0), (20, 7)] _ (by decide) (R4.out.below (b_new _ _)) (built_rd _ _ _ _ _ _ rfl rfl (by decide) rfl)).mono ?_
  rintro e w16 ⟨rfl, g16⟩
  rw [decide_eq_true rfl]
  have G16 := Lib.hid (b2 (b2 G15.out (b_new _ _)) g16)
  have R1 := Lib.hid (R1.out.below (b2 (b_new _ _) g16))
  have R2 := Lib.hid (R2.out.below (b2 (b_new _ _) g16))
  have R3 := Lib.hid (R3.out.below (b2 (b_new _ _) g16))
  have R4 := Lib.hid (R4.out.below (b2 (b_new _ _) g16))
  clear g16
  go_wp2_with fail
  go_ret
  exact ⟨rfl, HB2.out.trans (G16.out.mono HB2.out.size)⟩
end Go.Proofs.Ytapfinnbfnhdbab
