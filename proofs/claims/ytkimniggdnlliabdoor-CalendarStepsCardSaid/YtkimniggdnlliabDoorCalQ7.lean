/-
  For the law on steps: one case.
-/
import Derived.Test.YtkimniggdnlliabDoorCalQ
import Derived.Deep.Cut
namespace Go.Proofs.YtkimniggdnlliabDoor
open Go.RowKit
open Cal

set_option maxRecDepth 100000 in
set_option maxHeartbeats 4000000 in
theorem down_10 (F : Int → Int) (o : Int) (t A1 A2 A3 A4 A5 B1 B2 B3 B4 B5 C1 C3 : Int) (w : World) (hT : Tab w) (t0 : 0 ≤ t) (t1 : t < 268435456)
    (D1 : Hid (∀ X, Tab X → Calls Tryd.prog 6 #[.agg #[.int .i64 o, .bool true], .int .i64 t] X fun e w' => e = .returned (.tuple #[.agg #[.int .i64 A1, .int .i64 A2, .int .i64 A3, .int .i64 A4, .int .i64 A5], .int .i64 0]) ∧ Below X.heap.size X w'))
    (D2 : Hid (∀ X, Tab X → Calls Tryd.prog 6 #[.agg #[.int .i64 o, .bool true], .int .i64 (t + 1)] X fun e w' => e = .returned (.tuple #[.agg #[.int .i64 B1, .int .i64 B2, .int .i64 B3, .int .i64 B4, .int .i64 B5], .int .i64 0]) ∧ Below X.heap.size X w'))
    (OF : Hid (∀ s X, Tab X → Calls Tryd.prog 8 #[.agg #[.int .i64 o, .bool true], .int .i64 s] X fun e w' => e = .returned (.int .i64 (F s)) ∧ Below X.heap.size X w'))
    (_p1 : -840 ≤ F t) (_p2 : F t ≤ 900) (_p3 : -840 ≤ F (t + 1)) (_p4 : F (t + 1) ≤ 900)
    (hmin : ((A5 + 1 + (F (t + 1) - F t) + 2880) % 1440 != B5) = false) (a50 : 0 ≤ A5) (a51 : A5 < 1440) (hby : F (t + 1) - F t = (-60)) (c3 : 25 ≤ C3)
    (D3 : Hid (∀ X, Tab X → Calls Tryd.prog 9 #[.int .i64 (t + 1)] X fun e w' => e = .returned (.tuple #[.agg #[.int .i64 C1, .int .i64 10, .int .i64 C3, .int .i64 7, .int .i64 60], .int .i64 0]) ∧ Below X.heap.size X w')) :
    Calls Tryd.prog 3 #[.agg #[.int .i64 o, .bool true], .int .i64 t] w fun e w' => e = .returned (.bool true) ∧ Below w.heap.size w w' := by
  have hw1 : IntKind.i64.wrap (t + 1) = t + 1 := by rw [IntKind.wrap_i64]; omega
  have hw2 : IntKind.i64.wrap (F (t + 1) - F t) = F (t + 1) - F t := by rw [IntKind.wrap_i64]; omega
  have HT := Lib.hid hT
  clear hT
  go_enter Tryd.func3, Tryd.ntmps3
  go_wp2_with fail
  refine (D1.out _ (HT.out.below (b_new _ _))).mono ?_
  rintro e w1 ⟨rfl, g1⟩
  obtain ⟨hc1, hf1⟩ := bcell g1
  have hz1 : w.heap.size < w1.heap.size := by have := g1.size; simp at this; omega
  have G1 := Lib.hid (b2 (b_new w _) g1)
  clear g1
  go_wp2_with fail
  refine (D2.out _ (HT.out.below (b2 G1.out (b_new _ _)))).mono ?_
  rintro e w2 ⟨rfl, g2⟩
  obtain ⟨hc2, hf2⟩ := bcell g2
  have hz2 : w1.heap.size < w2.heap.size := by have := g2.size; simp at this; omega
  have G2 := Lib.hid (b2 (b2 G1.out (b_new _ _)) g2)
  clear g2
  go_wp2_with fail
  obtain ⟨b0, e0⟩ : ∃ b0, b0 = w.heap.size := ⟨_, rfl⟩
  obtain ⟨bA, eA⟩ : ∃ bA, bA = w1.heap.size := ⟨_, rfl⟩
  obtain ⟨bB, eB⟩ : ∃ bB, bB = w2.heap.size := ⟨_, rfl⟩
  have S0 : Below w.heap.size w (w2.alloc (.cells #[.int .i64 B1, .int .i64 B2, .int .i64 B3, .int .i64 B4, .int .i64 B5] 25)) ∧ bB < (w2.alloc (.cells #[.int .i64 B1, .int .i64 B2, .int .i64 B3, .int .i64 B4, .int .i64 B5] 25)).heap.size ∧ (w2.alloc (.cells #[.int .i64 B1, .int .i64 B2, .int .i64 B3, .int .i64 B4, .int .i64 B5] 25)).cell? ⟨b0, 0, none⟩ = some (.int .i64 o) ∧ (w2.alloc (.cells #[.int .i64 B1, .int .i64 B2, .int .i64 B3, .int .i64 B4, .int .i64 B5] 25)).cell? ⟨b0, 1, none⟩ = some (.bool true) ∧ (w2.alloc (.cells #[.int .i64 B1, .int .i64 B2, .int .i64 B3, .int .i64 B4, .int .i64 B5] 25)).cell? ⟨bA, 0, none⟩ = some (.int .i64 A1) ∧ (w2.alloc (.cells #[.int .i64 B1, .int .i64 B2, .int .i64 B3, .int .i64 B4, .int .i64 B5] 25)).cell? ⟨bA, 1, none⟩ = some (.int .i64 A2) ∧ (w2.alloc (.cells #[.int .i64 B1, .int .i64 B2, .int .i64 B3, .int .i64 B4, .int .i64 B5] 25)).cell? ⟨bA, 2, none⟩ = some (.int .i64 A3) ∧ (w2.alloc (.cells #[.int .i64 B1, .int .i64 B2, .int .i64 B3, .int .i64 B4, .int .i64 B5] 25)).cell? ⟨bA, 3, none⟩ = some (.int .i64 A4) ∧ (w2.alloc (.cells #[.int .i64 B1, .int .i64 B2, .int .i64 B3, .int .i64 B4, .int .i64 B5] 25)).cell? ⟨bA, 4, none⟩ = some (.int .i64 A5) ∧ (w2.alloc (.cells #[.int .i64 B1, .int .i64 B2, .int .i64 B3, .int .i64 B4, .int .i64 B5] 25)).cell? ⟨bB, 0, none⟩ = some (.int .i64 B1) ∧ (w2.alloc (.cells #[.int .i64 B1, .int .i64 B2, .int .i64 B3, .int .i64 B4, .int .i64 B5] 25)).cell? ⟨bB, 1, none⟩ = some (.int .i64 B2) ∧ (w2.alloc (.cells #[.int .i64 B1, .int .i64 B2, .int .i64 B3, .int .i64 B4, .int .i64 B5] 25)).cell? ⟨bB, 2, none⟩ = some (.int .i64 B3) ∧ (w2.alloc (.cells #[.int .i64 B1, .int .i64 B2, .int .i64 B3, .int .i64 B4, .int .i64 B5] 25)).cell? ⟨bB, 3, none⟩ = some (.int .i64 B4) ∧ (w2.alloc (.cells #[.int .i64 B1, .int .i64 B2, .int .i64 B3, .int .i64 B4, .int .i64 B5] 25)).cell? ⟨bB, 4, none⟩ = some (.int .i64 B5) := by
    subst e0 eA eB
    refine ⟨b2 G2.out (b_new _ _), by simp, ?_, ?_, ?_, ?_, ?_, ?_, ?_, ?_, ?_, ?_, ?_, ?_⟩
    · exact ((b_new w2 _).cell (p := ⟨w.heap.size, 0, none⟩) (Nat.lt_trans hz1 hz2)).trans ((hc2 _ _ (by simp; omega)).trans (((b_new w1 _).cell (p := ⟨w.heap.size, 0, none⟩) hz1).trans ((hc1 _ _ (by simp)).trans (by simp))))
    · exact ((b_new w2 _).cell (p := ⟨w.heap.size, 1, none⟩) (Nat.lt_trans hz1 hz2)).trans ((hc2 _ _ (by simp; omega)).trans (((b_new w1 _).cell (p := ⟨w.heap.size, 1, none⟩) hz1).trans ((hc1 _ _ (by simp)).trans (by simp))))
    · exact ((b_new w2 _).cell (p := ⟨w1.heap.size, 0, none⟩) hz2).trans ((hc2 _ _ (by simp)).trans (by simp))
    · exact ((b_new w2 _).cell (p := ⟨w1.heap.size, 1, none⟩) hz2).trans ((hc2 _ _ (by simp)).trans (by simp))
    · exact ((b_new w2 _).cell (p := ⟨w1.heap.size, 2, none⟩) hz2).trans ((hc2 _ _ (by simp)).trans (by simp))
    · exact ((b_new w2 _).cell (p := ⟨w1.heap.size, 3, none⟩) hz2).trans ((hc2 _ _ (by simp)).trans (by simp))
    · exact ((b_new w2 _).cell (p := ⟨w1.heap.size, 4, none⟩) hz2).trans ((hc2 _ _ (by simp)).trans (by simp))
    · simp
    · simp
    · simp
    · simp
    · simp
  have A0 : b0 ≤ bB := by omega
  have AA : bA ≤ bB := by omega
  clear hc1 hc2 hf1 hf2 hz1 hz2
  rw [← e0, ← eA, ← eB]
  clear e0 eA eB
  go_region_held3 (fun X => Below w.heap.size w X ∧ bB < X.heap.size ∧ X.cell? ⟨b0, 0, none⟩ = some (.int .i64 o) ∧ X.cell? ⟨b0, 1, none⟩ = some (.bool true) ∧ X.cell? ⟨bA, 0, none⟩ = some (.int .i64 A1) ∧ X.cell? ⟨bA, 1, none⟩ = some (.int .i64 A2) ∧ X.cell? ⟨bA, 2, none⟩ = some (.int .i64 A3) ∧ X.cell? ⟨bA, 3, none⟩ = some (.int .i64 A4) ∧ X.cell? ⟨bA, 4, none⟩ = some (.int .i64 A5) ∧ X.cell? ⟨bB, 0, none⟩ = some (.int .i64 B1) ∧ X.cell? ⟨bB, 1, none⟩ = some (.int .i64 B2) ∧ X.cell? ⟨bB, 2, none⟩ = some (.int .i64 B3) ∧ X.cell? ⟨bB, 3, none⟩ = some (.int .i64 B4) ∧ X.cell? ⟨bB, 4, none⟩ = some (.int .i64 B5)) (first | assumption | exact kq_drew S0 | exact kq_drew (by assumption) | exact kq_call A0 AA (by assumption) (by assumption))
    (first | (go_at_call 8; refine (OF.out _ _ (kq_tab HT.out (by assumption))).mono ?_; rintro e w5 ⟨rfl, g5⟩))
  have hS : Below w.heap.size w w5 ∧ bB < w5.heap.size ∧ w5.cell? ⟨b0, 0, none⟩ = some (.int .i64 o) ∧ w5.cell? ⟨b0, 1, none⟩ = some (.bool true) ∧ w5.cell? ⟨bA, 0, none⟩ = some (.int .i64 A1) ∧ w5.cell? ⟨bA, 1, none⟩ = some (.int .i64 A2) ∧ w5.cell? ⟨bA, 2, none⟩ = some (.int .i64 A3) ∧ w5.cell? ⟨bA, 3, none⟩ = some (.int .i64 A4) ∧ w5.cell? ⟨bA, 4, none⟩ = some (.int .i64 A5) ∧ w5.cell? ⟨bB, 0, none⟩ = some (.int .i64 B1) ∧ w5.cell? ⟨bB, 1, none⟩ = some (.int .i64 B2) ∧ w5.cell? ⟨bB, 2, none⟩ = some (.int .i64 B3) ∧ w5.cell? ⟨bB, 3, none⟩ = some (.int .i64 B4) ∧ w5.cell? ⟨bB, 4, none⟩ = some (.int .i64 B5) := by assumption
  obtain ⟨s1, s2, c0, c1, c2, c3, c4, c5, c6, c7, c8, c9, c10, c11⟩ := hS
  have S1 := Lib.hid s1
  have s3 : b0 < w5.heap.size := by omega
  have s4 : bA < w5.heap.size := by omega
  clear hw1 hw2 S0 s1
  clear g5
  go_wp2_with fail
  refine (D3.out _ (HT.out.below S1.out)).mono ?_
  rintro e w6 ⟨rfl, g6⟩
  obtain ⟨hc6, hf6⟩ := bcell g6
  have hz6 : b0 < w6.heap.size := by have := g6.size; omega
  have S2 := Lib.hid (b2 S1.out g6)
  clear g6
  go_wp2_with fail
  refine (example_any _ (HT.out.below (b2 S2.out (b_new _ _)))).mono ?_
  rintro e wx ⟨rfl, gx⟩
  go_wp2_with fail
  go_ret
  exact ⟨rfl, b2 (b2 S2.out (b_new _ _)) gx⟩
end Go.Proofs.YtkimniggdnlliabDoor
