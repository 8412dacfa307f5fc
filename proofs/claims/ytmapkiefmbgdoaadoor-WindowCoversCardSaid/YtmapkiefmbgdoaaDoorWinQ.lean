/-
  What Next of the reference returns.
-/
import Derived.Test.YtmapkiefmbgdoaaDoorWinL
import Derived.Test.YtmapkiefmbgdoaaDoorWinP
import Derived.WalkLawsBesides
namespace Go.Proofs.YtmapkiefmbgdoaaDoor
open Go.RowKit
open Cal
set_option linter.unusedVariables false

theorem min_four (P : Program) (w : World) (ts : Array TypeId) (t : TypeId) (a b c d : Int) : (Builtin.min_ ts t #[.int .i64 a, .int .i64 b, .int .i64 c, .int .i64 d]).run P w = .ok (.int .i64 (min (min (min a b) c) d)) w := by
  have h2 : ∀ x y : Int, (if y < x then y else x) = min x y := fun x y => by split <;> omega
  simp [Builtin.min_, Builtin.min2, h2]
attribute [local go_sem ↓] min_four
/-- The cells of a window and of a zone, and what lay ahead. -/
abbrev KB (w : World) (a0 a1 a2 a3 a4 a5 a6 : Value) (X : World) : Prop := KN w.heap.size a0 a1 a2 a3 a4 a5 a6 X ∧ Below w.heap.size w X
theorem KB.below {w : World} {a0 a1 a2 a3 a4 a5 a6 : Value} {X X' : World} (g : KB w a0 a1 a2 a3 a4 a5 a6 X) (b : Below X.heap.size X X') : KB w a0 a1 a2 a3 a4 a5 a6 X' := ⟨g.1.below b, b2 g.2 b⟩
theorem KB.draws {w : World} {a0 a1 a2 a3 a4 a5 a6 : Value} {X : World} (g : KB w a0 a1 a2 a3 a4 a5 a6 X) (n : Nat) : KB w a0 a1 a2 a3 a4 a5 a6 (X.drewN n) := ⟨g.1, g.2.os, g.2.tape, g.2.output, g.2.size, g.2.block⟩
theorem KB.drew {w : World} {a0 a1 a2 a3 a4 a5 a6 : Value} {X : World} (g : KB w a0 a1 a2 a3 a4 a5 a6 X) : KB w a0 a1 a2 a3 a4 a5 a6 X.drew := ⟨g.1, g.2.drew⟩
theorem quiet_more {H : Int → Bool} {a U U' : Int} (h1 : ∀ v, a < v → v < U → v ≤ 268435456 → H v = H (v - 1)) (h2 : H U = H (U - 1)) (h3 : ∀ v, U < v → v < U' → v ≤ 268435456 → H v = H (v - 1)) : ∀ v, a < v → v < U' → v ≤ 268435456 → H v = H (v - 1) := fun v v1 v2 v3 => by
  by_cases c : v < U
  · exact h1 v v1 c v3
  · by_cases c2 : v = U
    · rw [c2]; exact h2
    · exact h3 v (by omega) v2 v3
theorem wait_any (a m : Int) (w : World) (a0 : 0 ≤ a) (a1 : a ≤ 1439) (m0 : 0 ≤ m) (m1 : m ≤ 1439) : Calls Tryd.prog 60 #[.int .i64 a, .int .i64 m] w fun e w' => e = .returned (.int .i64 (waitI a m)) ∧ w = w' := by
  by_cases h : a < m
  · have HR : Hid (waitI a m = m - a) := Lib.hid (if_pos h)
    go_enter Tryd.func60, Tryd.ntmps60
    go_wp2
    go_ret
    exact ⟨ret_int HR.out.symm, rfl⟩
  · have HR : Hid (waitI a m = m - a + 1440) := Lib.hid (if_neg h)
    have h2 : m ≤ a := by omega
    clear h
    go_enter Tryd.func60, Tryd.ntmps60
    go_wp2
    go_ret
    exact ⟨ret_int HR.out.symm, rfl⟩

set_option maxRecDepth 100000 in
set_option maxHeartbeats 8000000 in
theorem cand_nn (d s e f u o : Int) (sm : Bool) (t : Int) (w : World) (hs : 0 ≤ s ∧ s ≤ 1439) (he : 0 ≤ e ∧ e ≤ 1439) (z0 : -840 ≤ o) (z1 : o ≤ 840) (t0 : 0 ≤ t) (t1 : t ≤ 268435456) (hf : ¬ t < f) (hu : ¬ t < u) :
    Calls Tryd.prog 37 #[.agg #[.int .i64 d, .int .i64 s, .int .i64 e, .int .i64 f, .int .i64 u], .agg #[.int .i64 o, .bool sm], .int .i64 t] w fun e' w' => e' = .returned (.int .i64 (candI s e f u o sm t)) ∧ Below w.heap.size w w' := by
  have CL := Lib.hid (fun X => refLocal_yes o sm t X z0 z1 t0 t1)
  have HR : Hid (∀ A, min (waitI ((t + offI o sm t) % 1440) s) (min (waitI ((t + offI o sm t) % 1440) e) (min (waitI ((t + offI o sm t) % 1440) 0) (waitI (t % 1440) 60))) = A → candI s e f u o sm t = t + A) := Lib.hid (by
    intro A hA
    unfold candI
    simp only [if_neg hf, if_neg hu]
    rw [show min (min (min (waitI ((t + offI o sm t) % 1440) s) (waitI ((t + offI o sm t) % 1440) e)) (waitI ((t + offI o sm t) % 1440) 0)) (waitI (t % 1440) 60) = A by omega]
    try omega)
  obtain ⟨L, hL⟩ : ∃ L, L = t + offI o sm t := ⟨_, rfl⟩
  rw [← hL] at HR
  simp only [← hL, dateV_eq] at CL
  have n0 : 0 ≤ L % 1440 := by omega
  have n1 : L % 1440 ≤ 1439 := by omega
  obtain ⟨WW, hWW⟩ : ∃ WW, WW = wd (L / 1440) := ⟨_, rfl⟩
  obtain ⟨N, hN⟩ : ∃ N, N = L % 1440 := ⟨_, rfl⟩
  obtain ⟨Y, hY⟩ : ∃ Y, Y = yr (L / 1440) := ⟨_, rfl⟩
  obtain ⟨M, hM⟩ : ∃ M, M = mo (L / 1440) := ⟨_, rfl⟩
  obtain ⟨D, hD⟩ : ∃ D, D = dy (L / 1440) := ⟨_, rfl⟩
  rw [← hN] at HR n0 n1
  simp only [← hWW, ← hN, ← hY, ← hM, ← hD] at CL
  have b1 := waitI_bd N s n0 n1 hs.1 hs.2
  have b2' := waitI_bd N e n0 n1 he.1 he.2
  have b3 := waitI_bd N 0 n0 n1 (by decide) (by decide)
  have b4 := waitI_bd (t % 1440) 60 (by omega) (by omega) (by decide) (by decide)
  have m60 : (0 : Int) ≤ t % 1440 := by omega
  have m61 : t % 1440 ≤ 1439 := by omega
  have hrem : t.tmod 1440 = t % 1440 := Int.tmod_eq_emod_of_nonneg t0
  obtain ⟨s0, s1⟩ := hs
  obtain ⟨e0, e1⟩ := he
  clear hL hWW hN hY hM hD z0 z1
  go_enter Tryd.func37, Tryd.ntmps37
  go_wp2_with fail
  refine (CL.out _).mono ?_
  rintro e1 w1 ⟨rfl, h1⟩
  obtain ⟨hc1, hf1⟩ := bcell h1
  have q0 : w.heap.size + 1 < w1.heap.size := by have := h1.size; simp at this; omega
  have q1 : w.heap.size < w1.heap.size := by omega
  have H1 := Lib.hid (b2 (b2 (b_new w _) (b_new _ _)) h1)
  clear h1
  go_wp2_with fail
  obtain ⟨V, hV⟩ : ∃ V, w1.alloc (.cells #[.int .i64 Y, .int .i64 M, .int .i64 D, .int .i64 WW, .int .i64 N] 46) = V := ⟨_, rfl⟩
  have v1 : V.cell? ⟨w.heap.size, 1, none⟩ = some (.int .i64 s) := by rw [← hV]; simp [go_sem, hc1, q1]
  have v2 : V.cell? ⟨w.heap.size, 2, none⟩ = some (.int .i64 e) := by rw [← hV]; simp [go_sem, hc1, q1]
  have v3 : V.cell? ⟨w.heap.size, 3, none⟩ = some (.int .i64 f) := by rw [← hV]; simp [go_sem, hc1, q1]
  have v4 : V.cell? ⟨w.heap.size, 4, none⟩ = some (.int .i64 u) := by rw [← hV]; simp [go_sem, hc1, q1]
  have v5 : V.cell? ⟨w1.heap.size, 4, none⟩ = some (.int .i64 N) := by rw [← hV]; simp [go_sem]
  have HV : Hid (Below w.heap.size w V) := Lib.hid (by rw [← hV]; exact b2 H1.out (b_new _ _))
  rw [hV]
  clear hV hc1 hf1 q0 q1 H1
  go_region_held3 (fun X => X.cell? ⟨w.heap.size, 1, none⟩ = some (.int .i64 s) ∧ X.cell? ⟨w.heap.size, 2, none⟩ = some (.int .i64 e) ∧ X.cell? ⟨w1.heap.size, 4, none⟩ = some (.int .i64 N)) (first | assumption | go_keep)
    ((go_at_call 60; refine (wait_any _ _ _ (by omega) (by omega) (by omega) (by omega)).mono ?_; rintro e5 w5 ⟨rfl, rfl⟩))
  obtain ⟨A, hA⟩ : ∃ A, min (waitI N s) (min (waitI N e) (min (waitI N 0) (waitI (t % 1440) 60))) = A := ⟨_, rfl⟩
  have HRA := Lib.hid (HR.out A hA)
  have A0 : 1 ≤ A := by omega
  have A1 : A ≤ 1440 := by omega
  rw [hA]
  clear hA HR b1 b2' b3 b4 hrem
  go_wp2_with fail
  go_ret
  exact ⟨ret_int HRA.out.symm, HV.out.drew⟩
set_option maxRecDepth 100000 in
set_option maxHeartbeats 8000000 in
theorem cand_ny (d s e f u o : Int) (sm : Bool) (t : Int) (w : World) (hs : 0 ≤ s ∧ s ≤ 1439) (he : 0 ≤ e ∧ e ≤ 1439) (z0 : -840 ≤ o) (z1 : o ≤ 840) (t0 : 0 ≤ t) (t1 : t ≤ 268435456) (hf : ¬ t < f) (hu : t < u) :
    Calls Tryd.prog 37 #[.agg #[.int .i64 d, .int .i64 s, .int .i64 e, .int .i64 f, .int .i64 u], .agg #[.int .i64 o, .bool sm], .int .i64 t] w fun e' w' => e' = .returned (.int .i64 (candI s e f u o sm t)) ∧ Below w.heap.size w w' := by
  have CL := Lib.hid (fun X => refLocal_yes o sm t X z0 z1 t0 t1)
  have HR : Hid (∀ A, min (waitI ((t + offI o sm t) % 1440) s) (min (waitI ((t + offI o sm t) % 1440) e) (min (waitI ((t + offI o sm t) % 1440) 0) (waitI (t % 1440) 60))) = A → candI s e f u o sm t = min (t + A) u) := Lib.hid (by
    intro A hA
    unfold candI
    simp only [if_neg hf, if_pos hu]
    rw [show min (min (min (waitI ((t + offI o sm t) % 1440) s) (waitI ((t + offI o sm t) % 1440) e)) (waitI ((t + offI o sm t) % 1440) 0)) (waitI (t % 1440) 60) = A by omega]
    try omega)
  obtain ⟨L, hL⟩ : ∃ L, L = t + offI o sm t := ⟨_, rfl⟩
  rw [← hL] at HR
  simp only [← hL, dateV_eq] at CL
  have n0 : 0 ≤ L % 1440 := by omega
  have n1 : L % 1440 ≤ 1439 := by omega
  obtain ⟨WW, hWW⟩ : ∃ WW, WW = wd (L / 1440) := ⟨_, rfl⟩
  obtain ⟨N, hN⟩ : ∃ N, N = L % 1440 := ⟨_, rfl⟩
  obtain ⟨Y, hY⟩ : ∃ Y, Y = yr (L / 1440) := ⟨_, rfl⟩
  obtain ⟨M, hM⟩ : ∃ M, M = mo (L / 1440) := ⟨_, rfl⟩
  obtain ⟨D, hD⟩ : ∃ D, D = dy (L / 1440) := ⟨_, rfl⟩
  rw [← hN] at HR n0 n1
  simp only [← hWW, ← hN, ← hY, ← hM, ← hD] at CL
  have b1 := waitI_bd N s n0 n1 hs.1 hs.2
  have b2' := waitI_bd N e n0 n1 he.1 he.2
  have b3 := waitI_bd N 0 n0 n1 (by decide) (by decide)
  have b4 := waitI_bd (t % 1440) 60 (by omega) (by omega) (by decide) (by decide)
  have m60 : (0 : Int) ≤ t % 1440 := by omega
  have m61 : t % 1440 ≤ 1439 := by omega
  have hrem : t.tmod 1440 = t % 1440 := Int.tmod_eq_emod_of_nonneg t0
  obtain ⟨s0, s1⟩ := hs
  obtain ⟨e0, e1⟩ := he
  clear hL hWW hN hY hM hD z0 z1
  go_enter Tryd.func37, Tryd.ntmps37
  go_wp2_with fail
  refine (CL.out _).mono ?_
  rintro e1 w1 ⟨rfl, h1⟩
  obtain ⟨hc1, hf1⟩ := bcell h1
  have q0 : w.heap.size + 1 < w1.heap.size := by have := h1.size; simp at this; omega
  have q1 : w.heap.size < w1.heap.size := by omega
  have H1 := Lib.hid (b2 (b2 (b_new w _) (b_new _ _)) h1)
  clear h1
  go_wp2_with fail
  obtain ⟨V, hV⟩ : ∃ V, w1.alloc (.cells #[.int .i64 Y, .int .i64 M, .int .i64 D, .int .i64 WW, .int .i64 N] 46) = V := ⟨_, rfl⟩
  have v1 : V.cell? ⟨w.heap.size, 1, none⟩ = some (.int .i64 s) := by rw [← hV]; simp [go_sem, hc1, q1]
  have v2 : V.cell? ⟨w.heap.size, 2, none⟩ = some (.int .i64 e) := by rw [← hV]; simp [go_sem, hc1, q1]
  have v3 : V.cell? ⟨w.heap.size, 3, none⟩ = some (.int .i64 f) := by rw [← hV]; simp [go_sem, hc1, q1]
  have v4 : V.cell? ⟨w.heap.size, 4, none⟩ = some (.int .i64 u) := by rw [← hV]; simp [go_sem, hc1, q1]
  have v5 : V.cell? ⟨w1.heap.size, 4, none⟩ = some (.int .i64 N) := by rw [← hV]; simp [go_sem]
  have HV : Hid (Below w.heap.size w V) := Lib.hid (by rw [← hV]; exact b2 H1.out (b_new _ _))
  rw [hV]
  clear hV hc1 hf1 q0 q1 H1
  go_region_held3 (fun X => X.cell? ⟨w.heap.size, 1, none⟩ = some (.int .i64 s) ∧ X.cell? ⟨w.heap.size, 2, none⟩ = some (.int .i64 e) ∧ X.cell? ⟨w1.heap.size, 4, none⟩ = some (.int .i64 N)) (first | assumption | go_keep)
    ((go_at_call 60; refine (wait_any _ _ _ (by omega) (by omega) (by omega) (by omega)).mono ?_; rintro e5 w5 ⟨rfl, rfl⟩))
  obtain ⟨A, hA⟩ : ∃ A, min (waitI N s) (min (waitI N e) (min (waitI N 0) (waitI (t % 1440) 60))) = A := ⟨_, rfl⟩
  have HRA := Lib.hid (HR.out A hA)
  have A0 : 1 ≤ A := by omega
  have A1 : A ≤ 1440 := by omega
  rw [hA]
  clear hA HR b1 b2' b3 b4 hrem
  go_wp2_with fail
  go_ret
  exact ⟨ret_int HRA.out.symm, HV.out.drew⟩
set_option maxRecDepth 100000 in
set_option maxHeartbeats 8000000 in
theorem cand_yn (d s e f u o : Int) (sm : Bool) (t : Int) (w : World) (hs : 0 ≤ s ∧ s ≤ 1439) (he : 0 ≤ e ∧ e ≤ 1439) (z0 : -840 ≤ o) (z1 : o ≤ 840) (t0 : 0 ≤ t) (t1 : t ≤ 268435456) (hf : t < f) (hu : ¬ t < u) :
    Calls Tryd.prog 37 #[.agg #[.int .i64 d, .int .i64 s, .int .i64 e, .int .i64 f, .int .i64 u], .agg #[.int .i64 o, .bool sm], .int .i64 t] w fun e' w' => e' = .returned (.int .i64 (candI s e f u o sm t)) ∧ Below w.heap.size w w' := by
  have CL := Lib.hid (fun X => refLocal_yes o sm t X z0 z1 t0 t1)
  have HR : Hid (∀ A, min (waitI ((t + offI o sm t) % 1440) s) (min (waitI ((t + offI o sm t) % 1440) e) (min (waitI ((t + offI o sm t) % 1440) 0) (waitI (t % 1440) 60))) = A → candI s e f u o sm t = min (t + A) f) := Lib.hid (by
    intro A hA
    unfold candI
    simp only [if_pos hf, if_neg hu]
    rw [show min (min (min (waitI ((t + offI o sm t) % 1440) s) (waitI ((t + offI o sm t) % 1440) e)) (waitI ((t + offI o sm t) % 1440) 0)) (waitI (t % 1440) 60) = A by omega]
    try omega)
  obtain ⟨L, hL⟩ : ∃ L, L = t + offI o sm t := ⟨_, rfl⟩
  rw [← hL] at HR
  simp only [← hL, dateV_eq] at CL
  have n0 : 0 ≤ L % 1440 := by omega
  have n1 : L % 1440 ≤ 1439 := by omega
  obtain ⟨WW, hWW⟩ : ∃ WW, WW = wd (L / 1440) := ⟨_, rfl⟩
  obtain ⟨N, hN⟩ : ∃ N, N = L % 1440 := ⟨_, rfl⟩
  obtain ⟨Y, hY⟩ : ∃ Y, Y = yr (L / 1440) := ⟨_, rfl⟩
  obtain ⟨M, hM⟩ : ∃ M, M = mo (L / 1440) := ⟨_, rfl⟩
  obtain ⟨D, hD⟩ : ∃ D, D = dy (L / 1440) := ⟨_, rfl⟩
  rw [← hN] at HR n0 n1
  simp only [← hWW, ← hN, ← hY, ← hM, ← hD] at CL
  have b1 := waitI_bd N s n0 n1 hs.1 hs.2
  have b2' := waitI_bd N e n0 n1 he.1 he.2
  have b3 := waitI_bd N 0 n0 n1 (by decide) (by decide)
  have b4 := waitI_bd (t % 1440) 60 (by omega) (by omega) (by decide) (by decide)
  have m60 : (0 : Int) ≤ t % 1440 := by omega
  have m61 : t % 1440 ≤ 1439 := by omega
  have hrem : t.tmod 1440 = t % 1440 := Int.tmod_eq_emod_of_nonneg t0
  obtain ⟨s0, s1⟩ := hs
  obtain ⟨e0, e1⟩ := he
  clear hL hWW hN hY hM hD z0 z1
  go_enter Tryd.func37, Tryd.ntmps37
  go_wp2_with fail
  refine (CL.out _).mono ?_
  rintro e1 w1 ⟨rfl, h1⟩
  obtain ⟨hc1, hf1⟩ := bcell h1
  have q0 : w.heap.size + 1 < w1.heap.size := by have := h1.size; simp at this; omega
  have q1 : w.heap.size < w1.heap.size := by omega
  have H1 := Lib.hid (b2 (b2 (b_new w _) (b_new _ _)) h1)
  clear h1
  go_wp2_with fail
  obtain ⟨V, hV⟩ : ∃ V, w1.alloc (.cells #[.int .i64 Y, .int .i64 M, .int .i64 D, .int .i64 WW, .int .i64 N] 46) = V := ⟨_, rfl⟩
  have v1 : V.cell? ⟨w.heap.size, 1, none⟩ = some (.int .i64 s) := by rw [← hV]; simp [go_sem, hc1, q1]
  have v2 : V.cell? ⟨w.heap.size, 2, none⟩ = some (.int .i64 e) := by rw [← hV]; simp [go_sem, hc1, q1]
  have v3 : V.cell? ⟨w.heap.size, 3, none⟩ = some (.int .i64 f) := by rw [← hV]; simp [go_sem, hc1, q1]
  have v4 : V.cell? ⟨w.heap.size, 4, none⟩ = some (.int .i64 u) := by rw [← hV]; simp [go_sem, hc1, q1]
  have v5 : V.cell? ⟨w1.heap.size, 4, none⟩ = some (.int .i64 N) := by rw [← hV]; simp [go_sem]
  have HV : Hid (Below w.heap.size w V) := Lib.hid (by rw [← hV]; exact b2 H1.out (b_new _ _))
  rw [hV]
  clear hV hc1 hf1 q0 q1 H1
  go_region_held3 (fun X => X.cell? ⟨w.heap.size, 1, none⟩ = some (.int .i64 s) ∧ X.cell? ⟨w.heap.size, 2, none⟩ = some (.int .i64 e) ∧ X.cell? ⟨w1.heap.size, 4, none⟩ = some (.int .i64 N)) (first | assumption | go_keep)
    ((go_at_call 60; refine (wait_any _ _ _ (by omega) (by omega) (by omega) (by omega)).mono ?_; rintro e5 w5 ⟨rfl, rfl⟩))
  obtain ⟨A, hA⟩ : ∃ A, min (waitI N s) (min (waitI N e) (min (waitI N 0) (waitI (t % 1440) 60))) = A := ⟨_, rfl⟩
  have HRA := Lib.hid (HR.out A hA)
  have A0 : 1 ≤ A := by omega
  have A1 : A ≤ 1440 := by omega
  rw [hA]
  clear hA HR b1 b2' b3 b4 hrem
  go_wp2_with fail
  go_ret
  exact ⟨ret_int HRA.out.symm, HV.out.drew⟩
set_option maxRecDepth 100000 in
set_option maxHeartbeats 8000000 in
theorem cand_yy (d s e f u o : Int) (sm : Bool) (t : Int) (w : World) (hs : 0 ≤ s ∧ s ≤ 1439) (he : 0 ≤ e ∧ e ≤ 1439) (z0 : -840 ≤ o) (z1 : o ≤ 840) (t0 : 0 ≤ t) (t1 : t ≤ 268435456) (hf : t < f) (hu : t < u) :
    Calls Tryd.prog 37 #[.agg #[.int .i64 d, .int .i64 s, .int .i64 e, .int .i64 f, .int .i64 u], .agg #[.int .i64 o, .bool sm], .int .i64 t] w fun e' w' => e' = .returned (.int .i64 (candI s e f u o sm t)) ∧ Below w.heap.size w w' := by
  have CL := Lib.hid (fun X => refLocal_yes o sm t X z0 z1 t0 t1)
  have HR : Hid (∀ A, min (waitI ((t + offI o sm t) % 1440) s) (min (waitI ((t + offI o sm t) % 1440) e) (min (waitI ((t + offI o sm t) % 1440) 0) (waitI (t % 1440) 60))) = A → candI s e f u o sm t = min (t + A) (min f u)) := Lib.hid (by
    intro A hA
    unfold candI
    simp only [if_pos hf, if_pos hu]
    rw [show min (min (min (waitI ((t + offI o sm t) % 1440) s) (waitI ((t + offI o sm t) % 1440) e)) (waitI ((t + offI o sm t) % 1440) 0)) (waitI (t % 1440) 60) = A by omega]
    try omega)
  obtain ⟨L, hL⟩ : ∃ L, L = t + offI o sm t := ⟨_, rfl⟩
  rw [← hL] at HR
  simp only [← hL, dateV_eq] at CL
  have n0 : 0 ≤ L % 1440 := by omega
  have n1 : L % 1440 ≤ 1439 := by omega
  obtain ⟨WW, hWW⟩ : ∃ WW, WW = wd (L / 1440) := ⟨_, rfl⟩
  obtain ⟨N, hN⟩ : ∃ N, N = L % 1440 := ⟨_, rfl⟩
  obtain ⟨Y, hY⟩ : ∃ Y, Y = yr (L / 1440) := ⟨_, rfl⟩
  obtain ⟨M, hM⟩ : ∃ M, M = mo (L / 1440) := ⟨_, rfl⟩
  obtain ⟨D, hD⟩ : ∃ D, D = dy (L / 1440) := ⟨_, rfl⟩
  rw [← hN] at HR n0 n1
  simp only [← hWW, ← hN, ← hY, ← hM, ← hD] at CL
  have b1 := waitI_bd N s n0 n1 hs.1 hs.2
  have b2' := waitI_bd N e n0 n1 he.1 he.2
  have b3 := waitI_bd N 0 n0 n1 (by decide) (by decide)
  have b4 := waitI_bd (t % 1440) 60 (by omega) (by omega) (by decide) (by decide)
  have m60 : (0 : Int) ≤ t % 1440 := by omega
  have m61 : t % 1440 ≤ 1439 := by omega
  have hrem : t.tmod 1440 = t % 1440 := Int.tmod_eq_emod_of_nonneg t0
  obtain ⟨s0, s1⟩ := hs
  obtain ⟨e0, e1⟩ := he
  clear hL hWW hN hY hM hD z0 z1
  go_enter Tryd.func37, Tryd.ntmps37
  go_wp2_with fail
  refine (CL.out _).mono ?_
  rintro e1 w1 ⟨rfl, h1⟩
  obtain ⟨hc1, hf1⟩ := bcell h1
  have q0 : w.heap.size + 1 < w1.heap.size := by have := h1.size; simp at this; omega
  have q1 : w.heap.size < w1.heap.size := by omega
  have H1 := Lib.hid (b2 (b2 (b_new w _) (b_new _ _)) h1)
  clear h1
  go_wp2_with fail
  obtain ⟨V, hV⟩ : ∃ V, w1.alloc (.cells #[.int .i64 Y, .int .i64 M, .int .i64 D, .int .i64 WW, .int .i64 N] 46) = V := ⟨_, rfl⟩
  have v1 : V.cell? ⟨w.heap.size, 1, none⟩ = some (.int .i64 s) := by rw [← hV]; simp [go_sem, hc1, q1]
  have v2 : V.cell? ⟨w.heap.size, 2, none⟩ = some (.int .i64 e) := by rw [← hV]; simp [go_sem, hc1, q1]
  have v3 : V.cell? ⟨w.heap.size, 3, none⟩ = some (.int .i64 f) := by rw [← hV]; simp [go_sem, hc1, q1]
  have v4 : V.cell? ⟨w.heap.size, 4, none⟩ = some (.int .i64 u) := by rw [← hV]; simp [go_sem, hc1, q1]
  have v5 : V.cell? ⟨w1.heap.size, 4, none⟩ = some (.int .i64 N) := by rw [← hV]; simp [go_sem]
  have HV : Hid (Below w.heap.size w V) := Lib.hid (by rw [← hV]; exact b2 H1.out (b_new _ _))
  rw [hV]
  clear hV hc1 hf1 q0 q1 H1
  go_region_held3 (fun X => X.cell? ⟨w.heap.size, 1, none⟩ = some (.int .i64 s) ∧ X.cell? ⟨w.heap.size, 2, none⟩ = some (.int .i64 e) ∧ X.cell? ⟨w1.heap.size, 4, none⟩ = some (.int .i64 N)) (first | assumption | go_keep)
    ((go_at_call 60; refine (wait_any _ _ _ (by omega) (by omega) (by omega) (by omega)).mono ?_; rintro e5 w5 ⟨rfl, rfl⟩))
  obtain ⟨A, hA⟩ : ∃ A, min (waitI N s) (min (waitI N e) (min (waitI N 0) (waitI (t % 1440) 60))) = A := ⟨_, rfl⟩
  have HRA := Lib.hid (HR.out A hA)
  have A0 : 1 ≤ A := by omega
  have A1 : A ≤ 1440 := by omega
  rw [hA]
  clear hA HR b1 b2' b3 b4 hrem
  go_wp2_with fail
  go_ret
  exact ⟨ret_int HRA.out.symm, HV.out.drew⟩
theorem cand_any (d s e f u o : Int) (sm : Bool) (t : Int) (w : World) (hs : 0 ≤ s ∧ s ≤ 1439) (he : 0 ≤ e ∧ e ≤ 1439) (z0 : -840 ≤ o) (z1 : o ≤ 840) (t0 : 0 ≤ t) (t1 : t ≤ 268435456) :
    Calls Tryd.prog 37 #[.agg #[.int .i64 d, .int .i64 s, .int .i64 e, .int .i64 f, .int .i64 u], .agg #[.int .i64 o, .bool sm], .int .i64 t] w fun e' w' => e' = .returned (.int .i64 (candI s e f u o sm t)) ∧ Below w.heap.size w w' := by
  by_cases hf : t < f <;> by_cases hu : t < u
  · exact cand_yy d s e f u o sm t w hs he z0 z1 t0 t1 hf hu
  · exact cand_yn d s e f u o sm t w hs he z0 z1 t0 t1 hf hu
  · exact cand_ny d s e f u o sm t w hs he z0 z1 t0 t1 hf hu
  · exact cand_nn d s e f u o sm t w hs he z0 z1 t0 t1 hf hu
set_option maxRecDepth 100000 in
set_option maxHeartbeats 8000000 in
theorem rnext_lo (d s e f u o : Int) (sm : Bool) (t : Int) (w : World) (hok : OkW d s e f u) (z0 : -840 ≤ o) (z1 : o ≤ 840) (t0 : 0 ≤ t) (t1 : t ≤ 268435456) (ht : t < f - 1) :
    Calls Tryd.prog 17 #[.agg #[.int .i64 d, .int .i64 s, .int .i64 e, .int .i64 f, .int .i64 u], .agg #[.int .i64 o, .bool sm], .int .i64 t] w fun e' w' => e' = .returned (.int .i64 (nxt (hB d s e f u o sm) t)) ∧ Below w.heap.size w w' := by
  have CV := Lib.hid (fun X => rvalid_yes d s e f u X hok)
  have CZ := Lib.hid (fun X => refZone_yes o sm X z0 z1)
  have CR := Lib.hid (fun X => right_yes t X t0 t1)
  have hfr : fromI t f = f - 1 := if_pos ht
  have HIT := Lib.hid (fun (U : Int) => rx_hit (sm := sm) (U := U) hok z0 z1 t0 t1)
  have NON := Lib.hid (fun (U : Int) => rx_none (sm := sm) (U := U) hok z0 z1 t0 t1)
  rw [hfr] at HIT NON
  have CF := Lib.hid (fun x x0 x1 => cand_facts (t := x) (sm := sm) hok z0 z1 x0 x1)
  have CC := Lib.hid (fun x x0 x1 X => cand_any d s e f u o sm x X hok.2.1 hok.2.2.1 z0 z1 x0 x1)
  have hol_eq := Lib.hid (fun x => hol_yes (t := x) (sm := sm) ⟨hok, z0, z1⟩)
  obtain ⟨_, _, _, ⟨f0, f1⟩, hu⟩ := hok
  have u1 : u ≤ 268435456 := by omega
  have u0 : -1 ≤ u := by omega
  clear hfr z0 z1 hu
  go_enter Tryd.func17, Tryd.ntmps17
  go_wp2_with fail
  refine (CV.out _).mono ?_
  rintro e1 w1 ⟨rfl, h1⟩
  obtain ⟨hc1, hf1⟩ := bcell h1
  have p1 : w.heap.size + 1 < w1.heap.size := by have := h1.size; simp at this; omega
  have q1 : w.heap.size < w1.heap.size := by omega
  have H1 := Lib.hid (b2 (b2 (b_new w _) (b_new _ _)) h1)
  clear h1
  go_wp2_with fail
  refine (CZ.out _).mono ?_
  rintro e2 w2 ⟨rfl, h2⟩
  obtain ⟨hc2, hf2⟩ := bcell h2
  have p2 : w.heap.size + 1 < w2.heap.size := by have := h2.size; omega
  have q2 : w.heap.size < w2.heap.size := by omega
  have H2 := Lib.hid (b2 H1.out h2)
  have K2 : KN w.heap.size (.int .i64 d) (.int .i64 s) (.int .i64 e) (.int .i64 f) (.int .i64 u) (.int .i64 o) (.bool sm) w2 := by
    refine ⟨p2, ?_, ?_, ?_, ?_, ?_, ?_, ?_⟩ <;> simp [go_sem, hc2, hc1, q1, p1]
  clear h2 hc1 hf1 hc2 hf2 p1 q1 H1
  obtain ⟨_, k0, k1, k2, k3, k4, k5, k6⟩ := K2
  go_wp2_with fail
  refine (CR.out _).mono ?_
  rintro e3 w3 ⟨rfl, rfl⟩
  go_wp2_with fail
  refine (CC.out (f - 1) (by omega) (by omega) _).mono ?_
  rintro e4 w4 ⟨rfl, h4⟩
  have B4 : KB w (.int .i64 d) (.int .i64 s) (.int .i64 e) (.int .i64 f) (.int .i64 u) (.int .i64 o) (.bool sm) w4 := KB.below ⟨⟨p2, k0, k1, k2, k3, k4, k5, k6⟩, H2.out⟩ h4
  obtain ⟨c1, c2, c3⟩ := CF.out (f - 1) (by omega) (by omega)
  obtain ⟨U0, hU0⟩ : ∃ U0, candI s e f u o sm (f - 1) = U0 := ⟨_, rfl⟩
  rw [hU0] at c1 c2 c3 ⊢
  have C3 := Lib.hid c3
  have B4 := Lib.hid B4
  clear h4 hU0 c3 k0 k1 k2 k3 k4 k5 k6 H2 p2 q2
  go_wp2_with fail
  go_loopw [8] (fun v wr => ∃ U, v = .int .i64 U ∧ f - 1 < U ∧ U ≤ 268436896 ∧ Hid (∀ x, f - 1 < x → x < U → x ≤ 268435456 → hB d s e f u o sm x = hB d s e f u o sm (x - 1)) ∧ Hid (KB w (.int .i64 d) (.int .i64 s) (.int .i64 e) (.int .i64 f) (.int .i64 u) (.int .i64 o) (.bool sm) wr)) (fun v _ => (268440000 - intOf v).toNat)
  case atStart => exact ⟨U0, rfl, c1, by omega, C3, B4⟩
  case round =>
    clear B4 C3 c1 c2
    obtain ⟨U, rfl, u2, u3, HQ, HK⟩ := hrel
    obtain ⟨⟨p0, k0, k1, k2, k3, k4, k5, k6⟩, hbw⟩ := HK.out
    by_cases c1 : U ≤ f - 1 + 21600
    · by_cases c2 : U ≤ 268435456
      · have HA := Lib.hid (fun X => rholds_any d s e f u o sm U X)
        have HB := Lib.hid (fun X => rholds_any d s e f u o sm (U - 1) X)
        rw [hol_eq.out] at HA HB
        obtain ⟨ba, hba⟩ : ∃ ba, hB d s e f u o sm U = ba := ⟨_, rfl⟩
        obtain ⟨bb, hbb⟩ : ∃ bb, hB d s e f u o sm (U - 1) = bb := ⟨_, rfl⟩
        rw [hba] at HA
        rw [hbb] at HB
        have HBA := Lib.hid (And.intro hba hbb)
        have S0 : KB w (.int .i64 d) (.int .i64 s) (.int .i64 e) (.int .i64 f) (.int .i64 u) (.int .i64 o) (.bool sm) wr := HK.out
        have hU1 : IntKind.i64.wrap (U - 1) = U - 1 := by rw [IntKind.wrap_i64]; omega
        clear hba hbb k0 k1 k2 k3 k4 k5 k6 p0 hbw HK
        go_wp2_with fail
        go_region_held3 (fun X => (w.heap.size + 1 < X.heap.size ∧ X.cell? ⟨w.heap.size, 0, none⟩ = some (.int .i64 d) ∧ X.cell? ⟨w.heap.size, 1, none⟩ = some (.int .i64 s) ∧ X.cell? ⟨w.heap.size, 2, none⟩ = some (.int .i64 e) ∧ X.cell? ⟨w.heap.size, 3, none⟩ = some (.int .i64 f) ∧ X.cell? ⟨w.heap.size, 4, none⟩ = some (.int .i64 u) ∧ X.cell? ⟨w.heap.size + 1, 0, none⟩ = some (.int .i64 o) ∧ X.cell? ⟨w.heap.size + 1, 1, none⟩ = some (.bool sm)) ∧ Below w.heap.size w X) (first | assumption | exact KB.draws S0 _ | exact KB.drew (by assumption) | exact KB.below (by assumption) (by assumption))
          (first | (go_at_call 15; (with_reducible refine (HA.out _).mono ?_); rintro e5 w5 ⟨rfl, h5⟩) | (go_at_call 15; (with_reducible refine (HB.out _).mono ?_); rintro e5 w5 ⟨rfl, h5⟩))
        have S5 : KB w (.int .i64 d) (.int .i64 s) (.int .i64 e) (.int .i64 f) (.int .i64 u) (.int .i64 o) (.bool sm) w5 := by assumption
        obtain ⟨⟨p0, k0, k1, k2, k3, k4, k5, k6⟩, hbw⟩ := S5
        have S5 : KB w (.int .i64 d) (.int .i64 s) (.int .i64 e) (.int .i64 f) (.int .i64 u) (.int .i64 o) (.bool sm) w5 := by assumption
        have HS5 := Lib.hid S5
        clear S0 S5 h5
        by_cases hab : ba = bb
        · have HQ2 : hB d s e f u o sm U = hB d s e f u o sm (U - 1) := by rw [HBA.out.1, HBA.out.2, hab]
          have HQ2 := Lib.hid HQ2
          have HCC := Lib.hid (CC.out U (by omega) c2)
          obtain ⟨d1, d2, d3⟩ := CF.out U (by omega) c2
          obtain ⟨U', hU'⟩ : ∃ U', candI s e f u o sm U = U' := ⟨_, rfl⟩
          rw [hU'] at d1 d2 d3 HCC
          have HQ3 := Lib.hid (quiet_more HQ.out HQ2.out d3)
          clear hU' d3
          subst hab
          cases ba <;>
          · go_wp2_with fail
            refine (HCC.out _).mono ?_
            rintro e6 w6 ⟨rfl, h6⟩
            have S6 := Lib.hid (KB.below HS5.out h6)
            clear h6 k0 k1 k2 k3 k4 k5 k6 p0 hbw
            go_wp2_with fail
            go_roundw
            case rel => exact ⟨U', rfl, by omega, by omega, HQ3, S6⟩
            case measure => simp [intOf]; omega
        · have HX := Lib.hid (nxt_eq t0 (HIT.out U u2 c2 HQ.out (by rw [HBA.out.1, HBA.out.2]; exact hab)))
          cases ba <;> cases bb <;> first | exact absurd rfl hab | skip
          all_goals
            go_wp2_with fail
            go_ret
            exact ⟨ret_int HX.out.symm, HS5.out.2⟩
      · have c2' : decide (U ≤ 268435456) = false := decide_eq_false c2
        have NX2 := Lib.hid (NON.out U u2 (by omega) HQ.out)
        have c3 : 268435456 < U := by omega
        clear c2
        by_cases c4 : f - 1 < u
        · have HU := Lib.hid (fun X => rholds_any d s e f u o sm (u - 1) X)
          rw [hol_eq.out] at HU
          obtain ⟨bu, hbu⟩ : ∃ bu, hB d s e f u o sm (u - 1) = bu := ⟨_, rfl⟩
          rw [hbu] at HU NX2
          clear hbu
          have HKH := Lib.hid hbw
          cases bu with
          | true =>
            rw [if_pos ⟨c4, rfl⟩] at NX2
            have NX3 := Lib.hid (nxt_eq t0 NX2.out)
            go_wp2_with fail
            refine (HU.out _).mono ?_
            rintro e5 w5 ⟨rfl, h5⟩
            have K5 : KN w.heap.size (.int .i64 d) (.int .i64 s) (.int .i64 e) (.int .i64 f) (.int .i64 u) (.int .i64 o) (.bool sm) w5 := KN.below ⟨p0, k0, k1, k2, k3, k4, k5, k6⟩ h5
            have H5 := Lib.hid (b2 HKH.out h5)
            clear h5 k0 k1 k2 k3 k4 k5 k6 p0 hbw
            obtain ⟨p0, k0, k1, k2, k3, k4, k5, k6⟩ := K5
            go_wp2_with fail
            go_ret
            exact ⟨ret_int NX3.out.symm, H5.out⟩
          | false =>
            rw [if_neg (fun h => by cases h.2)] at NX2
            have NX3 := Lib.hid (nxt_eq t0 NX2.out)
            go_wp2_with fail
            refine (HU.out _).mono ?_
            rintro e5 w5 ⟨rfl, h5⟩
            have H5 := Lib.hid (b2 HKH.out h5)
            clear h5
            go_wp2_with fail
            go_ret
            exact ⟨ret_int NX3.out.symm, H5.out⟩
        · rw [if_neg (fun h => c4 h.1)] at NX2
          have NX3 := Lib.hid (nxt_eq t0 NX2.out)
          have c5 : decide (f - 1 < u) = false := decide_eq_false c4
          clear c4
          go_wp2_with fail
          go_ret
          exact ⟨ret_int NX3.out.symm, hbw⟩
    · have c1' : decide (U ≤ f - 1 + 21600) = false := decide_eq_false c1
      have NX2 := Lib.hid (NON.out U u2 (by omega) HQ.out)
      have c3 : f - 1 + 21600 < U := by omega
      clear c1
      by_cases c4 : f - 1 < u
      · have HU := Lib.hid (fun X => rholds_any d s e f u o sm (u - 1) X)
        rw [hol_eq.out] at HU
        obtain ⟨bu, hbu⟩ : ∃ bu, hB d s e f u o sm (u - 1) = bu := ⟨_, rfl⟩
        rw [hbu] at HU NX2
        clear hbu
        have HKH := Lib.hid hbw
        cases bu with
        | true =>
          rw [if_pos ⟨c4, rfl⟩] at NX2
          have NX3 := Lib.hid (nxt_eq t0 NX2.out)
          go_wp2_with fail
          refine (HU.out _).mono ?_
          rintro e5 w5 ⟨rfl, h5⟩
          have K5 : KN w.heap.size (.int .i64 d) (.int .i64 s) (.int .i64 e) (.int .i64 f) (.int .i64 u) (.int .i64 o) (.bool sm) w5 := KN.below ⟨p0, k0, k1, k2, k3, k4, k5, k6⟩ h5
          have H5 := Lib.hid (b2 HKH.out h5)
          clear h5 k0 k1 k2 k3 k4 k5 k6 p0 hbw
          obtain ⟨p0, k0, k1, k2, k3, k4, k5, k6⟩ := K5
          go_wp2_with fail
          go_ret
          exact ⟨ret_int NX3.out.symm, H5.out⟩
        | false =>
          rw [if_neg (fun h => by cases h.2)] at NX2
          have NX3 := Lib.hid (nxt_eq t0 NX2.out)
          go_wp2_with fail
          refine (HU.out _).mono ?_
          rintro e5 w5 ⟨rfl, h5⟩
          have H5 := Lib.hid (b2 HKH.out h5)
          clear h5
          go_wp2_with fail
          go_ret
          exact ⟨ret_int NX3.out.symm, H5.out⟩
      · rw [if_neg (fun h => c4 h.1)] at NX2
        have NX3 := Lib.hid (nxt_eq t0 NX2.out)
        have c5 : decide (f - 1 < u) = false := decide_eq_false c4
        clear c4
        go_wp2_with fail
        go_ret
        exact ⟨ret_int NX3.out.symm, hbw⟩
set_option maxRecDepth 100000 in
set_option maxHeartbeats 8000000 in
theorem rnext_hi (d s e f u o : Int) (sm : Bool) (t : Int) (w : World) (hok : OkW d s e f u) (z0 : -840 ≤ o) (z1 : o ≤ 840) (t0 : 0 ≤ t) (t1 : t ≤ 268435456) (ht : ¬ t < f - 1) :
    Calls Tryd.prog 17 #[.agg #[.int .i64 d, .int .i64 s, .int .i64 e, .int .i64 f, .int .i64 u], .agg #[.int .i64 o, .bool sm], .int .i64 t] w fun e' w' => e' = .returned (.int .i64 (nxt (hB d s e f u o sm) t)) ∧ Below w.heap.size w w' := by
  have CV := Lib.hid (fun X => rvalid_yes d s e f u X hok)
  have CZ := Lib.hid (fun X => refZone_yes o sm X z0 z1)
  have CR := Lib.hid (fun X => right_yes t X t0 t1)
  have hfr : fromI t f = t := if_neg ht
  have HIT := Lib.hid (fun (U : Int) => rx_hit (sm := sm) (U := U) hok z0 z1 t0 t1)
  have NON := Lib.hid (fun (U : Int) => rx_none (sm := sm) (U := U) hok z0 z1 t0 t1)
  rw [hfr] at HIT NON
  have CF := Lib.hid (fun x x0 x1 => cand_facts (t := x) (sm := sm) hok z0 z1 x0 x1)
  have CC := Lib.hid (fun x x0 x1 X => cand_any d s e f u o sm x X hok.2.1 hok.2.2.1 z0 z1 x0 x1)
  have hol_eq := Lib.hid (fun x => hol_yes (t := x) (sm := sm) ⟨hok, z0, z1⟩)
  obtain ⟨_, _, _, ⟨f0, f1⟩, hu⟩ := hok
  have u1 : u ≤ 268435456 := by omega
  have u0 : -1 ≤ u := by omega
  clear hfr z0 z1 hu
  go_enter Tryd.func17, Tryd.ntmps17
  go_wp2_with fail
  refine (CV.out _).mono ?_
  rintro e1 w1 ⟨rfl, h1⟩
  obtain ⟨hc1, hf1⟩ := bcell h1
  have p1 : w.heap.size + 1 < w1.heap.size := by have := h1.size; simp at this; omega
  have q1 : w.heap.size < w1.heap.size := by omega
  have H1 := Lib.hid (b2 (b2 (b_new w _) (b_new _ _)) h1)
  clear h1
  go_wp2_with fail
  refine (CZ.out _).mono ?_
  rintro e2 w2 ⟨rfl, h2⟩
  obtain ⟨hc2, hf2⟩ := bcell h2
  have p2 : w.heap.size + 1 < w2.heap.size := by have := h2.size; omega
  have q2 : w.heap.size < w2.heap.size := by omega
  have H2 := Lib.hid (b2 H1.out h2)
  have K2 : KN w.heap.size (.int .i64 d) (.int .i64 s) (.int .i64 e) (.int .i64 f) (.int .i64 u) (.int .i64 o) (.bool sm) w2 := by
    refine ⟨p2, ?_, ?_, ?_, ?_, ?_, ?_, ?_⟩ <;> simp [go_sem, hc2, hc1, q1, p1]
  clear h2 hc1 hf1 hc2 hf2 p1 q1 H1
  obtain ⟨_, k0, k1, k2, k3, k4, k5, k6⟩ := K2
  go_wp2_with fail
  refine (CR.out _).mono ?_
  rintro e3 w3 ⟨rfl, rfl⟩
  go_wp2_with fail
  refine (CC.out (t) (by omega) (by omega) _).mono ?_
  rintro e4 w4 ⟨rfl, h4⟩
  have B4 : KB w (.int .i64 d) (.int .i64 s) (.int .i64 e) (.int .i64 f) (.int .i64 u) (.int .i64 o) (.bool sm) w4 := KB.below ⟨⟨p2, k0, k1, k2, k3, k4, k5, k6⟩, H2.out⟩ h4
  obtain ⟨c1, c2, c3⟩ := CF.out (t) (by omega) (by omega)
  obtain ⟨U0, hU0⟩ : ∃ U0, candI s e f u o sm (t) = U0 := ⟨_, rfl⟩
  rw [hU0] at c1 c2 c3 ⊢
  have C3 := Lib.hid c3
  have B4 := Lib.hid B4
  clear h4 hU0 c3 k0 k1 k2 k3 k4 k5 k6 H2 p2 q2
  go_wp2_with fail
  go_loopw [8] (fun v wr => ∃ U, v = .int .i64 U ∧ t < U ∧ U ≤ 268436896 ∧ Hid (∀ x, t < x → x < U → x ≤ 268435456 → hB d s e f u o sm x = hB d s e f u o sm (x - 1)) ∧ Hid (KB w (.int .i64 d) (.int .i64 s) (.int .i64 e) (.int .i64 f) (.int .i64 u) (.int .i64 o) (.bool sm) wr)) (fun v _ => (268440000 - intOf v).toNat)
  case atStart => exact ⟨U0, rfl, c1, by omega, C3, B4⟩
  case round =>
    clear B4 C3 c1 c2
    obtain ⟨U, rfl, u2, u3, HQ, HK⟩ := hrel
    obtain ⟨⟨p0, k0, k1, k2, k3, k4, k5, k6⟩, hbw⟩ := HK.out
    by_cases c1 : U ≤ t + 21600
    · by_cases c2 : U ≤ 268435456
      · have HA := Lib.hid (fun X => rholds_any d s e f u o sm U X)
        have HB := Lib.hid (fun X => rholds_any d s e f u o sm (U - 1) X)
        rw [hol_eq.out] at HA HB
        obtain ⟨ba, hba⟩ : ∃ ba, hB d s e f u o sm U = ba := ⟨_, rfl⟩
        obtain ⟨bb, hbb⟩ : ∃ bb, hB d s e f u o sm (U - 1) = bb := ⟨_, rfl⟩
        rw [hba] at HA
        rw [hbb] at HB
        have HBA := Lib.hid (And.intro hba hbb)
        have S0 : KB w (.int .i64 d) (.int .i64 s) (.int .i64 e) (.int .i64 f) (.int .i64 u) (.int .i64 o) (.bool sm) wr := HK.out
        have hU1 : IntKind.i64.wrap (U - 1) = U - 1 := by rw [IntKind.wrap_i64]; omega
        clear hba hbb k0 k1 k2 k3 k4 k5 k6 p0 hbw HK
        go_wp2_with fail
        go_region_held3 (fun X => (w.heap.size + 1 < X.heap.size ∧ X.cell? ⟨w.heap.size, 0, none⟩ = some (.int .i64 d) ∧ X.cell? ⟨w.heap.size, 1, none⟩ = some (.int .i64 s) ∧ X.cell? ⟨w.heap.size, 2, none⟩ = some (.int .i64 e) ∧ X.cell? ⟨w.heap.size, 3, none⟩ = some (.int .i64 f) ∧ X.cell? ⟨w.heap.size, 4, none⟩ = some (.int .i64 u) ∧ X.cell? ⟨w.heap.size + 1, 0, none⟩ = some (.int .i64 o) ∧ X.cell? ⟨w.heap.size + 1, 1, none⟩ = some (.bool sm)) ∧ Below w.heap.size w X) (first | assumption | exact KB.draws S0 _ | exact KB.drew (by assumption) | exact KB.below (by assumption) (by assumption))
          (first | (go_at_call 15; (with_reducible refine (HA.out _).mono ?_); rintro e5 w5 ⟨rfl, h5⟩) | (go_at_call 15; (with_reducible refine (HB.out _).mono ?_); rintro e5 w5 ⟨rfl, h5⟩))
        have S5 : KB w (.int .i64 d) (.int .i64 s) (.int .i64 e) (.int .i64 f) (.int .i64 u) (.int .i64 o) (.bool sm) w5 := by assumption
        obtain ⟨⟨p0, k0, k1, k2, k3, k4, k5, k6⟩, hbw⟩ := S5
        have S5 : KB w (.int .i64 d) (.int .i64 s) (.int .i64 e) (.int .i64 f) (.int .i64 u) (.int .i64 o) (.bool sm) w5 := by assumption
        have HS5 := Lib.hid S5
        clear S0 S5 h5
        by_cases hab : ba = bb
        · have HQ2 : hB d s e f u o sm U = hB d s e f u o sm (U - 1) := by rw [HBA.out.1, HBA.out.2, hab]
          have HQ2 := Lib.hid HQ2
          have HCC := Lib.hid (CC.out U (by omega) c2)
          obtain ⟨d1, d2, d3⟩ := CF.out U (by omega) c2
          obtain ⟨U', hU'⟩ : ∃ U', candI s e f u o sm U = U' := ⟨_, rfl⟩
          rw [hU'] at d1 d2 d3 HCC
          have HQ3 := Lib.hid (quiet_more HQ.out HQ2.out d3)
          clear hU' d3
          subst hab
          cases ba <;>
          · go_wp2_with fail
            refine (HCC.out _).mono ?_
            rintro e6 w6 ⟨rfl, h6⟩
            have S6 := Lib.hid (KB.below HS5.out h6)
            clear h6 k0 k1 k2 k3 k4 k5 k6 p0 hbw
            go_wp2_with fail
            go_roundw
            case rel => exact ⟨U', rfl, by omega, by omega, HQ3, S6⟩
            case measure => simp [intOf]; omega
        · have HX := Lib.hid (nxt_eq t0 (HIT.out U u2 c2 HQ.out (by rw [HBA.out.1, HBA.out.2]; exact hab)))
          cases ba <;> cases bb <;> first | exact absurd rfl hab | skip
          all_goals
            go_wp2_with fail
            go_ret
            exact ⟨ret_int HX.out.symm, HS5.out.2⟩
      · have c2' : decide (U ≤ 268435456) = false := decide_eq_false c2
        have NX2 := Lib.hid (NON.out U u2 (by omega) HQ.out)
        have c3 : 268435456 < U := by omega
        clear c2
        by_cases c4 : t < u
        · have HU := Lib.hid (fun X => rholds_any d s e f u o sm (u - 1) X)
          rw [hol_eq.out] at HU
          obtain ⟨bu, hbu⟩ : ∃ bu, hB d s e f u o sm (u - 1) = bu := ⟨_, rfl⟩
          rw [hbu] at HU NX2
          clear hbu
          have HKH := Lib.hid hbw
          cases bu with
          | true =>
            rw [if_pos ⟨c4, rfl⟩] at NX2
            have NX3 := Lib.hid (nxt_eq t0 NX2.out)
            go_wp2_with fail
            refine (HU.out _).mono ?_
            rintro e5 w5 ⟨rfl, h5⟩
            have K5 : KN w.heap.size (.int .i64 d) (.int .i64 s) (.int .i64 e) (.int .i64 f) (.int .i64 u) (.int .i64 o) (.bool sm) w5 := KN.below ⟨p0, k0, k1, k2, k3, k4, k5, k6⟩ h5
            have H5 := Lib.hid (b2 HKH.out h5)
            clear h5 k0 k1 k2 k3 k4 k5 k6 p0 hbw
            obtain ⟨p0, k0, k1, k2, k3, k4, k5, k6⟩ := K5
            go_wp2_with fail
            go_ret
            exact ⟨ret_int NX3.out.symm, H5.out⟩
          | false =>
            rw [if_neg (fun h => by cases h.2)] at NX2
            have NX3 := Lib.hid (nxt_eq t0 NX2.out)
            go_wp2_with fail
            refine (HU.out _).mono ?_
            rintro e5 w5 ⟨rfl, h5⟩
            have H5 := Lib.hid (b2 HKH.out h5)
            clear h5
            go_wp2_with fail
            go_ret
            exact ⟨ret_int NX3.out.symm, H5.out⟩
        · rw [if_neg (fun h => c4 h.1)] at NX2
          have NX3 := Lib.hid (nxt_eq t0 NX2.out)
          have c5 : decide (t < u) = false := decide_eq_false c4
          clear c4
          go_wp2_with fail
          go_ret
          exact ⟨ret_int NX3.out.symm, hbw⟩
    · have c1' : decide (U ≤ t + 21600) = false := decide_eq_false c1
      have NX2 := Lib.hid (NON.out U u2 (by omega) HQ.out)
      have c3 : t + 21600 < U := by omega
      clear c1
      by_cases c4 : t < u
      · have HU := Lib.hid (fun X => rholds_any d s e f u o sm (u - 1) X)
        rw [hol_eq.out] at HU
        obtain ⟨bu, hbu⟩ : ∃ bu, hB d s e f u o sm (u - 1) = bu := ⟨_, rfl⟩
        rw [hbu] at HU NX2
        clear hbu
        have HKH := Lib.hid hbw
        cases bu with
        | true =>
          rw [if_pos ⟨c4, rfl⟩] at NX2
          have NX3 := Lib.hid (nxt_eq t0 NX2.out)
          go_wp2_with fail
          refine (HU.out _).mono ?_
          rintro e5 w5 ⟨rfl, h5⟩
          have K5 : KN w.heap.size (.int .i64 d) (.int .i64 s) (.int .i64 e) (.int .i64 f) (.int .i64 u) (.int .i64 o) (.bool sm) w5 := KN.below ⟨p0, k0, k1, k2, k3, k4, k5, k6⟩ h5
          have H5 := Lib.hid (b2 HKH.out h5)
          clear h5 k0 k1 k2 k3 k4 k5 k6 p0 hbw
          obtain ⟨p0, k0, k1, k2, k3, k4, k5, k6⟩ := K5
          go_wp2_with fail
          go_ret
          exact ⟨ret_int NX3.out.symm, H5.out⟩
        | false =>
          rw [if_neg (fun h => by cases h.2)] at NX2
          have NX3 := Lib.hid (nxt_eq t0 NX2.out)
          go_wp2_with fail
          refine (HU.out _).mono ?_
          rintro e5 w5 ⟨rfl, h5⟩
          have H5 := Lib.hid (b2 HKH.out h5)
          clear h5
          go_wp2_with fail
          go_ret
          exact ⟨ret_int NX3.out.symm, H5.out⟩
      · rw [if_neg (fun h => c4 h.1)] at NX2
        have NX3 := Lib.hid (nxt_eq t0 NX2.out)
        have c5 : decide (t < u) = false := decide_eq_false c4
        clear c4
        go_wp2_with fail
        go_ret
        exact ⟨ret_int NX3.out.symm, hbw⟩
set_option maxRecDepth 100000 in
set_option maxHeartbeats 8000000 in
theorem rnext_bad (d s e f u o : Int) (sm : Bool) (t : Int) (w : World) (h : ¬ OkW d s e f u) :
    Calls Tryd.prog 17 #[.agg #[.int .i64 d, .int .i64 s, .int .i64 e, .int .i64 f, .int .i64 u], .agg #[.int .i64 o, .bool sm], .int .i64 t] w fun e' w' => e' = .returned (.int .i64 (-1)) ∧ Below w.heap.size w w' := by
  have CV := Lib.hid (fun X => rvalid_no d s e f u X h)
  clear h
  go_enter Tryd.func17, Tryd.ntmps17
  go_wp2_with fail
  refine (CV.out _).mono ?_
  rintro e1 w1 ⟨rfl, h1⟩
  obtain ⟨hc1, hf1⟩ := bcell h1
  have p1 : w.heap.size + 1 < w1.heap.size := by have := h1.size; (try simp at this); omega
  have H1 := Lib.hid (b2 (b2 (b_new w _) (b_new _ _)) h1)
  clear h1
  go_wp2_with fail
  go_ret
  exact ⟨rfl, H1.out⟩
set_option maxRecDepth 100000 in
set_option maxHeartbeats 8000000 in
theorem rnext_zone (d s e f u o : Int) (sm : Bool) (t : Int) (w : World) (h : OkW d s e f u) (hz : o < -840 ∨ 840 < o) :
    Calls Tryd.prog 17 #[.agg #[.int .i64 d, .int .i64 s, .int .i64 e, .int .i64 f, .int .i64 u], .agg #[.int .i64 o, .bool sm], .int .i64 t] w fun e' w' => e' = .returned (.int .i64 (-1)) ∧ Below w.heap.size w w' := by
  have CV := Lib.hid (fun X => rvalid_yes d s e f u X h)
  have CZ := Lib.hid (fun X => refZone_no o sm X hz)
  clear h hz
  go_enter Tryd.func17, Tryd.ntmps17
  go_wp2_with fail
  refine (CV.out _).mono ?_
  rintro e1 w1 ⟨rfl, h1⟩
  obtain ⟨hc1, hf1⟩ := bcell h1
  have p1 : w.heap.size + 1 < w1.heap.size := by have := h1.size; (try simp at this); omega
  have H1 := Lib.hid (b2 (b2 (b_new w _) (b_new _ _)) h1)
  clear h1
  go_wp2_with fail
  refine (CZ.out _).mono ?_
  rintro e2 w2 ⟨rfl, h2⟩
  obtain ⟨hc2, hf2⟩ := bcell h2
  have p2 : w.heap.size + 1 < w2.heap.size := by have := h2.size; (try simp at this); omega
  have H2 := Lib.hid (b2 H1.out h2)
  clear h2
  go_wp2_with fail
  go_ret
  exact ⟨rfl, H2.out⟩
set_option maxRecDepth 100000 in
set_option maxHeartbeats 8000000 in
theorem rnext_time (d s e f u o : Int) (sm : Bool) (t : Int) (w : World) (h : OkW d s e f u) (z0 : -840 ≤ o) (z1 : o ≤ 840) (ht : t < 0 ∨ 268435456 < t) :
    Calls Tryd.prog 17 #[.agg #[.int .i64 d, .int .i64 s, .int .i64 e, .int .i64 f, .int .i64 u], .agg #[.int .i64 o, .bool sm], .int .i64 t] w fun e' w' => e' = .returned (.int .i64 (-1)) ∧ Below w.heap.size w w' := by
  have CV := Lib.hid (fun X => rvalid_yes d s e f u X h)
  have CZ := Lib.hid (fun X => refZone_yes o sm X z0 z1)
  have CR := Lib.hid (fun X => right_no t X ht)
  clear h z0 z1 ht
  go_enter Tryd.func17, Tryd.ntmps17
  go_wp2_with fail
  refine (CV.out _).mono ?_
  rintro e1 w1 ⟨rfl, h1⟩
  obtain ⟨hc1, hf1⟩ := bcell h1
  have p1 : w.heap.size + 1 < w1.heap.size := by have := h1.size; (try simp at this); omega
  have H1 := Lib.hid (b2 (b2 (b_new w _) (b_new _ _)) h1)
  clear h1
  go_wp2_with fail
  refine (CZ.out _).mono ?_
  rintro e2 w2 ⟨rfl, h2⟩
  obtain ⟨hc2, hf2⟩ := bcell h2
  have p2 : w.heap.size + 1 < w2.heap.size := by have := h2.size; (try simp at this); omega
  have H2 := Lib.hid (b2 H1.out h2)
  clear h2
  go_wp2_with fail
  refine (CR.out _).mono ?_
  rintro e3 w3 ⟨rfl, rfl⟩
  go_wp2_with fail
  go_ret
  exact ⟨rfl, H2.out⟩
theorem rnext_any (d s e f u o : Int) (sm : Bool) (t : Int) (w : World) :
    Calls Tryd.prog 17 #[.agg #[.int .i64 d, .int .i64 s, .int .i64 e, .int .i64 f, .int .i64 u], .agg #[.int .i64 o, .bool sm], .int .i64 t] w fun e' w' => e' = .returned (.int .i64 (nxI d s e f u o sm t)) ∧ Below w.heap.size w w' := by
  unfold nxI
  by_cases h : OkW d s e f u
  · by_cases hz : -840 ≤ o ∧ o ≤ 840
    · by_cases ht : 0 ≤ t ∧ t ≤ 268435456
      · rw [if_pos ⟨⟨h, hz⟩, ht⟩]
        by_cases c : t < f - 1
        · exact rnext_lo d s e f u o sm t w h hz.1 hz.2 ht.1 ht.2 c
        · exact rnext_hi d s e f u o sm t w h hz.1 hz.2 ht.1 ht.2 c
      · rw [if_neg (fun x => ht x.2)]; exact rnext_time d s e f u o sm t w h hz.1 hz.2 (by omega)
    · rw [if_neg (fun x => hz x.1.2)]; exact rnext_zone d s e f u o sm t w h (by omega)
  · rw [if_neg (fun x => h x.1.1)]; exact rnext_bad d s e f u o sm t w h
end Go.Proofs.YtmapkiefmbgdoaaDoor
