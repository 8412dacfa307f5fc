/-
  What usable, always, within and the reference's Holds return.
-/
import Derived.Test.YtmapkiefmbgdoabDoorWinD
import Derived.WalkLawsBesides
namespace Go.Proofs.YtmapkiefmbgdoabDoor
open Go.RowKit
open Cal

def alwB (d s e : Int) : Bool := decide (s = e) && (decide (d = 0) || decide (d = 127))
theorem always_any (d s e f u : Int) (w : World) :
    Calls Tryd.prog 43 #[.agg #[.int .i64 d, .int .i64 s, .int .i64 e, .int .i64 f, .int .i64 u]] w fun e' w' => e' = .returned (.bool (alwB d s e)) ∧ Below w.heap.size w w' := by
  by_cases h : s = e
  · have te := eq_t _ _ h
    by_cases h2 : d = 0
    · have td := eq_t _ _ h2
      have HR : Hid (alwB d s e = true) := Lib.hid (by unfold alwB; simp [h, h2])
      clear h h2
      go_enter Tryd.func43, Tryd.ntmps43
      go_wp2_with fail
      go_ret
      exact ⟨ret_bool HR.out.symm, b_new _ _⟩
    · have td := eq_f _ _ h2
      have HR : Hid (alwB d s e = decide (d = 127)) := Lib.hid (by unfold alwB; simp [h, h2])
      clear h h2
      go_enter Tryd.func43, Tryd.ntmps43
      go_wp2_with fail
      go_ret
      exact ⟨ret_bool (by rw [HR.out]; rfl), b_new _ _⟩
  · have te := eq_f _ _ h
    have HR : Hid (alwB d s e = false) := Lib.hid (by unfold alwB; simp [h])
    clear h
    go_enter Tryd.func43, Tryd.ntmps43
    go_wp2_with fail
    go_ret
    exact ⟨ret_bool HR.out.symm, b_new _ _⟩
/-- The part of a span within the dates of a window. -/
def wiF (F f : Int) : Int := max F f
def wiT (T u : Int) : Int := if u = -1 then T else min T u
def usB (d s e f u o : Int) : Bool := decide (OkW d s e f u ∧ -840 ≤ o ∧ o ≤ 840)

set_option maxRecDepth 100000 in
set_option maxHeartbeats 4000000 in
theorem within_none (d s e f u F T : Int) (w : World) (hu : u = -1) :
    Calls Tryd.prog 26 #[.agg #[.int .i64 d, .int .i64 s, .int .i64 e, .int .i64 f, .int .i64 u], .agg #[.int .i64 F, .int .i64 T]] w fun e' w' => e' = .returned (.agg #[.int .i64 (wiF F f), .int .i64 (wiT T u)]) ∧ Below w.heap.size w w' := by
  have nu := ne_f _ _ hu
  have HT : Hid (wiT T u = T) := Lib.hid (by unfold wiT; rw [if_pos hu])
  clear hu
  go_enter Tryd.func26, Tryd.ntmps26
  go_wp2_with fail
  refine bodyPost_ret (v := .agg #[.int .i64 (wiF F f), .int .i64 (wiT T u)]) (by rw [HT.out]; simp [results, Tryd.results26, go_sem, wiF]) rfl ⟨rfl, ?_⟩
  exact b2 (b2 (b_new w _) (b_new _ _)) (b_new _ _)
set_option maxRecDepth 100000 in
set_option maxHeartbeats 4000000 in
theorem within_some (d s e f u F T : Int) (w : World) (hu : u ≠ -1) :
    Calls Tryd.prog 26 #[.agg #[.int .i64 d, .int .i64 s, .int .i64 e, .int .i64 f, .int .i64 u], .agg #[.int .i64 F, .int .i64 T]] w fun e' w' => e' = .returned (.agg #[.int .i64 (wiF F f), .int .i64 (wiT T u)]) ∧ Below w.heap.size w w' := by
  have nu := ne_t _ _ hu
  have HT : Hid (wiT T u = min T u) := Lib.hid (by unfold wiT; rw [if_neg hu])
  clear hu
  go_enter Tryd.func26, Tryd.ntmps26
  go_wp2_with fail
  refine bodyPost_ret (v := .agg #[.int .i64 (wiF F f), .int .i64 (wiT T u)]) (by rw [HT.out]; simp [results, Tryd.results26, go_sem, wiF]) rfl ⟨rfl, ?_⟩
  exact b2 (b2 (b_new w _) (b_new _ _)) (b_new _ _)
theorem within_any (d s e f u F T : Int) (w : World) :
    Calls Tryd.prog 26 #[.agg #[.int .i64 d, .int .i64 s, .int .i64 e, .int .i64 f, .int .i64 u], .agg #[.int .i64 F, .int .i64 T]] w fun e' w' => e' = .returned (.agg #[.int .i64 (wiF F f), .int .i64 (wiT T u)]) ∧ Below w.heap.size w w' := by
  by_cases h : u = -1
  · exact within_none d s e f u F T w h
  · exact within_some d s e f u F T w h
set_option maxRecDepth 100000 in
set_option maxHeartbeats 4000000 in
theorem usable_zone (d s e f u o : Int) (sm : Bool) (w : World) (hT : Tab w) (hz : o < -840 ∨ 840 < o) :
    Calls Tryd.prog 25 #[.agg #[.int .i64 d, .int .i64 s, .int .i64 e, .int .i64 f, .int .i64 u], .agg #[.int .i64 o, .bool sm]] w fun e' w' => e' = .returned (.bool (usB d s e f u o)) ∧ Below w.heap.size w w' := by
  have HR : Hid (usB d s e f u o = false) := Lib.hid (by unfold usB; exact decide_eq_false (fun h => by omega))
  have CL := Lib.hid (fun X (_ : Tab X) => local_zone o sm 0 X hz)
  unfold zeroV at CL
  clear hz
  go_enter Tryd.func25, Tryd.ntmps25
  go_wp2_with fail
  refine (CL.out _ (hT.below (b2 (b_new w _) (b_new _ _)))).mono ?_
  rintro e2 w2 ⟨rfl, h2⟩
  obtain ⟨hc2, hf2⟩ := bcell h2
  have z2 : w.heap.size + 1 < w2.heap.size := by have := h2.size; simp at this; omega
  have q2 : w.heap.size < w2.heap.size := by omega
  have H2 := Lib.hid (b2 (b2 (b_new w _) (b_new _ _)) h2)
  clear h2
  go_wp2_with fail
  go_ret
  first | exact ⟨ret_bool HR.out.symm, b2 H2.out (b_new _ _)⟩ | exact ⟨ret_bool HR.out.symm, b_five (b2 H2.out (b_new _ _)) H2.out.size _ _ _ _ _⟩
set_option maxRecDepth 100000 in
set_option maxHeartbeats 4000000 in
theorem usable_no (d s e f u o : Int) (sm : Bool) (w : World) (hT : Tab w) (z0 : -840 ≤ o) (z1 : o ≤ 840) (h : ¬ OkW d s e f u) :
    Calls Tryd.prog 25 #[.agg #[.int .i64 d, .int .i64 s, .int .i64 e, .int .i64 f, .int .i64 u], .agg #[.int .i64 o, .bool sm]] w fun e' w' => e' = .returned (.bool (usB d s e f u o)) ∧ Below w.heap.size w w' := by
  have HR : Hid (usB d s e f u o = false) := Lib.hid (by unfold usB; exact decide_eq_false (fun h2 => h h2.1))
  have CV := Lib.hid (fun X => valid_no d s e f u X h)
  have CL := Lib.hid (fun X hX => local_yes o sm 0 X hX z0 z1 (by decide) (by decide))
  simp only [dateV_eq] at CL
  obtain ⟨Y, hY⟩ : ∃ Y, Y = yr ((0 + offI o sm 0) / 1440) := ⟨_, rfl⟩
  obtain ⟨M, hM⟩ : ∃ M, M = mo ((0 + offI o sm 0) / 1440) := ⟨_, rfl⟩
  obtain ⟨D, hD⟩ : ∃ D, D = dy ((0 + offI o sm 0) / 1440) := ⟨_, rfl⟩
  obtain ⟨W1, hW⟩ : ∃ W1, W1 = wd ((0 + offI o sm 0) / 1440) := ⟨_, rfl⟩
  obtain ⟨N, hN⟩ : ∃ N, N = (0 + offI o sm 0) % 1440 := ⟨_, rfl⟩
  simp only [← hY, ← hM, ← hD, ← hW, ← hN] at CL
  clear hY hM hD hW hN
  clear z0 z1 h
  go_enter Tryd.func25, Tryd.ntmps25
  go_wp2_with fail
  refine (CL.out _ (hT.below (b2 (b_new w _) (b_new _ _)))).mono ?_
  rintro e2 w2 ⟨rfl, h2⟩
  obtain ⟨hc2, hf2⟩ := bcell h2
  have z2 : w.heap.size + 1 < w2.heap.size := by have := h2.size; simp at this; omega
  have q2 : w.heap.size < w2.heap.size := by omega
  have H2 := Lib.hid (b2 (b2 (b_new w _) (b_new _ _)) h2)
  clear h2
  go_wp2_with fail
  refine (CV.out _).mono ?_
  rintro e3 w3 ⟨rfl, h3⟩
  have H3 := Lib.hid (b2 (b2 H2.out (b_new _ _)) h3)
  clear h3
  go_wp2_with fail
  go_ret
  exact ⟨ret_bool HR.out.symm, H3.out⟩
set_option maxRecDepth 100000 in
set_option maxHeartbeats 4000000 in
theorem usable_yes (d s e f u o : Int) (sm : Bool) (w : World) (hT : Tab w) (z0 : -840 ≤ o) (z1 : o ≤ 840) (h : OkW d s e f u) :
    Calls Tryd.prog 25 #[.agg #[.int .i64 d, .int .i64 s, .int .i64 e, .int .i64 f, .int .i64 u], .agg #[.int .i64 o, .bool sm]] w fun e' w' => e' = .returned (.bool (usB d s e f u o)) ∧ Below w.heap.size w w' := by
  have HR : Hid (usB d s e f u o = true) := Lib.hid (by unfold usB; exact decide_eq_true ⟨h, z0, z1⟩)
  have CV := Lib.hid (fun X => valid_yes d s e f u X h)
  have CL := Lib.hid (fun X hX => local_yes o sm 0 X hX z0 z1 (by decide) (by decide))
  simp only [dateV_eq] at CL
  obtain ⟨Y, hY⟩ : ∃ Y, Y = yr ((0 + offI o sm 0) / 1440) := ⟨_, rfl⟩
  obtain ⟨M, hM⟩ : ∃ M, M = mo ((0 + offI o sm 0) / 1440) := ⟨_, rfl⟩
  obtain ⟨D, hD⟩ : ∃ D, D = dy ((0 + offI o sm 0) / 1440) := ⟨_, rfl⟩
  obtain ⟨W1, hW⟩ : ∃ W1, W1 = wd ((0 + offI o sm 0) / 1440) := ⟨_, rfl⟩
  obtain ⟨N, hN⟩ : ∃ N, N = (0 + offI o sm 0) % 1440 := ⟨_, rfl⟩
  simp only [← hY, ← hM, ← hD, ← hW, ← hN] at CL
  clear hY hM hD hW hN
  clear z0 z1 h
  go_enter Tryd.func25, Tryd.ntmps25
  go_wp2_with fail
  refine (CL.out _ (hT.below (b2 (b_new w _) (b_new _ _)))).mono ?_
  rintro e2 w2 ⟨rfl, h2⟩
  obtain ⟨hc2, hf2⟩ := bcell h2
  have z2 : w.heap.size + 1 < w2.heap.size := by have := h2.size; simp at this; omega
  have q2 : w.heap.size < w2.heap.size := by omega
  have H2 := Lib.hid (b2 (b2 (b_new w _) (b_new _ _)) h2)
  clear h2
  go_wp2_with fail
  refine (CV.out _).mono ?_
  rintro e3 w3 ⟨rfl, h3⟩
  have H3 := Lib.hid (b2 (b2 H2.out (b_new _ _)) h3)
  clear h3
  go_wp2_with fail
  go_ret
  exact ⟨ret_bool HR.out.symm, H3.out⟩
theorem usable_any (d s e f u o : Int) (sm : Bool) (w : World) (hT : Tab w) :
    Calls Tryd.prog 25 #[.agg #[.int .i64 d, .int .i64 s, .int .i64 e, .int .i64 f, .int .i64 u], .agg #[.int .i64 o, .bool sm]] w fun e' w' => e' = .returned (.bool (usB d s e f u o)) ∧ Below w.heap.size w w' := by
  by_cases hz : o < -840 ∨ 840 < o
  · exact usable_zone d s e f u o sm w hT hz
  by_cases h : OkW d s e f u
  · exact usable_yes d s e f u o sm w hT (by omega) (by omega) h
  · exact usable_no d s e f u o sm w hT (by omega) (by omega) h
end Go.Proofs.YtmapkiefmbgdoabDoor
