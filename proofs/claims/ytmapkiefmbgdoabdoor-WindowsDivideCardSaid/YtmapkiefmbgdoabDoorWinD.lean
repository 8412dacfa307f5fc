/-
  What Holds, usable, always and within return.
-/
import Derived.Test.YtmapkiefmbgdoabDoorWinC
namespace Go.Proofs.YtmapkiefmbgdoabDoor
open Go.RowKit
open Cal

/-- A time is in a window, whatever comes in. -/
noncomputable def hol (d s e f u o : Int) (sm : Bool) (t : Int) : Bool := decide (OkW d s e f u ∧ -840 ≤ o ∧ o ≤ 840) && hB d s e f u o sm t
theorem hol_no {d s e f u o : Int} {sm : Bool} {t : Int} (h : ¬ (OkW d s e f u ∧ -840 ≤ o ∧ o ≤ 840)) : hol d s e f u o sm t = false := by unfold hol; rw [decide_eq_false h]; rfl
theorem hol_yes {d s e f u o : Int} {sm : Bool} {t : Int} (h : OkW d s e f u ∧ -840 ≤ o ∧ o ≤ 840) : hol d s e f u o sm t = hB d s e f u o sm t := by unfold hol; rw [decide_eq_true h]; rfl
theorem hol_out {d s e f u o : Int} {sm : Bool} {t : Int} (h : ¬ ((0 ≤ t ∧ t ≤ 268435456) ∧ f ≤ t ∧ (u = -1 ∨ t < u))) : hol d s e f u o sm t = false := by unfold hol; rw [hB_out h, Bool.and_false]
theorem hol_in {d s e f u o : Int} {sm : Bool} {t : Int} (h : OkW d s e f u ∧ -840 ≤ o ∧ o ≤ 840) (h2 : (0 ≤ t ∧ t ≤ 268435456) ∧ f ≤ t ∧ (u = -1 ∨ t < u)) :
    hol d s e f u o sm t = dayB d s e (wd ((t + offI o sm t) / 1440)) ((t + offI o sm t) % 1440) := by rw [hol_yes h, hB_in h2]; rfl
theorem dateV_eq (m : Int) : dateV m = .agg #[.int .i64 (yr (m / 1440)), .int .i64 (mo (m / 1440)), .int .i64 (dy (m / 1440)), .int .i64 (wd (m / 1440)), .int .i64 (m % 1440)] := rfl
theorem u_cases {u t : Int} (h : u = -1 ∨ t < u) : (u != -1) = false ∨ ((u != -1) = true ∧ t < u) := by
  by_cases e : u = -1
  · exact .inl (ne_f _ _ e)
  · exact .inr ⟨ne_t _ _ e, by omega⟩
/-- The cells of a window and of a date. -/
abbrev KD (h0 h2 : Nat) (a0 a1 a2 a3 a4 a5 a6 : Value) (X : World) : Prop :=
  h0 < X.heap.size ∧ h2 < X.heap.size ∧ X.cell? ⟨h0, 0, none⟩ = some a0 ∧ X.cell? ⟨h0, 1, none⟩ = some a1 ∧ X.cell? ⟨h0, 2, none⟩ = some a2 ∧ X.cell? ⟨h0, 3, none⟩ = some a3 ∧ X.cell? ⟨h0, 4, none⟩ = some a4 ∧ X.cell? ⟨h2, 3, none⟩ = some a5 ∧ X.cell? ⟨h2, 4, none⟩ = some a6
theorem KD.below {h0 h2 : Nat} {a0 a1 a2 a3 a4 a5 a6 : Value} {X X' : World} (h : KD h0 h2 a0 a1 a2 a3 a4 a5 a6 X) (b : Below X.heap.size X X') : KD h0 h2 a0 a1 a2 a3 a4 a5 a6 X' := by
  obtain ⟨l0, l2, c0, c1, c2, c3, c4, c5, c6⟩ := h
  have hc := (bcell b).1
  exact ⟨Nat.lt_of_lt_of_le l0 b.size, Nat.lt_of_lt_of_le l2 b.size, by rw [hc _ _ l0]; exact c0, by rw [hc _ _ l0]; exact c1, by rw [hc _ _ l0]; exact c2, by rw [hc _ _ l0]; exact c3, by rw [hc _ _ l0]; exact c4, by rw [hc _ _ l2]; exact c5, by rw [hc _ _ l2]; exact c6⟩
theorem KD.draws {h0 h2 : Nat} {a0 a1 a2 a3 a4 a5 a6 : Value} {X : World} (h : KD h0 h2 a0 a1 a2 a3 a4 a5 a6 X) (n : Nat) : KD h0 h2 a0 a1 a2 a3 a4 a5 a6 (X.drewN n) := h
theorem KD.drew {h0 h2 : Nat} {a0 a1 a2 a3 a4 a5 a6 : Value} {X : World} (h : KD h0 h2 a0 a1 a2 a3 a4 a5 a6 X) : KD h0 h2 a0 a1 a2 a3 a4 a5 a6 X.drew := h

set_option maxRecDepth 100000 in
set_option maxHeartbeats 4000000 in
theorem h_bad (d s e f u o : Int) (sm : Bool) (t : Int) (w : World) (h : ¬ OkW d s e f u) :
    Calls Tryd.prog 11 #[.agg #[.int .i64 d, .int .i64 s, .int .i64 e, .int .i64 f, .int .i64 u], .agg #[.int .i64 o, .bool sm], .int .i64 t] w fun e' w' => e' = .returned (.bool (hol d s e f u o sm t)) ∧ Below w.heap.size w w' := by
  have HR := Lib.hid (hol_no (sm := sm) (t := t) (o := o) (fun h2 => h h2.1))
  have CV := Lib.hid (fun X => valid_no d s e f u X h)
  clear h
  go_enter Tryd.func11, Tryd.ntmps11
  go_wp2_with fail
  refine (CV.out _).mono ?_
  rintro e1 w1 ⟨rfl, h1⟩
  obtain ⟨hc1, hf1⟩ := bcell h1
  have z1 : w.heap.size + 1 < w1.heap.size := by have := h1.size; simp at this; omega
  have H1 := Lib.hid (b2 (b2 (b_new w _) (b_new _ _)) h1)
  clear h1
  go_wp2_with fail
  go_ret
  exact ⟨ret_bool HR.out.symm, H1.out⟩
set_option maxRecDepth 100000 in
set_option maxHeartbeats 4000000 in
theorem h_from (d s e f u o : Int) (sm : Bool) (t : Int) (w : World) (h : OkW d s e f u) (ht : t < f) :
    Calls Tryd.prog 11 #[.agg #[.int .i64 d, .int .i64 s, .int .i64 e, .int .i64 f, .int .i64 u], .agg #[.int .i64 o, .bool sm], .int .i64 t] w fun e' w' => e' = .returned (.bool (hol d s e f u o sm t)) ∧ Below w.heap.size w w' := by
  have HR := Lib.hid (hol_out (d := d) (s := s) (e := e) (f := f) (u := u) (sm := sm) (t := t) (o := o) (by omega))
  have CV := Lib.hid (fun X => valid_yes d s e f u X h)
  clear h
  go_enter Tryd.func11, Tryd.ntmps11
  go_wp2_with fail
  refine (CV.out _).mono ?_
  rintro e1 w1 ⟨rfl, h1⟩
  obtain ⟨hc1, hf1⟩ := bcell h1
  have z1 : w.heap.size + 1 < w1.heap.size := by have := h1.size; simp at this; omega
  have H1 := Lib.hid (b2 (b2 (b_new w _) (b_new _ _)) h1)
  clear h1
  go_wp2_with fail
  go_ret
  exact ⟨ret_bool HR.out.symm, H1.out⟩
set_option maxRecDepth 100000 in
set_option maxHeartbeats 4000000 in
theorem h_to (d s e f u o : Int) (sm : Bool) (t : Int) (w : World) (h : OkW d s e f u) (ht : f ≤ t) (hu : u ≠ -1) (hu2 : u ≤ t) :
    Calls Tryd.prog 11 #[.agg #[.int .i64 d, .int .i64 s, .int .i64 e, .int .i64 f, .int .i64 u], .agg #[.int .i64 o, .bool sm], .int .i64 t] w fun e' w' => e' = .returned (.bool (hol d s e f u o sm t)) ∧ Below w.heap.size w w' := by
  have HR := Lib.hid (hol_out (d := d) (s := s) (e := e) (f := f) (u := u) (sm := sm) (t := t) (o := o) (by omega))
  have CV := Lib.hid (fun X => valid_yes d s e f u X h)
  have nu := ne_t _ _ hu
  clear h hu
  go_enter Tryd.func11, Tryd.ntmps11
  go_wp2_with fail
  refine (CV.out _).mono ?_
  rintro e1 w1 ⟨rfl, h1⟩
  obtain ⟨hc1, hf1⟩ := bcell h1
  have z1 : w.heap.size + 1 < w1.heap.size := by have := h1.size; simp at this; omega
  have H1 := Lib.hid (b2 (b2 (b_new w _) (b_new _ _)) h1)
  clear h1
  go_wp2_with fail
  go_ret
  exact ⟨ret_bool HR.out.symm, H1.out⟩
set_option maxRecDepth 100000 in
set_option maxHeartbeats 4000000 in
theorem h_zone (d s e f u o : Int) (sm : Bool) (t : Int) (w : World) (hT : Tab w) (h : OkW d s e f u) (ht : f ≤ t) (hu : u = -1 ∨ t < u) (hz : o < -840 ∨ 840 < o) :
    Calls Tryd.prog 11 #[.agg #[.int .i64 d, .int .i64 s, .int .i64 e, .int .i64 f, .int .i64 u], .agg #[.int .i64 o, .bool sm], .int .i64 t] w fun e' w' => e' = .returned (.bool (hol d s e f u o sm t)) ∧ Below w.heap.size w w' := by
  have HR := Lib.hid (hol_no (d := d) (s := s) (e := e) (f := f) (u := u) (sm := sm) (t := t) (o := o) (fun h2 => by omega))
  have CV := Lib.hid (fun X => valid_yes d s e f u X h)
  have CL := Lib.hid (fun X (_ : Tab X) => local_zone o sm t X hz)
  unfold zeroV at CL
  clear h hz
  rcases u_cases hu with g | ⟨g, g1⟩
  · clear hu
    go_enter Tryd.func11, Tryd.ntmps11
    go_wp2_with fail
    refine (CV.out _).mono ?_
    rintro e1 w1 ⟨rfl, h1⟩
    obtain ⟨hc1, hf1⟩ := bcell h1
    have z1 : w.heap.size + 1 < w1.heap.size := by have := h1.size; simp at this; omega
    have H1 := Lib.hid (b2 (b2 (b_new w _) (b_new _ _)) h1)
    clear h1
    go_wp2_with fail
    refine (CL.out _ (hT.below H1.out)).mono ?_
    rintro e2 w2 ⟨rfl, h2⟩
    obtain ⟨hc2, hf2⟩ := bcell h2
    have z2 : w.heap.size + 1 < w2.heap.size := by have := h2.size; omega
    have q1 : w.heap.size < w1.heap.size := by omega
    have q2 : w.heap.size < w2.heap.size := by omega
    have H2 := Lib.hid (b2 H1.out h2)
    clear h2
    go_wp2_with fail
    go_ret
    first | exact ⟨ret_bool HR.out.symm, b2 H2.out (b_new _ _)⟩ | exact ⟨ret_bool HR.out.symm, b_five (b2 H2.out (b_new _ _)) H2.out.size _ _ _ _ _⟩
  · clear hu
    go_enter Tryd.func11, Tryd.ntmps11
    go_wp2_with fail
    refine (CV.out _).mono ?_
    rintro e1 w1 ⟨rfl, h1⟩
    obtain ⟨hc1, hf1⟩ := bcell h1
    have z1 : w.heap.size + 1 < w1.heap.size := by have := h1.size; simp at this; omega
    have H1 := Lib.hid (b2 (b2 (b_new w _) (b_new _ _)) h1)
    clear h1
    go_wp2_with fail
    refine (CL.out _ (hT.below H1.out)).mono ?_
    rintro e2 w2 ⟨rfl, h2⟩
    obtain ⟨hc2, hf2⟩ := bcell h2
    have z2 : w.heap.size + 1 < w2.heap.size := by have := h2.size; omega
    have q1 : w.heap.size < w1.heap.size := by omega
    have q2 : w.heap.size < w2.heap.size := by omega
    have H2 := Lib.hid (b2 H1.out h2)
    clear h2
    go_wp2_with fail
    go_ret
    first | exact ⟨ret_bool HR.out.symm, b2 H2.out (b_new _ _)⟩ | exact ⟨ret_bool HR.out.symm, b_five (b2 H2.out (b_new _ _)) H2.out.size _ _ _ _ _⟩
set_option maxRecDepth 100000 in
set_option maxHeartbeats 4000000 in
theorem h_range (d s e f u o : Int) (sm : Bool) (t : Int) (w : World) (hT : Tab w) (h : OkW d s e f u) (ht : f ≤ t) (hu : u = -1 ∨ t < u) (z0 : -840 ≤ o) (z1 : o ≤ 840) (hm : 268435456 < t) :
    Calls Tryd.prog 11 #[.agg #[.int .i64 d, .int .i64 s, .int .i64 e, .int .i64 f, .int .i64 u], .agg #[.int .i64 o, .bool sm], .int .i64 t] w fun e' w' => e' = .returned (.bool (hol d s e f u o sm t)) ∧ Below w.heap.size w w' := by
  have HR := Lib.hid (hol_out (d := d) (s := s) (e := e) (f := f) (u := u) (sm := sm) (t := t) (o := o) (by omega))
  have CV := Lib.hid (fun X => valid_yes d s e f u X h)
  have CL := Lib.hid (fun X (_ : Tab X) => local_range o sm t X z0 z1 (.inr hm))
  unfold zeroV at CL
  clear h z0 z1 hm
  rcases u_cases hu with g | ⟨g, g1⟩
  · clear hu
    go_enter Tryd.func11, Tryd.ntmps11
    go_wp2_with fail
    refine (CV.out _).mono ?_
    rintro e1 w1 ⟨rfl, h1⟩
    obtain ⟨hc1, hf1⟩ := bcell h1
    have z1 : w.heap.size + 1 < w1.heap.size := by have := h1.size; simp at this; omega
    have H1 := Lib.hid (b2 (b2 (b_new w _) (b_new _ _)) h1)
    clear h1
    go_wp2_with fail
    refine (CL.out _ (hT.below H1.out)).mono ?_
    rintro e2 w2 ⟨rfl, h2⟩
    obtain ⟨hc2, hf2⟩ := bcell h2
    have z2 : w.heap.size + 1 < w2.heap.size := by have := h2.size; omega
    have q1 : w.heap.size < w1.heap.size := by omega
    have q2 : w.heap.size < w2.heap.size := by omega
    have H2 := Lib.hid (b2 H1.out h2)
    clear h2
    go_wp2_with fail
    go_ret
    first | exact ⟨ret_bool HR.out.symm, b2 H2.out (b_new _ _)⟩ | exact ⟨ret_bool HR.out.symm, b_five (b2 H2.out (b_new _ _)) H2.out.size _ _ _ _ _⟩
  · clear hu
    go_enter Tryd.func11, Tryd.ntmps11
    go_wp2_with fail
    refine (CV.out _).mono ?_
    rintro e1 w1 ⟨rfl, h1⟩
    obtain ⟨hc1, hf1⟩ := bcell h1
    have z1 : w.heap.size + 1 < w1.heap.size := by have := h1.size; simp at this; omega
    have H1 := Lib.hid (b2 (b2 (b_new w _) (b_new _ _)) h1)
    clear h1
    go_wp2_with fail
    refine (CL.out _ (hT.below H1.out)).mono ?_
    rintro e2 w2 ⟨rfl, h2⟩
    obtain ⟨hc2, hf2⟩ := bcell h2
    have z2 : w.heap.size + 1 < w2.heap.size := by have := h2.size; omega
    have q1 : w.heap.size < w1.heap.size := by omega
    have q2 : w.heap.size < w2.heap.size := by omega
    have H2 := Lib.hid (b2 H1.out h2)
    clear h2
    go_wp2_with fail
    go_ret
    first | exact ⟨ret_bool HR.out.symm, b2 H2.out (b_new _ _)⟩ | exact ⟨ret_bool HR.out.symm, b_five (b2 H2.out (b_new _ _)) H2.out.size _ _ _ _ _⟩
set_option maxRecDepth 100000 in
set_option maxHeartbeats 4000000 in
theorem h_eq (d s e f u o : Int) (sm : Bool) (t : Int) (w : World) (hT : Tab w) (h : OkW d s e f u) (ht : f ≤ t) (hu : u = -1 ∨ t < u) (z0 : -840 ≤ o) (z1 : o ≤ 840) (t1 : t ≤ 268435456) (hse : s = e) :
    Calls Tryd.prog 11 #[.agg #[.int .i64 d, .int .i64 s, .int .i64 e, .int .i64 f, .int .i64 u], .agg #[.int .i64 o, .bool sm], .int .i64 t] w fun e' w' => e' = .returned (.bool (hol d s e f u o sm t)) ∧ Below w.heap.size w w' := by
  have HR := Lib.hid (hol_in (sm := sm) (t := t) ⟨h, z0, z1⟩ ⟨⟨by have := h.2.2.2.1.1; omega, t1⟩, ht, hu⟩)
  have CV := Lib.hid (fun X => valid_yes d s e f u X h)
  have CL := Lib.hid (fun X hX => local_yes o sm t X hX z0 z1 (by have := h.2.2.2.1.1; omega) t1)
  obtain ⟨L, hL⟩ : ∃ L, L = t + offI o sm t := ⟨_, rfl⟩
  rw [← hL] at HR
  simp only [← hL, dateV_eq] at CL
  obtain ⟨wb1, wb2⟩ := wd_bd (L / 1440)
  have N0 : 0 ≤ L % 1440 := by omega
  have N1 : L % 1440 ≤ 1439 := by omega
  obtain ⟨WW, hWW⟩ : ∃ WW, WW = wd (L / 1440) := ⟨_, rfl⟩
  obtain ⟨N, hN⟩ : ∃ N, N = L % 1440 := ⟨_, rfl⟩
  obtain ⟨Y, hY⟩ : ∃ Y, Y = yr (L / 1440) := ⟨_, rfl⟩
  obtain ⟨M, hM⟩ : ∃ M, M = mo (L / 1440) := ⟨_, rfl⟩
  obtain ⟨D, hD⟩ : ∃ D, D = dy (L / 1440) := ⟨_, rfl⟩
  rw [← hWW, ← hN] at HR
  rw [← hWW] at wb1 wb2
  rw [← hN] at N0 N1
  simp only [← hWW, ← hN, ← hY, ← hM, ← hD] at CL
  have C1 := Lib.hid (fun X => hasDay_any d s e f u WW X h.1.1 h.1.2 wb1 wb2)
  have C2 := Lib.hid (fun X => dayBefore_any WW X wb1 wb2)
  have pb := pw_bd WW
  have C3 := Lib.hid (fun X => hasDay_any d s e f u (pw WW) X h.1.1 h.1.2 pb.1 pb.2)
  have ZB : w.heap.size ≤ w.heap.size := Nat.le_refl _
  clear h pb hL hWW hN hY hM hD z0 z1
  have HB := Lib.hid (dayB_eq (d := d) (W := WW) (N := N) hse)
  have se := eq_t _ _ hse
  obtain ⟨T, hT1⟩ : ∃ T, T = onB d WW := ⟨_, rfl⟩
  rw [← hT1] at C1 HB
  clear hse hT1 C2 C3
  rcases u_cases hu with g | ⟨g, g1⟩
  · clear hu
    go_enter Tryd.func11, Tryd.ntmps11
    go_wp2_with fail
    refine (CV.out _).mono ?_
    rintro e1 w1 ⟨rfl, h1⟩
    obtain ⟨hc1, hf1⟩ := bcell h1
    have z1 : w.heap.size + 1 < w1.heap.size := by have := h1.size; simp at this; omega
    have H1 := Lib.hid (b2 (b2 (b_new w _) (b_new _ _)) h1)
    clear h1
    go_wp2_with fail
    refine (CL.out _ (hT.below H1.out)).mono ?_
    rintro e2 w2 ⟨rfl, h2⟩
    obtain ⟨hc2, hf2⟩ := bcell h2
    have z2 : w.heap.size + 1 < w2.heap.size := by have := h2.size; omega
    have q1 : w.heap.size < w1.heap.size := by omega
    have q2 : w.heap.size < w2.heap.size := by omega
    have H2 := Lib.hid (b2 H1.out h2)
    clear h2
    go_wp2_with fail
    refine (C1.out _).mono ?_
    rintro e3 w3 ⟨rfl, h3⟩
    obtain ⟨hc3, hf3⟩ := bcell h3
    have q3 : w.heap.size < w3.heap.size := by have := h3.size; simp at this; omega
    have q4 : w2.heap.size < w3.heap.size := by have := h3.size; simp at this; omega
    have H3 := Lib.hid (b2 (b2 H2.out (b_new _ _)) h3)
    clear h3
    go_wp2_with fail
    go_ret
    exact ⟨ret_bool (by rw [HR.out, HB.out]), H3.out⟩
  · clear hu
    go_enter Tryd.func11, Tryd.ntmps11
    go_wp2_with fail
    refine (CV.out _).mono ?_
    rintro e1 w1 ⟨rfl, h1⟩
    obtain ⟨hc1, hf1⟩ := bcell h1
    have z1 : w.heap.size + 1 < w1.heap.size := by have := h1.size; simp at this; omega
    have H1 := Lib.hid (b2 (b2 (b_new w _) (b_new _ _)) h1)
    clear h1
    go_wp2_with fail
    refine (CL.out _ (hT.below H1.out)).mono ?_
    rintro e2 w2 ⟨rfl, h2⟩
    obtain ⟨hc2, hf2⟩ := bcell h2
    have z2 : w.heap.size + 1 < w2.heap.size := by have := h2.size; omega
    have q1 : w.heap.size < w1.heap.size := by omega
    have q2 : w.heap.size < w2.heap.size := by omega
    have H2 := Lib.hid (b2 H1.out h2)
    clear h2
    go_wp2_with fail
    refine (C1.out _).mono ?_
    rintro e3 w3 ⟨rfl, h3⟩
    obtain ⟨hc3, hf3⟩ := bcell h3
    have q3 : w.heap.size < w3.heap.size := by have := h3.size; simp at this; omega
    have q4 : w2.heap.size < w3.heap.size := by have := h3.size; simp at this; omega
    have H3 := Lib.hid (b2 (b2 H2.out (b_new _ _)) h3)
    clear h3
    go_wp2_with fail
    go_ret
    exact ⟨ret_bool (by rw [HR.out, HB.out]), H3.out⟩
set_option maxRecDepth 100000 in
set_option maxHeartbeats 4000000 in
theorem h_lt0 (d s e f u o : Int) (sm : Bool) (t : Int) (w : World) (hT : Tab w) (h : OkW d s e f u) (ht : f ≤ t) (hu : u = -1 ∨ t < u) (z0 : -840 ≤ o) (z1 : o ≤ 840) (t1 : t ≤ 268435456) (hse : s < e) (hv : onB d (wd ((t + offI o sm t) / 1440)) = false) :
    Calls Tryd.prog 11 #[.agg #[.int .i64 d, .int .i64 s, .int .i64 e, .int .i64 f, .int .i64 u], .agg #[.int .i64 o, .bool sm], .int .i64 t] w fun e' w' => e' = .returned (.bool (hol d s e f u o sm t)) ∧ Below w.heap.size w w' := by
  have HR := Lib.hid (hol_in (sm := sm) (t := t) ⟨h, z0, z1⟩ ⟨⟨by have := h.2.2.2.1.1; omega, t1⟩, ht, hu⟩)
  have CV := Lib.hid (fun X => valid_yes d s e f u X h)
  have CL := Lib.hid (fun X hX => local_yes o sm t X hX z0 z1 (by have := h.2.2.2.1.1; omega) t1)
  obtain ⟨L, hL⟩ : ∃ L, L = t + offI o sm t := ⟨_, rfl⟩
  rw [← hL] at HR hv
  simp only [← hL, dateV_eq] at CL
  obtain ⟨wb1, wb2⟩ := wd_bd (L / 1440)
  have N0 : 0 ≤ L % 1440 := by omega
  have N1 : L % 1440 ≤ 1439 := by omega
  obtain ⟨WW, hWW⟩ : ∃ WW, WW = wd (L / 1440) := ⟨_, rfl⟩
  obtain ⟨N, hN⟩ : ∃ N, N = L % 1440 := ⟨_, rfl⟩
  obtain ⟨Y, hY⟩ : ∃ Y, Y = yr (L / 1440) := ⟨_, rfl⟩
  obtain ⟨M, hM⟩ : ∃ M, M = mo (L / 1440) := ⟨_, rfl⟩
  obtain ⟨D, hD⟩ : ∃ D, D = dy (L / 1440) := ⟨_, rfl⟩
  rw [← hWW, ← hN] at HR
  rw [← hWW] at hv
  rw [← hWW] at wb1 wb2
  rw [← hN] at N0 N1
  simp only [← hWW, ← hN, ← hY, ← hM, ← hD] at CL
  have C1 := Lib.hid (fun X => hasDay_any d s e f u WW X h.1.1 h.1.2 wb1 wb2)
  have C2 := Lib.hid (fun X => dayBefore_any WW X wb1 wb2)
  have pb := pw_bd WW
  have C3 := Lib.hid (fun X => hasDay_any d s e f u (pw WW) X h.1.1 h.1.2 pb.1 pb.2)
  have ZB : w.heap.size ≤ w.heap.size := Nat.le_refl _
  clear h pb hL hWW hN hY hM hD z0 z1
  have HB := Lib.hid (dayB_lt (d := d) (W := WW) (N := N) hse)
  have se := eq_f s e (by omega)
  have se2 : decide (s < e) = true := decide_eq_true hse
  rw [hv] at C1 HB
  clear hse hv C2 C3
  rcases u_cases hu with g | ⟨g, g1⟩
  · clear hu
    go_enter Tryd.func11, Tryd.ntmps11
    go_wp2_with fail
    refine (CV.out _).mono ?_
    rintro e1 w1 ⟨rfl, h1⟩
    obtain ⟨hc1, hf1⟩ := bcell h1
    have z1 : w.heap.size + 1 < w1.heap.size := by have := h1.size; simp at this; omega
    have H1 := Lib.hid (b2 (b2 (b_new w _) (b_new _ _)) h1)
    clear h1
    go_wp2_with fail
    refine (CL.out _ (hT.below H1.out)).mono ?_
    rintro e2 w2 ⟨rfl, h2⟩
    obtain ⟨hc2, hf2⟩ := bcell h2
    have z2 : w.heap.size + 1 < w2.heap.size := by have := h2.size; omega
    have q1 : w.heap.size < w1.heap.size := by omega
    have q2 : w.heap.size < w2.heap.size := by omega
    have H2 := Lib.hid (b2 H1.out h2)
    clear h2
    go_wp2_with fail
    refine (C1.out _).mono ?_
    rintro e3 w3 ⟨rfl, h3⟩
    obtain ⟨hc3, hf3⟩ := bcell h3
    have q3 : w.heap.size < w3.heap.size := by have := h3.size; simp at this; omega
    have q4 : w2.heap.size < w3.heap.size := by have := h3.size; simp at this; omega
    have H3 := Lib.hid (b2 (b2 H2.out (b_new _ _)) h3)
    clear h3
    go_wp2_with fail
    go_ret
    exact ⟨ret_bool (by rw [HR.out, HB.out]; simp), H3.out⟩
  · clear hu
    go_enter Tryd.func11, Tryd.ntmps11
    go_wp2_with fail
    refine (CV.out _).mono ?_
    rintro e1 w1 ⟨rfl, h1⟩
    obtain ⟨hc1, hf1⟩ := bcell h1
    have z1 : w.heap.size + 1 < w1.heap.size := by have := h1.size; simp at this; omega
    have H1 := Lib.hid (b2 (b2 (b_new w _) (b_new _ _)) h1)
    clear h1
    go_wp2_with fail
    refine (CL.out _ (hT.below H1.out)).mono ?_
    rintro e2 w2 ⟨rfl, h2⟩
    obtain ⟨hc2, hf2⟩ := bcell h2
    have z2 : w.heap.size + 1 < w2.heap.size := by have := h2.size; omega
    have q1 : w.heap.size < w1.heap.size := by omega
    have q2 : w.heap.size < w2.heap.size := by omega
    have H2 := Lib.hid (b2 H1.out h2)
    clear h2
    go_wp2_with fail
    refine (C1.out _).mono ?_
    rintro e3 w3 ⟨rfl, h3⟩
    obtain ⟨hc3, hf3⟩ := bcell h3
    have q3 : w.heap.size < w3.heap.size := by have := h3.size; simp at this; omega
    have q4 : w2.heap.size < w3.heap.size := by have := h3.size; simp at this; omega
    have H3 := Lib.hid (b2 (b2 H2.out (b_new _ _)) h3)
    clear h3
    go_wp2_with fail
    go_ret
    exact ⟨ret_bool (by rw [HR.out, HB.out]; simp), H3.out⟩
set_option maxRecDepth 100000 in
set_option maxHeartbeats 4000000 in
theorem h_lt1 (d s e f u o : Int) (sm : Bool) (t : Int) (w : World) (hT : Tab w) (h : OkW d s e f u) (ht : f ≤ t) (hu : u = -1 ∨ t < u) (z0 : -840 ≤ o) (z1 : o ≤ 840) (t1 : t ≤ 268435456) (hse : s < e) (hv : onB d (wd ((t + offI o sm t) / 1440)) = true) (hn : (t + offI o sm t) % 1440 < s) :
    Calls Tryd.prog 11 #[.agg #[.int .i64 d, .int .i64 s, .int .i64 e, .int .i64 f, .int .i64 u], .agg #[.int .i64 o, .bool sm], .int .i64 t] w fun e' w' => e' = .returned (.bool (hol d s e f u o sm t)) ∧ Below w.heap.size w w' := by
  have HR := Lib.hid (hol_in (sm := sm) (t := t) ⟨h, z0, z1⟩ ⟨⟨by have := h.2.2.2.1.1; omega, t1⟩, ht, hu⟩)
  have CV := Lib.hid (fun X => valid_yes d s e f u X h)
  have CL := Lib.hid (fun X hX => local_yes o sm t X hX z0 z1 (by have := h.2.2.2.1.1; omega) t1)
  obtain ⟨L, hL⟩ : ∃ L, L = t + offI o sm t := ⟨_, rfl⟩
  rw [← hL] at HR hv hn
  simp only [← hL, dateV_eq] at CL
  obtain ⟨wb1, wb2⟩ := wd_bd (L / 1440)
  have N0 : 0 ≤ L % 1440 := by omega
  have N1 : L % 1440 ≤ 1439 := by omega
  obtain ⟨WW, hWW⟩ : ∃ WW, WW = wd (L / 1440) := ⟨_, rfl⟩
  obtain ⟨N, hN⟩ : ∃ N, N = L % 1440 := ⟨_, rfl⟩
  obtain ⟨Y, hY⟩ : ∃ Y, Y = yr (L / 1440) := ⟨_, rfl⟩
  obtain ⟨M, hM⟩ : ∃ M, M = mo (L / 1440) := ⟨_, rfl⟩
  obtain ⟨D, hD⟩ : ∃ D, D = dy (L / 1440) := ⟨_, rfl⟩
  rw [← hWW, ← hN] at HR
  rw [← hWW] at hv
  rw [← hN] at hn
  rw [← hWW] at wb1 wb2
  rw [← hN] at N0 N1
  simp only [← hWW, ← hN, ← hY, ← hM, ← hD] at CL
  have C1 := Lib.hid (fun X => hasDay_any d s e f u WW X h.1.1 h.1.2 wb1 wb2)
  have C2 := Lib.hid (fun X => dayBefore_any WW X wb1 wb2)
  have pb := pw_bd WW
  have C3 := Lib.hid (fun X => hasDay_any d s e f u (pw WW) X h.1.1 h.1.2 pb.1 pb.2)
  have ZB : w.heap.size ≤ w.heap.size := Nat.le_refl _
  clear h pb hL hWW hN hY hM hD z0 z1
  have HB := Lib.hid (dayB_lt (d := d) (W := WW) (N := N) hse)
  have se := eq_f s e (by omega)
  have se2 : decide (s < e) = true := decide_eq_true hse
  have dn : decide (s ≤ N) = false := decide_eq_false (by omega)
  rw [hv] at C1 HB
  clear hse hv C2 C3
  rcases u_cases hu with g | ⟨g, g1⟩
  · clear hu
    go_enter Tryd.func11, Tryd.ntmps11
    go_wp2_with fail
    refine (CV.out _).mono ?_
    rintro e1 w1 ⟨rfl, h1⟩
    obtain ⟨hc1, hf1⟩ := bcell h1
    have z1 : w.heap.size + 1 < w1.heap.size := by have := h1.size; simp at this; omega
    have H1 := Lib.hid (b2 (b2 (b_new w _) (b_new _ _)) h1)
    clear h1
    go_wp2_with fail
    refine (CL.out _ (hT.below H1.out)).mono ?_
    rintro e2 w2 ⟨rfl, h2⟩
    obtain ⟨hc2, hf2⟩ := bcell h2
    have z2 : w.heap.size + 1 < w2.heap.size := by have := h2.size; omega
    have q1 : w.heap.size < w1.heap.size := by omega
    have q2 : w.heap.size < w2.heap.size := by omega
    have H2 := Lib.hid (b2 H1.out h2)
    clear h2
    go_wp2_with fail
    refine (C1.out _).mono ?_
    rintro e3 w3 ⟨rfl, h3⟩
    obtain ⟨hc3, hf3⟩ := bcell h3
    have q3 : w.heap.size < w3.heap.size := by have := h3.size; simp at this; omega
    have q4 : w2.heap.size < w3.heap.size := by have := h3.size; simp at this; omega
    have H3 := Lib.hid (b2 (b2 H2.out (b_new _ _)) h3)
    clear h3
    go_wp2_with fail
    go_ret
    exact ⟨ret_bool (by rw [HR.out, HB.out]; simp [dn]), H3.out⟩
  · clear hu
    go_enter Tryd.func11, Tryd.ntmps11
    go_wp2_with fail
    refine (CV.out _).mono ?_
    rintro e1 w1 ⟨rfl, h1⟩
    obtain ⟨hc1, hf1⟩ := bcell h1
    have z1 : w.heap.size + 1 < w1.heap.size := by have := h1.size; simp at this; omega
    have H1 := Lib.hid (b2 (b2 (b_new w _) (b_new _ _)) h1)
    clear h1
    go_wp2_with fail
    refine (CL.out _ (hT.below H1.out)).mono ?_
    rintro e2 w2 ⟨rfl, h2⟩
    obtain ⟨hc2, hf2⟩ := bcell h2
    have z2 : w.heap.size + 1 < w2.heap.size := by have := h2.size; omega
    have q1 : w.heap.size < w1.heap.size := by omega
    have q2 : w.heap.size < w2.heap.size := by omega
    have H2 := Lib.hid (b2 H1.out h2)
    clear h2
    go_wp2_with fail
    refine (C1.out _).mono ?_
    rintro e3 w3 ⟨rfl, h3⟩
    obtain ⟨hc3, hf3⟩ := bcell h3
    have q3 : w.heap.size < w3.heap.size := by have := h3.size; simp at this; omega
    have q4 : w2.heap.size < w3.heap.size := by have := h3.size; simp at this; omega
    have H3 := Lib.hid (b2 (b2 H2.out (b_new _ _)) h3)
    clear h3
    go_wp2_with fail
    go_ret
    exact ⟨ret_bool (by rw [HR.out, HB.out]; simp [dn]), H3.out⟩
set_option maxRecDepth 100000 in
set_option maxHeartbeats 4000000 in
theorem h_lt2 (d s e f u o : Int) (sm : Bool) (t : Int) (w : World) (hT : Tab w) (h : OkW d s e f u) (ht : f ≤ t) (hu : u = -1 ∨ t < u) (z0 : -840 ≤ o) (z1 : o ≤ 840) (t1 : t ≤ 268435456) (hse : s < e) (hv : onB d (wd ((t + offI o sm t) / 1440)) = true) (hn : s ≤ (t + offI o sm t) % 1440) :
    Calls Tryd.prog 11 #[.agg #[.int .i64 d, .int .i64 s, .int .i64 e, .int .i64 f, .int .i64 u], .agg #[.int .i64 o, .bool sm], .int .i64 t] w fun e' w' => e' = .returned (.bool (hol d s e f u o sm t)) ∧ Below w.heap.size w w' := by
  have HR := Lib.hid (hol_in (sm := sm) (t := t) ⟨h, z0, z1⟩ ⟨⟨by have := h.2.2.2.1.1; omega, t1⟩, ht, hu⟩)
  have CV := Lib.hid (fun X => valid_yes d s e f u X h)
  have CL := Lib.hid (fun X hX => local_yes o sm t X hX z0 z1 (by have := h.2.2.2.1.1; omega) t1)
  obtain ⟨L, hL⟩ : ∃ L, L = t + offI o sm t := ⟨_, rfl⟩
  rw [← hL] at HR hv hn
  simp only [← hL, dateV_eq] at CL
  obtain ⟨wb1, wb2⟩ := wd_bd (L / 1440)
  have N0 : 0 ≤ L % 1440 := by omega
  have N1 : L % 1440 ≤ 1439 := by omega
  obtain ⟨WW, hWW⟩ : ∃ WW, WW = wd (L / 1440) := ⟨_, rfl⟩
  obtain ⟨N, hN⟩ : ∃ N, N = L % 1440 := ⟨_, rfl⟩
  obtain ⟨Y, hY⟩ : ∃ Y, Y = yr (L / 1440) := ⟨_, rfl⟩
  obtain ⟨M, hM⟩ : ∃ M, M = mo (L / 1440) := ⟨_, rfl⟩
  obtain ⟨D, hD⟩ : ∃ D, D = dy (L / 1440) := ⟨_, rfl⟩
  rw [← hWW, ← hN] at HR
  rw [← hWW] at hv
  rw [← hN] at hn
  rw [← hWW] at wb1 wb2
  rw [← hN] at N0 N1
  simp only [← hWW, ← hN, ← hY, ← hM, ← hD] at CL
  have C1 := Lib.hid (fun X => hasDay_any d s e f u WW X h.1.1 h.1.2 wb1 wb2)
  have C2 := Lib.hid (fun X => dayBefore_any WW X wb1 wb2)
  have pb := pw_bd WW
  have C3 := Lib.hid (fun X => hasDay_any d s e f u (pw WW) X h.1.1 h.1.2 pb.1 pb.2)
  have ZB : w.heap.size ≤ w.heap.size := Nat.le_refl _
  clear h pb hL hWW hN hY hM hD z0 z1
  have HB := Lib.hid (dayB_lt (d := d) (W := WW) (N := N) hse)
  have se := eq_f s e (by omega)
  have se2 : decide (s < e) = true := decide_eq_true hse
  have dn : decide (s ≤ N) = true := decide_eq_true hn
  rw [hv] at C1 HB
  clear hse hv C2 C3
  rcases u_cases hu with g | ⟨g, g1⟩
  · clear hu
    go_enter Tryd.func11, Tryd.ntmps11
    go_wp2_with fail
    refine (CV.out _).mono ?_
    rintro e1 w1 ⟨rfl, h1⟩
    obtain ⟨hc1, hf1⟩ := bcell h1
    have z1 : w.heap.size + 1 < w1.heap.size := by have := h1.size; simp at this; omega
    have H1 := Lib.hid (b2 (b2 (b_new w _) (b_new _ _)) h1)
    clear h1
    go_wp2_with fail
    refine (CL.out _ (hT.below H1.out)).mono ?_
    rintro e2 w2 ⟨rfl, h2⟩
    obtain ⟨hc2, hf2⟩ := bcell h2
    have z2 : w.heap.size + 1 < w2.heap.size := by have := h2.size; omega
    have q1 : w.heap.size < w1.heap.size := by omega
    have q2 : w.heap.size < w2.heap.size := by omega
    have H2 := Lib.hid (b2 H1.out h2)
    clear h2
    go_wp2_with fail
    refine (C1.out _).mono ?_
    rintro e3 w3 ⟨rfl, h3⟩
    obtain ⟨hc3, hf3⟩ := bcell h3
    have q3 : w.heap.size < w3.heap.size := by have := h3.size; simp at this; omega
    have q4 : w2.heap.size < w3.heap.size := by have := h3.size; simp at this; omega
    have H3 := Lib.hid (b2 (b2 H2.out (b_new _ _)) h3)
    clear h3
    go_wp2_with fail
    go_ret
    exact ⟨ret_bool (by rw [HR.out, HB.out]; simp [dn]), H3.out⟩
  · clear hu
    go_enter Tryd.func11, Tryd.ntmps11
    go_wp2_with fail
    refine (CV.out _).mono ?_
    rintro e1 w1 ⟨rfl, h1⟩
    obtain ⟨hc1, hf1⟩ := bcell h1
    have z1 : w.heap.size + 1 < w1.heap.size := by have := h1.size; simp at this; omega
    have H1 := Lib.hid (b2 (b2 (b_new w _) (b_new _ _)) h1)
    clear h1
    go_wp2_with fail
    refine (CL.out _ (hT.below H1.out)).mono ?_
    rintro e2 w2 ⟨rfl, h2⟩
    obtain ⟨hc2, hf2⟩ := bcell h2
    have z2 : w.heap.size + 1 < w2.heap.size := by have := h2.size; omega
    have q1 : w.heap.size < w1.heap.size := by omega
    have q2 : w.heap.size < w2.heap.size := by omega
    have H2 := Lib.hid (b2 H1.out h2)
    clear h2
    go_wp2_with fail
    refine (C1.out _).mono ?_
    rintro e3 w3 ⟨rfl, h3⟩
    obtain ⟨hc3, hf3⟩ := bcell h3
    have q3 : w.heap.size < w3.heap.size := by have := h3.size; simp at this; omega
    have q4 : w2.heap.size < w3.heap.size := by have := h3.size; simp at this; omega
    have H3 := Lib.hid (b2 (b2 H2.out (b_new _ _)) h3)
    clear h3
    go_wp2_with fail
    go_ret
    exact ⟨ret_bool (by rw [HR.out, HB.out]; simp [dn]), H3.out⟩
set_option maxRecDepth 100000 in
set_option maxHeartbeats 4000000 in
theorem h_gt_ff (d s e f u o : Int) (sm : Bool) (t : Int) (w : World) (hT : Tab w) (h : OkW d s e f u) (ht : f ≤ t) (hu : u = -1 ∨ t < u) (z0 : -840 ≤ o) (z1 : o ≤ 840) (t1 : t ≤ 268435456) (hse : e < s) (hv : onB d (wd ((t + offI o sm t) / 1440)) = false) (hw : onB d (pw (wd ((t + offI o sm t) / 1440))) = false) :
    Calls Tryd.prog 11 #[.agg #[.int .i64 d, .int .i64 s, .int .i64 e, .int .i64 f, .int .i64 u], .agg #[.int .i64 o, .bool sm], .int .i64 t] w fun e' w' => e' = .returned (.bool (hol d s e f u o sm t)) ∧ Below w.heap.size w w' := by
  have HR := Lib.hid (hol_in (sm := sm) (t := t) ⟨h, z0, z1⟩ ⟨⟨by have := h.2.2.2.1.1; omega, t1⟩, ht, hu⟩)
  have CV := Lib.hid (fun X => valid_yes d s e f u X h)
  have CL := Lib.hid (fun X hX => local_yes o sm t X hX z0 z1 (by have := h.2.2.2.1.1; omega) t1)
  obtain ⟨L, hL⟩ : ∃ L, L = t + offI o sm t := ⟨_, rfl⟩
  rw [← hL] at HR hv hw
  simp only [← hL, dateV_eq] at CL
  obtain ⟨wb1, wb2⟩ := wd_bd (L / 1440)
  have N0 : 0 ≤ L % 1440 := by omega
  have N1 : L % 1440 ≤ 1439 := by omega
  obtain ⟨WW, hWW⟩ : ∃ WW, WW = wd (L / 1440) := ⟨_, rfl⟩
  obtain ⟨N, hN⟩ : ∃ N, N = L % 1440 := ⟨_, rfl⟩
  obtain ⟨Y, hY⟩ : ∃ Y, Y = yr (L / 1440) := ⟨_, rfl⟩
  obtain ⟨M, hM⟩ : ∃ M, M = mo (L / 1440) := ⟨_, rfl⟩
  obtain ⟨D, hD⟩ : ∃ D, D = dy (L / 1440) := ⟨_, rfl⟩
  rw [← hWW, ← hN] at HR
  rw [← hWW] at hv hw
  rw [← hWW] at wb1 wb2
  rw [← hN] at N0 N1
  simp only [← hWW, ← hN, ← hY, ← hM, ← hD] at CL
  have C1 := Lib.hid (fun X => hasDay_any d s e f u WW X h.1.1 h.1.2 wb1 wb2)
  have C2 := Lib.hid (fun X => dayBefore_any WW X wb1 wb2)
  have pb := pw_bd WW
  have C3 := Lib.hid (fun X => hasDay_any d s e f u (pw WW) X h.1.1 h.1.2 pb.1 pb.2)
  have ZB : w.heap.size ≤ w.heap.size := Nat.le_refl _
  clear h pb hL hWW hN hY hM hD z0 z1
  have HB := Lib.hid (dayB_gt (d := d) (W := WW) (N := N) hse)
  have se := eq_f s e (by omega)
  have se2 : decide (s < e) = false := decide_eq_false (by omega)
  rw [hv] at C1 HB
  rw [hw] at C3 HB
  obtain ⟨PW, hPW⟩ : ∃ PW, PW = pw WW := ⟨_, rfl⟩
  simp only [← hPW] at C2 C3
  clear hPW hse hv hw
  rcases u_cases hu with g | ⟨g, g1⟩
  · clear hu
    go_enter Tryd.func11, Tryd.ntmps11
    go_wp2_with fail
    refine (CV.out _).mono ?_
    rintro e1 w1 ⟨rfl, h1⟩
    obtain ⟨hc1, hf1⟩ := bcell h1
    have z1 : w.heap.size + 1 < w1.heap.size := by have := h1.size; simp at this; omega
    have H1 := Lib.hid (b2 (b2 (b_new w _) (b_new _ _)) h1)
    clear h1
    go_wp2_with fail
    refine (CL.out _ (hT.below H1.out)).mono ?_
    rintro e2 w2 ⟨rfl, h2⟩
    obtain ⟨hc2, hf2⟩ := bcell h2
    have z2 : w.heap.size + 1 < w2.heap.size := by have := h2.size; omega
    have q1 : w.heap.size < w1.heap.size := by omega
    have q2 : w.heap.size < w2.heap.size := by omega
    have H2 := Lib.hid (b2 H1.out h2)
    clear h2
    go_wp2_with fail
    refine (C1.out _).mono ?_
    rintro e3 w3 ⟨rfl, h3⟩
    obtain ⟨hc3, hf3⟩ := bcell h3
    have q3 : w.heap.size < w3.heap.size := by have := h3.size; simp at this; omega
    have q4 : w2.heap.size < w3.heap.size := by have := h3.size; simp at this; omega
    have H3 := Lib.hid (b2 (b2 H2.out (b_new _ _)) h3)
    clear h3
    go_wp2_with fail
    have S0 : KD w.heap.size w2.heap.size (.int .i64 d) (.int .i64 s) (.int .i64 e) (.int .i64 f) (.int .i64 u) (.int .i64 WW) (.int .i64 N) w3 := by
      refine ⟨q3, q4, ?_, ?_, ?_, ?_, ?_, ?_, ?_⟩ <;> simp [go_sem, hc3, hc2, hc1, q1, q2]
    go_region_held3 (fun X => w.heap.size < X.heap.size ∧ w2.heap.size < X.heap.size ∧ X.cell? ⟨w.heap.size, 0, none⟩ = some (.int .i64 d) ∧ X.cell? ⟨w.heap.size, 1, none⟩ = some (.int .i64 s) ∧ X.cell? ⟨w.heap.size, 2, none⟩ = some (.int .i64 e) ∧ X.cell? ⟨w.heap.size, 3, none⟩ = some (.int .i64 f) ∧ X.cell? ⟨w.heap.size, 4, none⟩ = some (.int .i64 u) ∧ X.cell? ⟨w2.heap.size, 3, none⟩ = some (.int .i64 WW) ∧ X.cell? ⟨w2.heap.size, 4, none⟩ = some (.int .i64 N)) (first | assumption | exact S0.draws _ | exact KD.drew (by assumption) | exact KD.below (by assumption) (by assumption))
      (first | (go_at_call 31; refine (C2.out _).mono ?_; rintro e5 w5 ⟨rfl, rfl⟩) | (go_at_call 30; refine (C3.out _).mono ?_; rintro e5 w5 ⟨rfl, h5⟩))
    have K5 : KD w.heap.size w2.heap.size (.int .i64 d) (.int .i64 s) (.int .i64 e) (.int .i64 f) (.int .i64 u) (.int .i64 WW) (.int .i64 N) w5 := by assumption
    have H5 : Below w3.heap.size w3 w5 := ⟨h5.os, h5.tape, h5.output, h5.size, h5.block⟩
    have H5 := Lib.hid (b2 H3.out H5)
    clear h5 S0
    obtain ⟨_, _, _, k1, k2, _, _, _, k6⟩ := K5
    go_wp2_with fail
    go_ret
    exact ⟨ret_bool (by rw [HR.out, HB.out]; simp), H5.out⟩
  · clear hu
    go_enter Tryd.func11, Tryd.ntmps11
    go_wp2_with fail
    refine (CV.out _).mono ?_
    rintro e1 w1 ⟨rfl, h1⟩
    obtain ⟨hc1, hf1⟩ := bcell h1
    have z1 : w.heap.size + 1 < w1.heap.size := by have := h1.size; simp at this; omega
    have H1 := Lib.hid (b2 (b2 (b_new w _) (b_new _ _)) h1)
    clear h1
    go_wp2_with fail
    refine (CL.out _ (hT.below H1.out)).mono ?_
    rintro e2 w2 ⟨rfl, h2⟩
    obtain ⟨hc2, hf2⟩ := bcell h2
    have z2 : w.heap.size + 1 < w2.heap.size := by have := h2.size; omega
    have q1 : w.heap.size < w1.heap.size := by omega
    have q2 : w.heap.size < w2.heap.size := by omega
    have H2 := Lib.hid (b2 H1.out h2)
    clear h2
    go_wp2_with fail
    refine (C1.out _).mono ?_
    rintro e3 w3 ⟨rfl, h3⟩
    obtain ⟨hc3, hf3⟩ := bcell h3
    have q3 : w.heap.size < w3.heap.size := by have := h3.size; simp at this; omega
    have q4 : w2.heap.size < w3.heap.size := by have := h3.size; simp at this; omega
    have H3 := Lib.hid (b2 (b2 H2.out (b_new _ _)) h3)
    clear h3
    go_wp2_with fail
    have S0 : KD w.heap.size w2.heap.size (.int .i64 d) (.int .i64 s) (.int .i64 e) (.int .i64 f) (.int .i64 u) (.int .i64 WW) (.int .i64 N) w3 := by
      refine ⟨q3, q4, ?_, ?_, ?_, ?_, ?_, ?_, ?_⟩ <;> simp [go_sem, hc3, hc2, hc1, q1, q2]
    go_region_held3 (fun X => w.heap.size < X.heap.size ∧ w2.heap.size < X.heap.size ∧ X.cell? ⟨w.heap.size, 0, none⟩ = some (.int .i64 d) ∧ X.cell? ⟨w.heap.size, 1, none⟩ = some (.int .i64 s) ∧ X.cell? ⟨w.heap.size, 2, none⟩ = some (.int .i64 e) ∧ X.cell? ⟨w.heap.size, 3, none⟩ = some (.int .i64 f) ∧ X.cell? ⟨w.heap.size, 4, none⟩ = some (.int .i64 u) ∧ X.cell? ⟨w2.heap.size, 3, none⟩ = some (.int .i64 WW) ∧ X.cell? ⟨w2.heap.size, 4, none⟩ = some (.int .i64 N)) (first | assumption | exact S0.draws _ | exact KD.drew (by assumption) | exact KD.below (by assumption) (by assumption))
      (first | (go_at_call 31; refine (C2.out _).mono ?_; rintro e5 w5 ⟨rfl, rfl⟩) | (go_at_call 30; refine (C3.out _).mono ?_; rintro e5 w5 ⟨rfl, h5⟩))
    have K5 : KD w.heap.size w2.heap.size (.int .i64 d) (.int .i64 s) (.int .i64 e) (.int .i64 f) (.int .i64 u) (.int .i64 WW) (.int .i64 N) w5 := by assumption
    have H5 : Below w3.heap.size w3 w5 := ⟨h5.os, h5.tape, h5.output, h5.size, h5.block⟩
    have H5 := Lib.hid (b2 H3.out H5)
    clear h5 S0
    obtain ⟨_, _, _, k1, k2, _, _, _, k6⟩ := K5
    go_wp2_with fail
    go_ret
    exact ⟨ret_bool (by rw [HR.out, HB.out]; simp), H5.out⟩
set_option maxRecDepth 100000 in
set_option maxHeartbeats 4000000 in
theorem h_gt_ft (d s e f u o : Int) (sm : Bool) (t : Int) (w : World) (hT : Tab w) (h : OkW d s e f u) (ht : f ≤ t) (hu : u = -1 ∨ t < u) (z0 : -840 ≤ o) (z1 : o ≤ 840) (t1 : t ≤ 268435456) (hse : e < s) (hv : onB d (wd ((t + offI o sm t) / 1440)) = false) (hw : onB d (pw (wd ((t + offI o sm t) / 1440))) = true) :
    Calls Tryd.prog 11 #[.agg #[.int .i64 d, .int .i64 s, .int .i64 e, .int .i64 f, .int .i64 u], .agg #[.int .i64 o, .bool sm], .int .i64 t] w fun e' w' => e' = .returned (.bool (hol d s e f u o sm t)) ∧ Below w.heap.size w w' := by
  have HR := Lib.hid (hol_in (sm := sm) (t := t) ⟨h, z0, z1⟩ ⟨⟨by have := h.2.2.2.1.1; omega, t1⟩, ht, hu⟩)
  have CV := Lib.hid (fun X => valid_yes d s e f u X h)
  have CL := Lib.hid (fun X hX => local_yes o sm t X hX z0 z1 (by have := h.2.2.2.1.1; omega) t1)
  obtain ⟨L, hL⟩ : ∃ L, L = t + offI o sm t := ⟨_, rfl⟩
  rw [← hL] at HR hv hw
  simp only [← hL, dateV_eq] at CL
  obtain ⟨wb1, wb2⟩ := wd_bd (L / 1440)
  have N0 : 0 ≤ L % 1440 := by omega
  have N1 : L % 1440 ≤ 1439 := by omega
  obtain ⟨WW, hWW⟩ : ∃ WW, WW = wd (L / 1440) := ⟨_, rfl⟩
  obtain ⟨N, hN⟩ : ∃ N, N = L % 1440 := ⟨_, rfl⟩
  obtain ⟨Y, hY⟩ : ∃ Y, Y = yr (L / 1440) := ⟨_, rfl⟩
  obtain ⟨M, hM⟩ : ∃ M, M = mo (L / 1440) := ⟨_, rfl⟩
  obtain ⟨D, hD⟩ : ∃ D, D = dy (L / 1440) := ⟨_, rfl⟩
  rw [← hWW, ← hN] at HR
  rw [← hWW] at hv hw
  rw [← hWW] at wb1 wb2
  rw [← hN] at N0 N1
  simp only [← hWW, ← hN, ← hY, ← hM, ← hD] at CL
  have C1 := Lib.hid (fun X => hasDay_any d s e f u WW X h.1.1 h.1.2 wb1 wb2)
  have C2 := Lib.hid (fun X => dayBefore_any WW X wb1 wb2)
  have pb := pw_bd WW
  have C3 := Lib.hid (fun X => hasDay_any d s e f u (pw WW) X h.1.1 h.1.2 pb.1 pb.2)
  have ZB : w.heap.size ≤ w.heap.size := Nat.le_refl _
  clear h pb hL hWW hN hY hM hD z0 z1
  have HB := Lib.hid (dayB_gt (d := d) (W := WW) (N := N) hse)
  have se := eq_f s e (by omega)
  have se2 : decide (s < e) = false := decide_eq_false (by omega)
  rw [hv] at C1 HB
  rw [hw] at C3 HB
  obtain ⟨PW, hPW⟩ : ∃ PW, PW = pw WW := ⟨_, rfl⟩
  simp only [← hPW] at C2 C3
  clear hPW hse hv hw
  rcases u_cases hu with g | ⟨g, g1⟩
  · clear hu
    go_enter Tryd.func11, Tryd.ntmps11
    go_wp2_with fail
    refine (CV.out _).mono ?_
    rintro e1 w1 ⟨rfl, h1⟩
    obtain ⟨hc1, hf1⟩ := bcell h1
    have z1 : w.heap.size + 1 < w1.heap.size := by have := h1.size; simp at this; omega
    have H1 := Lib.hid (b2 (b2 (b_new w _) (b_new _ _)) h1)
    clear h1
    go_wp2_with fail
    refine (CL.out _ (hT.below H1.out)).mono ?_
    rintro e2 w2 ⟨rfl, h2⟩
    obtain ⟨hc2, hf2⟩ := bcell h2
    have z2 : w.heap.size + 1 < w2.heap.size := by have := h2.size; omega
    have q1 : w.heap.size < w1.heap.size := by omega
    have q2 : w.heap.size < w2.heap.size := by omega
    have H2 := Lib.hid (b2 H1.out h2)
    clear h2
    go_wp2_with fail
    refine (C1.out _).mono ?_
    rintro e3 w3 ⟨rfl, h3⟩
    obtain ⟨hc3, hf3⟩ := bcell h3
    have q3 : w.heap.size < w3.heap.size := by have := h3.size; simp at this; omega
    have q4 : w2.heap.size < w3.heap.size := by have := h3.size; simp at this; omega
    have H3 := Lib.hid (b2 (b2 H2.out (b_new _ _)) h3)
    clear h3
    go_wp2_with fail
    have S0 : KD w.heap.size w2.heap.size (.int .i64 d) (.int .i64 s) (.int .i64 e) (.int .i64 f) (.int .i64 u) (.int .i64 WW) (.int .i64 N) w3 := by
      refine ⟨q3, q4, ?_, ?_, ?_, ?_, ?_, ?_, ?_⟩ <;> simp [go_sem, hc3, hc2, hc1, q1, q2]
    go_region_held3 (fun X => w.heap.size < X.heap.size ∧ w2.heap.size < X.heap.size ∧ X.cell? ⟨w.heap.size, 0, none⟩ = some (.int .i64 d) ∧ X.cell? ⟨w.heap.size, 1, none⟩ = some (.int .i64 s) ∧ X.cell? ⟨w.heap.size, 2, none⟩ = some (.int .i64 e) ∧ X.cell? ⟨w.heap.size, 3, none⟩ = some (.int .i64 f) ∧ X.cell? ⟨w.heap.size, 4, none⟩ = some (.int .i64 u) ∧ X.cell? ⟨w2.heap.size, 3, none⟩ = some (.int .i64 WW) ∧ X.cell? ⟨w2.heap.size, 4, none⟩ = some (.int .i64 N)) (first | assumption | exact S0.draws _ | exact KD.drew (by assumption) | exact KD.below (by assumption) (by assumption))
      (first | (go_at_call 31; refine (C2.out _).mono ?_; rintro e5 w5 ⟨rfl, rfl⟩) | (go_at_call 30; refine (C3.out _).mono ?_; rintro e5 w5 ⟨rfl, h5⟩))
    have K5 : KD w.heap.size w2.heap.size (.int .i64 d) (.int .i64 s) (.int .i64 e) (.int .i64 f) (.int .i64 u) (.int .i64 WW) (.int .i64 N) w5 := by assumption
    have H5 : Below w3.heap.size w3 w5 := ⟨h5.os, h5.tape, h5.output, h5.size, h5.block⟩
    have H5 := Lib.hid (b2 H3.out H5)
    clear h5 S0
    obtain ⟨_, _, _, k1, k2, _, _, _, k6⟩ := K5
    go_wp2_with fail
    go_ret
    exact ⟨ret_bool (by rw [HR.out, HB.out]; simp), H5.out⟩
  · clear hu
    go_enter Tryd.func11, Tryd.ntmps11
    go_wp2_with fail
    refine (CV.out _).mono ?_
    rintro e1 w1 ⟨rfl, h1⟩
    obtain ⟨hc1, hf1⟩ := bcell h1
    have z1 : w.heap.size + 1 < w1.heap.size := by have := h1.size; simp at this; omega
    have H1 := Lib.hid (b2 (b2 (b_new w _) (b_new _ _)) h1)
    clear h1
    go_wp2_with fail
    refine (CL.out _ (hT.below H1.out)).mono ?_
    rintro e2 w2 ⟨rfl, h2⟩
    obtain ⟨hc2, hf2⟩ := bcell h2
    have z2 : w.heap.size + 1 < w2.heap.size := by have := h2.size; omega
    have q1 : w.heap.size < w1.heap.size := by omega
    have q2 : w.heap.size < w2.heap.size := by omega
    have H2 := Lib.hid (b2 H1.out h2)
    clear h2
    go_wp2_with fail
    refine (C1.out _).mono ?_
    rintro e3 w3 ⟨rfl, h3⟩
    obtain ⟨hc3, hf3⟩ := bcell h3
    have q3 : w.heap.size < w3.heap.size := by have := h3.size; simp at this; omega
    have q4 : w2.heap.size < w3.heap.size := by have := h3.size; simp at this; omega
    have H3 := Lib.hid (b2 (b2 H2.out (b_new _ _)) h3)
    clear h3
    go_wp2_with fail
    have S0 : KD w.heap.size w2.heap.size (.int .i64 d) (.int .i64 s) (.int .i64 e) (.int .i64 f) (.int .i64 u) (.int .i64 WW) (.int .i64 N) w3 := by
      refine ⟨q3, q4, ?_, ?_, ?_, ?_, ?_, ?_, ?_⟩ <;> simp [go_sem, hc3, hc2, hc1, q1, q2]
    go_region_held3 (fun X => w.heap.size < X.heap.size ∧ w2.heap.size < X.heap.size ∧ X.cell? ⟨w.heap.size, 0, none⟩ = some (.int .i64 d) ∧ X.cell? ⟨w.heap.size, 1, none⟩ = some (.int .i64 s) ∧ X.cell? ⟨w.heap.size, 2, none⟩ = some (.int .i64 e) ∧ X.cell? ⟨w.heap.size, 3, none⟩ = some (.int .i64 f) ∧ X.cell? ⟨w.heap.size, 4, none⟩ = some (.int .i64 u) ∧ X.cell? ⟨w2.heap.size, 3, none⟩ = some (.int .i64 WW) ∧ X.cell? ⟨w2.heap.size, 4, none⟩ = some (.int .i64 N)) (first | assumption | exact S0.draws _ | exact KD.drew (by assumption) | exact KD.below (by assumption) (by assumption))
      (first | (go_at_call 31; refine (C2.out _).mono ?_; rintro e5 w5 ⟨rfl, rfl⟩) | (go_at_call 30; refine (C3.out _).mono ?_; rintro e5 w5 ⟨rfl, h5⟩))
    have K5 : KD w.heap.size w2.heap.size (.int .i64 d) (.int .i64 s) (.int .i64 e) (.int .i64 f) (.int .i64 u) (.int .i64 WW) (.int .i64 N) w5 := by assumption
    have H5 : Below w3.heap.size w3 w5 := ⟨h5.os, h5.tape, h5.output, h5.size, h5.block⟩
    have H5 := Lib.hid (b2 H3.out H5)
    clear h5 S0
    obtain ⟨_, _, _, k1, k2, _, _, _, k6⟩ := K5
    go_wp2_with fail
    go_ret
    exact ⟨ret_bool (by rw [HR.out, HB.out]; simp), H5.out⟩
set_option maxRecDepth 100000 in
set_option maxHeartbeats 4000000 in
theorem h_gt_t1 (d s e f u o : Int) (sm : Bool) (t : Int) (w : World) (hT : Tab w) (h : OkW d s e f u) (ht : f ≤ t) (hu : u = -1 ∨ t < u) (z0 : -840 ≤ o) (z1 : o ≤ 840) (t1 : t ≤ 268435456) (hse : e < s) (hv : onB d (wd ((t + offI o sm t) / 1440)) = true) (hn : s ≤ (t + offI o sm t) % 1440) :
    Calls Tryd.prog 11 #[.agg #[.int .i64 d, .int .i64 s, .int .i64 e, .int .i64 f, .int .i64 u], .agg #[.int .i64 o, .bool sm], .int .i64 t] w fun e' w' => e' = .returned (.bool (hol d s e f u o sm t)) ∧ Below w.heap.size w w' := by
  have HR := Lib.hid (hol_in (sm := sm) (t := t) ⟨h, z0, z1⟩ ⟨⟨by have := h.2.2.2.1.1; omega, t1⟩, ht, hu⟩)
  have CV := Lib.hid (fun X => valid_yes d s e f u X h)
  have CL := Lib.hid (fun X hX => local_yes o sm t X hX z0 z1 (by have := h.2.2.2.1.1; omega) t1)
  obtain ⟨L, hL⟩ : ∃ L, L = t + offI o sm t := ⟨_, rfl⟩
  rw [← hL] at HR hv hn
  simp only [← hL, dateV_eq] at CL
  obtain ⟨wb1, wb2⟩ := wd_bd (L / 1440)
  have N0 : 0 ≤ L % 1440 := by omega
  have N1 : L % 1440 ≤ 1439 := by omega
  obtain ⟨WW, hWW⟩ : ∃ WW, WW = wd (L / 1440) := ⟨_, rfl⟩
  obtain ⟨N, hN⟩ : ∃ N, N = L % 1440 := ⟨_, rfl⟩
  obtain ⟨Y, hY⟩ : ∃ Y, Y = yr (L / 1440) := ⟨_, rfl⟩
  obtain ⟨M, hM⟩ : ∃ M, M = mo (L / 1440) := ⟨_, rfl⟩
  obtain ⟨D, hD⟩ : ∃ D, D = dy (L / 1440) := ⟨_, rfl⟩
  rw [← hWW, ← hN] at HR
  rw [← hWW] at hv
  rw [← hN] at hn
  rw [← hWW] at wb1 wb2
  rw [← hN] at N0 N1
  simp only [← hWW, ← hN, ← hY, ← hM, ← hD] at CL
  have C1 := Lib.hid (fun X => hasDay_any d s e f u WW X h.1.1 h.1.2 wb1 wb2)
  have C2 := Lib.hid (fun X => dayBefore_any WW X wb1 wb2)
  have pb := pw_bd WW
  have C3 := Lib.hid (fun X => hasDay_any d s e f u (pw WW) X h.1.1 h.1.2 pb.1 pb.2)
  have ZB : w.heap.size ≤ w.heap.size := Nat.le_refl _
  clear h pb hL hWW hN hY hM hD z0 z1
  have HB := Lib.hid (dayB_gt (d := d) (W := WW) (N := N) hse)
  have se := eq_f s e (by omega)
  have se2 : decide (s < e) = false := decide_eq_false (by omega)
  have dn : decide (s ≤ N) = true := decide_eq_true hn
  rw [hv] at C1 HB
  obtain ⟨U, hU⟩ : ∃ U, U = onB d (pw WW) := ⟨_, rfl⟩
  rw [← hU] at C3 HB
  clear hU
  obtain ⟨PW, hPW⟩ : ∃ PW, PW = pw WW := ⟨_, rfl⟩
  simp only [← hPW] at C2 C3
  clear hPW hse hv
  rcases u_cases hu with g | ⟨g, g1⟩
  · clear hu
    go_enter Tryd.func11, Tryd.ntmps11
    go_wp2_with fail
    refine (CV.out _).mono ?_
    rintro e1 w1 ⟨rfl, h1⟩
    obtain ⟨hc1, hf1⟩ := bcell h1
    have z1 : w.heap.size + 1 < w1.heap.size := by have := h1.size; simp at this; omega
    have H1 := Lib.hid (b2 (b2 (b_new w _) (b_new _ _)) h1)
    clear h1
    go_wp2_with fail
    refine (CL.out _ (hT.below H1.out)).mono ?_
    rintro e2 w2 ⟨rfl, h2⟩
    obtain ⟨hc2, hf2⟩ := bcell h2
    have z2 : w.heap.size + 1 < w2.heap.size := by have := h2.size; omega
    have q1 : w.heap.size < w1.heap.size := by omega
    have q2 : w.heap.size < w2.heap.size := by omega
    have H2 := Lib.hid (b2 H1.out h2)
    clear h2
    go_wp2_with fail
    refine (C1.out _).mono ?_
    rintro e3 w3 ⟨rfl, h3⟩
    obtain ⟨hc3, hf3⟩ := bcell h3
    have q3 : w.heap.size < w3.heap.size := by have := h3.size; simp at this; omega
    have q4 : w2.heap.size < w3.heap.size := by have := h3.size; simp at this; omega
    have H3 := Lib.hid (b2 (b2 H2.out (b_new _ _)) h3)
    clear h3
    go_wp2_with fail
    have S0 : KD w.heap.size w2.heap.size (.int .i64 d) (.int .i64 s) (.int .i64 e) (.int .i64 f) (.int .i64 u) (.int .i64 WW) (.int .i64 N) w3 := by
      refine ⟨q3, q4, ?_, ?_, ?_, ?_, ?_, ?_, ?_⟩ <;> simp [go_sem, hc3, hc2, hc1, q1, q2]
    go_region_held3 (fun X => w.heap.size < X.heap.size ∧ w2.heap.size < X.heap.size ∧ X.cell? ⟨w.heap.size, 0, none⟩ = some (.int .i64 d) ∧ X.cell? ⟨w.heap.size, 1, none⟩ = some (.int .i64 s) ∧ X.cell? ⟨w.heap.size, 2, none⟩ = some (.int .i64 e) ∧ X.cell? ⟨w.heap.size, 3, none⟩ = some (.int .i64 f) ∧ X.cell? ⟨w.heap.size, 4, none⟩ = some (.int .i64 u) ∧ X.cell? ⟨w2.heap.size, 3, none⟩ = some (.int .i64 WW) ∧ X.cell? ⟨w2.heap.size, 4, none⟩ = some (.int .i64 N)) (first | assumption | exact S0.draws _ | exact KD.drew (by assumption) | exact KD.below (by assumption) (by assumption))
      (first | (go_at_call 31; refine (C2.out _).mono ?_; rintro e5 w5 ⟨rfl, rfl⟩) | (go_at_call 30; refine (C3.out _).mono ?_; rintro e5 w5 ⟨rfl, h5⟩))
    have K5 : KD w.heap.size w2.heap.size (.int .i64 d) (.int .i64 s) (.int .i64 e) (.int .i64 f) (.int .i64 u) (.int .i64 WW) (.int .i64 N) w5 := by assumption
    have H5 : Below w3.heap.size w3 w5 := ⟨h5.os, h5.tape, h5.output, h5.size, h5.block⟩
    have H5 := Lib.hid (b2 H3.out H5)
    clear h5 S0
    obtain ⟨_, _, _, k1, k2, _, _, _, k6⟩ := K5
    go_wp2_with fail
    go_ret
    exact ⟨ret_bool (by rw [HR.out, HB.out]; simp [dn]), H5.out⟩
  · clear hu
    go_enter Tryd.func11, Tryd.ntmps11
    go_wp2_with fail
    refine (CV.out _).mono ?_
    rintro e1 w1 ⟨rfl, h1⟩
    obtain ⟨hc1, hf1⟩ := bcell h1
    have z1 : w.heap.size + 1 < w1.heap.size := by have := h1.size; simp at this; omega
    have H1 := Lib.hid (b2 (b2 (b_new w _) (b_new _ _)) h1)
    clear h1
    go_wp2_with fail
    refine (CL.out _ (hT.below H1.out)).mono ?_
    rintro e2 w2 ⟨rfl, h2⟩
    obtain ⟨hc2, hf2⟩ := bcell h2
    have z2 : w.heap.size + 1 < w2.heap.size := by have := h2.size; omega
    have q1 : w.heap.size < w1.heap.size := by omega
    have q2 : w.heap.size < w2.heap.size := by omega
    have H2 := Lib.hid (b2 H1.out h2)
    clear h2
    go_wp2_with fail
    refine (C1.out _).mono ?_
    rintro e3 w3 ⟨rfl, h3⟩
    obtain ⟨hc3, hf3⟩ := bcell h3
    have q3 : w.heap.size < w3.heap.size := by have := h3.size; simp at this; omega
    have q4 : w2.heap.size < w3.heap.size := by have := h3.size; simp at this; omega
    have H3 := Lib.hid (b2 (b2 H2.out (b_new _ _)) h3)
    clear h3
    go_wp2_with fail
    have S0 : KD w.heap.size w2.heap.size (.int .i64 d) (.int .i64 s) (.int .i64 e) (.int .i64 f) (.int .i64 u) (.int .i64 WW) (.int .i64 N) w3 := by
      refine ⟨q3, q4, ?_, ?_, ?_, ?_, ?_, ?_, ?_⟩ <;> simp [go_sem, hc3, hc2, hc1, q1, q2]
    go_region_held3 (fun X => w.heap.size < X.heap.size ∧ w2.heap.size < X.heap.size ∧ X.cell? ⟨w.heap.size, 0, none⟩ = some (.int .i64 d) ∧ X.cell? ⟨w.heap.size, 1, none⟩ = some (.int .i64 s) ∧ X.cell? ⟨w.heap.size, 2, none⟩ = some (.int .i64 e) ∧ X.cell? ⟨w.heap.size, 3, none⟩ = some (.int .i64 f) ∧ X.cell? ⟨w.heap.size, 4, none⟩ = some (.int .i64 u) ∧ X.cell? ⟨w2.heap.size, 3, none⟩ = some (.int .i64 WW) ∧ X.cell? ⟨w2.heap.size, 4, none⟩ = some (.int .i64 N)) (first | assumption | exact S0.draws _ | exact KD.drew (by assumption) | exact KD.below (by assumption) (by assumption))
      (first | (go_at_call 31; refine (C2.out _).mono ?_; rintro e5 w5 ⟨rfl, rfl⟩) | (go_at_call 30; refine (C3.out _).mono ?_; rintro e5 w5 ⟨rfl, h5⟩))
    have K5 : KD w.heap.size w2.heap.size (.int .i64 d) (.int .i64 s) (.int .i64 e) (.int .i64 f) (.int .i64 u) (.int .i64 WW) (.int .i64 N) w5 := by assumption
    have H5 : Below w3.heap.size w3 w5 := ⟨h5.os, h5.tape, h5.output, h5.size, h5.block⟩
    have H5 := Lib.hid (b2 H3.out H5)
    clear h5 S0
    obtain ⟨_, _, _, k1, k2, _, _, _, k6⟩ := K5
    go_wp2_with fail
    go_ret
    exact ⟨ret_bool (by rw [HR.out, HB.out]; simp [dn]), H5.out⟩
set_option maxRecDepth 100000 in
set_option maxHeartbeats 4000000 in
theorem h_gt_t0f (d s e f u o : Int) (sm : Bool) (t : Int) (w : World) (hT : Tab w) (h : OkW d s e f u) (ht : f ≤ t) (hu : u = -1 ∨ t < u) (z0 : -840 ≤ o) (z1 : o ≤ 840) (t1 : t ≤ 268435456) (hse : e < s) (hv : onB d (wd ((t + offI o sm t) / 1440)) = true) (hw : onB d (pw (wd ((t + offI o sm t) / 1440))) = false) (hn : (t + offI o sm t) % 1440 < s) :
    Calls Tryd.prog 11 #[.agg #[.int .i64 d, .int .i64 s, .int .i64 e, .int .i64 f, .int .i64 u], .agg #[.int .i64 o, .bool sm], .int .i64 t] w fun e' w' => e' = .returned (.bool (hol d s e f u o sm t)) ∧ Below w.heap.size w w' := by
  have HR := Lib.hid (hol_in (sm := sm) (t := t) ⟨h, z0, z1⟩ ⟨⟨by have := h.2.2.2.1.1; omega, t1⟩, ht, hu⟩)
  have CV := Lib.hid (fun X => valid_yes d s e f u X h)
  have CL := Lib.hid (fun X hX => local_yes o sm t X hX z0 z1 (by have := h.2.2.2.1.1; omega) t1)
  obtain ⟨L, hL⟩ : ∃ L, L = t + offI o sm t := ⟨_, rfl⟩
  rw [← hL] at HR hv hw hn
  simp only [← hL, dateV_eq] at CL
  obtain ⟨wb1, wb2⟩ := wd_bd (L / 1440)
  have N0 : 0 ≤ L % 1440 := by omega
  have N1 : L % 1440 ≤ 1439 := by omega
  obtain ⟨WW, hWW⟩ : ∃ WW, WW = wd (L / 1440) := ⟨_, rfl⟩
  obtain ⟨N, hN⟩ : ∃ N, N = L % 1440 := ⟨_, rfl⟩
  obtain ⟨Y, hY⟩ : ∃ Y, Y = yr (L / 1440) := ⟨_, rfl⟩
  obtain ⟨M, hM⟩ : ∃ M, M = mo (L / 1440) := ⟨_, rfl⟩
  obtain ⟨D, hD⟩ : ∃ D, D = dy (L / 1440) := ⟨_, rfl⟩
  rw [← hWW, ← hN] at HR
  rw [← hWW] at hv hw
  rw [← hN] at hn
  rw [← hWW] at wb1 wb2
  rw [← hN] at N0 N1
  simp only [← hWW, ← hN, ← hY, ← hM, ← hD] at CL
  have C1 := Lib.hid (fun X => hasDay_any d s e f u WW X h.1.1 h.1.2 wb1 wb2)
  have C2 := Lib.hid (fun X => dayBefore_any WW X wb1 wb2)
  have pb := pw_bd WW
  have C3 := Lib.hid (fun X => hasDay_any d s e f u (pw WW) X h.1.1 h.1.2 pb.1 pb.2)
  have ZB : w.heap.size ≤ w.heap.size := Nat.le_refl _
  clear h pb hL hWW hN hY hM hD z0 z1
  have HB := Lib.hid (dayB_gt (d := d) (W := WW) (N := N) hse)
  have se := eq_f s e (by omega)
  have se2 : decide (s < e) = false := decide_eq_false (by omega)
  have dn : decide (s ≤ N) = false := decide_eq_false (by omega)
  rw [hv] at C1 HB
  rw [hw] at C3 HB
  obtain ⟨PW, hPW⟩ : ∃ PW, PW = pw WW := ⟨_, rfl⟩
  simp only [← hPW] at C2 C3
  clear hPW hse hv hw
  rcases u_cases hu with g | ⟨g, g1⟩
  · clear hu
    go_enter Tryd.func11, Tryd.ntmps11
    go_wp2_with fail
    refine (CV.out _).mono ?_
    rintro e1 w1 ⟨rfl, h1⟩
    obtain ⟨hc1, hf1⟩ := bcell h1
    have z1 : w.heap.size + 1 < w1.heap.size := by have := h1.size; simp at this; omega
    have H1 := Lib.hid (b2 (b2 (b_new w _) (b_new _ _)) h1)
    clear h1
    go_wp2_with fail
    refine (CL.out _ (hT.below H1.out)).mono ?_
    rintro e2 w2 ⟨rfl, h2⟩
    obtain ⟨hc2, hf2⟩ := bcell h2
    have z2 : w.heap.size + 1 < w2.heap.size := by have := h2.size; omega
    have q1 : w.heap.size < w1.heap.size := by omega
    have q2 : w.heap.size < w2.heap.size := by omega
    have H2 := Lib.hid (b2 H1.out h2)
    clear h2
    go_wp2_with fail
    refine (C1.out _).mono ?_
    rintro e3 w3 ⟨rfl, h3⟩
    obtain ⟨hc3, hf3⟩ := bcell h3
    have q3 : w.heap.size < w3.heap.size := by have := h3.size; simp at this; omega
    have q4 : w2.heap.size < w3.heap.size := by have := h3.size; simp at this; omega
    have H3 := Lib.hid (b2 (b2 H2.out (b_new _ _)) h3)
    clear h3
    go_wp2_with fail
    have S0 : KD w.heap.size w2.heap.size (.int .i64 d) (.int .i64 s) (.int .i64 e) (.int .i64 f) (.int .i64 u) (.int .i64 WW) (.int .i64 N) w3 := by
      refine ⟨q3, q4, ?_, ?_, ?_, ?_, ?_, ?_, ?_⟩ <;> simp [go_sem, hc3, hc2, hc1, q1, q2]
    go_region_held3 (fun X => w.heap.size < X.heap.size ∧ w2.heap.size < X.heap.size ∧ X.cell? ⟨w.heap.size, 0, none⟩ = some (.int .i64 d) ∧ X.cell? ⟨w.heap.size, 1, none⟩ = some (.int .i64 s) ∧ X.cell? ⟨w.heap.size, 2, none⟩ = some (.int .i64 e) ∧ X.cell? ⟨w.heap.size, 3, none⟩ = some (.int .i64 f) ∧ X.cell? ⟨w.heap.size, 4, none⟩ = some (.int .i64 u) ∧ X.cell? ⟨w2.heap.size, 3, none⟩ = some (.int .i64 WW) ∧ X.cell? ⟨w2.heap.size, 4, none⟩ = some (.int .i64 N)) (first | assumption | exact S0.draws _ | exact KD.drew (by assumption) | exact KD.below (by assumption) (by assumption))
      (first | (go_at_call 31; refine (C2.out _).mono ?_; rintro e5 w5 ⟨rfl, rfl⟩) | (go_at_call 30; refine (C3.out _).mono ?_; rintro e5 w5 ⟨rfl, h5⟩))
    have K5 : KD w.heap.size w2.heap.size (.int .i64 d) (.int .i64 s) (.int .i64 e) (.int .i64 f) (.int .i64 u) (.int .i64 WW) (.int .i64 N) w5 := by assumption
    have H5 : Below w3.heap.size w3 w5 := ⟨h5.os, h5.tape, h5.output, h5.size, h5.block⟩
    have H5 := Lib.hid (b2 H3.out H5)
    clear h5 S0
    obtain ⟨_, _, _, k1, k2, _, _, _, k6⟩ := K5
    go_wp2_with fail
    go_ret
    exact ⟨ret_bool (by rw [HR.out, HB.out]; simp [dn]), H5.out⟩
  · clear hu
    go_enter Tryd.func11, Tryd.ntmps11
    go_wp2_with fail
    refine (CV.out _).mono ?_
    rintro e1 w1 ⟨rfl, h1⟩
    obtain ⟨hc1, hf1⟩ := bcell h1
    have z1 : w.heap.size + 1 < w1.heap.size := by have := h1.size; simp at this; omega
    have H1 := Lib.hid (b2 (b2 (b_new w _) (b_new _ _)) h1)
    clear h1
    go_wp2_with fail
    refine (CL.out _ (hT.below H1.out)).mono ?_
    rintro e2 w2 ⟨rfl, h2⟩
    obtain ⟨hc2, hf2⟩ := bcell h2
    have z2 : w.heap.size + 1 < w2.heap.size := by have := h2.size; omega
    have q1 : w.heap.size < w1.heap.size := by omega
    have q2 : w.heap.size < w2.heap.size := by omega
    have H2 := Lib.hid (b2 H1.out h2)
    clear h2
    go_wp2_with fail
    refine (C1.out _).mono ?_
    rintro e3 w3 ⟨rfl, h3⟩
    obtain ⟨hc3, hf3⟩ := bcell h3
    have q3 : w.heap.size < w3.heap.size := by have := h3.size; simp at this; omega
    have q4 : w2.heap.size < w3.heap.size := by have := h3.size; simp at this; omega
    have H3 := Lib.hid (b2 (b2 H2.out (b_new _ _)) h3)
    clear h3
    go_wp2_with fail
    have S0 : KD w.heap.size w2.heap.size (.int .i64 d) (.int .i64 s) (.int .i64 e) (.int .i64 f) (.int .i64 u) (.int .i64 WW) (.int .i64 N) w3 := by
      refine ⟨q3, q4, ?_, ?_, ?_, ?_, ?_, ?_, ?_⟩ <;> simp [go_sem, hc3, hc2, hc1, q1, q2]
    go_region_held3 (fun X => w.heap.size < X.heap.size ∧ w2.heap.size < X.heap.size ∧ X.cell? ⟨w.heap.size, 0, none⟩ = some (.int .i64 d) ∧ X.cell? ⟨w.heap.size, 1, none⟩ = some (.int .i64 s) ∧ X.cell? ⟨w.heap.size, 2, none⟩ = some (.int .i64 e) ∧ X.cell? ⟨w.heap.size, 3, none⟩ = some (.int .i64 f) ∧ X.cell? ⟨w.heap.size, 4, none⟩ = some (.int .i64 u) ∧ X.cell? ⟨w2.heap.size, 3, none⟩ = some (.int .i64 WW) ∧ X.cell? ⟨w2.heap.size, 4, none⟩ = some (.int .i64 N)) (first | assumption | exact S0.draws _ | exact KD.drew (by assumption) | exact KD.below (by assumption) (by assumption))
      (first | (go_at_call 31; refine (C2.out _).mono ?_; rintro e5 w5 ⟨rfl, rfl⟩) | (go_at_call 30; refine (C3.out _).mono ?_; rintro e5 w5 ⟨rfl, h5⟩))
    have K5 : KD w.heap.size w2.heap.size (.int .i64 d) (.int .i64 s) (.int .i64 e) (.int .i64 f) (.int .i64 u) (.int .i64 WW) (.int .i64 N) w5 := by assumption
    have H5 : Below w3.heap.size w3 w5 := ⟨h5.os, h5.tape, h5.output, h5.size, h5.block⟩
    have H5 := Lib.hid (b2 H3.out H5)
    clear h5 S0
    obtain ⟨_, _, _, k1, k2, _, _, _, k6⟩ := K5
    go_wp2_with fail
    go_ret
    exact ⟨ret_bool (by rw [HR.out, HB.out]; simp [dn]), H5.out⟩
set_option maxRecDepth 100000 in
set_option maxHeartbeats 4000000 in
theorem h_gt_t0t (d s e f u o : Int) (sm : Bool) (t : Int) (w : World) (hT : Tab w) (h : OkW d s e f u) (ht : f ≤ t) (hu : u = -1 ∨ t < u) (z0 : -840 ≤ o) (z1 : o ≤ 840) (t1 : t ≤ 268435456) (hse : e < s) (hv : onB d (wd ((t + offI o sm t) / 1440)) = true) (hw : onB d (pw (wd ((t + offI o sm t) / 1440))) = true) (hn : (t + offI o sm t) % 1440 < s) :
    Calls Tryd.prog 11 #[.agg #[.int .i64 d, .int .i64 s, .int .i64 e, .int .i64 f, .int .i64 u], .agg #[.int .i64 o, .bool sm], .int .i64 t] w fun e' w' => e' = .returned (.bool (hol d s e f u o sm t)) ∧ Below w.heap.size w w' := by
  have HR := Lib.hid (hol_in (sm := sm) (t := t) ⟨h, z0, z1⟩ ⟨⟨by have := h.2.2.2.1.1; omega, t1⟩, ht, hu⟩)
  have CV := Lib.hid (fun X => valid_yes d s e f u X h)
  have CL := Lib.hid (fun X hX => local_yes o sm t X hX z0 z1 (by have := h.2.2.2.1.1; omega) t1)
  obtain ⟨L, hL⟩ : ∃ L, L = t + offI o sm t := ⟨_, rfl⟩
  rw [← hL] at HR hv hw hn
  simp only [← hL, dateV_eq] at CL
  obtain ⟨wb1, wb2⟩ := wd_bd (L / 1440)
  have N0 : 0 ≤ L % 1440 := by omega
  have N1 : L % 1440 ≤ 1439 := by omega
  obtain ⟨WW, hWW⟩ : ∃ WW, WW = wd (L / 1440) := ⟨_, rfl⟩
  obtain ⟨N, hN⟩ : ∃ N, N = L % 1440 := ⟨_, rfl⟩
  obtain ⟨Y, hY⟩ : ∃ Y, Y = yr (L / 1440) := ⟨_, rfl⟩
  obtain ⟨M, hM⟩ : ∃ M, M = mo (L / 1440) := ⟨_, rfl⟩
  obtain ⟨D, hD⟩ : ∃ D, D = dy (L / 1440) := ⟨_, rfl⟩
  rw [← hWW, ← hN] at HR
  rw [← hWW] at hv hw
  rw [← hN] at hn
  rw [← hWW] at wb1 wb2
  rw [← hN] at N0 N1
  simp only [← hWW, ← hN, ← hY, ← hM, ← hD] at CL
  have C1 := Lib.hid (fun X => hasDay_any d s e f u WW X h.1.1 h.1.2 wb1 wb2)
  have C2 := Lib.hid (fun X => dayBefore_any WW X wb1 wb2)
  have pb := pw_bd WW
  have C3 := Lib.hid (fun X => hasDay_any d s e f u (pw WW) X h.1.1 h.1.2 pb.1 pb.2)
  have ZB : w.heap.size ≤ w.heap.size := Nat.le_refl _
  clear h pb hL hWW hN hY hM hD z0 z1
  have HB := Lib.hid (dayB_gt (d := d) (W := WW) (N := N) hse)
  have se := eq_f s e (by omega)
  have se2 : decide (s < e) = false := decide_eq_false (by omega)
  have dn : decide (s ≤ N) = false := decide_eq_false (by omega)
  rw [hv] at C1 HB
  rw [hw] at C3 HB
  obtain ⟨PW, hPW⟩ : ∃ PW, PW = pw WW := ⟨_, rfl⟩
  simp only [← hPW] at C2 C3
  clear hPW hse hv hw
  rcases u_cases hu with g | ⟨g, g1⟩
  · clear hu
    go_enter Tryd.func11, Tryd.ntmps11
    go_wp2_with fail
    refine (CV.out _).mono ?_
    rintro e1 w1 ⟨rfl, h1⟩
    obtain ⟨hc1, hf1⟩ := bcell h1
    have z1 : w.heap.size + 1 < w1.heap.size := by have := h1.size; simp at this; omega
    have H1 := Lib.hid (b2 (b2 (b_new w _) (b_new _ _)) h1)
    clear h1
    go_wp2_with fail
    refine (CL.out _ (hT.below H1.out)).mono ?_
    rintro e2 w2 ⟨rfl, h2⟩
    obtain ⟨hc2, hf2⟩ := bcell h2
    have z2 : w.heap.size + 1 < w2.heap.size := by have := h2.size; omega
    have q1 : w.heap.size < w1.heap.size := by omega
    have q2 : w.heap.size < w2.heap.size := by omega
    have H2 := Lib.hid (b2 H1.out h2)
    clear h2
    go_wp2_with fail
    refine (C1.out _).mono ?_
    rintro e3 w3 ⟨rfl, h3⟩
    obtain ⟨hc3, hf3⟩ := bcell h3
    have q3 : w.heap.size < w3.heap.size := by have := h3.size; simp at this; omega
    have q4 : w2.heap.size < w3.heap.size := by have := h3.size; simp at this; omega
    have H3 := Lib.hid (b2 (b2 H2.out (b_new _ _)) h3)
    clear h3
    go_wp2_with fail
    have S0 : KD w.heap.size w2.heap.size (.int .i64 d) (.int .i64 s) (.int .i64 e) (.int .i64 f) (.int .i64 u) (.int .i64 WW) (.int .i64 N) w3 := by
      refine ⟨q3, q4, ?_, ?_, ?_, ?_, ?_, ?_, ?_⟩ <;> simp [go_sem, hc3, hc2, hc1, q1, q2]
    go_region_held3 (fun X => w.heap.size < X.heap.size ∧ w2.heap.size < X.heap.size ∧ X.cell? ⟨w.heap.size, 0, none⟩ = some (.int .i64 d) ∧ X.cell? ⟨w.heap.size, 1, none⟩ = some (.int .i64 s) ∧ X.cell? ⟨w.heap.size, 2, none⟩ = some (.int .i64 e) ∧ X.cell? ⟨w.heap.size, 3, none⟩ = some (.int .i64 f) ∧ X.cell? ⟨w.heap.size, 4, none⟩ = some (.int .i64 u) ∧ X.cell? ⟨w2.heap.size, 3, none⟩ = some (.int .i64 WW) ∧ X.cell? ⟨w2.heap.size, 4, none⟩ = some (.int .i64 N)) (first | assumption | exact S0.draws _ | exact KD.drew (by assumption) | exact KD.below (by assumption) (by assumption))
      (first | (go_at_call 31; refine (C2.out _).mono ?_; rintro e5 w5 ⟨rfl, rfl⟩) | (go_at_call 30; refine (C3.out _).mono ?_; rintro e5 w5 ⟨rfl, h5⟩))
    have K5 : KD w.heap.size w2.heap.size (.int .i64 d) (.int .i64 s) (.int .i64 e) (.int .i64 f) (.int .i64 u) (.int .i64 WW) (.int .i64 N) w5 := by assumption
    have H5 : Below w3.heap.size w3 w5 := ⟨h5.os, h5.tape, h5.output, h5.size, h5.block⟩
    have H5 := Lib.hid (b2 H3.out H5)
    clear h5 S0
    obtain ⟨_, _, _, k1, k2, _, _, _, k6⟩ := K5
    go_wp2_with fail
    go_ret
    exact ⟨ret_bool (by rw [HR.out, HB.out]; simp [dn]), H5.out⟩
  · clear hu
    go_enter Tryd.func11, Tryd.ntmps11
    go_wp2_with fail
    refine (CV.out _).mono ?_
    rintro e1 w1 ⟨rfl, h1⟩
    obtain ⟨hc1, hf1⟩ := bcell h1
    have z1 : w.heap.size + 1 < w1.heap.size := by have := h1.size; simp at this; omega
    have H1 := Lib.hid (b2 (b2 (b_new w _) (b_new _ _)) h1)
    clear h1
    go_wp2_with fail
    refine (CL.out _ (hT.below H1.out)).mono ?_
    rintro e2 w2 ⟨rfl, h2⟩
    obtain ⟨hc2, hf2⟩ := bcell h2
    have z2 : w.heap.size + 1 < w2.heap.size := by have := h2.size; omega
    have q1 : w.heap.size < w1.heap.size := by omega
    have q2 : w.heap.size < w2.heap.size := by omega
    have H2 := Lib.hid (b2 H1.out h2)
    clear h2
    go_wp2_with fail
    refine (C1.out _).mono ?_
    rintro e3 w3 ⟨rfl, h3⟩
    obtain ⟨hc3, hf3⟩ := bcell h3
    have q3 : w.heap.size < w3.heap.size := by have := h3.size; simp at this; omega
    have q4 : w2.heap.size < w3.heap.size := by have := h3.size; simp at this; omega
    have H3 := Lib.hid (b2 (b2 H2.out (b_new _ _)) h3)
    clear h3
    go_wp2_with fail
    have S0 : KD w.heap.size w2.heap.size (.int .i64 d) (.int .i64 s) (.int .i64 e) (.int .i64 f) (.int .i64 u) (.int .i64 WW) (.int .i64 N) w3 := by
      refine ⟨q3, q4, ?_, ?_, ?_, ?_, ?_, ?_, ?_⟩ <;> simp [go_sem, hc3, hc2, hc1, q1, q2]
    go_region_held3 (fun X => w.heap.size < X.heap.size ∧ w2.heap.size < X.heap.size ∧ X.cell? ⟨w.heap.size, 0, none⟩ = some (.int .i64 d) ∧ X.cell? ⟨w.heap.size, 1, none⟩ = some (.int .i64 s) ∧ X.cell? ⟨w.heap.size, 2, none⟩ = some (.int .i64 e) ∧ X.cell? ⟨w.heap.size, 3, none⟩ = some (.int .i64 f) ∧ X.cell? ⟨w.heap.size, 4, none⟩ = some (.int .i64 u) ∧ X.cell? ⟨w2.heap.size, 3, none⟩ = some (.int .i64 WW) ∧ X.cell? ⟨w2.heap.size, 4, none⟩ = some (.int .i64 N)) (first | assumption | exact S0.draws _ | exact KD.drew (by assumption) | exact KD.below (by assumption) (by assumption))
      (first | (go_at_call 31; refine (C2.out _).mono ?_; rintro e5 w5 ⟨rfl, rfl⟩) | (go_at_call 30; refine (C3.out _).mono ?_; rintro e5 w5 ⟨rfl, h5⟩))
    have K5 : KD w.heap.size w2.heap.size (.int .i64 d) (.int .i64 s) (.int .i64 e) (.int .i64 f) (.int .i64 u) (.int .i64 WW) (.int .i64 N) w5 := by assumption
    have H5 : Below w3.heap.size w3 w5 := ⟨h5.os, h5.tape, h5.output, h5.size, h5.block⟩
    have H5 := Lib.hid (b2 H3.out H5)
    clear h5 S0
    obtain ⟨_, _, _, k1, k2, _, _, _, k6⟩ := K5
    go_wp2_with fail
    go_ret
    exact ⟨ret_bool (by rw [HR.out, HB.out]; simp [dn]), H5.out⟩
theorem holds_any (d s e f u o : Int) (sm : Bool) (t : Int) (w : World) (hT : Tab w) :
    Calls Tryd.prog 11 #[.agg #[.int .i64 d, .int .i64 s, .int .i64 e, .int .i64 f, .int .i64 u], .agg #[.int .i64 o, .bool sm], .int .i64 t] w fun e' w' => e' = .returned (.bool (hol d s e f u o sm t)) ∧ Below w.heap.size w w' := by
  by_cases h : OkW d s e f u
  · have hf := h.2.2.2.1.1
    by_cases h1 : t < f
    · exact h_from d s e f u o sm t w h h1
    by_cases h2 : u = -1 ∨ t < u
    · by_cases h3 : o < -840 ∨ 840 < o
      · exact h_zone d s e f u o sm t w hT h (by omega) h2 h3
      by_cases h4 : 268435456 < t
      · exact h_range d s e f u o sm t w hT h (by omega) h2 (by omega) (by omega) h4
      have a1 : f ≤ t := by omega
      have a2 : -840 ≤ o := by omega
      have a3 : o ≤ 840 := by omega
      have a4 : t ≤ 268435456 := by omega
      by_cases h5 : s = e
      · exact h_eq d s e f u o sm t w hT h a1 h2 a2 a3 a4 h5
      cases hv : onB d (wd ((t + offI o sm t) / 1440)) with
      | false =>
        by_cases h6 : s < e
        · exact h_lt0 d s e f u o sm t w hT h a1 h2 a2 a3 a4 h6 hv
        cases hw : onB d (pw (wd ((t + offI o sm t) / 1440))) with
        | false => exact h_gt_ff d s e f u o sm t w hT h a1 h2 a2 a3 a4 (by omega) hv hw
        | true => exact h_gt_ft d s e f u o sm t w hT h a1 h2 a2 a3 a4 (by omega) hv hw
      | true =>
        by_cases h6 : s < e
        · by_cases h7 : s ≤ (t + offI o sm t) % 1440
          · exact h_lt2 d s e f u o sm t w hT h a1 h2 a2 a3 a4 h6 hv h7
          · exact h_lt1 d s e f u o sm t w hT h a1 h2 a2 a3 a4 h6 hv (by omega)
        by_cases h7 : s ≤ (t + offI o sm t) % 1440
        · exact h_gt_t1 d s e f u o sm t w hT h a1 h2 a2 a3 a4 (by omega) hv h7
        cases hw : onB d (pw (wd ((t + offI o sm t) / 1440))) with
        | false => exact h_gt_t0f d s e f u o sm t w hT h a1 h2 a2 a3 a4 (by omega) hv hw (by omega)
        | true => exact h_gt_t0t d s e f u o sm t w hT h a1 h2 a2 a3 a4 (by omega) hv hw (by omega)
    · exact h_to d s e f u o sm t w h (by omega) (by omega) (by omega)
  · exact h_bad d s e f u o sm t w h
end Go.Proofs.YtmapkiefmbgdoabDoor
