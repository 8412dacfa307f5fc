/-
  What Holds of the reference returns.
-/
import Derived.Test.YtmapkiefmbgdoaaDoorWinE
namespace Go.Proofs.YtmapkiefmbgdoaaDoor
open Go.RowKit
open Cal

set_option maxRecDepth 100000 in
set_option maxHeartbeats 4000000 in
theorem rh_bad (d s e f u o : Int) (sm : Bool) (t : Int) (w : World) (h : ¬ OkW d s e f u) :
    Calls Tryd.prog 15 #[.agg #[.int .i64 d, .int .i64 s, .int .i64 e, .int .i64 f, .int .i64 u], .agg #[.int .i64 o, .bool sm], .int .i64 t] w fun e' w' => e' = .returned (.bool (hol d s e f u o sm t)) ∧ Below w.heap.size w w' := by
  have HR := Lib.hid (hol_no (d := d) (s := s) (e := e) (f := f) (u := u) (sm := sm) (t := t) (o := o) (fun h2 => h h2.1))
  have CV := Lib.hid (fun X => rvalid_no d s e f u X h)
  clear h
  go_enter Tryd.func15, Tryd.ntmps15
  go_wp2_with fail
  refine (CV.out _).mono ?_
  rintro e1 w1 ⟨rfl, h1⟩
  obtain ⟨hc1, hf1⟩ := bcell h1
  have z1 : w.heap.size + 1 < w1.heap.size := by have := h1.size; (try simp at this); omega
  have q1 : w.heap.size < w1.heap.size := by omega
  have H1 := Lib.hid (b2 (b2 (b_new w _) (b_new _ _)) h1)
  clear h1
  go_wp2_with fail
  go_ret
  exact ⟨ret_bool HR.out.symm, H1.out⟩
set_option maxRecDepth 100000 in
set_option maxHeartbeats 4000000 in
theorem rh_zone (d s e f u o : Int) (sm : Bool) (t : Int) (w : World) (h : OkW d s e f u) (hz : o < -840 ∨ 840 < o) :
    Calls Tryd.prog 15 #[.agg #[.int .i64 d, .int .i64 s, .int .i64 e, .int .i64 f, .int .i64 u], .agg #[.int .i64 o, .bool sm], .int .i64 t] w fun e' w' => e' = .returned (.bool (hol d s e f u o sm t)) ∧ Below w.heap.size w w' := by
  have HR := Lib.hid (hol_no (d := d) (s := s) (e := e) (f := f) (u := u) (sm := sm) (t := t) (o := o) (fun h2 => by omega))
  have CV := Lib.hid (fun X => rvalid_yes d s e f u X h)
  have CZ := Lib.hid (fun X => refZone_no o sm X hz)
  clear h hz
  go_enter Tryd.func15, Tryd.ntmps15
  go_wp2_with fail
  refine (CV.out _).mono ?_
  rintro e1 w1 ⟨rfl, h1⟩
  obtain ⟨hc1, hf1⟩ := bcell h1
  have z1 : w.heap.size + 1 < w1.heap.size := by have := h1.size; (try simp at this); omega
  have q1 : w.heap.size < w1.heap.size := by omega
  have H1 := Lib.hid (b2 (b2 (b_new w _) (b_new _ _)) h1)
  clear h1
  go_wp2_with fail
  refine (CZ.out _).mono ?_
  rintro e2 w2 ⟨rfl, h2⟩
  obtain ⟨hc2, hf2⟩ := bcell h2
  have z2 : w.heap.size + 1 < w2.heap.size := by have := h2.size; (try simp at this); omega
  have q2 : w.heap.size < w2.heap.size := by omega
  have H2 := Lib.hid (b2 H1.out h2)
  clear h2
  go_wp2_with fail
  go_ret
  exact ⟨ret_bool HR.out.symm, H2.out⟩
set_option maxRecDepth 100000 in
set_option maxHeartbeats 4000000 in
theorem rh_range (d s e f u o : Int) (sm : Bool) (t : Int) (w : World) (h : OkW d s e f u) (z0 : -840 ≤ o) (z1 : o ≤ 840) (ht : t < 0 ∨ 268435456 < t) :
    Calls Tryd.prog 15 #[.agg #[.int .i64 d, .int .i64 s, .int .i64 e, .int .i64 f, .int .i64 u], .agg #[.int .i64 o, .bool sm], .int .i64 t] w fun e' w' => e' = .returned (.bool (hol d s e f u o sm t)) ∧ Below w.heap.size w w' := by
  have HR := Lib.hid (hol_out (d := d) (s := s) (e := e) (f := f) (u := u) (sm := sm) (t := t) (o := o) (by omega))
  have CV := Lib.hid (fun X => rvalid_yes d s e f u X h)
  have CZ := Lib.hid (fun X => refZone_yes o sm X z0 z1)
  have CR := Lib.hid (fun X => right_no t X ht)
  clear h z0 z1 ht
  go_enter Tryd.func15, Tryd.ntmps15
  go_wp2_with fail
  refine (CV.out _).mono ?_
  rintro e1 w1 ⟨rfl, h1⟩
  obtain ⟨hc1, hf1⟩ := bcell h1
  have z1 : w.heap.size + 1 < w1.heap.size := by have := h1.size; (try simp at this); omega
  have q1 : w.heap.size < w1.heap.size := by omega
  have H1 := Lib.hid (b2 (b2 (b_new w _) (b_new _ _)) h1)
  clear h1
  go_wp2_with fail
  refine (CZ.out _).mono ?_
  rintro e2 w2 ⟨rfl, h2⟩
  obtain ⟨hc2, hf2⟩ := bcell h2
  have z2 : w.heap.size + 1 < w2.heap.size := by have := h2.size; (try simp at this); omega
  have q2 : w.heap.size < w2.heap.size := by omega
  have H2 := Lib.hid (b2 H1.out h2)
  clear h2
  go_wp2_with fail
  refine (CR.out _).mono ?_
  rintro e3 w3 ⟨rfl, rfl⟩
  go_wp2_with fail
  go_ret
  exact ⟨ret_bool HR.out.symm, H2.out⟩
set_option maxRecDepth 100000 in
set_option maxHeartbeats 4000000 in
theorem rh_from (d s e f u o : Int) (sm : Bool) (t : Int) (w : World) (h : OkW d s e f u) (z0 : -840 ≤ o) (z1 : o ≤ 840) (t0 : 0 ≤ t) (t1 : t ≤ 268435456) (ht : t < f) :
    Calls Tryd.prog 15 #[.agg #[.int .i64 d, .int .i64 s, .int .i64 e, .int .i64 f, .int .i64 u], .agg #[.int .i64 o, .bool sm], .int .i64 t] w fun e' w' => e' = .returned (.bool (hol d s e f u o sm t)) ∧ Below w.heap.size w w' := by
  have HR := Lib.hid (hol_out (d := d) (s := s) (e := e) (f := f) (u := u) (sm := sm) (t := t) (o := o) (by omega))
  have CV := Lib.hid (fun X => rvalid_yes d s e f u X h)
  have CZ := Lib.hid (fun X => refZone_yes o sm X z0 z1)
  have CR := Lib.hid (fun X => right_yes t X t0 t1)
  clear h z0 z1
  go_enter Tryd.func15, Tryd.ntmps15
  go_wp2_with fail
  refine (CV.out _).mono ?_
  rintro e1 w1 ⟨rfl, h1⟩
  obtain ⟨hc1, hf1⟩ := bcell h1
  have z1 : w.heap.size + 1 < w1.heap.size := by have := h1.size; (try simp at this); omega
  have q1 : w.heap.size < w1.heap.size := by omega
  have H1 := Lib.hid (b2 (b2 (b_new w _) (b_new _ _)) h1)
  clear h1
  go_wp2_with fail
  refine (CZ.out _).mono ?_
  rintro e2 w2 ⟨rfl, h2⟩
  obtain ⟨hc2, hf2⟩ := bcell h2
  have z2 : w.heap.size + 1 < w2.heap.size := by have := h2.size; (try simp at this); omega
  have q2 : w.heap.size < w2.heap.size := by omega
  have H2 := Lib.hid (b2 H1.out h2)
  clear h2
  go_wp2_with fail
  refine (CR.out _).mono ?_
  rintro e3 w3 ⟨rfl, rfl⟩
  go_wp2_with fail
  go_ret
  exact ⟨ret_bool HR.out.symm, H2.out⟩
set_option maxRecDepth 100000 in
set_option maxHeartbeats 4000000 in
theorem rh_to (d s e f u o : Int) (sm : Bool) (t : Int) (w : World) (h : OkW d s e f u) (z0 : -840 ≤ o) (z1 : o ≤ 840) (t0 : 0 ≤ t) (t1 : t ≤ 268435456) (ht : f ≤ t) (hu : u ≠ -1) (hu2 : u ≤ t) :
    Calls Tryd.prog 15 #[.agg #[.int .i64 d, .int .i64 s, .int .i64 e, .int .i64 f, .int .i64 u], .agg #[.int .i64 o, .bool sm], .int .i64 t] w fun e' w' => e' = .returned (.bool (hol d s e f u o sm t)) ∧ Below w.heap.size w w' := by
  have HR := Lib.hid (hol_out (d := d) (s := s) (e := e) (f := f) (u := u) (sm := sm) (t := t) (o := o) (by omega))
  have CV := Lib.hid (fun X => rvalid_yes d s e f u X h)
  have CZ := Lib.hid (fun X => refZone_yes o sm X z0 z1)
  have CR := Lib.hid (fun X => right_yes t X t0 t1)
  have nu := ne_t _ _ hu
  clear h z0 z1 hu
  go_enter Tryd.func15, Tryd.ntmps15
  go_wp2_with fail
  refine (CV.out _).mono ?_
  rintro e1 w1 ⟨rfl, h1⟩
  obtain ⟨hc1, hf1⟩ := bcell h1
  have z1 : w.heap.size + 1 < w1.heap.size := by have := h1.size; (try simp at this); omega
  have q1 : w.heap.size < w1.heap.size := by omega
  have H1 := Lib.hid (b2 (b2 (b_new w _) (b_new _ _)) h1)
  clear h1
  go_wp2_with fail
  refine (CZ.out _).mono ?_
  rintro e2 w2 ⟨rfl, h2⟩
  obtain ⟨hc2, hf2⟩ := bcell h2
  have z2 : w.heap.size + 1 < w2.heap.size := by have := h2.size; (try simp at this); omega
  have q2 : w.heap.size < w2.heap.size := by omega
  have H2 := Lib.hid (b2 H1.out h2)
  clear h2
  go_wp2_with fail
  refine (CR.out _).mono ?_
  rintro e3 w3 ⟨rfl, rfl⟩
  go_wp2_with fail
  go_ret
  exact ⟨ret_bool HR.out.symm, H2.out⟩
set_option maxRecDepth 100000 in
set_option maxHeartbeats 4000000 in
theorem rh_day (d s e f u o : Int) (sm : Bool) (t : Int) (w : World) (h : OkW d s e f u) (z0 : -840 ≤ o) (z1 : o ≤ 840) (t0 : 0 ≤ t) (t1 : t ≤ 268435456) (ht : f ≤ t) (hu : u = -1 ∨ t < u) :
    Calls Tryd.prog 15 #[.agg #[.int .i64 d, .int .i64 s, .int .i64 e, .int .i64 f, .int .i64 u], .agg #[.int .i64 o, .bool sm], .int .i64 t] w fun e' w' => e' = .returned (.bool (hol d s e f u o sm t)) ∧ Below w.heap.size w w' := by
  have HR := Lib.hid (hol_in (sm := sm) (t := t) ⟨h, z0, z1⟩ ⟨⟨t0, t1⟩, ht, hu⟩)
  have CV := Lib.hid (fun X => rvalid_yes d s e f u X h)
  have CZ := Lib.hid (fun X => refZone_yes o sm X z0 z1)
  have CR := Lib.hid (fun X => right_yes t X t0 t1)
  have CL := Lib.hid (fun X => refLocal_yes o sm t X z0 z1 t0 t1)
  obtain ⟨L, hL⟩ : ∃ L, L = t + offI o sm t := ⟨_, rfl⟩
  rw [← hL] at HR
  simp only [← hL, dateV_eq] at CL
  obtain ⟨wb1, wb2⟩ := wd_bd (L / 1440)
  obtain ⟨WW, hWW⟩ : ∃ WW, WW = wd (L / 1440) := ⟨_, rfl⟩
  obtain ⟨N, hN⟩ : ∃ N, N = L % 1440 := ⟨_, rfl⟩
  obtain ⟨Y, hY⟩ : ∃ Y, Y = yr (L / 1440) := ⟨_, rfl⟩
  obtain ⟨M, hM⟩ : ∃ M, M = mo (L / 1440) := ⟨_, rfl⟩
  obtain ⟨D, hD⟩ : ∃ D, D = dy (L / 1440) := ⟨_, rfl⟩
  rw [← hWW, ← hN] at HR
  rw [← hWW] at wb1 wb2
  simp only [← hWW, ← hN, ← hY, ← hM, ← hD] at CL
  have CD := Lib.hid (fun X => day_any d s e Y M D WW N X h.1.1 h.1.2 wb1 wb2)
  obtain ⟨R, hR⟩ : ∃ R, R = dayB d s e WW N := ⟨_, rfl⟩
  rw [← hR] at HR CD
  clear h hL hWW hN hY hM hD z0 z1 hR wb1 wb2
  rcases u_cases hu with g | ⟨g, g1⟩
  · clear hu
    go_enter Tryd.func15, Tryd.ntmps15
    go_wp2_with fail
    refine (CV.out _).mono ?_
    rintro e1 w1 ⟨rfl, h1⟩
    obtain ⟨hc1, hf1⟩ := bcell h1
    have z1 : w.heap.size + 1 < w1.heap.size := by have := h1.size; (try simp at this); omega
    have q1 : w.heap.size < w1.heap.size := by omega
    have H1 := Lib.hid (b2 (b2 (b_new w _) (b_new _ _)) h1)
    clear h1
    go_wp2_with fail
    refine (CZ.out _).mono ?_
    rintro e2 w2 ⟨rfl, h2⟩
    obtain ⟨hc2, hf2⟩ := bcell h2
    have z2 : w.heap.size + 1 < w2.heap.size := by have := h2.size; (try simp at this); omega
    have q2 : w.heap.size < w2.heap.size := by omega
    have H2 := Lib.hid (b2 H1.out h2)
    clear h2
    go_wp2_with fail
    refine (CR.out _).mono ?_
    rintro e3 w3 ⟨rfl, rfl⟩
    go_wp2_with fail
    refine (CL.out _).mono ?_
    rintro e4 w4 ⟨rfl, h4⟩
    obtain ⟨hc4, hf4⟩ := bcell h4
    have z4 : w.heap.size + 1 < w4.heap.size := by have := h4.size; (try simp at this); omega
    have q4 : w.heap.size < w4.heap.size := by omega
    have H4 := Lib.hid (b2 H2.out h4)
    clear h4
    go_wp2_with fail
    refine (CD.out _).mono ?_
    rintro e5 w5 ⟨rfl, h5⟩
    have H5 := Lib.hid (b2 (b2 H4.out (b_new _ _)) h5)
    clear h5
    go_wp2_with fail
    go_ret
    exact ⟨ret_bool HR.out.symm, H5.out⟩
  · clear hu
    go_enter Tryd.func15, Tryd.ntmps15
    go_wp2_with fail
    refine (CV.out _).mono ?_
    rintro e1 w1 ⟨rfl, h1⟩
    obtain ⟨hc1, hf1⟩ := bcell h1
    have z1 : w.heap.size + 1 < w1.heap.size := by have := h1.size; (try simp at this); omega
    have q1 : w.heap.size < w1.heap.size := by omega
    have H1 := Lib.hid (b2 (b2 (b_new w _) (b_new _ _)) h1)
    clear h1
    go_wp2_with fail
    refine (CZ.out _).mono ?_
    rintro e2 w2 ⟨rfl, h2⟩
    obtain ⟨hc2, hf2⟩ := bcell h2
    have z2 : w.heap.size + 1 < w2.heap.size := by have := h2.size; (try simp at this); omega
    have q2 : w.heap.size < w2.heap.size := by omega
    have H2 := Lib.hid (b2 H1.out h2)
    clear h2
    go_wp2_with fail
    refine (CR.out _).mono ?_
    rintro e3 w3 ⟨rfl, rfl⟩
    go_wp2_with fail
    refine (CL.out _).mono ?_
    rintro e4 w4 ⟨rfl, h4⟩
    obtain ⟨hc4, hf4⟩ := bcell h4
    have z4 : w.heap.size + 1 < w4.heap.size := by have := h4.size; (try simp at this); omega
    have q4 : w.heap.size < w4.heap.size := by omega
    have H4 := Lib.hid (b2 H2.out h4)
    clear h4
    go_wp2_with fail
    refine (CD.out _).mono ?_
    rintro e5 w5 ⟨rfl, h5⟩
    have H5 := Lib.hid (b2 (b2 H4.out (b_new _ _)) h5)
    clear h5
    go_wp2_with fail
    go_ret
    exact ⟨ret_bool HR.out.symm, H5.out⟩
theorem rholds_any (d s e f u o : Int) (sm : Bool) (t : Int) (w : World) :
    Calls Tryd.prog 15 #[.agg #[.int .i64 d, .int .i64 s, .int .i64 e, .int .i64 f, .int .i64 u], .agg #[.int .i64 o, .bool sm], .int .i64 t] w fun e' w' => e' = .returned (.bool (hol d s e f u o sm t)) ∧ Below w.heap.size w w' := by
  by_cases h : OkW d s e f u
  · by_cases h1 : o < -840 ∨ 840 < o
    · exact rh_zone d s e f u o sm t w h h1
    by_cases h2 : t < 0 ∨ 268435456 < t
    · exact rh_range d s e f u o sm t w h (by omega) (by omega) h2
    by_cases h3 : t < f
    · exact rh_from d s e f u o sm t w h (by omega) (by omega) (by omega) (by omega) h3
    by_cases h4 : u = -1 ∨ t < u
    · exact rh_day d s e f u o sm t w h (by omega) (by omega) (by omega) (by omega) (by omega) h4
    · exact rh_to d s e f u o sm t w h (by omega) (by omega) (by omega) (by omega) (by omega) (by omega) (by omega)
  · exact rh_bad d s e f u o sm t w h
end Go.Proofs.YtmapkiefmbgdoaaDoor
