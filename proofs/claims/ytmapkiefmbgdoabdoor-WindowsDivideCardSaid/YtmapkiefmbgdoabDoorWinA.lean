/-
  What Valid returns, in the package window and in its reference.
-/
import Derived.Test.YtmapkiefmbgdoabDoorCalF
namespace Go.Proofs.YtmapkiefmbgdoabDoor
open Go.RowKit
open Cal

/-- A window is valid. -/
def OkW (d s e f u : Int) : Prop := (0 ≤ d ∧ d ≤ 127) ∧ (0 ≤ s ∧ s ≤ 1439) ∧ (0 ≤ e ∧ e ≤ 1439) ∧ (0 ≤ f ∧ f ≤ 268435456) ∧ (u = -1 ∨ (f ≤ u ∧ u ≤ 268435456))
instance (d s e f u : Int) : Decidable (OkW d s e f u) := by unfold OkW; exact inferInstance
theorem minute_yes (m : Int) (w : World) (h0 : 0 ≤ m) (h1 : m < 1440) : Calls Tryd.prog 23 #[.int .i64 m] w fun e w' => e = .returned (.bool true) ∧ w = w' := by
  go_enter Tryd.func23, Tryd.ntmps23
  go_wp2
  go_ret
  exact ⟨rfl, rfl⟩
theorem minute_no (m : Int) (w : World) (h : m < 0 ∨ 1439 < m) : Calls Tryd.prog 23 #[.int .i64 m] w fun e w' => e = .returned (.bool false) ∧ w = w' := by
  by_cases h0 : 0 ≤ m
  · have h1 : 1440 ≤ m := by omega
    clear h
    go_enter Tryd.func23, Tryd.ntmps23
    go_wp2
    go_ret
    refine ⟨ret_bool ?_, rfl⟩
    first | exact decide_eq_false (by omega) | (simp; omega) | simp
  · have h1 : m < 0 := by omega
    clear h
    go_enter Tryd.func23, Tryd.ntmps23
    go_wp2
    go_ret
    refine ⟨ret_bool ?_, rfl⟩
    first | exact decide_eq_false (by omega) | (simp; omega) | simp
theorem wTime_yes (m : Int) (w : World) (h0 : 0 ≤ m) (h1 : m ≤ 268435456) : Calls Tryd.prog 24 #[.int .i64 m] w fun e w' => e = .returned (.bool true) ∧ w = w' := by
  go_enter Tryd.func24, Tryd.ntmps24
  go_wp2
  go_ret
  exact ⟨rfl, rfl⟩
theorem wTime_no (m : Int) (w : World) (h : m < 0 ∨ 268435456 < m) : Calls Tryd.prog 24 #[.int .i64 m] w fun e w' => e = .returned (.bool false) ∧ w = w' := by
  by_cases h0 : 0 ≤ m
  · have h1 : 268435456 < m := by omega
    clear h
    go_enter Tryd.func24, Tryd.ntmps24
    go_wp2
    go_ret
    refine ⟨ret_bool ?_, rfl⟩
    first | exact decide_eq_false (by omega) | (simp; omega) | simp
  · have h1 : m < 0 := by omega
    clear h
    go_enter Tryd.func24, Tryd.ntmps24
    go_wp2
    go_ret
    refine ⟨ret_bool ?_, rfl⟩
    first | exact decide_eq_false (by omega) | (simp; omega) | simp

set_option maxRecDepth 100000 in
set_option maxHeartbeats 1000000 in
theorem v_d0 (d s e f u : Int) (w : World) (h : d < 0) :
    Calls Tryd.prog 8 #[.agg #[.int .i64 d, .int .i64 s, .int .i64 e, .int .i64 f, .int .i64 u]] w fun e' w' => e' = .returned (.int .i64 1) ∧ Below w.heap.size w w' := by
  go_enter Tryd.func8, Tryd.ntmps8
  go_wp2_with fail
  go_ret
  exact ⟨rfl, b_new _ _⟩
set_option maxRecDepth 100000 in
set_option maxHeartbeats 1000000 in
theorem v_d1 (d s e f u : Int) (w : World) (h : 127 < d) :
    Calls Tryd.prog 8 #[.agg #[.int .i64 d, .int .i64 s, .int .i64 e, .int .i64 f, .int .i64 u]] w fun e' w' => e' = .returned (.int .i64 1) ∧ Below w.heap.size w w' := by
  go_enter Tryd.func8, Tryd.ntmps8
  go_wp2_with fail
  go_ret
  exact ⟨rfl, b_new _ _⟩
set_option maxRecDepth 100000 in
set_option maxHeartbeats 1000000 in
theorem v_s (d s e f u : Int) (w : World) (hd : 0 ≤ d ∧ d ≤ 127) (h : s < 0 ∨ 1439 < s) :
    Calls Tryd.prog 8 #[.agg #[.int .i64 d, .int .i64 s, .int .i64 e, .int .i64 f, .int .i64 u]] w fun e' w' => e' = .returned (.int .i64 1) ∧ Below w.heap.size w w' := by
  obtain ⟨d0, d1⟩ := hd
  have CS := Lib.hid (fun W => minute_no s W h)
  clear h
  go_enter Tryd.func8, Tryd.ntmps8
  go_wp2_with (first
    | (go_at_call 23; refine (CS.out _).mono ?_; rintro e1 w1 ⟨rfl, rfl⟩))
  go_ret
  exact ⟨rfl, b_new _ _⟩
set_option maxRecDepth 100000 in
set_option maxHeartbeats 1000000 in
theorem v_e (d s e f u : Int) (w : World) (hd : 0 ≤ d ∧ d ≤ 127) (hs : 0 ≤ s ∧ s ≤ 1439) (h : e < 0 ∨ 1439 < e) :
    Calls Tryd.prog 8 #[.agg #[.int .i64 d, .int .i64 s, .int .i64 e, .int .i64 f, .int .i64 u]] w fun e' w' => e' = .returned (.int .i64 1) ∧ Below w.heap.size w w' := by
  obtain ⟨d0, d1⟩ := hd
  have CS := Lib.hid (fun W => minute_yes s W hs.1 (by omega))
  have CE := Lib.hid (fun W => minute_no e W h)
  clear h hs
  go_enter Tryd.func8, Tryd.ntmps8
  go_wp2_with (first
    | (go_at_call 23; refine (CS.out _).mono ?_; rintro e1 w1 ⟨rfl, rfl⟩)
    | (go_at_call 23; refine (CE.out _).mono ?_; rintro e1 w1 ⟨rfl, rfl⟩))
  go_ret
  exact ⟨rfl, b_new _ _⟩
set_option maxRecDepth 100000 in
set_option maxHeartbeats 1000000 in
theorem v_f (d s e f u : Int) (w : World) (hd : 0 ≤ d ∧ d ≤ 127) (hs : 0 ≤ s ∧ s ≤ 1439) (he : 0 ≤ e ∧ e ≤ 1439) (h : f < 0 ∨ 268435456 < f) :
    Calls Tryd.prog 8 #[.agg #[.int .i64 d, .int .i64 s, .int .i64 e, .int .i64 f, .int .i64 u]] w fun e' w' => e' = .returned (.int .i64 1) ∧ Below w.heap.size w w' := by
  obtain ⟨d0, d1⟩ := hd
  have CS := Lib.hid (fun W => minute_yes s W hs.1 (by omega))
  have CE := Lib.hid (fun W => minute_yes e W he.1 (by omega))
  have CF := Lib.hid (fun W => wTime_no f W h)
  clear h hs he
  go_enter Tryd.func8, Tryd.ntmps8
  go_wp2_with (first
    | (go_at_call 23; refine (CS.out _).mono ?_; rintro e1 w1 ⟨rfl, rfl⟩)
    | (go_at_call 23; refine (CE.out _).mono ?_; rintro e1 w1 ⟨rfl, rfl⟩)
    | (go_at_call 24; refine (CF.out _).mono ?_; rintro e1 w1 ⟨rfl, rfl⟩))
  go_ret
  exact ⟨rfl, b_new _ _⟩
set_option maxRecDepth 100000 in
set_option maxHeartbeats 1000000 in
theorem v_u0 (d s e f u : Int) (w : World) (hd : 0 ≤ d ∧ d ≤ 127) (hs : 0 ≤ s ∧ s ≤ 1439) (he : 0 ≤ e ∧ e ≤ 1439) (hf : 0 ≤ f ∧ f ≤ 268435456) (h1 : u ≠ -1) (h2 : u < f) :
    Calls Tryd.prog 8 #[.agg #[.int .i64 d, .int .i64 s, .int .i64 e, .int .i64 f, .int .i64 u]] w fun e' w' => e' = .returned (.int .i64 1) ∧ Below w.heap.size w w' := by
  obtain ⟨d0, d1⟩ := hd
  have hu := ne_t _ _ h1
  have CS := Lib.hid (fun W => minute_yes s W hs.1 (by omega))
  have CE := Lib.hid (fun W => minute_yes e W he.1 (by omega))
  have CF := Lib.hid (fun W => wTime_yes f W hf.1 hf.2)
  clear hs he h1
  go_enter Tryd.func8, Tryd.ntmps8
  go_wp2_with (first
    | (go_at_call 23; refine (CS.out _).mono ?_; rintro e1 w1 ⟨rfl, rfl⟩)
    | (go_at_call 23; refine (CE.out _).mono ?_; rintro e1 w1 ⟨rfl, rfl⟩)
    | (go_at_call 24; refine (CF.out _).mono ?_; rintro e1 w1 ⟨rfl, rfl⟩))
  go_ret
  exact ⟨rfl, b_new _ _⟩
set_option maxRecDepth 100000 in
set_option maxHeartbeats 1000000 in
theorem v_u1 (d s e f u : Int) (w : World) (hd : 0 ≤ d ∧ d ≤ 127) (hs : 0 ≤ s ∧ s ≤ 1439) (he : 0 ≤ e ∧ e ≤ 1439) (hf : 0 ≤ f ∧ f ≤ 268435456) (h1 : f ≤ u) (h2 : 268435456 < u) :
    Calls Tryd.prog 8 #[.agg #[.int .i64 d, .int .i64 s, .int .i64 e, .int .i64 f, .int .i64 u]] w fun e' w' => e' = .returned (.int .i64 1) ∧ Below w.heap.size w w' := by
  obtain ⟨d0, d1⟩ := hd
  have hu := ne_t u (-1) (by omega)
  have CS := Lib.hid (fun W => minute_yes s W hs.1 (by omega))
  have CE := Lib.hid (fun W => minute_yes e W he.1 (by omega))
  have CF := Lib.hid (fun W => wTime_yes f W hf.1 hf.2)
  clear hs he
  go_enter Tryd.func8, Tryd.ntmps8
  go_wp2_with (first
    | (go_at_call 23; refine (CS.out _).mono ?_; rintro e1 w1 ⟨rfl, rfl⟩)
    | (go_at_call 23; refine (CE.out _).mono ?_; rintro e1 w1 ⟨rfl, rfl⟩)
    | (go_at_call 24; refine (CF.out _).mono ?_; rintro e1 w1 ⟨rfl, rfl⟩))
  go_ret
  exact ⟨rfl, b_new _ _⟩
set_option maxRecDepth 100000 in
set_option maxHeartbeats 1000000 in
theorem v_ok0 (d s e f u : Int) (w : World) (hd : 0 ≤ d ∧ d ≤ 127) (hs : 0 ≤ s ∧ s ≤ 1439) (he : 0 ≤ e ∧ e ≤ 1439) (hf : 0 ≤ f ∧ f ≤ 268435456) (h1 : u = -1) :
    Calls Tryd.prog 8 #[.agg #[.int .i64 d, .int .i64 s, .int .i64 e, .int .i64 f, .int .i64 u]] w fun e' w' => e' = .returned (.int .i64 0) ∧ Below w.heap.size w w' := by
  obtain ⟨d0, d1⟩ := hd
  subst h1
  have CS := Lib.hid (fun W => minute_yes s W hs.1 (by omega))
  have CE := Lib.hid (fun W => minute_yes e W he.1 (by omega))
  have CF := Lib.hid (fun W => wTime_yes f W hf.1 hf.2)
  clear hs he
  go_enter Tryd.func8, Tryd.ntmps8
  go_wp2_with (first
    | (go_at_call 23; refine (CS.out _).mono ?_; rintro e1 w1 ⟨rfl, rfl⟩)
    | (go_at_call 23; refine (CE.out _).mono ?_; rintro e1 w1 ⟨rfl, rfl⟩)
    | (go_at_call 24; refine (CF.out _).mono ?_; rintro e1 w1 ⟨rfl, rfl⟩))
  go_ret
  exact ⟨rfl, b_new _ _⟩
set_option maxRecDepth 100000 in
set_option maxHeartbeats 1000000 in
theorem v_ok1 (d s e f u : Int) (w : World) (hd : 0 ≤ d ∧ d ≤ 127) (hs : 0 ≤ s ∧ s ≤ 1439) (he : 0 ≤ e ∧ e ≤ 1439) (hf : 0 ≤ f ∧ f ≤ 268435456) (h1 : f ≤ u) (h2 : u ≤ 268435456) :
    Calls Tryd.prog 8 #[.agg #[.int .i64 d, .int .i64 s, .int .i64 e, .int .i64 f, .int .i64 u]] w fun e' w' => e' = .returned (.int .i64 0) ∧ Below w.heap.size w w' := by
  obtain ⟨d0, d1⟩ := hd
  have hu := ne_t u (-1) (by omega)
  have CS := Lib.hid (fun W => minute_yes s W hs.1 (by omega))
  have CE := Lib.hid (fun W => minute_yes e W he.1 (by omega))
  have CF := Lib.hid (fun W => wTime_yes f W hf.1 hf.2)
  clear hs he
  go_enter Tryd.func8, Tryd.ntmps8
  go_wp2_with (first
    | (go_at_call 23; refine (CS.out _).mono ?_; rintro e1 w1 ⟨rfl, rfl⟩)
    | (go_at_call 23; refine (CE.out _).mono ?_; rintro e1 w1 ⟨rfl, rfl⟩)
    | (go_at_call 24; refine (CF.out _).mono ?_; rintro e1 w1 ⟨rfl, rfl⟩))
  go_ret
  exact ⟨rfl, b_new _ _⟩
theorem valid_yes (d s e f u : Int) (w : World) (h : OkW d s e f u) :
    Calls Tryd.prog 8 #[.agg #[.int .i64 d, .int .i64 s, .int .i64 e, .int .i64 f, .int .i64 u]] w fun e' w' => e' = .returned (.int .i64 0) ∧ Below w.heap.size w w' := by
  obtain ⟨hd, hs, he, hf, hu⟩ := h
  rcases hu with h1 | ⟨h1, h2⟩
  · exact v_ok0 d s e f u w hd hs he hf h1
  · exact v_ok1 d s e f u w hd hs he hf h1 h2
theorem valid_no (d s e f u : Int) (w : World) (h : ¬ OkW d s e f u) :
    Calls Tryd.prog 8 #[.agg #[.int .i64 d, .int .i64 s, .int .i64 e, .int .i64 f, .int .i64 u]] w fun e' w' => e' = .returned (.int .i64 1) ∧ Below w.heap.size w w' := by
  by_cases a1 : d < 0
  · exact v_d0 d s e f u w a1
  by_cases a2 : 127 < d
  · exact v_d1 d s e f u w a2
  have hd : 0 ≤ d ∧ d ≤ 127 := by omega
  by_cases hs : 0 ≤ s ∧ s ≤ 1439
  · by_cases he : 0 ≤ e ∧ e ≤ 1439
    · by_cases hf : 0 ≤ f ∧ f ≤ 268435456
      · have hu : u ≠ -1 := fun e1 => h ⟨hd, hs, he, hf, .inl e1⟩
        by_cases h2 : u < f
        · exact v_u0 d s e f u w hd hs he hf hu h2
        · exact v_u1 d s e f u w hd hs he hf (by omega) (by
            rcases Int.lt_or_le 268435456 u with h3 | h3
            · exact h3
            · exact absurd ⟨hd, hs, he, hf, .inr ⟨by omega, h3⟩⟩ h)
      · exact v_f d s e f u w hd hs he (by omega)
    · exact v_e d s e f u w hd hs (by omega)
  · exact v_s d s e f u w hd (by omega)
/-- Both return this. -/
def vW (d s e f u : Int) : Int := if OkW d s e f u then 0 else 1
theorem valid_any (d s e f u : Int) (w : World) :
    Calls Tryd.prog 8 #[.agg #[.int .i64 d, .int .i64 s, .int .i64 e, .int .i64 f, .int .i64 u]] w fun e' w' => e' = .returned (.int .i64 (vW d s e f u)) ∧ Below w.heap.size w w' := by
  unfold vW
  by_cases h : OkW d s e f u
  · rw [if_pos h]; exact valid_yes d s e f u w h
  · rw [if_neg h]; exact valid_no d s e f u w h
end Go.Proofs.YtmapkiefmbgdoabDoor
