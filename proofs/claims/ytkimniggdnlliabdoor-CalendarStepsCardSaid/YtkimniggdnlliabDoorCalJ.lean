/-
  What Next returns, in the package calendar: the first time that fits, or none.
-/
import Derived.Test.YtkimniggdnlliabDoorCalI
namespace Go.Proofs.YtkimniggdnlliabDoor
open Go.RowKit
open Cal

/-- The time u lies behind t, near enough, and has the local minute and one of the weekdays. -/
def Cand (o : Int) (sm : Bool) (days minute t u : Int) : Prop := t < u ∧ u ≤ t + 11520 ∧ u ≤ 268435456 ∧ (u + offI o sm u) % 1440 = minute ∧ onB days (wd ((u + offI o sm u) / 1440)) = true
def First (o : Int) (sm : Bool) (days minute t u : Int) : Prop := Cand o sm days minute t u ∧ ∀ v, v < u → ¬ Cand o sm days minute t v
theorem first_one {o : Int} {sm : Bool} {days minute t u v : Int} (hu : First o sm days minute t u) (hv : First o sm days minute t v) : u = v := by
  by_cases h1 : u < v
  · exact absurd hu.1 (hv.2 u h1)
  · by_cases h2 : v < u
    · exact absurd hv.1 (hu.2 v h2)
    · omega
/-- What Next returns: the time and the error. -/
noncomputable def nextI (o : Int) (sm : Bool) (days minute t : Int) : Int × Int :=
  @dite _ (∃ u, First o sm days minute t u) (Classical.propDecidable _) (fun h => (Classical.choose h, 0)) (fun _ => (0, 8))
theorem next_some {o : Int} {sm : Bool} {days minute t u : Int} (h : First o sm days minute t u) : nextI o sm days minute t = (u, 0) := by
  have hex : ∃ u, First o sm days minute t u := ⟨u, h⟩
  unfold nextI
  rw [dif_pos hex, first_one (Classical.choose_spec hex) h]
theorem next_none {o : Int} {sm : Bool} {days minute t : Int} (h : ∀ v, ¬ Cand o sm days minute t v) : nextI o sm days minute t = (0, 8) := by
  unfold nextI
  rw [dif_neg (fun ⟨u, hu⟩ => h u hu.1)]

/-- How far Next looks. -/
def IsTo (t T : Int) : Prop := (t + 11520 ≤ 268435456 ∧ T = t + 11520 + 1) ∨ (268435456 < t + 11520 ∧ T = 268435457)
theorem next_eq {o : Int} {sm : Bool} {days minute t T x : Int} (hT : IsTo t T) (_h1 : t + 1 ≤ x) (h2 : x ≤ T)
    (hx : x < T → Cand o sm days minute t x) (hno : ∀ v, t + 1 ≤ v → v < x → ¬ Cand o sm days minute t v) :
    (x = T → nextI o sm days minute t = (0, 8)) ∧ (x ≠ T → nextI o sm days minute t = (x, 0)) := by
  refine ⟨fun e => next_none fun v hv => ?_, fun e => next_some ⟨hx (by omega), fun v hv hc => hno v (by have := hc.1; omega) hv hc⟩⟩
  have hv' := hv
  obtain ⟨v1, v2, v3, _⟩ := hv'
  exact hno v (by omega) (by rcases hT with ⟨_, _⟩ | ⟨_, _⟩ <;> omega) hv

/-- All weekdays, if none is named. -/
def daySet (days : Int) : Int := if days = 0 then 127 else days
theorem on_bit (days W : Int) (h1 : 1 ≤ W) (h2 : W ≤ 7) : onB days W = bitB (daySet days) W := by
  unfold onB daySet
  by_cases h : days = 0
  · rw [if_pos h, h, bit_all W h1 h2]; rfl
  · rw [if_neg h, eq_f _ _ h, Bool.false_or]
theorem cand_of_at {o : Int} {sm : Bool} {F days minute t u T : Int} (hT : IsTo t T) (h1 : t + 1 ≤ u) (h2 : u < T) (h : At o sm F (daySet days) minute u) : Cand o sm days minute t u := by
  obtain ⟨a1, a2, a3⟩ := h
  obtain ⟨k1, k2⟩ := wd_bd ((u + F) / 1440)
  refine ⟨by omega, ?_, ?_, by rw [a1]; exact a2, by rw [a1, on_bit _ _ k1 k2]; exact a3⟩ <;> rcases hT with ⟨_, _⟩ | ⟨_, _⟩ <;> omega
theorem at_of_cand {o : Int} {sm : Bool} {days minute t u : Int} (h : Cand o sm days minute t u) : At o sm (offI o sm u) (daySet days) minute u := by
  obtain ⟨_, _, _, a2, a3⟩ := h
  obtain ⟨k1, k2⟩ := wd_bd ((u + offI o sm u) / 1440)
  exact ⟨rfl, a2, by rw [← on_bit _ _ k1 k2]; exact a3⟩
theorem offI_false (o : Int) (t : Int) (h0 : -840 ≤ o) (h1 : o ≤ 840) : offI o false t = o := by unfold offI; rw [if_pos ⟨h0, h1⟩]; rfl
theorem offI_true (o : Int) (t : Int) (h0 : -840 ≤ o) (h1 : o ≤ 840) : offI o true t = o ∨ offI o true t = o + 60 := by
  unfold offI; rw [if_pos ⟨h0, h1⟩]; cases summerB t
  · exact .inl rfl
  · exact .inr rfl

theorem next_false {o days minute t T x : Int} (h0 : -840 ≤ o) (h1 : o ≤ 840) (hT : IsTo t T) (x1 : t + 1 ≤ x) (x2 : x ≤ T)
    (hx : x < T → At o false o (daySet days) minute x) (hno : ∀ v, t + 1 ≤ v → v < x → ¬ At o false o (daySet days) minute v) :
    (x = T → nextI o false days minute t = (0, 8)) ∧ (x ≠ T → nextI o false days minute t = (x, 0)) :=
  next_eq hT x1 x2 (fun h => cand_of_at hT x1 h (hx h)) (fun v v1 v2 hc => hno v v1 v2 (by have := at_of_cand hc; rw [offI_false o v h0 h1] at this; exact this))
theorem next_true {o days minute t T x y m : Int} (h0 : -840 ≤ o) (h1 : o ≤ 840) (hT : IsTo t T) (x1 : t + 1 ≤ x) (x2 : x ≤ T) (y1 : t + 1 ≤ y) (y2 : y ≤ T)
    (hx : x < T → At o true o (daySet days) minute x) (hxn : ∀ v, t + 1 ≤ v → v < x → ¬ At o true o (daySet days) minute v)
    (hy : y < T → At o true (o + 60) (daySet days) minute y) (hyn : ∀ v, t + 1 ≤ v → v < y → ¬ At o true (o + 60) (daySet days) minute v)
    (hm : (m = x ∧ x ≤ y) ∨ (m = y ∧ y ≤ x)) :
    (m = T → nextI o true days minute t = (0, 8)) ∧ (m ≠ T → nextI o true days minute t = (m, 0)) := by
  refine next_eq hT (by omega) (by omega) (fun h => ?_) (fun v v1 v2 hc => ?_)
  · rcases hm with ⟨rfl, _⟩ | ⟨rfl, _⟩
    · exact cand_of_at hT x1 h (hx h)
    · exact cand_of_at hT y1 h (hy h)
  · have := at_of_cand hc
    rcases offI_true o v h0 h1 with e | e <;> rw [e] at this
    · exact hxn v v1 (by omega) this
    · exact hyn v v1 (by omega) this

theorem ret_pair {p : Int × Int} {a b : Int} (h : p = (a, b)) : Ending.returned (.tuple #[.int .i64 a, .int .i64 b]) = .returned (.tuple #[.int .i64 p.1, .int .i64 p.2]) := by rw [h]

set_option maxHeartbeats 2000000 in
theorem next_lo_n_w (o t days minute : Int) (w : World) (hT : Tab w) (h0 : -840 ≤ o) (h1 : o ≤ 840) (t0 : 0 ≤ t) (t1 : t ≤ 268435456) (d0 : 0 ≤ days) (d1 : days ≤ 127) (hd : days ≠ 0) (m0 : 0 ≤ minute) (m1 : minute ≤ 1439) (c : t + 11520 ≤ 268435456) :
    Calls Tryd.prog 10 #[.agg #[.int .i64 o, .bool false], .int .i64 t, .int .i64 days, .int .i64 minute] w fun e w' => e = .returned (.tuple #[.int .i64 (nextI o false days minute t).1, .int .i64 (nextI o false days minute t).2]) ∧ Below w.heap.size w w' := by
  have hIs : IsTo t (t + 11520 + 1) := .inl ⟨c, rfl⟩
  have HIs := Lib.hid hIs
  have HT := Lib.hid hT
  have td := eq_f _ _ hd
  have Hd : Hid ((daySet days) = days) := Lib.hid (if_neg hd)
  clear hd
  clear hIs hT
  go_enter Tryd.func10, Tryd.ntmps10
  go_wp2_with fail
  refine (zone_yes o false _ h0 h1).mono ?_
  rintro e w1 ⟨rfl, g1⟩
  obtain ⟨hc1, hf1⟩ := bcell g1
  have hz1 : w.heap.size < w1.heap.size := by have := g1.size; simp at this; omega
  have G1 := Lib.hid (b2 (b_new w _) g1)
  clear g1
  go_wp2_with fail
  refine (isTime_yes t _ t0 t1).mono ?_
  rintro e w2 ⟨rfl, rfl⟩
  go_wp2_with fail
  refine (firstAt_any o false o (t + 1) (t + 11520 + 1) days minute _ (HT.out.below (b2 G1.out (b_new _ _))) (by omega) (by omega) (by omega) (by omega) (by omega) (by omega) (by omega) m0 m1).mono ?_
  rintro e w2 ⟨⟨x, rfl, x1, x2, x3, x4⟩, g2⟩
  have X3 := Lib.hid x3
  have X4 := Lib.hid x4
  obtain ⟨hc2, hf2⟩ := bcell g2
  have hz2 : w1.heap.size < w2.heap.size := by have := g2.size; simp at this; omega
  have G2 := Lib.hid (b2 (b2 G1.out (b_new _ _)) g2)
  clear g2 x3 x4
  have R0 := next_false (days := days) h0 h1 HIs.out x1 x2 (by rw [Hd.out]; exact X3.out) (by rw [Hd.out]; exact X4.out)
  by_cases hx : x = (t + 11520 + 1)
  · have t2 := eq_t _ _ hx
    have R := Lib.hid (R0.1 hx)
    clear hx R0
    go_wp2_with fail
    go_ret2
    exact ⟨ret_pair R.out, G2.out⟩
  · have t2 := eq_f _ _ hx
    have R := Lib.hid (R0.2 hx)
    clear hx R0
    go_wp2_with fail
    go_ret2
    exact ⟨ret_pair R.out, G2.out⟩

set_option maxHeartbeats 2000000 in
theorem next_lo_n_s (o t days minute : Int) (w : World) (hT : Tab w) (h0 : -840 ≤ o) (h1 : o ≤ 840) (t0 : 0 ≤ t) (t1 : t ≤ 268435456) (d0 : 0 ≤ days) (d1 : days ≤ 127) (hd : days ≠ 0) (m0 : 0 ≤ minute) (m1 : minute ≤ 1439) (c : t + 11520 ≤ 268435456) :
    Calls Tryd.prog 10 #[.agg #[.int .i64 o, .bool true], .int .i64 t, .int .i64 days, .int .i64 minute] w fun e w' => e = .returned (.tuple #[.int .i64 (nextI o true days minute t).1, .int .i64 (nextI o true days minute t).2]) ∧ Below w.heap.size w w' := by
  have hIs : IsTo t (t + 11520 + 1) := .inl ⟨c, rfl⟩
  have HIs := Lib.hid hIs
  have HT := Lib.hid hT
  have td := eq_f _ _ hd
  have Hd : Hid ((daySet days) = days) := Lib.hid (if_neg hd)
  clear hd
  clear hIs hT
  go_enter Tryd.func10, Tryd.ntmps10
  go_wp2_with fail
  refine (zone_yes o true _ h0 h1).mono ?_
  rintro e w1 ⟨rfl, g1⟩
  obtain ⟨hc1, hf1⟩ := bcell g1
  have hz1 : w.heap.size < w1.heap.size := by have := g1.size; simp at this; omega
  have G1 := Lib.hid (b2 (b_new w _) g1)
  clear g1
  go_wp2_with fail
  refine (isTime_yes t _ t0 t1).mono ?_
  rintro e w2 ⟨rfl, rfl⟩
  go_wp2_with fail
  refine (firstAt_any o true o (t + 1) (t + 11520 + 1) days minute _ (HT.out.below (b2 G1.out (b_new _ _))) (by omega) (by omega) (by omega) (by omega) (by omega) (by omega) (by omega) m0 m1).mono ?_
  rintro e w2 ⟨⟨x, rfl, x1, x2, x3, x4⟩, g2⟩
  have X3 := Lib.hid x3
  have X4 := Lib.hid x4
  obtain ⟨hc2, hf2⟩ := bcell g2
  have hz2 : w1.heap.size < w2.heap.size := by have := g2.size; simp at this; omega
  have G2 := Lib.hid (b2 (b2 G1.out (b_new _ _)) g2)
  clear g2 x3 x4
  go_wp2_with fail
  refine (firstAt_any o true (o + 60) (t + 1) (t + 11520 + 1) days minute _ (HT.out.below G2.out) (by omega) (by omega) (by omega) (by omega) (by omega) (by omega) (by omega) m0 m1).mono ?_
  rintro e w3 ⟨⟨y, rfl, y1, y2, y3, y4⟩, g3⟩
  have Y3 := Lib.hid y3
  have Y4 := Lib.hid y4
  obtain ⟨hc3, hf3⟩ := bcell g3
  have hz3 : w1.heap.size < w3.heap.size := by have := g3.size; omega
  have G3 := Lib.hid (b2 G2.out g3)
  clear g3 y3 y4
  by_cases hxy : x ≤ y
  · have R0 := next_true (days := days) h0 h1 HIs.out x1 x2 y1 y2 (by rw [Hd.out]; exact X3.out) (by rw [Hd.out]; exact X4.out) (by rw [Hd.out]; exact Y3.out) (by rw [Hd.out]; exact Y4.out) (.inl ⟨rfl, hxy⟩)
    by_cases hx : x = (t + 11520 + 1)
    · have t2 := eq_t _ _ hx
      have R := Lib.hid (R0.1 hx)
      clear hx R0
      go_wp2_with fail
      go_ret2
      exact ⟨ret_pair R.out, G3.out⟩
    · have t2 := eq_f _ _ hx
      have R := Lib.hid (R0.2 hx)
      clear hx R0
      go_wp2_with fail
      go_ret2
      exact ⟨ret_pair R.out, G3.out⟩
  · have hyx : y < x := by omega
    have R0 := next_true (days := days) h0 h1 HIs.out x1 x2 y1 y2 (by rw [Hd.out]; exact X3.out) (by rw [Hd.out]; exact X4.out) (by rw [Hd.out]; exact Y3.out) (by rw [Hd.out]; exact Y4.out) (.inr ⟨rfl, by omega⟩)
    clear hxy
    by_cases hx : y = (t + 11520 + 1)
    · have t2 := eq_t _ _ hx
      have R := Lib.hid (R0.1 hx)
      clear hx R0
      go_wp2_with fail
      go_ret2
      exact ⟨ret_pair R.out, G3.out⟩
    · have t2 := eq_f _ _ hx
      have R := Lib.hid (R0.2 hx)
      clear hx R0
      go_wp2_with fail
      go_ret2
      exact ⟨ret_pair R.out, G3.out⟩

set_option maxHeartbeats 2000000 in
theorem next_lo_z_w (o t minute : Int) (w : World) (hT : Tab w) (h0 : -840 ≤ o) (h1 : o ≤ 840) (t0 : 0 ≤ t) (t1 : t ≤ 268435456) (m0 : 0 ≤ minute) (m1 : minute ≤ 1439) (c : t + 11520 ≤ 268435456) :
    Calls Tryd.prog 10 #[.agg #[.int .i64 o, .bool false], .int .i64 t, .int .i64 0, .int .i64 minute] w fun e w' => e = .returned (.tuple #[.int .i64 (nextI o false 0 minute t).1, .int .i64 (nextI o false 0 minute t).2]) ∧ Below w.heap.size w w' := by
  have hIs : IsTo t (t + 11520 + 1) := .inl ⟨c, rfl⟩
  have HIs := Lib.hid hIs
  have HT := Lib.hid hT
  have Hd : Hid (daySet 0 = 127) := Lib.hid (if_pos rfl)
  clear hIs hT
  go_enter Tryd.func10, Tryd.ntmps10
  go_wp2_with fail
  refine (zone_yes o false _ h0 h1).mono ?_
  rintro e w1 ⟨rfl, g1⟩
  obtain ⟨hc1, hf1⟩ := bcell g1
  have hz1 : w.heap.size < w1.heap.size := by have := g1.size; simp at this; omega
  have G1 := Lib.hid (b2 (b_new w _) g1)
  clear g1
  go_wp2_with fail
  refine (isTime_yes t _ t0 t1).mono ?_
  rintro e w2 ⟨rfl, rfl⟩
  go_wp2_with fail
  refine (firstAt_any o false o (t + 1) (t + 11520 + 1) 127 minute _ (HT.out.below (b2 G1.out (b_new _ _))) (by omega) (by omega) (by omega) (by omega) (by omega) (by omega) (by omega) m0 m1).mono ?_
  rintro e w2 ⟨⟨x, rfl, x1, x2, x3, x4⟩, g2⟩
  have X3 := Lib.hid x3
  have X4 := Lib.hid x4
  obtain ⟨hc2, hf2⟩ := bcell g2
  have hz2 : w1.heap.size < w2.heap.size := by have := g2.size; simp at this; omega
  have G2 := Lib.hid (b2 (b2 G1.out (b_new _ _)) g2)
  clear g2 x3 x4
  have R0 := next_false (days := 0) h0 h1 HIs.out x1 x2 (by rw [Hd.out]; exact X3.out) (by rw [Hd.out]; exact X4.out)
  by_cases hx : x = (t + 11520 + 1)
  · have t2 := eq_t _ _ hx
    have R := Lib.hid (R0.1 hx)
    clear hx R0
    go_wp2_with fail
    go_ret2
    exact ⟨ret_pair R.out, G2.out⟩
  · have t2 := eq_f _ _ hx
    have R := Lib.hid (R0.2 hx)
    clear hx R0
    go_wp2_with fail
    go_ret2
    exact ⟨ret_pair R.out, G2.out⟩

set_option maxHeartbeats 2000000 in
theorem next_lo_z_s (o t minute : Int) (w : World) (hT : Tab w) (h0 : -840 ≤ o) (h1 : o ≤ 840) (t0 : 0 ≤ t) (t1 : t ≤ 268435456) (m0 : 0 ≤ minute) (m1 : minute ≤ 1439) (c : t + 11520 ≤ 268435456) :
    Calls Tryd.prog 10 #[.agg #[.int .i64 o, .bool true], .int .i64 t, .int .i64 0, .int .i64 minute] w fun e w' => e = .returned (.tuple #[.int .i64 (nextI o true 0 minute t).1, .int .i64 (nextI o true 0 minute t).2]) ∧ Below w.heap.size w w' := by
  have hIs : IsTo t (t + 11520 + 1) := .inl ⟨c, rfl⟩
  have HIs := Lib.hid hIs
  have HT := Lib.hid hT
  have Hd : Hid (daySet 0 = 127) := Lib.hid (if_pos rfl)
  clear hIs hT
  go_enter Tryd.func10, Tryd.ntmps10
  go_wp2_with fail
  refine (zone_yes o true _ h0 h1).mono ?_
  rintro e w1 ⟨rfl, g1⟩
  obtain ⟨hc1, hf1⟩ := bcell g1
  have hz1 : w.heap.size < w1.heap.size := by have := g1.size; simp at this; omega
  have G1 := Lib.hid (b2 (b_new w _) g1)
  clear g1
  go_wp2_with fail
  refine (isTime_yes t _ t0 t1).mono ?_
  rintro e w2 ⟨rfl, rfl⟩
  go_wp2_with fail
  refine (firstAt_any o true o (t + 1) (t + 11520 + 1) 127 minute _ (HT.out.below (b2 G1.out (b_new _ _))) (by omega) (by omega) (by omega) (by omega) (by omega) (by omega) (by omega) m0 m1).mono ?_
  rintro e w2 ⟨⟨x, rfl, x1, x2, x3, x4⟩, g2⟩
  have X3 := Lib.hid x3
  have X4 := Lib.hid x4
  obtain ⟨hc2, hf2⟩ := bcell g2
  have hz2 : w1.heap.size < w2.heap.size := by have := g2.size; simp at this; omega
  have G2 := Lib.hid (b2 (b2 G1.out (b_new _ _)) g2)
  clear g2 x3 x4
  go_wp2_with fail
  refine (firstAt_any o true (o + 60) (t + 1) (t + 11520 + 1) 127 minute _ (HT.out.below G2.out) (by omega) (by omega) (by omega) (by omega) (by omega) (by omega) (by omega) m0 m1).mono ?_
  rintro e w3 ⟨⟨y, rfl, y1, y2, y3, y4⟩, g3⟩
  have Y3 := Lib.hid y3
  have Y4 := Lib.hid y4
  obtain ⟨hc3, hf3⟩ := bcell g3
  have hz3 : w1.heap.size < w3.heap.size := by have := g3.size; omega
  have G3 := Lib.hid (b2 G2.out g3)
  clear g3 y3 y4
  by_cases hxy : x ≤ y
  · have R0 := next_true (days := 0) h0 h1 HIs.out x1 x2 y1 y2 (by rw [Hd.out]; exact X3.out) (by rw [Hd.out]; exact X4.out) (by rw [Hd.out]; exact Y3.out) (by rw [Hd.out]; exact Y4.out) (.inl ⟨rfl, hxy⟩)
    by_cases hx : x = (t + 11520 + 1)
    · have t2 := eq_t _ _ hx
      have R := Lib.hid (R0.1 hx)
      clear hx R0
      go_wp2_with fail
      go_ret2
      exact ⟨ret_pair R.out, G3.out⟩
    · have t2 := eq_f _ _ hx
      have R := Lib.hid (R0.2 hx)
      clear hx R0
      go_wp2_with fail
      go_ret2
      exact ⟨ret_pair R.out, G3.out⟩
  · have hyx : y < x := by omega
    have R0 := next_true (days := 0) h0 h1 HIs.out x1 x2 y1 y2 (by rw [Hd.out]; exact X3.out) (by rw [Hd.out]; exact X4.out) (by rw [Hd.out]; exact Y3.out) (by rw [Hd.out]; exact Y4.out) (.inr ⟨rfl, by omega⟩)
    clear hxy
    by_cases hx : y = (t + 11520 + 1)
    · have t2 := eq_t _ _ hx
      have R := Lib.hid (R0.1 hx)
      clear hx R0
      go_wp2_with fail
      go_ret2
      exact ⟨ret_pair R.out, G3.out⟩
    · have t2 := eq_f _ _ hx
      have R := Lib.hid (R0.2 hx)
      clear hx R0
      go_wp2_with fail
      go_ret2
      exact ⟨ret_pair R.out, G3.out⟩

set_option maxHeartbeats 2000000 in
theorem next_hi_n_w (o t days minute : Int) (w : World) (hT : Tab w) (h0 : -840 ≤ o) (h1 : o ≤ 840) (t0 : 0 ≤ t) (t1 : t ≤ 268435456) (d0 : 0 ≤ days) (d1 : days ≤ 127) (hd : days ≠ 0) (m0 : 0 ≤ minute) (m1 : minute ≤ 1439) (c : 268435456 < t + 11520) :
    Calls Tryd.prog 10 #[.agg #[.int .i64 o, .bool false], .int .i64 t, .int .i64 days, .int .i64 minute] w fun e w' => e = .returned (.tuple #[.int .i64 (nextI o false days minute t).1, .int .i64 (nextI o false days minute t).2]) ∧ Below w.heap.size w w' := by
  have hIs : IsTo t 268435457 := .inr ⟨c, rfl⟩
  have HIs := Lib.hid hIs
  have HT := Lib.hid hT
  have td := eq_f _ _ hd
  have Hd : Hid ((daySet days) = days) := Lib.hid (if_neg hd)
  clear hd
  clear hIs hT
  go_enter Tryd.func10, Tryd.ntmps10
  go_wp2_with fail
  refine (zone_yes o false _ h0 h1).mono ?_
  rintro e w1 ⟨rfl, g1⟩
  obtain ⟨hc1, hf1⟩ := bcell g1
  have hz1 : w.heap.size < w1.heap.size := by have := g1.size; simp at this; omega
  have G1 := Lib.hid (b2 (b_new w _) g1)
  clear g1
  go_wp2_with fail
  refine (isTime_yes t _ t0 t1).mono ?_
  rintro e w2 ⟨rfl, rfl⟩
  go_wp2_with fail
  refine (firstAt_any o false o (t + 1) 268435457 days minute _ (HT.out.below (b2 G1.out (b_new _ _))) (by omega) (by omega) (by omega) (by omega) (by omega) (by omega) (by omega) m0 m1).mono ?_
  rintro e w2 ⟨⟨x, rfl, x1, x2, x3, x4⟩, g2⟩
  have X3 := Lib.hid x3
  have X4 := Lib.hid x4
  obtain ⟨hc2, hf2⟩ := bcell g2
  have hz2 : w1.heap.size < w2.heap.size := by have := g2.size; simp at this; omega
  have G2 := Lib.hid (b2 (b2 G1.out (b_new _ _)) g2)
  clear g2 x3 x4
  have R0 := next_false (days := days) h0 h1 HIs.out x1 x2 (by rw [Hd.out]; exact X3.out) (by rw [Hd.out]; exact X4.out)
  by_cases hx : x = 268435457
  · have t2 := eq_t _ _ hx
    have R := Lib.hid (R0.1 hx)
    clear hx R0
    go_wp2_with fail
    go_ret2
    exact ⟨ret_pair R.out, G2.out⟩
  · have t2 := eq_f _ _ hx
    have R := Lib.hid (R0.2 hx)
    clear hx R0
    go_wp2_with fail
    go_ret2
    exact ⟨ret_pair R.out, G2.out⟩

set_option maxHeartbeats 2000000 in
theorem next_hi_n_s (o t days minute : Int) (w : World) (hT : Tab w) (h0 : -840 ≤ o) (h1 : o ≤ 840) (t0 : 0 ≤ t) (t1 : t ≤ 268435456) (d0 : 0 ≤ days) (d1 : days ≤ 127) (hd : days ≠ 0) (m0 : 0 ≤ minute) (m1 : minute ≤ 1439) (c : 268435456 < t + 11520) :
    Calls Tryd.prog 10 #[.agg #[.int .i64 o, .bool true], .int .i64 t, .int .i64 days, .int .i64 minute] w fun e w' => e = .returned (.tuple #[.int .i64 (nextI o true days minute t).1, .int .i64 (nextI o true days minute t).2]) ∧ Below w.heap.size w w' := by
  have hIs : IsTo t 268435457 := .inr ⟨c, rfl⟩
  have HIs := Lib.hid hIs
  have HT := Lib.hid hT
  have td := eq_f _ _ hd
  have Hd : Hid ((daySet days) = days) := Lib.hid (if_neg hd)
  clear hd
  clear hIs hT
  go_enter Tryd.func10, Tryd.ntmps10
  go_wp2_with fail
  refine (zone_yes o true _ h0 h1).mono ?_
  rintro e w1 ⟨rfl, g1⟩
  obtain ⟨hc1, hf1⟩ := bcell g1
  have hz1 : w.heap.size < w1.heap.size := by have := g1.size; simp at this; omega
  have G1 := Lib.hid (b2 (b_new w _) g1)
  clear g1
  go_wp2_with fail
  refine (isTime_yes t _ t0 t1).mono ?_
  rintro e w2 ⟨rfl, rfl⟩
  go_wp2_with fail
  refine (firstAt_any o true o (t + 1) 268435457 days minute _ (HT.out.below (b2 G1.out (b_new _ _))) (by omega) (by omega) (by omega) (by omega) (by omega) (by omega) (by omega) m0 m1).mono ?_
  rintro e w2 ⟨⟨x, rfl, x1, x2, x3, x4⟩, g2⟩
  have X3 := Lib.hid x3
  have X4 := Lib.hid x4
  obtain ⟨hc2, hf2⟩ := bcell g2
  have hz2 : w1.heap.size < w2.heap.size := by have := g2.size; simp at this; omega
  have G2 := Lib.hid (b2 (b2 G1.out (b_new _ _)) g2)
  clear g2 x3 x4
  go_wp2_with fail
  refine (firstAt_any o true (o + 60) (t + 1) 268435457 days minute _ (HT.out.below G2.out) (by omega) (by omega) (by omega) (by omega) (by omega) (by omega) (by omega) m0 m1).mono ?_
  rintro e w3 ⟨⟨y, rfl, y1, y2, y3, y4⟩, g3⟩
  have Y3 := Lib.hid y3
  have Y4 := Lib.hid y4
  obtain ⟨hc3, hf3⟩ := bcell g3
  have hz3 : w1.heap.size < w3.heap.size := by have := g3.size; omega
  have G3 := Lib.hid (b2 G2.out g3)
  clear g3 y3 y4
  by_cases hxy : x ≤ y
  · have R0 := next_true (days := days) h0 h1 HIs.out x1 x2 y1 y2 (by rw [Hd.out]; exact X3.out) (by rw [Hd.out]; exact X4.out) (by rw [Hd.out]; exact Y3.out) (by rw [Hd.out]; exact Y4.out) (.inl ⟨rfl, hxy⟩)
    by_cases hx : x = 268435457
    · have t2 := eq_t _ _ hx
      have R := Lib.hid (R0.1 hx)
      clear hx R0
      go_wp2_with fail
      go_ret2
      exact ⟨ret_pair R.out, G3.out⟩
    · have t2 := eq_f _ _ hx
      have R := Lib.hid (R0.2 hx)
      clear hx R0
      go_wp2_with fail
      go_ret2
      exact ⟨ret_pair R.out, G3.out⟩
  · have hyx : y < x := by omega
    have R0 := next_true (days := days) h0 h1 HIs.out x1 x2 y1 y2 (by rw [Hd.out]; exact X3.out) (by rw [Hd.out]; exact X4.out) (by rw [Hd.out]; exact Y3.out) (by rw [Hd.out]; exact Y4.out) (.inr ⟨rfl, by omega⟩)
    clear hxy
    by_cases hx : y = 268435457
    · have t2 := eq_t _ _ hx
      have R := Lib.hid (R0.1 hx)
      clear hx R0
      go_wp2_with fail
      go_ret2
      exact ⟨ret_pair R.out, G3.out⟩
    · have t2 := eq_f _ _ hx
      have R := Lib.hid (R0.2 hx)
      clear hx R0
      go_wp2_with fail
      go_ret2
      exact ⟨ret_pair R.out, G3.out⟩

set_option maxHeartbeats 2000000 in
theorem next_hi_z_w (o t minute : Int) (w : World) (hT : Tab w) (h0 : -840 ≤ o) (h1 : o ≤ 840) (t0 : 0 ≤ t) (t1 : t ≤ 268435456) (m0 : 0 ≤ minute) (m1 : minute ≤ 1439) (c : 268435456 < t + 11520) :
    Calls Tryd.prog 10 #[.agg #[.int .i64 o, .bool false], .int .i64 t, .int .i64 0, .int .i64 minute] w fun e w' => e = .returned (.tuple #[.int .i64 (nextI o false 0 minute t).1, .int .i64 (nextI o false 0 minute t).2]) ∧ Below w.heap.size w w' := by
  have hIs : IsTo t 268435457 := .inr ⟨c, rfl⟩
  have HIs := Lib.hid hIs
  have HT := Lib.hid hT
  have Hd : Hid (daySet 0 = 127) := Lib.hid (if_pos rfl)
  clear hIs hT
  go_enter Tryd.func10, Tryd.ntmps10
  go_wp2_with fail
  refine (zone_yes o false _ h0 h1).mono ?_
  rintro e w1 ⟨rfl, g1⟩
  obtain ⟨hc1, hf1⟩ := bcell g1
  have hz1 : w.heap.size < w1.heap.size := by have := g1.size; simp at this; omega
  have G1 := Lib.hid (b2 (b_new w _) g1)
  clear g1
  go_wp2_with fail
  refine (isTime_yes t _ t0 t1).mono ?_
  rintro e w2 ⟨rfl, rfl⟩
  go_wp2_with fail
  refine (firstAt_any o false o (t + 1) 268435457 127 minute _ (HT.out.below (b2 G1.out (b_new _ _))) (by omega) (by omega) (by omega) (by omega) (by omega) (by omega) (by omega) m0 m1).mono ?_
  rintro e w2 ⟨⟨x, rfl, x1, x2, x3, x4⟩, g2⟩
  have X3 := Lib.hid x3
  have X4 := Lib.hid x4
  obtain ⟨hc2, hf2⟩ := bcell g2
  have hz2 : w1.heap.size < w2.heap.size := by have := g2.size; simp at this; omega
  have G2 := Lib.hid (b2 (b2 G1.out (b_new _ _)) g2)
  clear g2 x3 x4
  have R0 := next_false (days := 0) h0 h1 HIs.out x1 x2 (by rw [Hd.out]; exact X3.out) (by rw [Hd.out]; exact X4.out)
  by_cases hx : x = 268435457
  · have t2 := eq_t _ _ hx
    have R := Lib.hid (R0.1 hx)
    clear hx R0
    go_wp2_with fail
    go_ret2
    exact ⟨ret_pair R.out, G2.out⟩
  · have t2 := eq_f _ _ hx
    have R := Lib.hid (R0.2 hx)
    clear hx R0
    go_wp2_with fail
    go_ret2
    exact ⟨ret_pair R.out, G2.out⟩

set_option maxHeartbeats 2000000 in
theorem next_hi_z_s (o t minute : Int) (w : World) (hT : Tab w) (h0 : -840 ≤ o) (h1 : o ≤ 840) (t0 : 0 ≤ t) (t1 : t ≤ 268435456) (m0 : 0 ≤ minute) (m1 : minute ≤ 1439) (c : 268435456 < t + 11520) :
    Calls Tryd.prog 10 #[.agg #[.int .i64 o, .bool true], .int .i64 t, .int .i64 0, .int .i64 minute] w fun e w' => e = .returned (.tuple #[.int .i64 (nextI o true 0 minute t).1, .int .i64 (nextI o true 0 minute t).2]) ∧ Below w.heap.size w w' := by
  have hIs : IsTo t 268435457 := .inr ⟨c, rfl⟩
  have HIs := Lib.hid hIs
  have HT := Lib.hid hT
  have Hd : Hid (daySet 0 = 127) := Lib.hid (if_pos rfl)
  clear hIs hT
  go_enter Tryd.func10, Tryd.ntmps10
  go_wp2_with fail
  refine (zone_yes o true _ h0 h1).mono ?_
  rintro e w1 ⟨rfl, g1⟩
  obtain ⟨hc1, hf1⟩ := bcell g1
  have hz1 : w.heap.size < w1.heap.size := by have := g1.size; simp at this; omega
  have G1 := Lib.hid (b2 (b_new w _) g1)
  clear g1
  go_wp2_with fail
  refine (isTime_yes t _ t0 t1).mono ?_
  rintro e w2 ⟨rfl, rfl⟩
  go_wp2_with fail
  refine (firstAt_any o true o (t + 1) 268435457 127 minute _ (HT.out.below (b2 G1.out (b_new _ _))) (by omega) (by omega) (by omega) (by omega) (by omega) (by omega) (by omega) m0 m1).mono ?_
  rintro e w2 ⟨⟨x, rfl, x1, x2, x3, x4⟩, g2⟩
  have X3 := Lib.hid x3
  have X4 := Lib.hid x4
  obtain ⟨hc2, hf2⟩ := bcell g2
  have hz2 : w1.heap.size < w2.heap.size := by have := g2.size; simp at this; omega
  have G2 := Lib.hid (b2 (b2 G1.out (b_new _ _)) g2)
  clear g2 x3 x4
  go_wp2_with fail
  refine (firstAt_any o true (o + 60) (t + 1) 268435457 127 minute _ (HT.out.below G2.out) (by omega) (by omega) (by omega) (by omega) (by omega) (by omega) (by omega) m0 m1).mono ?_
  rintro e w3 ⟨⟨y, rfl, y1, y2, y3, y4⟩, g3⟩
  have Y3 := Lib.hid y3
  have Y4 := Lib.hid y4
  obtain ⟨hc3, hf3⟩ := bcell g3
  have hz3 : w1.heap.size < w3.heap.size := by have := g3.size; omega
  have G3 := Lib.hid (b2 G2.out g3)
  clear g3 y3 y4
  by_cases hxy : x ≤ y
  · have R0 := next_true (days := 0) h0 h1 HIs.out x1 x2 y1 y2 (by rw [Hd.out]; exact X3.out) (by rw [Hd.out]; exact X4.out) (by rw [Hd.out]; exact Y3.out) (by rw [Hd.out]; exact Y4.out) (.inl ⟨rfl, hxy⟩)
    by_cases hx : x = 268435457
    · have t2 := eq_t _ _ hx
      have R := Lib.hid (R0.1 hx)
      clear hx R0
      go_wp2_with fail
      go_ret2
      exact ⟨ret_pair R.out, G3.out⟩
    · have t2 := eq_f _ _ hx
      have R := Lib.hid (R0.2 hx)
      clear hx R0
      go_wp2_with fail
      go_ret2
      exact ⟨ret_pair R.out, G3.out⟩
  · have hyx : y < x := by omega
    have R0 := next_true (days := 0) h0 h1 HIs.out x1 x2 y1 y2 (by rw [Hd.out]; exact X3.out) (by rw [Hd.out]; exact X4.out) (by rw [Hd.out]; exact Y3.out) (by rw [Hd.out]; exact Y4.out) (.inr ⟨rfl, by omega⟩)
    clear hxy
    by_cases hx : y = 268435457
    · have t2 := eq_t _ _ hx
      have R := Lib.hid (R0.1 hx)
      clear hx R0
      go_wp2_with fail
      go_ret2
      exact ⟨ret_pair R.out, G3.out⟩
    · have t2 := eq_f _ _ hx
      have R := Lib.hid (R0.2 hx)
      clear hx R0
      go_wp2_with fail
      go_ret2
      exact ⟨ret_pair R.out, G3.out⟩

theorem next_valid (o : Int) (sm : Bool) (t days minute : Int) (w : World) (hT : Tab w) (h0 : -840 ≤ o) (h1 : o ≤ 840) (t0 : 0 ≤ t) (t1 : t ≤ 268435456) (d0 : 0 ≤ days) (d1 : days ≤ 127) (m0 : 0 ≤ minute) (m1 : minute ≤ 1439) :
    Calls Tryd.prog 10 #[.agg #[.int .i64 o, .bool sm], .int .i64 t, .int .i64 days, .int .i64 minute] w fun e w' => e = .returned (.tuple #[.int .i64 (nextI o sm days minute t).1, .int .i64 (nextI o sm days minute t).2]) ∧ Below w.heap.size w w' := by
  by_cases c : t + 11520 ≤ 268435456
  · by_cases hd : days = 0
    · subst hd
      cases sm with
      | false => exact next_lo_z_w o t minute w hT h0 h1 t0 t1 m0 m1 c
      | true => exact next_lo_z_s o t minute w hT h0 h1 t0 t1 m0 m1 c
    · cases sm with
      | false => exact next_lo_n_w o t days minute w hT h0 h1 t0 t1 d0 d1 hd m0 m1 c
      | true => exact next_lo_n_s o t days minute w hT h0 h1 t0 t1 d0 d1 hd m0 m1 c
  · have c' : 268435456 < t + 11520 := by omega
    by_cases hd : days = 0
    · subst hd
      cases sm with
      | false => exact next_hi_z_w o t minute w hT h0 h1 t0 t1 m0 m1 c'
      | true => exact next_hi_z_s o t minute w hT h0 h1 t0 t1 m0 m1 c'
    · cases sm with
      | false => exact next_hi_n_w o t days minute w hT h0 h1 t0 t1 d0 d1 hd m0 m1 c'
      | true => exact next_hi_n_s o t days minute w hT h0 h1 t0 t1 d0 d1 hd m0 m1 c'
end Go.Proofs.YtkimniggdnlliabDoor
