/-
  What the reference's combine and Normal return.
-/
import Derived.Test.YtapfinnbfnhdbabSerD
namespace Go.Proofs.Ytapfinnbfnhdbab
open Go.RowKit
open Ser
set_option linter.unusedVariables false

/-- The sum or the lesser. -/
def cf (s : Bool) (x y : Int) : Int := if s then x + y else min x y
theorem cf_sum (x y : Int) : cf true x y = x + y := rfl
theorem cf_le (x y : Int) (h : x ≤ y) : cf false x y = x := by show min x y = x; omega
theorem cf_gt (x y : Int) (h : ¬ x ≤ y) : cf false x y = y := by show min x y = y; omega
theorem cf_00 (s : Bool) : cf s 0 0 = 0 := by cases s <;> rfl
def FF (s : Bool) (la lb : List St) (t : Int) : Int := cf s (atL la t) (atL lb t)
/-- Where the loop stands. -/
def Stand (s : Bool) (la lb al : List St) (T : Int) : Prop := (T = -1 ∧ Fin (FF s la lb) al) ∨ Cmb (FF s la lb) (la ++ lb) al T
theorem times_ok {la lb : List St} (ha : Ok la) (hb : Ok lb) : ∀ s ∈ la ++ lb, 0 ≤ s.1 ∧ s.1 ≤ 268435456 := by
  intro s hs
  rcases List.mem_append.1 hs with h | h
  · exact ((okS_iff s).1 (ha.all s h)).1
  · exact ((okS_iff s).1 (hb.all s h)).1
theorem atL_neg {l : List St} (h : Ok l) : atL l (-1) = 0 := atFrom_none _ _ _ fun s hs => by have := ((okS_iff s).1 (h.all s hs)).1.1; omega
theorem stand_start (s : Bool) {la lb : List St} (ha : Ok la) (hb : Ok lb) : Stand s la lb [] (nextF (-1) (la ++ lb)) := by
  have := Cmb.start (FF s la lb) (la ++ lb) (steps_at (cf s) la lb) (fun x hx => (times_ok ha hb x hx).1) (by unfold FF; rw [atL_neg ha, atL_neg hb]; exact cf_00 s)
  rcases this with ⟨h1, h2⟩ | h
  · exact .inl ⟨h1, h2⟩
  · exact .inr h
theorem stand_next (s : Bool) {la lb al : List St} {T : Int} (ha : Ok la) (hb : Ok lb) (h : Stand s la lb al T) (h0 : 0 ≤ T) :
    Stand s la lb (putL al T (FF s la lb T)) (nextF T (la ++ lb)) ∧ (nextF T (la ++ lb) = -1 ∨ T < nextF T (la ++ lb)) := by
  rcases h with ⟨h1, _⟩ | h
  · omega
  · rcases h.next (steps_at (cf s) la lb) (fun x hx => (times_ok ha hb x hx).1) with ⟨h1, h2⟩ | ⟨h1, h2⟩
    · exact ⟨.inl ⟨h1, h2⟩, .inl h1⟩
    · exact ⟨.inr h2, .inr h1⟩
theorem stand_bd {s : Bool} {la lb al : List St} {T : Int} (ha : Ok la) (hb : Ok lb) (h : Stand s la lb al T) : -1 ≤ T ∧ T ≤ 268435456 ∧ (0 ≤ T → al.length ≤ 1024) := by
  rcases h with ⟨h1, _⟩ | h
  · exact ⟨by omega, by omega, fun h => by omega⟩
  · obtain ⟨x, hx, e⟩ := h.st
    have := times_ok ha hb x hx
    have h2 := h.len
    have h3 : cnt (la ++ lb) T ≤ (la ++ lb).length := List.countP_le_length
    have h4 := ha.len
    have h5 := hb.len
    rw [List.length_append] at h3
    exact ⟨by omega, by omega, fun _ => by omega⟩
theorem stand_done {s : Bool} {la lb al : List St} {T : Int} (ha : Ok la) (hb : Ok lb) (h : Stand s la lb al T) (h0 : ¬ 0 ≤ T) : al = combL (cf s) la lb := by
  rcases h with ⟨_, h⟩ | h
  · exact h.unique (combL_fin (cf s) (cf_00 s) la lb ha.asc hb.asc)
  · exact absurd h.t0 h0

theorem meas_lt (T T' : Int) (h0 : 0 ≤ T) (hT : T ≤ 268435456) (h : T' = -1 ∨ T < T') : (if T' < 0 then 0 else (268435458 - T').toNat) < (if T < 0 then 0 else (268435458 - T).toNat) := by
  rw [if_neg (show ¬ T < 0 by omega)]; split <;> omega

set_option maxHeartbeats 8000000 in
set_option maxRecDepth 1000000 in
theorem refCombine_any (va vb : Value) (la lb : List St) (s : Bool) (w : World) (oa : Ok la) (ob : Ok lb) (ha : Rd w va la) (hb : Rd w vb lb) :
    Calls Try.prog 34 #[va, vb, .bool s] w (GivesOwn w.heap.size w (combL (cf s) la lb)) := by
  have HA := Lib.hid ha
  have HB := Lib.hid hb
  have OA := Lib.hid oa
  have OB := Lib.hid ob
  have N0 := Lib.hid (fun W hW => next_any va vb la lb (-1) W (by have := oa.len; omega) (by have := ob.len; omega) (ha.below hW) (hb.below hW))
  clear ha hb oa ob
  go_enter Try.func34, Try.ntmps34
  go_wp2_with fail
  refine (N0.out _ (Below.refl _ _)).mono ?_
  rintro e w1 ⟨rfl, rfl⟩
  clear N0
  go_wp2_with fail
  go_loopw [7, 8] (fun v t wr => ∃ (al : List St) (T : Int), t = .int .i64 T ∧ wr.ownsRow w.heap.size 30 2 v al.length (stV al) ∧ Below w.heap.size w wr ∧ Hid (Stand s la lb al T))
    (fun _ t _ => if intOf t < 0 then 0 else (268435458 - intOf t).toNat)
  case atStart => exact ⟨[], _, rfl, World.ownsRow_nil _ _ _ _, Below.refl _ _, Lib.hid (stand_start s OA.out OB.out)⟩
  case round =>
    obtain ⟨al, T, rfl, hown, hbw, HS⟩ := hrel
    obtain ⟨b1, b2', b3⟩ := stand_bd OA.out OB.out HS.out
    by_cases hT : 0 ≤ T
    · have hal := b3 hT
      obtain ⟨n1, n2⟩ := stand_next s OA.out OB.out HS.out hT
      have hbd2 := stand_bd OA.out OB.out n1
      have xb := atL_bd la T OA.out.all
      have yb := atL_bd lb T OB.out.all
      have hFF : FF s la lb T = cf s (atL la T) (atL lb T) := rfl
      have A1 := fun W hW => refAt_any va la T W (by have := OA.out.len; omega) (HA.out.below hW)
      have A2 := fun W hW => refAt_any vb lb T W (by have := OB.out.len; omega) (HB.out.below hW)
      obtain ⟨x, ex⟩ : ∃ x, x = atL la T := ⟨_, rfl⟩
      obtain ⟨y, ey⟩ : ∃ y, y = atL lb T := ⟨_, rfl⟩
      obtain ⟨z, ez⟩ : ∃ z, z = FF s la lb T := ⟨_, rfl⟩
      obtain ⟨T', eT⟩ : ∃ T', T' = nextF T (la ++ lb) := ⟨_, rfl⟩
      have PZ := Lib.hid (put_any w.heap.size _ al T z wr hbw.size (by omega) hown)
      have NN := fun W hW => next_any va vb la lb T W (by have := OA.out.len; omega) (by have := OB.out.len; omega) (HA.out.below hW) (HB.out.below hW)
      rw [← ex] at xb A1 hFF
      rw [← ey] at yb A2 hFF
      rw [← ez] at hFF n1
      rw [← eT] at n1 n2 NN hbd2
      have N1 := Lib.hid n1
      have A1 := Lib.hid A1
      have A2 := Lib.hid A2
      have NN := Lib.hid NN
      obtain ⟨x1, x2⟩ := xb
      obtain ⟨y1, y2⟩ := yb
      obtain ⟨d1, d2, _⟩ := hbd2
      clear ex ey ez eT n1 b3 hown
      cases s with
      | true =>
        have hz : x + y = z := by rw [hFF, cf_sum]
        have HZ := Lib.hid hz
        clear hFF hz
        go_wp2_with fail
        refine (A1.out _ hbw).mono ?_
        rintro e w1 ⟨rfl, rfl⟩
        go_wp2_with fail
        refine (A2.out _ hbw).mono ?_
        rintro e w1 ⟨rfl, rfl⟩
        go_wp2_with fail
        all_goals
          refine (A1.out _ hbw).mono ?_
          rintro e w1 ⟨rfl, rfl⟩
          go_wp2_with fail
          refine (A2.out _ hbw).mono ?_
          rintro e w1 ⟨rfl, rfl⟩
          rw [← HZ.out] at PZ
          go_wp2_with fail
          refine PZ.out.mono ?_
          rintro e w1 ⟨v', rfl, ho', hb'⟩
          have hbw' := hbw.trans hb'
          go_wp2_with fail
          refine (NN.out _ hbw').mono ?_
          rintro e w2 ⟨rfl, rfl⟩
          go_wp2_with fail
          go_roundw
          case rel => exact ⟨_, T', rfl, by rw [← HZ.out]; exact ho', hbw', N1⟩
          case measure => simp [intOf]; exact meas_lt T T' hT b2' n2
      | false =>
        by_cases hxy : x ≤ y
        · have hz : x = z := by rw [hFF, cf_le _ _ hxy]
          have HZ := Lib.hid hz
          clear hFF hz
          go_wp2_with fail
          refine (A1.out _ hbw).mono ?_
          rintro e w1 ⟨rfl, rfl⟩
          go_wp2_with fail
          refine (A2.out _ hbw).mono ?_
          rintro e w1 ⟨rfl, rfl⟩
          rw [← HZ.out] at PZ
          go_wp2_with fail
          refine PZ.out.mono ?_
          rintro e w1 ⟨v', rfl, ho', hb'⟩
          have hbw' := hbw.trans hb'
          go_wp2_with fail
          refine (NN.out _ hbw').mono ?_
          rintro e w2 ⟨rfl, rfl⟩
          go_wp2_with fail
          go_roundw
          case rel => exact ⟨_, T', rfl, by rw [← HZ.out]; exact ho', hbw', N1⟩
          case measure => simp [intOf]; exact meas_lt T T' hT b2' n2
        · have hz : y = z := by rw [hFF, cf_gt _ _ hxy]
          have HZ := Lib.hid hz
          clear hFF hz
          go_wp2_with fail
          refine (A1.out _ hbw).mono ?_
          rintro e w1 ⟨rfl, rfl⟩
          go_wp2_with fail
          refine (A2.out _ hbw).mono ?_
          rintro e w1 ⟨rfl, rfl⟩
          rw [← HZ.out] at PZ
          go_wp2_with fail
          refine PZ.out.mono ?_
          rintro e w1 ⟨v', rfl, ho', hb'⟩
          have hbw' := hbw.trans hb'
          go_wp2_with fail
          refine (NN.out _ hbw').mono ?_
          rintro e w2 ⟨rfl, rfl⟩
          go_wp2_with fail
          go_roundw
          case rel => exact ⟨_, T', rfl, by rw [← HZ.out]; exact ho', hbw', N1⟩
          case measure => simp [intOf]; exact meas_lt T T' hT b2' n2
    · go_wp2
      have e := stand_done OA.out OB.out HS.out (by omega)
      rw [e] at hown
      go_ret
      exact ⟨_, rfl, hown, hbw⟩
end Go.Proofs.Ytapfinnbfnhdbab
