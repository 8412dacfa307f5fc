/-
  The law CalendarLocal holds: for every input it returns true and leaves its arguments as they were, where the table of the months' lengths is as the program's text lays it.
-/
import Derived.Test.YtkimniggdnlliaaDoorCalO
import Derived.Deep.RegionHeld3
import Derived.WalkKit
import Derived.SevenTiedAt
namespace Go.Proofs.YtkimniggdnlliaaDoor
namespace calendarLocal
open Go.ChangeShapes Go.WideShapes Go.ChangeAt Go.RowKit
open Cal
set_option linter.unusedVariables false

section
variable {w X Z : World} {o A1 A2 A3 A4 A5 : Int} {sm : Bool} {b0 bA bB : Nat}
theorem keep_drew (h : Below w.heap.size w X ∧ bB < X.heap.size ∧ X.cell? ⟨b0, 0, none⟩ = some (.int .i64 o) ∧ X.cell? ⟨b0, 1, none⟩ = some (.bool sm) ∧ X.cell? ⟨bA, 0, none⟩ = some (.int .i64 A1) ∧ X.cell? ⟨bA, 1, none⟩ = some (.int .i64 A2) ∧ X.cell? ⟨bA, 2, none⟩ = some (.int .i64 A3) ∧ X.cell? ⟨bA, 3, none⟩ = some (.int .i64 A4) ∧ X.cell? ⟨bA, 4, none⟩ = some (.int .i64 A5) ∧ X.cell? ⟨bB, 0, none⟩ = some (.int .i64 A1) ∧ X.cell? ⟨bB, 1, none⟩ = some (.int .i64 A2) ∧ X.cell? ⟨bB, 2, none⟩ = some (.int .i64 A3) ∧ X.cell? ⟨bB, 3, none⟩ = some (.int .i64 A4) ∧ X.cell? ⟨bB, 4, none⟩ = some (.int .i64 A5)) : Below w.heap.size w X.drew ∧ bB < X.drew.heap.size ∧ X.drew.cell? ⟨b0, 0, none⟩ = some (.int .i64 o) ∧ X.drew.cell? ⟨b0, 1, none⟩ = some (.bool sm) ∧ X.drew.cell? ⟨bA, 0, none⟩ = some (.int .i64 A1) ∧ X.drew.cell? ⟨bA, 1, none⟩ = some (.int .i64 A2) ∧ X.drew.cell? ⟨bA, 2, none⟩ = some (.int .i64 A3) ∧ X.drew.cell? ⟨bA, 3, none⟩ = some (.int .i64 A4) ∧ X.drew.cell? ⟨bA, 4, none⟩ = some (.int .i64 A5) ∧ X.drew.cell? ⟨bB, 0, none⟩ = some (.int .i64 A1) ∧ X.drew.cell? ⟨bB, 1, none⟩ = some (.int .i64 A2) ∧ X.drew.cell? ⟨bB, 2, none⟩ = some (.int .i64 A3) ∧ X.drew.cell? ⟨bB, 3, none⟩ = some (.int .i64 A4) ∧ X.drew.cell? ⟨bB, 4, none⟩ = some (.int .i64 A5) := ⟨h.1.drew, h.2⟩
theorem keep_call (h0 : b0 ≤ bB) (hA : bA ≤ bB) (h : Below w.heap.size w X ∧ bB < X.heap.size ∧ X.cell? ⟨b0, 0, none⟩ = some (.int .i64 o) ∧ X.cell? ⟨b0, 1, none⟩ = some (.bool sm) ∧ X.cell? ⟨bA, 0, none⟩ = some (.int .i64 A1) ∧ X.cell? ⟨bA, 1, none⟩ = some (.int .i64 A2) ∧ X.cell? ⟨bA, 2, none⟩ = some (.int .i64 A3) ∧ X.cell? ⟨bA, 3, none⟩ = some (.int .i64 A4) ∧ X.cell? ⟨bA, 4, none⟩ = some (.int .i64 A5) ∧ X.cell? ⟨bB, 0, none⟩ = some (.int .i64 A1) ∧ X.cell? ⟨bB, 1, none⟩ = some (.int .i64 A2) ∧ X.cell? ⟨bB, 2, none⟩ = some (.int .i64 A3) ∧ X.cell? ⟨bB, 3, none⟩ = some (.int .i64 A4) ∧ X.cell? ⟨bB, 4, none⟩ = some (.int .i64 A5)) (g : Below X.heap.size X Z) : Below w.heap.size w Z ∧ bB < Z.heap.size ∧ Z.cell? ⟨b0, 0, none⟩ = some (.int .i64 o) ∧ Z.cell? ⟨b0, 1, none⟩ = some (.bool sm) ∧ Z.cell? ⟨bA, 0, none⟩ = some (.int .i64 A1) ∧ Z.cell? ⟨bA, 1, none⟩ = some (.int .i64 A2) ∧ Z.cell? ⟨bA, 2, none⟩ = some (.int .i64 A3) ∧ Z.cell? ⟨bA, 3, none⟩ = some (.int .i64 A4) ∧ Z.cell? ⟨bA, 4, none⟩ = some (.int .i64 A5) ∧ Z.cell? ⟨bB, 0, none⟩ = some (.int .i64 A1) ∧ Z.cell? ⟨bB, 1, none⟩ = some (.int .i64 A2) ∧ Z.cell? ⟨bB, 2, none⟩ = some (.int .i64 A3) ∧ Z.cell? ⟨bB, 3, none⟩ = some (.int .i64 A4) ∧ Z.cell? ⟨bB, 4, none⟩ = some (.int .i64 A5) := by
  obtain ⟨h1, h2, c0, c1, c2, c3, c4, c5, c6, c7, c8, c9, c10, c11⟩ := h
  refine ⟨b2 h1 g, Nat.lt_of_lt_of_le h2 g.size, ?_, ?_, ?_, ?_, ?_, ?_, ?_, ?_, ?_, ?_, ?_, ?_⟩
  · exact (g.cell (p := ⟨b0, 0, none⟩) (by show b0 < _; omega)).trans c0
  · exact (g.cell (p := ⟨b0, 1, none⟩) (by show b0 < _; omega)).trans c1
  · exact (g.cell (p := ⟨bA, 0, none⟩) (by show bA < _; omega)).trans c2
  · exact (g.cell (p := ⟨bA, 1, none⟩) (by show bA < _; omega)).trans c3
  · exact (g.cell (p := ⟨bA, 2, none⟩) (by show bA < _; omega)).trans c4
  · exact (g.cell (p := ⟨bA, 3, none⟩) (by show bA < _; omega)).trans c5
  · exact (g.cell (p := ⟨bA, 4, none⟩) (by show bA < _; omega)).trans c6
  · exact (g.cell (p := ⟨bB, 0, none⟩) (by show bB < _; omega)).trans c7
  · exact (g.cell (p := ⟨bB, 1, none⟩) (by show bB < _; omega)).trans c8
  · exact (g.cell (p := ⟨bB, 2, none⟩) (by show bB < _; omega)).trans c9
  · exact (g.cell (p := ⟨bB, 3, none⟩) (by show bB < _; omega)).trans c10
  · exact (g.cell (p := ⟨bB, 4, none⟩) (by show bB < _; omega)).trans c11
theorem keep_tab (hT : Tab w) (h : Below w.heap.size w X ∧ bB < X.heap.size ∧ X.cell? ⟨b0, 0, none⟩ = some (.int .i64 o) ∧ X.cell? ⟨b0, 1, none⟩ = some (.bool sm) ∧ X.cell? ⟨bA, 0, none⟩ = some (.int .i64 A1) ∧ X.cell? ⟨bA, 1, none⟩ = some (.int .i64 A2) ∧ X.cell? ⟨bA, 2, none⟩ = some (.int .i64 A3) ∧ X.cell? ⟨bA, 3, none⟩ = some (.int .i64 A4) ∧ X.cell? ⟨bA, 4, none⟩ = some (.int .i64 A5) ∧ X.cell? ⟨bB, 0, none⟩ = some (.int .i64 A1) ∧ X.cell? ⟨bB, 1, none⟩ = some (.int .i64 A2) ∧ X.cell? ⟨bB, 2, none⟩ = some (.int .i64 A3) ∧ X.cell? ⟨bB, 3, none⟩ = some (.int .i64 A4) ∧ X.cell? ⟨bB, 4, none⟩ = some (.int .i64 A5)) : Tab X := hT.below h.1
end

set_option maxRecDepth 100000 in
set_option maxHeartbeats 4000000 in
theorem core (o : Int) (sm : Bool) (t A1 A2 A3 A4 A5 E : Int) (w : World) (hT : Tab w)
    (D1 : Hid (∀ X, Tab X → Calls Tryd.prog 20 #[.agg #[.int .i64 o, .bool sm], .int .i64 t] X fun e w' => e = .returned (.tuple #[.agg #[.int .i64 A1, .int .i64 A2, .int .i64 A3, .int .i64 A4, .int .i64 A5], .int .i64 E]) ∧ Below X.heap.size X w'))
    (D2 : Hid (∀ X, Calls Tryd.prog 21 #[.agg #[.int .i64 o, .bool sm], .int .i64 t] X fun e w' => e = .returned (.tuple #[.agg #[.int .i64 A1, .int .i64 A2, .int .i64 A3, .int .i64 A4, .int .i64 A5], .int .i64 E]) ∧ Below X.heap.size X w')) :
    Calls Tryd.prog 6 #[.agg #[.int .i64 o, .bool sm], .int .i64 t] w fun e w' => e = .returned (.bool true) ∧ Below w.heap.size w w' := by
  have HT := Lib.hid hT
  clear hT
  go_enter Tryd.func6, Tryd.ntmps6
  go_wp2_with fail
  refine (D1.out _ (HT.out.below (b_new _ _))).mono ?_
  rintro e w1 ⟨rfl, g1⟩
  obtain ⟨hc1, hf1⟩ := bcell g1
  have hz1 : w.heap.size < w1.heap.size := by have := g1.size; simp at this; omega
  have G1 := Lib.hid (b2 (b_new w _) g1)
  clear g1
  go_wp2_with fail
  refine (D2.out _).mono ?_
  rintro e w2 ⟨rfl, g2⟩
  obtain ⟨hc2, hf2⟩ := bcell g2
  have hz2 : w1.heap.size < w2.heap.size := by have := g2.size; simp at this; omega
  have G2 := Lib.hid (b2 (b2 G1.out (b_new _ _)) g2)
  clear g2
  go_wp2_with fail
  obtain ⟨b0, e0⟩ : ∃ b0, b0 = w.heap.size := ⟨_, rfl⟩
  obtain ⟨bA, eA⟩ : ∃ bA, bA = w1.heap.size := ⟨_, rfl⟩
  obtain ⟨bB, eB⟩ : ∃ bB, bB = w2.heap.size := ⟨_, rfl⟩
  have S0 : Below w.heap.size w (w2.alloc (.cells #[.int .i64 A1, .int .i64 A2, .int .i64 A3, .int .i64 A4, .int .i64 A5] 33)) ∧ bB < (w2.alloc (.cells #[.int .i64 A1, .int .i64 A2, .int .i64 A3, .int .i64 A4, .int .i64 A5] 33)).heap.size ∧ (w2.alloc (.cells #[.int .i64 A1, .int .i64 A2, .int .i64 A3, .int .i64 A4, .int .i64 A5] 33)).cell? ⟨b0, 0, none⟩ = some (.int .i64 o) ∧ (w2.alloc (.cells #[.int .i64 A1, .int .i64 A2, .int .i64 A3, .int .i64 A4, .int .i64 A5] 33)).cell? ⟨b0, 1, none⟩ = some (.bool sm) ∧ (w2.alloc (.cells #[.int .i64 A1, .int .i64 A2, .int .i64 A3, .int .i64 A4, .int .i64 A5] 33)).cell? ⟨bA, 0, none⟩ = some (.int .i64 A1) ∧ (w2.alloc (.cells #[.int .i64 A1, .int .i64 A2, .int .i64 A3, .int .i64 A4, .int .i64 A5] 33)).cell? ⟨bA, 1, none⟩ = some (.int .i64 A2) ∧ (w2.alloc (.cells #[.int .i64 A1, .int .i64 A2, .int .i64 A3, .int .i64 A4, .int .i64 A5] 33)).cell? ⟨bA, 2, none⟩ = some (.int .i64 A3) ∧ (w2.alloc (.cells #[.int .i64 A1, .int .i64 A2, .int .i64 A3, .int .i64 A4, .int .i64 A5] 33)).cell? ⟨bA, 3, none⟩ = some (.int .i64 A4) ∧ (w2.alloc (.cells #[.int .i64 A1, .int .i64 A2, .int .i64 A3, .int .i64 A4, .int .i64 A5] 33)).cell? ⟨bA, 4, none⟩ = some (.int .i64 A5) ∧ (w2.alloc (.cells #[.int .i64 A1, .int .i64 A2, .int .i64 A3, .int .i64 A4, .int .i64 A5] 33)).cell? ⟨bB, 0, none⟩ = some (.int .i64 A1) ∧ (w2.alloc (.cells #[.int .i64 A1, .int .i64 A2, .int .i64 A3, .int .i64 A4, .int .i64 A5] 33)).cell? ⟨bB, 1, none⟩ = some (.int .i64 A2) ∧ (w2.alloc (.cells #[.int .i64 A1, .int .i64 A2, .int .i64 A3, .int .i64 A4, .int .i64 A5] 33)).cell? ⟨bB, 2, none⟩ = some (.int .i64 A3) ∧ (w2.alloc (.cells #[.int .i64 A1, .int .i64 A2, .int .i64 A3, .int .i64 A4, .int .i64 A5] 33)).cell? ⟨bB, 3, none⟩ = some (.int .i64 A4) ∧ (w2.alloc (.cells #[.int .i64 A1, .int .i64 A2, .int .i64 A3, .int .i64 A4, .int .i64 A5] 33)).cell? ⟨bB, 4, none⟩ = some (.int .i64 A5) := by
    subst e0 eA eB
    refine ⟨b2 G2.out (b_new _ _), by simp, ?_, ?_, ?_, ?_, ?_, ?_, ?_, ?_, ?_, ?_, ?_, ?_⟩
    · exact ((b_new w2 _).cell (p := ⟨w.heap.size, 0, none⟩) (Nat.lt_trans hz1 hz2)).trans ((hc2 _ _ (by simp; omega)).trans (((b_new w1 _).cell (p := ⟨w.heap.size, 0, none⟩) hz1).trans ((hc1 _ _ (by simp)).trans (by simp))))
    · exact ((b_new w2 _).cell (p := ⟨w.heap.size, 1, none⟩) (Nat.lt_trans hz1 hz2)).trans ((hc2 _ _ (by simp; omega)).trans (((b_new w1 _).cell (p := ⟨w.heap.size, 1, none⟩) hz1).trans ((hc1 _ _ (by simp)).trans (by simp))))
    · exact ((b_new w2 _).cell (p := ⟨w1.heap.size, 0, none⟩) hz2).trans ((hc2 _ _ (by simp)).trans (by simp))
    · exact ((b_new w2 _).cell (p := ⟨w1.heap.size, 1, none⟩) hz2).trans ((hc2 _ _ (by simp)).trans (by simp))
    · exact ((b_new w2 _).cell (p := ⟨w1.heap.size, 2, none⟩) hz2).trans ((hc2 _ _ (by simp)).trans (by simp))
    · exact ((b_new w2 _).cell (p := ⟨w1.heap.size, 3, none⟩) hz2).trans ((hc2 _ _ (by simp)).trans (by simp))
    · exact ((b_new w2 _).cell (p := ⟨w1.heap.size, 4, none⟩) hz2).trans ((hc2 _ _ (by simp)).trans (by simp))
    · simp
    · simp
    · simp
    · simp
    · simp
  have A0 : b0 ≤ bB := by omega
  have AA : bA ≤ bB := by omega
  clear hc1 hc2 hf1 hf2
  rw [← e0, ← eA, ← eB]
  clear e0 eA eB
  go_region_held3 (fun X => Below w.heap.size w X ∧ bB < X.heap.size ∧ X.cell? ⟨b0, 0, none⟩ = some (.int .i64 o) ∧ X.cell? ⟨b0, 1, none⟩ = some (.bool sm) ∧ X.cell? ⟨bA, 0, none⟩ = some (.int .i64 A1) ∧ X.cell? ⟨bA, 1, none⟩ = some (.int .i64 A2) ∧ X.cell? ⟨bA, 2, none⟩ = some (.int .i64 A3) ∧ X.cell? ⟨bA, 3, none⟩ = some (.int .i64 A4) ∧ X.cell? ⟨bA, 4, none⟩ = some (.int .i64 A5) ∧ X.cell? ⟨bB, 0, none⟩ = some (.int .i64 A1) ∧ X.cell? ⟨bB, 1, none⟩ = some (.int .i64 A2) ∧ X.cell? ⟨bB, 2, none⟩ = some (.int .i64 A3) ∧ X.cell? ⟨bB, 3, none⟩ = some (.int .i64 A4) ∧ X.cell? ⟨bB, 4, none⟩ = some (.int .i64 A5)) (first | assumption | exact keep_drew S0 | exact keep_drew (by assumption) | exact keep_call A0 AA (by assumption) (by assumption))
    (first | (go_at_call 22; refine (summer_any t _ (keep_tab HT.out (by assumption))).mono ?_; rintro e wa ⟨rfl, rfl⟩) | (go_at_call 23; refine (refSummer_any t _).mono ?_; rintro e wb ⟨rfl, gb⟩) | (go_at_call 24; refine (offset_any o sm t _ (keep_tab HT.out (by assumption))).mono ?_; rintro e wc ⟨rfl, gc⟩) | (go_at_call 25; refine (refOffset_any o sm t _).mono ?_; rintro e wd ⟨rfl, gd⟩) | (go_at_call 17; refine (example_any _ (keep_tab HT.out (by assumption))).mono ?_; rintro e we ⟨rfl, ge⟩))
  have gE := Lib.hid (b2 (b2 (b2 (b2 S0.1.drew gb) gc) gd) ge)
  clear S0 gb gc gd ge
  go_wp2_with fail
  go_ret
  exact ⟨rfl, gE.out⟩

theorem walk (o0 : Int) (sm0 : Bool) (a1 : Int) (w : World)  (w1 : (Lit.int .i64 a1).wf = true) (hT : Tab w) :
    Calls Tryd.prog 6 #[.agg #[.int .i64 o0, .bool sm0], .int .i64 a1] w fun e w' => e = .returned (.bool true) ∧ Below w.heap.size w w' := by
  by_cases hz : o0 < -840 ∨ 840 < o0
  · have D1 := Lib.hid (fun X (_ : Tab X) => local_zone o0 sm0 a1 X hz)
    have D2 := Lib.hid (fun X => refLocal_zone o0 sm0 a1 X hz)
    unfold zeroV at D1 D2
    exact core o0 sm0 a1 _ _ _ _ _ _ w hT D1 D2
  · by_cases ht : a1 < 0 ∨ 268435456 < a1
    · have D1 := Lib.hid (fun X (_ : Tab X) => local_range o0 sm0 a1 X (by omega) (by omega) ht)
      have D2 := Lib.hid (fun X => refLocal_range o0 sm0 a1 X (by omega) (by omega) ht)
      unfold zeroV at D1 D2
      exact core o0 sm0 a1 _ _ _ _ _ _ w hT D1 D2
    · obtain ⟨Y, M, D, K, N, hV⟩ := dateV_agg (a1 + offI o0 sm0 a1)
      have D1 := Lib.hid (fun X hX => local_yes o0 sm0 a1 X hX (by omega) (by omega) (by omega) (by omega))
      have D2 := Lib.hid (fun X => refLocal_yes o0 sm0 a1 X (by omega) (by omega) (by omega) (by omega))
      rw [hV] at D1 D2
      exact core o0 sm0 a1 _ _ _ _ _ _ w hT D1 D2

theorem contract (H : Type) (enc : TypeId × Value → H) (W : World) (base : Nat) (args : Array Value) (ds gs : List (DataW H)) (before : List MemPlace)
    (hval : ∀ (j : Nat) t v, Tryd.f6.params[j]? = some t → args[j]? = some v → Value.okWide Tryd.prog W .any base t v)
    (hW : DataW.Whole enc Tryd.prog Tryd.f6.params.toList Rows.calendarLocalSpec.vars false W args.toList ds gs before) (hL : laidMetH Tryd.prog Rows.calendarLocalRow.laid W) :
    Calls Tryd.prog 6 args W fun e W' => ∃ v, e = .returned v ∧ Rows.calendarLocalSpec.post enc Tryd.prog Tryd.f6 false true false false W args v W' := by
  have hW' := hW
  obtain ⟨p, q, hA0, hV, rfl, hfz, hnd⟩ := hW
  have hA : DataW.TrodAll enc Tryd.prog W 0 (fun _ => true) true Tryd.f6.params.toList args.toList ds p := hA0
  rw [Tryd.params6] at hA hval
  obtain ⟨v0, vs0, d0, ds0, p0, q0, hargs, rfl, rfl, h0, r0⟩ := trodAll_cons hA
  obtain ⟨v1, vs1, d1, ds1, p1, q1, rfl, rfl, rfl, h1, r1⟩ := trodAll_cons r0
  obtain ⟨rfl, rfl, rfl⟩ := trodAll_nil r1
  obtain rfl : args = #[v0, v1] := by cases args; simp_all
  obtain ⟨rfl, rfl⟩ := trodVars_none hV
  have k0' := h0
  have lt0 : ∀ x ∈ p0, x.block < W.heap.size := by obtain ⟨m, hm⟩ := k0'; exact DataW.trod_lt m _ _ _ hm
  have k1' := h1
  have lt1 : ∀ x ∈ p1, x.block < W.heap.size := by obtain ⟨m, hm⟩ := k1'; exact DataW.trod_lt m _ _ _ hm
  obtain ⟨o0, sm0, rfl⟩ := zone_form (hval 0 41 v0 rfl rfl) h0
  obtain ⟨a1, rfl, rfl, rfl, w1⟩ := open_int Tryd.underlying3 (hval 1 3 v1 rfl rfl) h1
  clear hA0
  simp only [List.append_nil] at hW'
  refine (walk o0 sm0 a1 W  w1 (tab_of_laid hL)).mono fun e W' ⟨he, bel⟩ => ?_
  subst he
  exact ⟨_, rfl, _, _, _, [], _, [], hW', trodAll_mk1 (shut_bool Tryd.underlying4 _), (trodAll_cons_mk (Below.trod laidOut (by kernel_rfl) (of_decide_eq_true (by kernel_rfl)) k0' bel lt0) (trodAll_cons_mk (Below.trod laidOut (by kernel_rfl) (of_decide_eq_true (by kernel_rfl)) k1' bel lt1) trodAll_mk0)), rfl, bel.frame _, fun h => by cases h⟩

theorem laid_met (os : Os) : laidMet Tryd.prog Rows.calendarLocalRow.laid ((laidWorld os).forCall (fun _ _ => 0) ⟨#[], #[.agg #[.int .i64 0, .bool false], .int .i64 0], []⟩).memory :=
  laidMet_of_run' 8 (by kernel_rfl) (by kernel_rfl)
theorem reads (os : Os) {H : Type} (enc : TypeId × Value → H) : ∃ places, DataW.whole enc Tryd.prog ((laidWorld os).forCall (fun _ _ => 0) ⟨#[], #[.agg #[.int .i64 0, .bool false], .int .i64 0], []⟩).memory Tryd.f6.params.toList Rows.calendarLocalSpec.vars false (#[.agg #[.int .i64 0, .bool false], .int .i64 0] : Array Value).toList 8 = some ([.agg [.lit (.int .i64 0), .lit (.bool false)], .lit (.int .i64 0)], [], places) :=
  ⟨[], by kernel_rfl⟩

set_option maxRecDepth 100000 in
theorem lifted (os : Os) (started : os.Started) (H : Type) (enc : TypeId × Value → H) (F : Stop.Interp) :
    ReturnsInHanded {} Tryd.checked os 6 .any ((OpenSpec.ofChange Rows.calendarLocalSpec).preRow enc Tryd.prog Tryd.f6 Rows.calendarLocalRow.domain false Rows.calendarLocalRow.laid) (((OpenSpec.ofChange Rows.calendarLocalSpec).at F).post enc Tryd.prog Tryd.f6 false true false false) := by
  obtain ⟨places, hx⟩ := reads os enc
  refine returnsInHanded_of_row (C := Tryd.checked) (s := OpenSpec.ofChange Rows.calendarLocalSpec) own started (by kernel_rfl) Tryd.func6
    (witness_row_at (enc := enc) (C := Tryd.checked) false (laidWorld os) #[.agg #[.int .i64 0, .bool false], .int .i64 0] rfl (by kernel_rfl) (by kernel_rfl) (by kernel_rfl)
      (OpenSpec.preRow_of_cond 8 hx (by kernel_rfl) (fun k hk => by cases hk) (by kernel_rfl) (laid_met os))) ?_
  intro W base args ds gs before hval hW _ _ _ hL _ _
  exact contract H enc W base args ds gs before hval hW hL

theorem said : Rows.CalendarLocalSaid :=
  OpenClaim.holds_of_cond 6 Tryd.f6 rfl rfl rfl rfl rfl rfl rfl ⟨rfl, rfl, rfl, rfl, rfl⟩ rfl rfl rfl rfl rfl (by kernel_rfl) Tryd.func6 (by kernel_rfl)
    (of_decide_eq_true (by kernel_rfl)) (by unfold Func.isWrapper; first | (rw [if_pos (by decide +kernel)]; kernel_rfl) | (rw [if_neg (by decide +kernel)]; exact ⟨rfl, rfl⟩))
    (fun os started H enc _ F => by rw [OpenClaim.pre_eq_preRow]; exact lifted os started H enc F)

theorem plain (f : FuncId) (fn : Func) (hf : Tryd.pinned.checked.prog.funcNamed "chargenet/chargenetlaw02.CalendarLocal" = some f) (hfn : Tryd.pinned.checked.prog.funcs[f]? = some fn) :
    false = Tryd.pinned.checked.prog.looks [] ∧ ∀ (j : Nat) t, fn.params[j]? = some t → Tryd.pinned.checked.prog.wantsStandIn t = false := by
  obtain rfl : f = 6 := Option.some.inj ((show Tryd.prog.funcNamed "chargenet/chargenetlaw02.CalendarLocal" = some 6 by kernel_rfl).symm.trans hf) |>.symm
  obtain rfl : fn = Tryd.f6 := (Option.some.inj (Tryd.func6.symm.trans hfn)).symm
  refine ⟨by kernel_rfl, fun j t ht => ?_⟩
  rw [Tryd.params6] at ht
  have hm : t ∈ [41, 3] := by simpa using Array.mem_of_getElem? ht
  have hall : ([41, 3].all fun u => !Tryd.prog.wantsStandIn u) = true := by kernel_rfl
  exact (show Tryd.prog.wantsStandIn t = false by simpa using List.all_eq_true.1 hall t hm)
end calendarLocal

theorem calendarLocal_holds : Rows.CalendarLocalCardSaid :=
  Claim7.holds_tied_plain_at .later [] _ _ _ _ calendarLocal.said (fun _ h => by cases h) (by kernel_rfl) (fun _ h => by cases h) calendarLocal_row_tie rfl ⟨rfl, rfl⟩ (by kernel_rfl) rfl calendarLocal.plain (by kernel_rfl)
#print axioms calendarLocal_holds
end Go.Proofs.YtkimniggdnlliaaDoor
