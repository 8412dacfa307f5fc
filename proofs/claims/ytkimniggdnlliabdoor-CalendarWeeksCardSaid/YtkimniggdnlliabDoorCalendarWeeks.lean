/-
  The law CalendarWeeks holds: for every input it returns true and leaves its arguments as they were, where the table of the months' lengths is as the program's text lays it.
-/
import Derived.Test.YtkimniggdnlliabDoorCalO
import Derived.Test.YtkimniggdnlliabDoorCalP
import Derived.WalkKit
import Derived.SevenTiedAt
namespace Go.Proofs.YtkimniggdnlliabDoor
namespace calendarWeeks
open Go.ChangeShapes Go.WideShapes Go.ChangeAt Go.RowKit
open Cal
set_option linter.unusedVariables false

theorem walk (a0 : Int) (w : World) (w0 : (Lit.int .i64 a0).wf = true) (hT : Tab w) :
    Calls Tryd.prog 5 #[.int .i64 a0] w fun e w' => e = .returned (.bool true) ∧ Below w.heap.size w w' := by
  have HT := Lib.hid hT
  by_cases h : a0 < 0 ∨ 268435456 < a0
  · have D1 := Lib.hid (fun X (_ : Tab X) => date_no a0 X h)
    unfold zeroV at D1
    clear h hT
    go_enter Tryd.func5, Tryd.ntmps5
    go_wp2_with fail
    refine (D1.out _ HT.out).mono ?_
    rintro e w1 ⟨rfl, g1⟩
    have G1 := Lib.hid g1
    clear g1
    go_wp2_with fail
    refine (example_any _ (HT.out.below (b2 G1.out (b_new _ _)))).mono ?_
    rintro e wx ⟨rfl, gx⟩
    go_wp2_with fail
    go_ret
    exact ⟨rfl, b2 (b2 G1.out (b_new _ _)) gx⟩
  · have h0 : 0 ≤ a0 := by omega
    have h1 : a0 ≤ 268435456 := by omega
    obtain ⟨k1, k2⟩ := wd_bd (a0 / 1440)
    obtain ⟨yb1, yb2⟩ := year_time a0 h0 h1
    have hV : dateV a0 = .agg #[.int .i64 (yr (a0 / 1440)), .int .i64 (mo (a0 / 1440)), .int .i64 (dy (a0 / 1440)), .int .i64 (wd (a0 / 1440)), .int .i64 (a0 % 1440)] := rfl
    have D1 := Lib.hid (fun X hX => date_yes a0 X hX h0 h1)
    rw [hV] at D1
    by_cases h2 : 268425376 < a0
    · clear h hT hV h0 h1
      go_enter Tryd.func5, Tryd.ntmps5
      go_wp2_with fail
      refine (D1.out _ HT.out).mono ?_
      rintro e w1 ⟨rfl, g1⟩
      have G1 := Lib.hid g1
      clear g1
      go_wp2_with fail
      refine (example_any _ (HT.out.below (b2 G1.out (b_new _ _)))).mono ?_
      rintro e wx ⟨rfl, gx⟩
      go_wp2_with fail
      go_ret
      exact ⟨rfl, b2 (b2 G1.out (b_new _ _)) gx⟩
    · have e7 : (a0 + 10080) / 1440 = a0 / 1440 + 7 := by omega
      have em : (a0 + 10080) % 1440 = a0 % 1440 := by omega
      have ew : wd (a0 / 1440 + 7) = wd (a0 / 1440) := by unfold wd; omega
      have D2 := Lib.hid (fun X hX => date_yes (a0 + 10080) X hX (by omega) (by omega))
      have hV2 : dateV (a0 + 10080) = .agg #[.int .i64 (yr ((a0 + 10080) / 1440)), .int .i64 (mo ((a0 + 10080) / 1440)), .int .i64 (dy ((a0 + 10080) / 1440)), .int .i64 (wd (a0 / 1440)), .int .i64 (a0 % 1440)] := by
        unfold dateV dateOf; rw [em, e7, ew]
      rw [hV2] at D2
      obtain ⟨Y2, hY2⟩ : ∃ Y, Y = yr ((a0 + 10080) / 1440) := ⟨_, rfl⟩
      obtain ⟨M2, hM2⟩ : ∃ Y, Y = mo ((a0 + 10080) / 1440) := ⟨_, rfl⟩
      obtain ⟨E2, hE2⟩ : ∃ Y, Y = dy ((a0 + 10080) / 1440) := ⟨_, rfl⟩
      rw [← hY2, ← hM2, ← hE2] at D2
      have hle : a0 ≤ 268425376 := by omega
      clear h2 hV2 e7 em ew hY2 hM2 hE2
      obtain ⟨K, hK⟩ : ∃ K, K = wd (a0 / 1440) := ⟨_, rfl⟩
      obtain ⟨N, hN⟩ : ∃ N, N = a0 % 1440 := ⟨_, rfl⟩
      obtain ⟨Y, hY⟩ : ∃ Y, Y = yr (a0 / 1440) := ⟨_, rfl⟩
      obtain ⟨M, hM⟩ : ∃ Y, Y = mo (a0 / 1440) := ⟨_, rfl⟩
      obtain ⟨E, hE⟩ : ∃ Y, Y = dy (a0 / 1440) := ⟨_, rfl⟩
      rw [← hK, ← hN] at D2
      rw [← hK, ← hN, ← hY, ← hM, ← hE] at D1
      rw [← hY] at yb1 yb2
      by_cases h3 : 58055776 < a0
      · clear h hT hV h0 h1 hK hN hY hM hE k1 k2
        go_enter Tryd.func5, Tryd.ntmps5
        go_wp2_with fail
        refine (D1.out _ HT.out).mono ?_
        rintro e w1 ⟨rfl, g1⟩
        have G1 := Lib.hid g1
        clear g1
        go_wp2_with fail
        refine (D2.out _ (HT.out.below (b2 G1.out (b_new _ _)))).mono ?_
        rintro e w2 ⟨rfl, g2⟩
        obtain ⟨hc2, hf2⟩ := bcell g2
        have hz2 : w1.heap.size < w2.heap.size := by have := g2.size; simp at this; omega
        have G2 := Lib.hid (b2 (b2 G1.out (b_new _ _)) g2)
        clear g2
        go_wp2_with fail
        refine (example_any _ (HT.out.below (b2 G2.out (b_new _ _)))).mono ?_
        rintro e wx ⟨rfl, gx⟩
        go_wp2_with fail
        go_ret
        exact ⟨rfl, b2 (b2 G2.out (b_new _ _)) gx⟩
      · obtain ⟨l1, l2, l3, l4⟩ := later_400 (a0 / 1440) (by omega) (by omega)
        have e4 : (a0 + 210379680) / 1440 = a0 / 1440 + 146097 := by omega
        have em : (a0 + 210379680) % 1440 = a0 % 1440 := by omega
        have D3 := Lib.hid (fun X hX => date_yes (a0 + 210379680) X hX (by omega) (by omega))
        have hV3 : dateV (a0 + 210379680) = .agg #[.int .i64 (Y + 400), .int .i64 M, .int .i64 E, .int .i64 K, .int .i64 N] := by
          unfold dateV dateOf; rw [em, e4, l1, l2, l3, l4, hY, hM, hE, hK, hN]
        rw [hV3] at D3
        have hle3 : a0 ≤ 58055776 := by omega
        clear h3 h hT hV hV3 h1 hK hN hY hM hE k1 k2 l1 l2 l3 l4 e4 em
        go_enter Tryd.func5, Tryd.ntmps5
        go_wp2_with fail
        refine (D1.out _ HT.out).mono ?_
        rintro e w1 ⟨rfl, g1⟩
        have G1 := Lib.hid g1
        have HW1 := Lib.hid g1
        clear g1
        go_wp2_with fail
        refine (D2.out _ (HT.out.below (b2 G1.out (b_new _ _)))).mono ?_
        rintro e w2 ⟨rfl, g2⟩
        obtain ⟨hc2, hf2⟩ := bcell g2
        have hz2 : w1.heap.size < w2.heap.size := by have := g2.size; simp at this; omega
        have G2 := Lib.hid (b2 (b2 G1.out (b_new _ _)) g2)
        clear g2
        go_wp2_with fail
        refine (D3.out _ (HT.out.below (b2 G2.out (b_new _ _)))).mono ?_
        rintro e w3 ⟨rfl, g3⟩
        obtain ⟨hc3, hf3⟩ := bcell g3
        have hz3 : w1.heap.size < w3.heap.size := by have := g3.size; simp at this; omega
        have hzw : w.heap.size ≤ w1.heap.size := HW1.out.size
        have c20 : w2.cell? ⟨w1.heap.size, 0, none⟩ = some (.int .i64 Y) := (hc2 _ _ (by simp)).trans (by simp)
        have c30 : w3.cell? ⟨w1.heap.size, 0, none⟩ = some (.int .i64 Y) := (hc3 _ _ (by simp; omega)).trans (((b_new w2 _).cell (p := ⟨w1.heap.size, 0, none⟩) hz2).trans c20)
        have c21 : w2.cell? ⟨w1.heap.size, 1, none⟩ = some (.int .i64 M) := (hc2 _ _ (by simp)).trans (by simp)
        have c31 : w3.cell? ⟨w1.heap.size, 1, none⟩ = some (.int .i64 M) := (hc3 _ _ (by simp; omega)).trans (((b_new w2 _).cell (p := ⟨w1.heap.size, 1, none⟩) hz2).trans c21)
        have c22 : w2.cell? ⟨w1.heap.size, 2, none⟩ = some (.int .i64 E) := (hc2 _ _ (by simp)).trans (by simp)
        have c32 : w3.cell? ⟨w1.heap.size, 2, none⟩ = some (.int .i64 E) := (hc3 _ _ (by simp; omega)).trans (((b_new w2 _).cell (p := ⟨w1.heap.size, 2, none⟩) hz2).trans c22)
        have c23 : w2.cell? ⟨w1.heap.size, 3, none⟩ = some (.int .i64 K) := (hc2 _ _ (by simp)).trans (by simp)
        have c33 : w3.cell? ⟨w1.heap.size, 3, none⟩ = some (.int .i64 K) := (hc3 _ _ (by simp; omega)).trans (((b_new w2 _).cell (p := ⟨w1.heap.size, 3, none⟩) hz2).trans c23)
        have c24 : w2.cell? ⟨w1.heap.size, 4, none⟩ = some (.int .i64 N) := (hc2 _ _ (by simp)).trans (by simp)
        have c34 : w3.cell? ⟨w1.heap.size, 4, none⟩ = some (.int .i64 N) := (hc3 _ _ (by simp; omega)).trans (((b_new w2 _).cell (p := ⟨w1.heap.size, 4, none⟩) hz2).trans c24)
        have f30 : w3.frozen? ⟨w1.heap.size, 0, none⟩ = false := (hf3 _ _ (by simp; omega)).trans (((b_new w2 _).frozen (p := ⟨w1.heap.size, 0, none⟩) hz2).trans ((hf2 _ _ (by simp)).trans (by simp)))
        clear hc2 hc3 hf2 hf3 c20 c21 c22 c23 c24
        have G3 := Lib.hid (b2 (b2 G2.out (b_new _ _)) g3)
        clear g3
        go_wp2_with fail
        refine (example_any _ (HT.out.below (b2 (G3.out.setCell (p := ⟨w1.heap.size, 0, none⟩) hzw _) (b_new _ _)))).mono ?_
        rintro e wx ⟨rfl, gx⟩
        go_wp2_with fail
        go_ret
        exact ⟨rfl, b2 (b2 (G3.out.setCell (p := ⟨w1.heap.size, 0, none⟩) hzw _) (b_new _ _)) gx⟩

theorem contract (H : Type) (enc : TypeId × Value → H) (W : World) (base : Nat) (args : Array Value) (ds gs : List (DataW H)) (before : List MemPlace)
    (hval : ∀ (j : Nat) t v, Tryd.f5.params[j]? = some t → args[j]? = some v → Value.okWide Tryd.prog W .any base t v)
    (hW : DataW.Whole enc Tryd.prog Tryd.f5.params.toList Rows.calendarWeeksSpec.vars false W args.toList ds gs before) (hL : laidMetH Tryd.prog Rows.calendarWeeksRow.laid W) :
    Calls Tryd.prog 5 args W fun e W' => ∃ v, e = .returned v ∧ Rows.calendarWeeksSpec.post enc Tryd.prog Tryd.f5 false true false false W args v W' := by
  have hW' := hW
  obtain ⟨p, q, hA0, hV, rfl, hfz, hnd⟩ := hW
  have hA : DataW.TrodAll enc Tryd.prog W 0 (fun _ => true) true Tryd.f5.params.toList args.toList ds p := hA0
  rw [Tryd.params5] at hA hval
  obtain ⟨v0, vs0, d0, ds0, p0, q0, hargs, rfl, rfl, h0, r0⟩ := trodAll_cons hA
  obtain ⟨rfl, rfl, rfl⟩ := trodAll_nil r0
  obtain rfl : args = #[v0] := by cases args; simp_all
  obtain ⟨rfl, rfl⟩ := trodVars_none hV
  have k0' := h0
  have lt0 : ∀ x ∈ p0, x.block < W.heap.size := by obtain ⟨m, hm⟩ := k0'; exact DataW.trod_lt m _ _ _ hm
  obtain ⟨a0, rfl, rfl, rfl, w0⟩ := open_int Tryd.underlying3 (hval 0 3 v0 rfl rfl) h0
  clear hA0
  simp only [List.append_nil] at hW'
  refine (walk a0 W w0 (tab_of_laid hL)).mono fun e W' ⟨he, bel⟩ => ?_
  subst he
  exact ⟨_, rfl, _, _, _, [], _, [], hW', trodAll_mk1 (shut_bool Tryd.underlying4 _), (trodAll_cons_mk (Below.trod laidOut (by kernel_rfl) (of_decide_eq_true (by kernel_rfl)) k0' bel lt0) trodAll_mk0), rfl, bel.frame _, fun h => by cases h⟩

theorem laid_met (os : Os) : laidMet Tryd.prog Rows.calendarWeeksRow.laid ((laidWorld os).forCall (fun _ _ => 0) ⟨#[], #[.int .i64 0], []⟩).memory :=
  laidMet_of_run' 8 (by kernel_rfl) (by kernel_rfl)
theorem reads (os : Os) {H : Type} (enc : TypeId × Value → H) : ∃ places, DataW.whole enc Tryd.prog ((laidWorld os).forCall (fun _ _ => 0) ⟨#[], #[.int .i64 0], []⟩).memory Tryd.f5.params.toList Rows.calendarWeeksSpec.vars false (#[.int .i64 0] : Array Value).toList 8 = some ([.lit (.int .i64 0)], [], places) :=
  ⟨[], by kernel_rfl⟩

set_option maxRecDepth 100000 in
theorem lifted (os : Os) (started : os.Started) (H : Type) (enc : TypeId × Value → H) (F : Stop.Interp) :
    ReturnsInHanded {} Tryd.checked os 5 .any ((OpenSpec.ofChange Rows.calendarWeeksSpec).preRow enc Tryd.prog Tryd.f5 Rows.calendarWeeksRow.domain false Rows.calendarWeeksRow.laid) (((OpenSpec.ofChange Rows.calendarWeeksSpec).at F).post enc Tryd.prog Tryd.f5 false true false false) := by
  obtain ⟨places, hx⟩ := reads os enc
  refine returnsInHanded_of_row (C := Tryd.checked) (s := OpenSpec.ofChange Rows.calendarWeeksSpec) own started (by kernel_rfl) Tryd.func5
    (witness_row_at (enc := enc) (C := Tryd.checked) false (laidWorld os) #[.int .i64 0] rfl (by kernel_rfl) (by kernel_rfl) (by kernel_rfl)
      (OpenSpec.preRow_of_cond 8 hx (by kernel_rfl) (fun k hk => by cases hk) (by kernel_rfl) (laid_met os))) ?_
  intro W base args ds gs before hval hW _ _ _ hL _ _
  exact contract H enc W base args ds gs before hval hW hL

theorem said : Rows.CalendarWeeksSaid :=
  OpenClaim.holds_of_cond 5 Tryd.f5 rfl rfl rfl rfl rfl rfl rfl ⟨rfl, rfl, rfl, rfl, rfl⟩ rfl rfl rfl rfl rfl (by kernel_rfl) Tryd.func5 (by kernel_rfl)
    (of_decide_eq_true (by kernel_rfl)) (by unfold Func.isWrapper; first | (rw [if_pos (by decide +kernel)]; kernel_rfl) | (rw [if_neg (by decide +kernel)]; exact ⟨rfl, rfl⟩))
    (fun os started H enc _ F => by rw [OpenClaim.pre_eq_preRow]; exact lifted os started H enc F)

theorem plain (f : FuncId) (fn : Func) (hf : Tryd.pinned.checked.prog.funcNamed "chargenet/chargenetlaw02.CalendarWeeks" = some f) (hfn : Tryd.pinned.checked.prog.funcs[f]? = some fn) :
    false = Tryd.pinned.checked.prog.looks [] ∧ ∀ (j : Nat) t, fn.params[j]? = some t → Tryd.pinned.checked.prog.wantsStandIn t = false := by
  obtain rfl : f = 5 := Option.some.inj ((show Tryd.prog.funcNamed "chargenet/chargenetlaw02.CalendarWeeks" = some 5 by kernel_rfl).symm.trans hf) |>.symm
  obtain rfl : fn = Tryd.f5 := (Option.some.inj (Tryd.func5.symm.trans hfn)).symm
  refine ⟨by kernel_rfl, fun j t ht => ?_⟩
  rw [Tryd.params5] at ht
  have hm : t ∈ [3] := by simpa using Array.mem_of_getElem? ht
  have hall : ([3].all fun u => !Tryd.prog.wantsStandIn u) = true := by kernel_rfl
  exact (show Tryd.prog.wantsStandIn t = false by simpa using List.all_eq_true.1 hall t hm)
end calendarWeeks

theorem calendarWeeks_holds : Rows.CalendarWeeksCardSaid :=
  Claim7.holds_tied_plain_at .later [] _ _ _ _ calendarWeeks.said (fun _ h => by cases h) (by kernel_rfl) (fun _ h => by cases h) calendarWeeks_row_tie rfl ⟨rfl, rfl⟩ (by kernel_rfl) rfl calendarWeeks.plain (by kernel_rfl)
#print axioms calendarWeeks_holds
end Go.Proofs.YtkimniggdnlliabDoor
