/-
  The law CalendarBack holds: for every input it returns true and leaves its arguments as they were, where the table of the months' lengths is as the program's text lays it.
-/
import Derived.Test.YtkimniggdnlliaaDoorCalO
import Derived.WalkKit
import Derived.SevenTiedAt
namespace Go.Proofs.YtkimniggdnlliaaDoor
namespace calendarBack
open Go.ChangeShapes Go.WideShapes Go.ChangeAt Go.RowKit
open Cal
set_option linter.unusedVariables false

theorem back_facts (t : Int) (h0 : 0 ≤ t) (h1 : t ≤ 268435456) : Ex (yr (t / 1440)) (mo (t / 1440)) (dy (t / 1440)) (t % 1440) ∧ dayN (yr (t / 1440)) (mo (t / 1440)) (dy (t / 1440)) = t / 1440 := by
  obtain ⟨y1, y2⟩ := year_time t h0 h1
  obtain ⟨c1, c2, c3, c4, c5, c6⟩ := isC_civ (t / 1440) (by omega) (by omega)
  obtain ⟨e1, e2⟩ := dy_bd (t / 1440) (by omega) (by omega)
  refine ⟨⟨y1, y2, c3, c4, e1, e2, by omega, by omega⟩, ?_⟩
  unfold dayN dy; omega
theorem right_of {Y M D W N t : Int} (h1 : t ≤ 268435456) (he : Ex Y M D N) (hd : dayN Y M D = t / 1440) (hn : N = t % 1440) (hw : W = 0 ∨ W = wd (t / 1440)) : Right Y M D W N ∧ dayN Y M D * 1440 + N = t :=
  ⟨⟨he, by rw [hd]; exact hw, by rw [hd, hn]; omega⟩, by rw [hd, hn]; omega⟩

theorem walk (a0 : Int) (w : World) (w0 : (Lit.int .i64 a0).wf = true) (hT : Tab w) :
    Calls Tryd.prog 8 #[.int .i64 a0] w fun e w' => e = .returned (.bool true) ∧ Below w.heap.size w w' := by
  have HT := Lib.hid hT
  by_cases h : a0 < 0 ∨ 268435456 < a0
  · have D1 := Lib.hid (fun X => date_no a0 X h)
    unfold zeroV at D1
    clear h hT
    go_enter Tryd.func8, Tryd.ntmps8
    go_wp2_with fail
    refine (D1.out _).mono ?_
    rintro e w1 ⟨rfl, g1⟩
    have G1 := Lib.hid g1
    clear g1
    go_wp2_with fail
    refine (example_any _ (HT.out.below (b2 G1.out (b_new _ _)))).mono ?_
    rintro e wx ⟨rfl, gx⟩
    go_wp2_with fail
    go_ret
    exact ⟨rfl, b2 (b2 G1.out (b_new _ _)) gx⟩
  · have h0 : 0 ≤ a0 := by omega
    have h1 : a0 ≤ 268435456 := by omega
    obtain ⟨f1, f2⟩ := back_facts a0 h0 h1
    obtain ⟨k1, k2⟩ := wd_bd (a0 / 1440)
    have hV : dateV a0 = .agg #[.int .i64 (yr (a0 / 1440)), .int .i64 (mo (a0 / 1440)), .int .i64 (dy (a0 / 1440)), .int .i64 (wd (a0 / 1440)), .int .i64 (a0 % 1440)] := rfl
    have D1 := Lib.hid (fun X hX => date_yes a0 X hX h0 h1)
    rw [hV] at D1
    obtain ⟨Y, hY⟩ : ∃ Y, Y = yr (a0 / 1440) := ⟨_, rfl⟩
    obtain ⟨M, hM⟩ : ∃ M, M = mo (a0 / 1440) := ⟨_, rfl⟩
    obtain ⟨D, hD⟩ : ∃ D, D = dy (a0 / 1440) := ⟨_, rfl⟩
    obtain ⟨K, hK⟩ : ∃ K, K = wd (a0 / 1440) := ⟨_, rfl⟩
    obtain ⟨N, hN⟩ : ∃ N, N = a0 % 1440 := ⟨_, rfl⟩
    rw [← hY, ← hM, ← hD, ← hK, ← hN] at D1
    rw [← hY, ← hM, ← hD] at f2
    rw [← hY, ← hM, ← hD, ← hN] at f1
    rw [← hK] at k1 k2
    obtain ⟨r1, s1⟩ := right_of h1 f1 f2 hN (.inr hK)
    obtain ⟨r2, s2⟩ := right_of h1 f1 f2 hN (.inl rfl)
    have T1 := Lib.hid (fun X hX => time_yes Y M D K N X hX r1)
    have T3 := Lib.hid (fun X hX => time_yes Y M D 0 N X hX r2)
    rw [s1] at T1
    rw [s2] at T3
    have T2 := Lib.hid (fun X hX => time_no Y M D (K % 7 + 1) N X hX (fun h => by
      have := h.2.1; rw [f2, ← hK] at this; omega))
    clear hV hY hM hD hK hN f1 f2 r1 r2 s1 s2 h hT h0
    go_enter Tryd.func8, Tryd.ntmps8
    go_wp2_with fail
    refine (D1.out _ HT.out).mono ?_
    rintro e w1 ⟨rfl, g1⟩
    have G1 := Lib.hid g1
    clear g1
    go_wp2_with fail
    refine (T1.out _ (HT.out.below (b2 G1.out (b_new _ _)))).mono ?_
    rintro e w2 ⟨rfl, g2⟩
    obtain ⟨hc2, hf2⟩ := bcell g2
    have hz2 : w1.heap.size < w2.heap.size := by have := g2.size; simp at this; omega
    have G2 := Lib.hid (b2 (b2 G1.out (b_new _ _)) g2)
    have hzw : w.heap.size ≤ w1.heap.size := G1.out.size
    clear g2
    have c20 : w2.cell? ⟨w1.heap.size, 0, none⟩ = some (.int .i64 Y) := (hc2 _ _ (by simp)).trans (by simp)
    have c21 : w2.cell? ⟨w1.heap.size, 1, none⟩ = some (.int .i64 M) := (hc2 _ _ (by simp)).trans (by simp)
    have c22 : w2.cell? ⟨w1.heap.size, 2, none⟩ = some (.int .i64 D) := (hc2 _ _ (by simp)).trans (by simp)
    have c23 : w2.cell? ⟨w1.heap.size, 3, none⟩ = some (.int .i64 K) := (hc2 _ _ (by simp)).trans (by simp)
    have c24 : w2.cell? ⟨w1.heap.size, 4, none⟩ = some (.int .i64 N) := (hc2 _ _ (by simp)).trans (by simp)
    have f23 : w2.frozen? ⟨w1.heap.size, 3, none⟩ = false := (hf2 _ _ (by simp)).trans (by simp)
    clear hc2 hf2
    go_wp2_with fail
    have G2' := Lib.hid (G2.out.setCell (p := ⟨w1.heap.size, 3, none⟩) hzw (.int .i64 (K % 7 + 1)))
    refine (T2.out _ (HT.out.below G2'.out)).mono ?_
    rintro e w3 ⟨rfl, g3⟩
    obtain ⟨hc3, hf3⟩ := bcell g3
    have hlt3 : w1.heap.size < (w2.setCell ⟨w1.heap.size, 3, none⟩ (.int .i64 (K % 7 + 1))).heap.size := by simp [World.setCell]; exact hz2
    have G3 := Lib.hid (b2 G2'.out g3)
    clear g3
    have c30 : w3.cell? ⟨w1.heap.size, 0, none⟩ = some (.int .i64 Y) := (hc3 _ _ hlt3).trans ((World.cell?_setCell_other _ _ _ _ (by simp)).trans c20)
    have c31 : w3.cell? ⟨w1.heap.size, 1, none⟩ = some (.int .i64 M) := (hc3 _ _ hlt3).trans ((World.cell?_setCell_other _ _ _ _ (by simp)).trans c21)
    have c32 : w3.cell? ⟨w1.heap.size, 2, none⟩ = some (.int .i64 D) := (hc3 _ _ hlt3).trans ((World.cell?_setCell_other _ _ _ _ (by simp)).trans c22)
    have c33 : w3.cell? ⟨w1.heap.size, 3, none⟩ = some (.int .i64 (K % 7 + 1)) := (hc3 _ _ hlt3).trans (World.cell?_setCell_same _ _ _ c23)
    have c34 : w3.cell? ⟨w1.heap.size, 4, none⟩ = some (.int .i64 N) := (hc3 _ _ hlt3).trans ((World.cell?_setCell_other _ _ _ _ (by simp)).trans c24)
    have f33 : w3.frozen? ⟨w1.heap.size, 3, none⟩ = false := (hf3 _ _ hlt3).trans ((World.frozen?_setCell _ _ _ _).trans f23)
    clear hc3 hf3 c20 c21 c22 c23 c24 f23
    clear hlt3
    go_wp2_with fail
    have G3' := Lib.hid (G3.out.setCell (p := ⟨w1.heap.size, 3, none⟩) hzw (.int .i64 0))
    refine (T3.out _ (HT.out.below G3'.out)).mono ?_
    rintro e w4 ⟨rfl, g4⟩
    have G4 := Lib.hid (b2 G3'.out g4)
    clear g4
    go_wp2_with fail
    refine (example_any _ (HT.out.below G4.out)).mono ?_
    rintro e wx ⟨rfl, gx⟩
    go_wp2_with fail
    go_ret
    exact ⟨rfl, b2 G4.out gx⟩

theorem contract (H : Type) (enc : TypeId × Value → H) (W : World) (base : Nat) (args : Array Value) (ds gs : List (DataW H)) (before : List MemPlace)
    (hval : ∀ (j : Nat) t v, Tryd.f8.params[j]? = some t → args[j]? = some v → Value.okWide Tryd.prog W .any base t v)
    (hW : DataW.Whole enc Tryd.prog Tryd.f8.params.toList Rows.calendarBackSpec.vars false W args.toList ds gs before) (hL : laidMetH Tryd.prog Rows.calendarBackRow.laid W) :
    Calls Tryd.prog 8 args W fun e W' => ∃ v, e = .returned v ∧ Rows.calendarBackSpec.post enc Tryd.prog Tryd.f8 false true false false W args v W' := by
  have hW' := hW
  obtain ⟨p, q, hA0, hV, rfl, hfz, hnd⟩ := hW
  have hA : DataW.TrodAll enc Tryd.prog W 0 (fun _ => true) true Tryd.f8.params.toList args.toList ds p := hA0
  rw [Tryd.params8] at hA hval
  obtain ⟨v0, vs0, d0, ds0, p0, q0, hargs, rfl, rfl, h0, r0⟩ := trodAll_cons hA
  obtain ⟨rfl, rfl, rfl⟩ := trodAll_nil r0
  obtain rfl : args = #[v0] := by cases args; simp_all
  obtain ⟨rfl, rfl⟩ := trodVars_none hV
  have k0' := h0
  have lt0 : ∀ x ∈ p0, x.block < W.heap.size := by obtain ⟨m, hm⟩ := k0'; exact DataW.trod_lt m _ _ _ hm
  obtain ⟨a0, rfl, rfl, rfl, w0⟩ := open_int Tryd.underlying3 (hval 0 3 v0 rfl rfl) h0
  clear hA0
  simp only [List.append_nil] at hW'
  refine (walk a0 W w0 (tab_of_laid hL)).mono fun e W' ⟨he, bel⟩ => ?_
  subst he
  exact ⟨_, rfl, _, _, _, [], _, [], hW', trodAll_mk1 (shut_bool Tryd.underlying4 _), (trodAll_cons_mk (Below.trod laidOut (by kernel_rfl) (of_decide_eq_true (by kernel_rfl)) k0' bel lt0) trodAll_mk0), rfl, bel.frame _, fun h => by cases h⟩

theorem laid_met (os : Os) : laidMet Tryd.prog Rows.calendarBackRow.laid ((laidWorld os).forCall (fun _ _ => 0) ⟨#[], #[.int .i64 0], []⟩).memory :=
  laidMet_of_run' 8 (by kernel_rfl) (by kernel_rfl)
theorem reads (os : Os) {H : Type} (enc : TypeId × Value → H) : ∃ places, DataW.whole enc Tryd.prog ((laidWorld os).forCall (fun _ _ => 0) ⟨#[], #[.int .i64 0], []⟩).memory Tryd.f8.params.toList Rows.calendarBackSpec.vars false (#[.int .i64 0] : Array Value).toList 8 = some ([.lit (.int .i64 0)], [], places) :=
  ⟨[], by kernel_rfl⟩

set_option maxRecDepth 100000 in
theorem lifted (os : Os) (started : os.Started) (H : Type) (enc : TypeId × Value → H) (F : Stop.Interp) :
    ReturnsInHanded {} Tryd.checked os 8 .any ((OpenSpec.ofChange Rows.calendarBackSpec).preRow enc Tryd.prog Tryd.f8 Rows.calendarBackRow.domain false Rows.calendarBackRow.laid) (((OpenSpec.ofChange Rows.calendarBackSpec).at F).post enc Tryd.prog Tryd.f8 false true false false) := by
  obtain ⟨places, hx⟩ := reads os enc
  refine returnsInHanded_of_row (C := Tryd.checked) (s := OpenSpec.ofChange Rows.calendarBackSpec) own started (by kernel_rfl) Tryd.func8
    (witness_row_at (enc := enc) (C := Tryd.checked) false (laidWorld os) #[.int .i64 0] rfl (by kernel_rfl) (by kernel_rfl) (by kernel_rfl)
      (OpenSpec.preRow_of_cond 8 hx (by kernel_rfl) (fun k hk => by cases hk) (by kernel_rfl) (laid_met os))) ?_
  intro W base args ds gs before hval hW _ _ _ hL _ _
  exact contract H enc W base args ds gs before hval hW hL

theorem said : Rows.CalendarBackSaid :=
  OpenClaim.holds_of_cond 8 Tryd.f8 rfl rfl rfl rfl rfl rfl rfl ⟨rfl, rfl, rfl, rfl, rfl⟩ rfl rfl rfl rfl rfl (by kernel_rfl) Tryd.func8 (by kernel_rfl)
    (of_decide_eq_true (by kernel_rfl)) (by unfold Func.isWrapper; first | (rw [if_pos (by decide +kernel)]; kernel_rfl) | (rw [if_neg (by decide +kernel)]; exact ⟨rfl, rfl⟩))
    (fun os started H enc _ F => by rw [OpenClaim.pre_eq_preRow]; exact lifted os started H enc F)

theorem plain (f : FuncId) (fn : Func) (hf : Tryd.pinned.checked.prog.funcNamed "chargenet/chargenetlaw02.CalendarBack" = some f) (hfn : Tryd.pinned.checked.prog.funcs[f]? = some fn) :
    false = Tryd.pinned.checked.prog.looks [] ∧ ∀ (j : Nat) t, fn.params[j]? = some t → Tryd.pinned.checked.prog.wantsStandIn t = false := by
  obtain rfl : f = 8 := Option.some.inj ((show Tryd.prog.funcNamed "chargenet/chargenetlaw02.CalendarBack" = some 8 by kernel_rfl).symm.trans hf) |>.symm
  obtain rfl : fn = Tryd.f8 := (Option.some.inj (Tryd.func8.symm.trans hfn)).symm
  refine ⟨by kernel_rfl, fun j t ht => ?_⟩
  rw [Tryd.params8] at ht
  have hm : t ∈ [3] := by simpa using Array.mem_of_getElem? ht
  have hall : ([3].all fun u => !Tryd.prog.wantsStandIn u) = true := by kernel_rfl
  exact (show Tryd.prog.wantsStandIn t = false by simpa using List.all_eq_true.1 hall t hm)
end calendarBack

theorem calendarBack_holds : Rows.CalendarBackCardSaid :=
  Claim7.holds_tied_plain_at .later [] _ _ _ _ calendarBack.said (fun _ h => by cases h) (by kernel_rfl) (fun _ h => by cases h) calendarBack_row_tie rfl ⟨rfl, rfl⟩ (by kernel_rfl) rfl calendarBack.plain (by kernel_rfl)
#print axioms calendarBack_holds
end Go.Proofs.YtkimniggdnlliaaDoor
