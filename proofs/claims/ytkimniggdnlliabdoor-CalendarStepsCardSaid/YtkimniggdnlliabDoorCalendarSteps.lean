/-
  The law CalendarSteps holds: for every input it returns true and leaves its arguments as they were, where the table of the months' lengths is as the program's text lays it.
-/
import Derived.Test.YtkimniggdnlliabDoorCalO
import Derived.Test.YtkimniggdnlliabDoorCalQ0
import Derived.Test.YtkimniggdnlliabDoorCalQ1
import Derived.Test.YtkimniggdnlliabDoorCalQ2
import Derived.Test.YtkimniggdnlliabDoorCalQ3
import Derived.Test.YtkimniggdnlliabDoorCalQ4
import Derived.Test.YtkimniggdnlliabDoorCalQ5
import Derived.Test.YtkimniggdnlliabDoorCalQ6
import Derived.Test.YtkimniggdnlliabDoorCalQ7
import Derived.WalkKit
import Derived.SevenTiedAt
namespace Go.Proofs.YtkimniggdnlliabDoor
namespace calendarSteps
open Go.ChangeShapes Go.WideShapes Go.ChangeAt Go.RowKit
open Cal
set_option linter.unusedVariables false

theorem walk (o0 : Int) (sm0 : Bool) (a1 : Int) (w : World)  (w1 : (Lit.int .i64 a1).wf = true) (hT : Tab w) :
    Calls Tryd.prog 3 #[.agg #[.int .i64 o0, .bool sm0], .int .i64 a1] w fun e w' => e = .returned (.bool true) ∧ Below w.heap.size w w' := by
  by_cases hz : o0 < -840 ∨ 840 < o0
  · have D1 := Lib.hid (fun X (_ : Tab X) => local_zone o0 sm0 a1 X hz)
    unfold zeroV at D1
    exact stop_e o0 sm0 a1 _ _ _ _ _ 1 w hT rfl D1
  · by_cases ht : a1 < 0 ∨ 268435456 < a1
    · have D1 := Lib.hid (fun X (_ : Tab X) => local_range o0 sm0 a1 X (by omega) (by omega) ht)
      unfold zeroV at D1
      exact stop_e o0 sm0 a1 _ _ _ _ _ 2 w hT rfl D1
    · have z0 : -840 ≤ o0 := by omega
      have z1 : o0 ≤ 840 := by omega
      have D1 := Lib.hid (fun X hX => local_yes o0 sm0 a1 X hX z0 z1 (by omega) (by omega))
      by_cases hm : 268435456 ≤ a1
      · obtain ⟨Y, M, D, K, N, hV⟩ := dateV_agg (a1 + offI o0 sm0 a1)
        rw [hV] at D1
        exact stop_t o0 sm0 a1 _ _ _ _ _ w hT hm D1
      · have D2 := Lib.hid (fun X hX => local_yes o0 sm0 (a1 + 1) X hX z0 z1 (by omega) (by omega))
        have hV1 : dateV (a1 + offI o0 sm0 a1) = .agg #[.int .i64 (yr ((a1 + offI o0 sm0 a1) / 1440)), .int .i64 (mo ((a1 + offI o0 sm0 a1) / 1440)), .int .i64 (dy ((a1 + offI o0 sm0 a1) / 1440)), .int .i64 (wd ((a1 + offI o0 sm0 a1) / 1440)), .int .i64 ((a1 + offI o0 sm0 a1) % 1440)] := rfl
        have hV2 : dateV (a1 + 1 + offI o0 sm0 (a1 + 1)) = .agg #[.int .i64 (yr ((a1 + 1 + offI o0 sm0 (a1 + 1)) / 1440)), .int .i64 (mo ((a1 + 1 + offI o0 sm0 (a1 + 1)) / 1440)), .int .i64 (dy ((a1 + 1 + offI o0 sm0 (a1 + 1)) / 1440)), .int .i64 (wd ((a1 + 1 + offI o0 sm0 (a1 + 1)) / 1440)), .int .i64 ((a1 + 1 + offI o0 sm0 (a1 + 1)) % 1440)] := rfl
        rw [hV1] at D1
        rw [hV2] at D2
        clear hV1 hV2
        obtain ⟨p1, p2⟩ := offI_bd o0 sm0 a1
        obtain ⟨p3, p4⟩ := offI_bd o0 sm0 (a1 + 1)
        have OF := Lib.hid (fun s X hX => offset_any o0 sm0 s X hX)
        have hmin := ne_f (((a1 + offI o0 sm0 a1) % 1440 + 1 + (offI o0 sm0 (a1 + 1) - offI o0 sm0 a1) + 2880) % 1440) ((a1 + 1 + offI o0 sm0 (a1 + 1)) % 1440) (by omega)
        by_cases hb : offI o0 sm0 (a1 + 1) = offI o0 sm0 a1
        · have hbf := ne_f (offI o0 sm0 (a1 + 1) - offI o0 sm0 a1) 0 (by omega)
          obtain ⟨F, hF⟩ : ∃ F, F = offI o0 sm0 a1 := ⟨_, rfl⟩
          by_cases hp : 0 < (a1 + 1 + offI o0 sm0 (a1 + 1)) % 1440
          · have e1 : (a1 + 1 + offI o0 sm0 (a1 + 1)) / 1440 = (a1 + offI o0 sm0 a1) / 1440 := by rw [hb] at hp ⊢; rw [← hF] at hp ⊢; omega
            rw [e1] at D2
            exact same_day (offI o0 sm0) o0 sm0 a1 _ _ _ _ _ _ w hT (by omega) (by omega) D1 D2 OF p1 p2 p3 p4 hmin (by omega) (by omega) hbf hp
          · have e0 : (a1 + 1 + offI o0 sm0 (a1 + 1)) % 1440 = 0 := by omega
            have e1 : (a1 + 1 + offI o0 sm0 (a1 + 1)) / 1440 = (a1 + offI o0 sm0 a1) / 1440 + 1 := by rw [hb] at e0 ⊢; rw [← hF] at e0 ⊢; omega
            rw [e0] at hmin
            rw [e1, e0] at D2
            obtain ⟨d, hd⟩ : ∃ d, d = (a1 + offI o0 sm0 a1) / 1440 := ⟨_, rfl⟩
            have d0 : -1 ≤ d := by rw [hd]; omega
            have d1 : d ≤ 186500 := by rw [hd]; omega
            rw [← hd] at D1 D2
            obtain ⟨w1, w2⟩ := wd_bd d
            obtain ⟨k1, k2⟩ := dy_bd d (by omega) (by omega)
            have k3 := ml_bd (yr d) (mo d)
            obtain ⟨_, _, m1, m2, _, _⟩ := isC_civ d (by omega) (by omega)
            obtain ⟨y1, y2⟩ := yr_bd d (by omega) (by omega)
            have hw : wd (d + 1) = wd d % 7 + 1 := by unfold wd; omega
            rw [hw] at D2
            rcases next_day d (by omega) (by omega) with ⟨n1, n2, n3⟩ | ⟨n1, n2, ⟨n3, n4⟩ | ⟨n3, n4, n5⟩⟩
            · rw [n1, n2, n3] at D2
              exact next_a (offI o0 sm0) o0 sm0 a1 _ _ _ _ _ _ _ _ w hT (by omega) (by omega) D1 D2 OF p1 p2 p3 p4 hmin (by omega) (by omega) hbf w1 w2 (by omega) (by omega) (eq_t _ _ rfl) (eq_t _ _ rfl) (by decide)
            · rw [n1, n3, n4] at D2
              exact next_b (offI o0 sm0) o0 sm0 a1 _ _ _ _ _ _ _ _ w hT (by omega) (by omega) D1 D2 OF p1 p2 p3 p4 hmin (by omega) (by omega) hbf w1 w2 n2 (by omega) m1 m2 (eq_f _ _ (by omega)) (eq_t _ _ rfl) (eq_t _ _ rfl) (by decide)
            · rw [n1, n3, n5] at D2
              rw [n4] at D1
              exact next_c (offI o0 sm0) o0 sm0 a1 _ _ _ _ _ _ _ w hT (by omega) (by omega) D1 D2 OF p1 p2 p3 p4 hmin (by omega) (by omega) hbf w1 w2 n2 (by omega) y1 y2 (eq_f _ _ (by omega)) (eq_t _ _ rfl) (eq_t _ _ rfl) (by decide)
        · cases sm0 with
          | false => rw [offI_false _ _ z0 z1, offI_false _ _ z0 z1] at hb; exact absurd rfl hb
          | true =>
            have hch : summerB (a1 + 1) ≠ summerB a1 := fun e => hb (by unfold offI; rw [e])
            obtain ⟨y, m, hm2, hS⟩ := change_at a1 (by omega) (by omega) hch
            obtain ⟨q1, q2⟩ := sunday_date y m hm2
            obtain ⟨_, _, q3⟩ := sunday_in y m hm2
            have D3 := Lib.hid (fun X hX => date_yes (a1 + 1) X hX (by omega) (by omega))
            have e1 : (a1 + 1) / 1440 = sunday y m := by omega
            have e2 : (a1 + 1) % 1440 = 60 := by omega
            have hV : dateV (a1 + 1) = .agg #[.int .i64 (yr (sunday y m)), .int .i64 m, .int .i64 (dy (sunday y m)), .int .i64 7, .int .i64 60] := by
              unfold dateV dateOf; rw [e1, e2, q1, q3]
            rw [hV] at D3
            rcases offI_true o0 a1 z0 z1 with f1 | f1 <;> rcases offI_true o0 (a1 + 1) z0 z1 with f2 | f2
            · exact absurd (f2.trans f1.symm) hb
            · rcases hm2 with rfl | rfl
              · exact up_3 (offI o0 true) o0 a1 _ _ _ _ _ _ _ _ _ _ _ _ w hT (by omega) (by omega) D1 D2 OF p1 p2 p3 p4 hmin (by omega) (by omega) (by omega) q2 D3
              · exact up_10 (offI o0 true) o0 a1 _ _ _ _ _ _ _ _ _ _ _ _ w hT (by omega) (by omega) D1 D2 OF p1 p2 p3 p4 hmin (by omega) (by omega) (by omega) q2 D3
            · rcases hm2 with rfl | rfl
              · exact down_3 (offI o0 true) o0 a1 _ _ _ _ _ _ _ _ _ _ _ _ w hT (by omega) (by omega) D1 D2 OF p1 p2 p3 p4 hmin (by omega) (by omega) (by omega) q2 D3
              · exact down_10 (offI o0 true) o0 a1 _ _ _ _ _ _ _ _ _ _ _ _ w hT (by omega) (by omega) D1 D2 OF p1 p2 p3 p4 hmin (by omega) (by omega) (by omega) q2 D3
            · exact absurd (f2.trans f1.symm) hb

theorem contract (H : Type) (enc : TypeId × Value → H) (W : World) (base : Nat) (args : Array Value) (ds gs : List (DataW H)) (before : List MemPlace)
    (hval : ∀ (j : Nat) t v, Tryd.f3.params[j]? = some t → args[j]? = some v → Value.okWide Tryd.prog W .any base t v)
    (hW : DataW.Whole enc Tryd.prog Tryd.f3.params.toList Rows.calendarStepsSpec.vars false W args.toList ds gs before) (hL : laidMetH Tryd.prog Rows.calendarStepsRow.laid W) :
    Calls Tryd.prog 3 args W fun e W' => ∃ v, e = .returned v ∧ Rows.calendarStepsSpec.post enc Tryd.prog Tryd.f3 false true false false W args v W' := by
  have hW' := hW
  obtain ⟨p, q, hA0, hV, rfl, hfz, hnd⟩ := hW
  have hA : DataW.TrodAll enc Tryd.prog W 0 (fun _ => true) true Tryd.f3.params.toList args.toList ds p := hA0
  rw [Tryd.params3] at hA hval
  obtain ⟨v0, vs0, d0, ds0, p0, q0, hargs, rfl, rfl, h0, r0⟩ := trodAll_cons hA
  obtain ⟨v1, vs1, d1, ds1, p1, q1, rfl, rfl, rfl, h1, r1⟩ := trodAll_cons r0
  obtain ⟨rfl, rfl, rfl⟩ := trodAll_nil r1
  obtain rfl : args = #[v0, v1] := by cases args; simp_all
  obtain ⟨rfl, rfl⟩ := trodVars_none hV
  have k0' := h0
  have lt0 : ∀ x ∈ p0, x.block < W.heap.size := by obtain ⟨m, hm⟩ := k0'; exact DataW.trod_lt m _ _ _ hm
  have k1' := h1
  have lt1 : ∀ x ∈ p1, x.block < W.heap.size := by obtain ⟨m, hm⟩ := k1'; exact DataW.trod_lt m _ _ _ hm
  obtain ⟨o0, sm0, rfl⟩ := zone_form (hval 0 23 v0 rfl rfl) h0
  obtain ⟨a1, rfl, rfl, rfl, w1⟩ := open_int Tryd.underlying3 (hval 1 3 v1 rfl rfl) h1
  clear hA0
  simp only [List.append_nil] at hW'
  refine (walk o0 sm0 a1 W  w1 (tab_of_laid hL)).mono fun e W' ⟨he, bel⟩ => ?_
  subst he
  exact ⟨_, rfl, _, _, _, [], _, [], hW', trodAll_mk1 (shut_bool Tryd.underlying4 _), (trodAll_cons_mk (Below.trod laidOut (by kernel_rfl) (of_decide_eq_true (by kernel_rfl)) k0' bel lt0) (trodAll_cons_mk (Below.trod laidOut (by kernel_rfl) (of_decide_eq_true (by kernel_rfl)) k1' bel lt1) trodAll_mk0)), rfl, bel.frame _, fun h => by cases h⟩

theorem laid_met (os : Os) : laidMet Tryd.prog Rows.calendarStepsRow.laid ((laidWorld os).forCall (fun _ _ => 0) ⟨#[], #[.agg #[.int .i64 0, .bool false], .int .i64 0], []⟩).memory :=
  laidMet_of_run' 8 (by kernel_rfl) (by kernel_rfl)
theorem reads (os : Os) {H : Type} (enc : TypeId × Value → H) : ∃ places, DataW.whole enc Tryd.prog ((laidWorld os).forCall (fun _ _ => 0) ⟨#[], #[.agg #[.int .i64 0, .bool false], .int .i64 0], []⟩).memory Tryd.f3.params.toList Rows.calendarStepsSpec.vars false (#[.agg #[.int .i64 0, .bool false], .int .i64 0] : Array Value).toList 8 = some ([.agg [.lit (.int .i64 0), .lit (.bool false)], .lit (.int .i64 0)], [], places) :=
  ⟨[], by kernel_rfl⟩

set_option maxRecDepth 100000 in
theorem lifted (os : Os) (started : os.Started) (H : Type) (enc : TypeId × Value → H) (F : Stop.Interp) :
    ReturnsInHanded {} Tryd.checked os 3 .any ((OpenSpec.ofChange Rows.calendarStepsSpec).preRow enc Tryd.prog Tryd.f3 Rows.calendarStepsRow.domain false Rows.calendarStepsRow.laid) (((OpenSpec.ofChange Rows.calendarStepsSpec).at F).post enc Tryd.prog Tryd.f3 false true false false) := by
  obtain ⟨places, hx⟩ := reads os enc
  refine returnsInHanded_of_row (C := Tryd.checked) (s := OpenSpec.ofChange Rows.calendarStepsSpec) own started (by kernel_rfl) Tryd.func3
    (witness_row_at (enc := enc) (C := Tryd.checked) false (laidWorld os) #[.agg #[.int .i64 0, .bool false], .int .i64 0] rfl (by kernel_rfl) (by kernel_rfl) (by kernel_rfl)
      (OpenSpec.preRow_of_cond 8 hx (by kernel_rfl) (fun k hk => by cases hk) (by kernel_rfl) (laid_met os))) ?_
  intro W base args ds gs before hval hW _ _ _ hL _ _
  exact contract H enc W base args ds gs before hval hW hL

theorem said : Rows.CalendarStepsSaid :=
  OpenClaim.holds_of_cond 3 Tryd.f3 rfl rfl rfl rfl rfl rfl rfl ⟨rfl, rfl, rfl, rfl, rfl⟩ rfl rfl rfl rfl rfl (by kernel_rfl) Tryd.func3 (by kernel_rfl)
    (of_decide_eq_true (by kernel_rfl)) (by unfold Func.isWrapper; first | (rw [if_pos (by decide +kernel)]; kernel_rfl) | (rw [if_neg (by decide +kernel)]; exact ⟨rfl, rfl⟩))
    (fun os started H enc _ F => by rw [OpenClaim.pre_eq_preRow]; exact lifted os started H enc F)

theorem plain (f : FuncId) (fn : Func) (hf : Tryd.pinned.checked.prog.funcNamed "chargenet/chargenetlaw02.CalendarSteps" = some f) (hfn : Tryd.pinned.checked.prog.funcs[f]? = some fn) :
    false = Tryd.pinned.checked.prog.looks [] ∧ ∀ (j : Nat) t, fn.params[j]? = some t → Tryd.pinned.checked.prog.wantsStandIn t = false := by
  obtain rfl : f = 3 := Option.some.inj ((show Tryd.prog.funcNamed "chargenet/chargenetlaw02.CalendarSteps" = some 3 by kernel_rfl).symm.trans hf) |>.symm
  obtain rfl : fn = Tryd.f3 := (Option.some.inj (Tryd.func3.symm.trans hfn)).symm
  refine ⟨by kernel_rfl, fun j t ht => ?_⟩
  rw [Tryd.params3] at ht
  have hm : t ∈ [23, 3] := by simpa using Array.mem_of_getElem? ht
  have hall : ([23, 3].all fun u => !Tryd.prog.wantsStandIn u) = true := by kernel_rfl
  exact (show Tryd.prog.wantsStandIn t = false by simpa using List.all_eq_true.1 hall t hm)
end calendarSteps

theorem calendarSteps_holds : Rows.CalendarStepsCardSaid :=
  Claim7.holds_tied_plain_at .later [] _ _ _ _ calendarSteps.said (fun _ h => by cases h) (by kernel_rfl) (fun _ h => by cases h) calendarSteps_row_tie rfl ⟨rfl, rfl⟩ (by kernel_rfl) rfl calendarSteps.plain (by kernel_rfl)
#print axioms calendarSteps_holds
end Go.Proofs.YtkimniggdnlliabDoor
