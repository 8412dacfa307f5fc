/-
  The law CalendarLeast holds: for every input it returns true and leaves its arguments as they were, where the table of the months' lengths is as the program's text lays it.
-/
import Derived.Test.YtkimniggdnlliabDoorCalO
import Derived.Test.YtkimniggdnlliabDoorCalR
import Derived.WalkKit
import Derived.SevenTiedAt
namespace Go.Proofs.YtkimniggdnlliabDoor
namespace calendarLeast
open Go.ChangeShapes Go.WideShapes Go.ChangeAt Go.RowKit
open Cal
set_option linter.unusedVariables false

theorem walk (o0 : Int) (sm0 : Bool) (p1t p1d p1m : Int) (w : World)   (hT : Tab w) :
    Calls Tryd.prog 4 #[.agg #[.int .i64 o0, .bool sm0], .agg #[.int .i64 p1t, .int .i64 p1d, .int .i64 p1m]] w fun e w' => e = .returned (.bool true) ∧ Below w.heap.size w w' := by
  by_cases h : Asked o0 p1d p1m
  · by_cases ht : p1t < 0 ∨ 268435456 < p1t
    · exact least_err o0 sm0 p1t p1d p1m 2 w hT rfl (Lib.hid (fun X _ => next_range o0 p1t p1d p1m sm0 X h ht))
    · obtain ⟨a1, a2, a3, a4, a5, a6⟩ := h
      have D1 := Lib.hid (fun X hX => next_valid o0 sm0 p1t p1d p1m X hX a1 a2 (by omega) (by omega) a3 a4 a5 a6)
      by_cases hex : ∃ u, First o0 sm0 p1d p1m p1t u
      · obtain ⟨u, hu⟩ := hex
        rw [next_some hu] at D1
        exact least_ok o0 sm0 p1t p1d p1m u w hT a1 a2 (by omega) (by omega) a3 a4 hu D1
      · have hn : nextI o0 sm0 p1d p1m p1t = (0, 8) := by unfold nextI; rw [dif_neg hex]
        rw [hn] at D1
        exact least_err o0 sm0 p1t p1d p1m 8 w hT rfl D1
  · exact least_err o0 sm0 p1t p1d p1m 1 w hT rfl (Lib.hid (fun X _ => next_bad o0 p1t p1d p1m sm0 X h))

theorem contract (H : Type) (enc : TypeId × Value → H) (W : World) (base : Nat) (args : Array Value) (ds gs : List (DataW H)) (before : List MemPlace)
    (hval : ∀ (j : Nat) t v, Tryd.f4.params[j]? = some t → args[j]? = some v → Value.okWide Tryd.prog W .any base t v)
    (hW : DataW.Whole enc Tryd.prog Tryd.f4.params.toList Rows.calendarLeastSpec.vars false W args.toList ds gs before) (hL : laidMetH Tryd.prog Rows.calendarLeastRow.laid W) :
    Calls Tryd.prog 4 args W fun e W' => ∃ v, e = .returned v ∧ Rows.calendarLeastSpec.post enc Tryd.prog Tryd.f4 false true false false W args v W' := by
  have hW' := hW
  obtain ⟨p, q, hA0, hV, rfl, hfz, hnd⟩ := hW
  have hA : DataW.TrodAll enc Tryd.prog W 0 (fun _ => true) true Tryd.f4.params.toList args.toList ds p := hA0
  rw [Tryd.params4] at hA hval
  obtain ⟨v0, vs0, d0, ds0, p0, q0, hargs, rfl, rfl, h0, r0⟩ := trodAll_cons hA
  obtain ⟨v1, vs1, d1, ds1, p1, q1, rfl, rfl, rfl, h1, r1⟩ := trodAll_cons r0
  obtain ⟨rfl, rfl, rfl⟩ := trodAll_nil r1
  obtain rfl : args = #[v0, v1] := by cases args; simp_all
  obtain ⟨rfl, rfl⟩ := trodVars_none hV
  have k0' := h0
  have lt0 : ∀ x ∈ p0, x.block < W.heap.size := by obtain ⟨m, hm⟩ := k0'; exact DataW.trod_lt m _ _ _ hm
  have k1' := h1
  have lt1 : ∀ x ∈ p1, x.block < W.heap.size := by obtain ⟨m, hm⟩ := k1'; exact DataW.trod_lt m _ _ _ hm
  obtain ⟨o0, sm0, rfl⟩ := zone_form (hval 0 23 v0 rfl rfl) h0
  obtain ⟨p1t, p1d, p1m, rfl⟩ := ask_form (hval 1 34 v1 rfl rfl) h1
  clear hA0
  simp only [List.append_nil] at hW'
  refine (walk o0 sm0 p1t p1d p1m W   (tab_of_laid hL)).mono fun e W' ⟨he, bel⟩ => ?_
  subst he
  exact ⟨_, rfl, _, _, _, [], _, [], hW', trodAll_mk1 (shut_bool Tryd.underlying4 _), (trodAll_cons_mk (Below.trod laidOut (by kernel_rfl) (of_decide_eq_true (by kernel_rfl)) k0' bel lt0) (trodAll_cons_mk (Below.trod laidOut (by kernel_rfl) (of_decide_eq_true (by kernel_rfl)) k1' bel lt1) trodAll_mk0)), rfl, bel.frame _, fun h => by cases h⟩

theorem laid_met (os : Os) : laidMet Tryd.prog Rows.calendarLeastRow.laid ((laidWorld os).forCall (fun _ _ => 0) ⟨#[], #[.agg #[.int .i64 0, .bool false], .agg #[.int .i64 0, .int .i64 0, .int .i64 0]], []⟩).memory :=
  laidMet_of_run' 8 (by kernel_rfl) (by kernel_rfl)
theorem reads (os : Os) {H : Type} (enc : TypeId × Value → H) : ∃ places, DataW.whole enc Tryd.prog ((laidWorld os).forCall (fun _ _ => 0) ⟨#[], #[.agg #[.int .i64 0, .bool false], .agg #[.int .i64 0, .int .i64 0, .int .i64 0]], []⟩).memory Tryd.f4.params.toList Rows.calendarLeastSpec.vars false (#[.agg #[.int .i64 0, .bool false], .agg #[.int .i64 0, .int .i64 0, .int .i64 0]] : Array Value).toList 8 = some ([.agg [.lit (.int .i64 0), .lit (.bool false)], .agg [.lit (.int .i64 0), .lit (.int .i64 0), .lit (.int .i64 0)]], [], places) :=
  ⟨[], by kernel_rfl⟩

set_option maxRecDepth 100000 in
theorem lifted (os : Os) (started : os.Started) (H : Type) (enc : TypeId × Value → H) (F : Stop.Interp) :
    ReturnsInHanded {} Tryd.checked os 4 .any ((OpenSpec.ofChange Rows.calendarLeastSpec).preRow enc Tryd.prog Tryd.f4 Rows.calendarLeastRow.domain false Rows.calendarLeastRow.laid) (((OpenSpec.ofChange Rows.calendarLeastSpec).at F).post enc Tryd.prog Tryd.f4 false true false false) := by
  obtain ⟨places, hx⟩ := reads os enc
  refine returnsInHanded_of_row (C := Tryd.checked) (s := OpenSpec.ofChange Rows.calendarLeastSpec) own started (by kernel_rfl) Tryd.func4
    (witness_row_at (enc := enc) (C := Tryd.checked) false (laidWorld os) #[.agg #[.int .i64 0, .bool false], .agg #[.int .i64 0, .int .i64 0, .int .i64 0]] rfl (by kernel_rfl) (by kernel_rfl) (by kernel_rfl)
      (OpenSpec.preRow_of_cond 8 hx (by kernel_rfl) (fun k hk => by cases hk) (by kernel_rfl) (laid_met os))) ?_
  intro W base args ds gs before hval hW _ _ _ hL _ _
  exact contract H enc W base args ds gs before hval hW hL

theorem said : Rows.CalendarLeastSaid :=
  OpenClaim.holds_of_cond 4 Tryd.f4 rfl rfl rfl rfl rfl rfl rfl ⟨rfl, rfl, rfl, rfl, rfl⟩ rfl rfl rfl rfl rfl (by kernel_rfl) Tryd.func4 (by kernel_rfl)
    (of_decide_eq_true (by kernel_rfl)) (by unfold Func.isWrapper; first | (rw [if_pos (by decide +kernel)]; kernel_rfl) | (rw [if_neg (by decide +kernel)]; exact ⟨rfl, rfl⟩))
    (fun os started H enc _ F => by rw [OpenClaim.pre_eq_preRow]; exact lifted os started H enc F)

theorem plain (f : FuncId) (fn : Func) (hf : Tryd.pinned.checked.prog.funcNamed "chargenet/chargenetlaw02.CalendarLeast" = some f) (hfn : Tryd.pinned.checked.prog.funcs[f]? = some fn) :
    false = Tryd.pinned.checked.prog.looks [] ∧ ∀ (j : Nat) t, fn.params[j]? = some t → Tryd.pinned.checked.prog.wantsStandIn t = false := by
  obtain rfl : f = 4 := Option.some.inj ((show Tryd.prog.funcNamed "chargenet/chargenetlaw02.CalendarLeast" = some 4 by kernel_rfl).symm.trans hf) |>.symm
  obtain rfl : fn = Tryd.f4 := (Option.some.inj (Tryd.func4.symm.trans hfn)).symm
  refine ⟨by kernel_rfl, fun j t ht => ?_⟩
  rw [Tryd.params4] at ht
  have hm : t ∈ [23, 34] := by simpa using Array.mem_of_getElem? ht
  have hall : ([23, 34].all fun u => !Tryd.prog.wantsStandIn u) = true := by kernel_rfl
  exact (show Tryd.prog.wantsStandIn t = false by simpa using List.all_eq_true.1 hall t hm)
end calendarLeast

theorem calendarLeast_holds : Rows.CalendarLeastCardSaid :=
  Claim7.holds_tied_plain_at .later [] _ _ _ _ calendarLeast.said (fun _ h => by cases h) (by kernel_rfl) (fun _ h => by cases h) calendarLeast_row_tie rfl ⟨rfl, rfl⟩ (by kernel_rfl) rfl calendarLeast.plain (by kernel_rfl)
#print axioms calendarLeast_holds
end Go.Proofs.YtkimniggdnlliabDoor
