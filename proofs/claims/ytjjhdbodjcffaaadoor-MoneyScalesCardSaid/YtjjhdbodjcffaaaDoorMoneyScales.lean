/-
  The law MoneyScales holds: for every input it returns true and leaves its arguments as they were, where the library's variables are as its text lays them.
-/
import Derived.Test.YtjjhdbodjcffaaaDoorMonAC
namespace Go.Proofs.YtjjhdbodjcffaaaDoor
namespace moneyScales
open Go.ChangeShapes Go.WideShapes Go.ChangeAt Go.RowKit Go.Deep
open Go.ChangeMaps (open_string shut_string)
open IntWalk
set_option linter.unusedVariables false

theorem self_scale (a d m : Int) (ha : I64 a) (hd : 1 ≤ d) (m0 : 1 ≤ m) (m1 : m ≤ 4) : scV a d d m = a ∧ scE a d d m = 0 := by
  obtain ⟨a0, a1⟩ := ha
  have hab : ab d = d := by unfold ab; rw [if_neg (by omega)]
  have hq : ab a * d / d = ab a := Int.mul_ediv_cancel _ (by omega)
  have hr : ab a * d % d = 0 := Int.mul_emod_left _ _
  have hQ : scQ a d d m = ab a := by unfold scQ; rw [hab, hq, hr, up_zero _ _ _ (by omega)]; simp
  have hN : scN a d = decide (a < 0) := by unfold scN; rw [show decide (d < 0) = false by simp; omega]; simp
  unfold scV scE
  rw [if_neg (by omega), if_neg (by omega), if_neg (by omega), if_neg (by omega), hQ, hN]
  by_cases h : a < 0
  · have : ab a = -a := by unfold ab; rw [if_pos h]
    unfold finV finE
    rw [show decide (a < 0) = true by simpa using h, if_pos rfl, if_pos rfl, this, if_pos (by omega), if_pos (by omega)]
    exact ⟨by omega, rfl⟩
  · have : ab a = a := by unfold ab; rw [if_neg h]
    unfold finV finE
    rw [show decide (a < 0) = false by simpa using h]
    simp only [Bool.false_eq_true, if_false]
    rw [this, if_pos (by omega), if_pos (by omega)]
    exact ⟨rfl, rfl⟩
theorem box_cells (w w1 : World) (a b c d : Value) (h : Below (w.heap.size + 1) (w.alloc (.cells #[a, b, c, d] 29)) w1) :
    w1.cell? ⟨w.heap.size, 0, none⟩ = some a ∧ w1.cell? ⟨w.heap.size, 1, none⟩ = some b ∧ w1.cell? ⟨w.heap.size, 2, none⟩ = some c ∧ w1.cell? ⟨w.heap.size, 3, none⟩ = some d := by
  have hb := h.block w.heap.size (by omega)
  rw [heap_alloc_new] at hb
  exact ⟨cell_of_row w1 w.heap.size 0 _ _ (0, 0) hb, cell_of_row w1 w.heap.size 1 _ _ (0, 0) hb, cell_of_row w1 w.heap.size 2 _ _ (0, 0) hb, cell_of_row w1 w.heap.size 3 _ _ (0, 0) hb⟩
set_option maxHeartbeats 2000000 in
theorem walk (a n d m : Int) (w : World) (h : Four a n d m) (hT : Tabs w) :
    Calls Tryd.prog 5 #[.agg #[.int .i64 a, .int .i64 n, .int .i64 d, .int .i64 m]] w fun e w' => e = .returned (.bool true) ∧ Below w.heap.size w w' := by
  have HT := Lib.hid hT
  have HH := Lib.hid h
  have C1 := Lib.hid (fun W => scale_all a n d m W h)
  have C2 := Lib.hid (fun W => rscale_all a n d m W h)
  clear h hT
  obtain ⟨V, hV⟩ : ∃ V, V = scV a n d m := ⟨_, rfl⟩
  obtain ⟨E, hE⟩ : ∃ E, E = scE a n d m := ⟨_, rfl⟩
  rw [← hV, ← hE] at C1 C2
  clear hV hE
  have BB : Hid (∀ k, Below w.heap.size w ((w.alloc (.cells #[.int .i64 a, .int .i64 n, .int .i64 d, .int .i64 m] 29)).drewN k)) := Lib.hid (fun k => b_draws ((Below.refl _ _).alloc (Nat.le_refl _) _) k)
  by_cases hok : 1 ≤ d ∧ 1 ≤ m ∧ m ≤ 4
  · obtain ⟨d0, m0, m1⟩ := hok
    have C3 := Lib.hid (fun W => scale_all a d d m W ⟨HH.out.a0, HH.out.a1, HH.out.d0, HH.out.d1, HH.out.d0, HH.out.d1, HH.out.m0, HH.out.m1⟩)
    obtain ⟨s1, s2⟩ := self_scale a d m ⟨HH.out.a0, HH.out.a1⟩ d0 m0 m1
    rw [s1, s2] at C3
    clear s1 s2
    go_enter Tryd.func5, Tryd.ntmps5
    go_wp2_with fail
    refine (C1.out _).mono ?_
    rintro e w1 ⟨rfl, k1, rfl⟩
    go_wp2_with fail
    refine (C2.out _).mono ?_
    rintro e w1 ⟨rfl, k2, rfl⟩
    go_wp2_with fail
    refine (C3.out _).mono ?_
    rintro e w1 ⟨rfl, k3, rfl⟩
    have B1 := Lib.hid (BB.out (k1 + k2 + k3))
    go_wp2_with fail
    refine (awake_run _ (HT.out.below B1.out)).mono ?_
    rintro e wx ⟨rfl, gx⟩
    go_wp2_with fail
    go_ret
    exact ⟨rfl, bt B1.out gx⟩
  · have hz : d < 1 ∨ (¬ d < 1 ∧ m < 1) ∨ (¬ d < 1 ∧ ¬ m < 1 ∧ 4 < m) := by omega
    clear hok
    rcases hz with z1 | ⟨z1, z2⟩ | ⟨z1, z2, z3⟩
    all_goals
      go_enter Tryd.func5, Tryd.ntmps5
      go_wp2_with fail
      refine (C1.out _).mono ?_
      rintro e w1 ⟨rfl, k1, rfl⟩
      go_wp2_with fail
      refine (C2.out _).mono ?_
      rintro e w1 ⟨rfl, k2, rfl⟩
      have B1 := Lib.hid (BB.out (k1 + k2))
      go_wp2_with fail
      refine (awake_run _ (HT.out.below B1.out)).mono ?_
      rintro e wx ⟨rfl, gx⟩
      go_wp2_with fail
      go_ret
      exact ⟨rfl, bt B1.out gx⟩

set_option maxRecDepth 100000 in
theorem contract (H : Type) (enc : TypeId × Value → H) (W : World) (base : Nat) (args : Array Value) (ds gs : List (DataW H)) (before : List MemPlace)
    (hval : ∀ (j : Nat) t v, Tryd.f5.params[j]? = some t → args[j]? = some v → Value.okWide Tryd.prog W .any base t v)
    (hW : DataW.Whole enc Tryd.prog Tryd.f5.params.toList Rows.moneyScalesSpec.vars false W args.toList ds gs before) (hL : laidMetH Tryd.prog Rows.moneyScalesRow.laid W) :
    Calls Tryd.prog 5 args W fun e W' => ∃ v, e = .returned v ∧ Rows.moneyScalesSpec.post enc Tryd.prog Tryd.f5 false true false false W args v W' := by
  have hW' := hW
  obtain ⟨p, q, hA0, hV, rfl, hfz, hnd⟩ := hW
  have hA : DataW.TrodAll enc Tryd.prog W 0 (fun _ => true) true Tryd.f5.params.toList args.toList ds p := hA0
  rw [Tryd.params5] at hA hval
  obtain ⟨v0, vs0, d0, ds0, p0, q0, hargs, rfl, rfl, h0, r0⟩ := trodAll_cons hA
  obtain ⟨rfl, rfl, rfl⟩ := trodAll_nil r0
  obtain rfl : args = #[v0] := by cases args; simp_all
  obtain ⟨rfl, rfl⟩ := trodVars_none hV
  have k0' := h0
  have lt0 : ∀ x ∈ p0, x.block < W.heap.size := by obtain ⟨m, hm⟩ := k0'; exact DataW.trod_lt m _ _ _ hm
  obtain ⟨y0, y0a, y0b, y0c, rfl, b0⟩ := prod_form (hval 0 29 v0 rfl rfl) h0
  clear hA0
  simp only [List.append_nil] at hW'
  refine (walk y0 y0a y0b y0c W b0 (tabs_of_laid hL)).mono fun e W' ⟨he, bel⟩ => ?_
  subst he
  exact ⟨_, rfl, _, _, _, [], _, [], hW', trodAll_mk1 (shut_bool Tryd.underlying4 _), (trodAll_cons_mk (Below.trod laidOut (by kernel_rfl) (of_decide_eq_true (by kernel_rfl)) k0' bel lt0) trodAll_mk0), rfl, bel.frame _, fun h => by cases h⟩

noncomputable def lawWorld (os : Os) : World := World.laidAll Tryd.prog os Rows.moneyScalesRow.laid
theorem laid_met (os : Os) : laidMet Tryd.prog Rows.moneyScalesRow.laid ((lawWorld os).forCall (fun _ _ => 0) ⟨#[], #[.agg #[.int .i64 0, .int .i64 0, .int .i64 0, .int .i64 0]], []⟩).memory :=
  laidMet_laidAll _ (by kernel_rfl) (by kernel_rfl)
theorem reads (os : Os) {H : Type} (enc : TypeId × Value → H) : ∃ places, DataW.whole enc Tryd.prog ((lawWorld os).forCall (fun _ _ => 0) ⟨#[], #[.agg #[.int .i64 0, .int .i64 0, .int .i64 0, .int .i64 0]], []⟩).memory Tryd.f5.params.toList Rows.moneyScalesSpec.vars false (#[.agg #[.int .i64 0, .int .i64 0, .int .i64 0, .int .i64 0]] : Array Value).toList 8 = some ([.agg [.lit (.int .i64 0), .lit (.int .i64 0), .lit (.int .i64 0), .lit (.int .i64 0)]], [], places) :=
  ⟨[], by kernel_rfl⟩

theorem fits (os : Os) : Input.okWideB Tryd.checked.prog ((lawWorld os).forCall (fun _ _ => 0) ⟨#[], #[.agg #[.int .i64 0, .int .i64 0, .int .i64 0, .int .i64 0]], []⟩) 5 ⟨#[], #[.agg #[.int .i64 0, .int .i64 0, .int .i64 0, .int .i64 0]], []⟩ = true := by kernel_rfl

set_option maxRecDepth 100000 in
theorem lifted (os : Os) (started : os.Started) (H : Type) (enc : TypeId × Value → H) (F : Stop.Interp) :
    ReturnsInHanded {} Tryd.checked os 5 .any ((OpenSpec.ofChange Rows.moneyScalesSpec).preRow enc Tryd.prog Tryd.f5 Rows.moneyScalesRow.domain false Rows.moneyScalesRow.laid) (((OpenSpec.ofChange Rows.moneyScalesSpec).at F).post enc Tryd.prog Tryd.f5 false true false false) := by
  obtain ⟨places, hx⟩ := reads os enc
  refine returnsInHanded_of_row (C := Tryd.checked) (s := OpenSpec.ofChange Rows.moneyScalesSpec) own started (by kernel_rfl) Tryd.func5
    ⟨lawWorld os, fun _ _ => 0, ⟨#[], #[.agg #[.int .i64 0, .int .i64 0, .int .i64 0, .int .i64 0]], []⟩, World.laidAll_os _ _ _, World.shaped_of_ZipB (by kernel_rfl) (by kernel_rfl), (Input.okWide_of_okWideB (base := 0) (fits os)).1, (Input.okWide_of_okWideB (fits os)).2,
      OpenSpec.preRow_of_cond 8 hx (by kernel_rfl) (fun k hk => by cases hk) (by kernel_rfl) (laid_met os), by
        simp only [Assume.holds]
        exact ⟨by simp, by simp, fun _ => Modest.zero, by simp, by simp⟩⟩ ?_
  intro W base args ds gs before hval hW _ _ _ hL _ _
  exact contract H enc W base args ds gs before hval hW hL

theorem said : Rows.MoneyScalesSaid :=
  OpenClaim.holds_of_cond 5 Tryd.f5 rfl rfl rfl rfl rfl rfl rfl ⟨rfl, rfl, rfl, rfl, rfl⟩ rfl rfl rfl rfl rfl (by kernel_rfl) Tryd.func5 (by kernel_rfl)
    (of_decide_eq_true (by kernel_rfl)) (by unfold Func.isWrapper; first | (rw [if_pos (by decide +kernel)]; kernel_rfl) | (rw [if_neg (by decide +kernel)]; exact ⟨rfl, rfl⟩))
    (fun os started H enc _ F => by rw [OpenClaim.pre_eq_preRow]; exact lifted os started H enc F)

theorem plain (f : FuncId) (fn : Func) (hf : Tryd.pinned.checked.prog.funcNamed "chargenet/chargenetlaw03.MoneyScales" = some f) (hfn : Tryd.pinned.checked.prog.funcs[f]? = some fn) :
    true = Tryd.pinned.checked.prog.looks [] ∧ ∀ (j : Nat) t, fn.params[j]? = some t → Tryd.pinned.checked.prog.wantsStandIn t = false := by
  obtain rfl : f = 5 := Option.some.inj ((show Tryd.prog.funcNamed "chargenet/chargenetlaw03.MoneyScales" = some 5 by kernel_rfl).symm.trans hf) |>.symm
  obtain rfl : fn = Tryd.f5 := (Option.some.inj (Tryd.func5.symm.trans hfn)).symm
  refine ⟨by kernel_rfl, fun j t ht => ?_⟩
  rw [Tryd.params5] at ht
  have hm : t ∈ [29] := by simpa using Array.mem_of_getElem? ht
  have hall : ([29].all fun u => !Tryd.prog.wantsStandIn u) = true := by kernel_rfl
  exact (show Tryd.prog.wantsStandIn t = false by simpa using List.all_eq_true.1 hall t hm)
end moneyScales

theorem moneyScales_holds : Rows.MoneyScalesCardSaid :=
  Claim7.holds_tied_plain_at .later [] _ _ _ _ moneyScales.said (fun _ h => by cases h) (by kernel_rfl) (fun _ h => by cases h) moneyScales_row_tie rfl ⟨rfl, rfl⟩ (by kernel_rfl) rfl moneyScales.plain (by kernel_rfl)
#print axioms moneyScales_holds
end Go.Proofs.YtjjhdbodjcffaaaDoor
