/-
  The law WindowConstant holds: for every input it returns true and leaves its arguments as they were, where the table of the months' lengths is as the program's text lays it.
-/
import Derived.Test.YtmapkiefmbgdoaaDoorWinW
import Derived.Deep.RegionHeld3
import Derived.WalkKit
import Derived.SevenTiedAt
namespace Go.Proofs.YtmapkiefmbgdoaaDoor
namespace windowConstant
open Go.ChangeShapes Go.WideShapes Go.ChangeAt Go.RowKit
open Cal
set_option linter.unusedVariables false
theorem const_from {H : Int → Bool} {a b : Int} (h : ∀ v, a < v → v < b → H v = H (v - 1)) : ∀ v, a ≤ v → v < b → H v = H a := by
  have key : ∀ n : Nat, a + n < b → H (a + n) = H a := by
    intro n
    induction n with
    | zero => intro _; simp
    | succ n ih =>
      intro hn
      rw [h _ (by omega) hn, show a + ((n + 1 : Nat) : Int) - 1 = a + n by omega]
      exact ih (by omega)
  intro v h1 h2
  have := key (v - a).toNat (by omega)
  rwa [show a + ((v - a).toNat : Int) = v by omega] at this
theorem nxI_facts (d s e f u o : Int) (sm : Bool) (t : Int) (h0 : 0 ≤ t) (h1 : t ≤ 268435456) :
    (nxI d s e f u o sm t = -1 ∧ ∀ v, t ≤ v → v < 268435457 → hol d s e f u o sm v = hol d s e f u o sm t) ∨
    (t < nxI d s e f u o sm t ∧ nxI d s e f u o sm t ≤ 268435456 ∧ hol d s e f u o sm (nxI d s e f u o sm t) ≠ hol d s e f u o sm (nxI d s e f u o sm t - 1) ∧ ∀ v, t ≤ v → v < nxI d s e f u o sm t → hol d s e f u o sm v = hol d s e f u o sm t) := by
  by_cases h : OkW d s e f u ∧ -840 ≤ o ∧ o ≤ 840
  · have e1 : nxI d s e f u o sm t = nxt (hB d s e f u o sm) t := by unfold nxI; rw [if_pos ⟨h, h0, h1⟩]
    have e2 : hol d s e f u o sm = hB d s e f u o sm := funext fun v => hol_yes h
    rw [e1, e2]
    rcases next_ex (sm := sm) h.1 h.2.1 h.2.2 h0 h1 with ⟨a, b⟩ | ⟨a, b, c, g⟩
    · exact .inl ⟨a, const_from fun v v1 v2 => b v v1 (by omega)⟩
    · exact .inr ⟨a, b, c, const_from g⟩
  · refine .inl ⟨?_, fun v _ _ => by rw [hol_no h, hol_no h]⟩
    unfold nxI; rw [if_neg fun x => h x.1]

set_option maxRecDepth 100000 in
set_option maxHeartbeats 8000000 in
theorem walk (d s e f u : Int) (o : Int) (sm : Bool) (t : Int) (w : World) (wt : (Lit.int .i64 t).wf = true) (hT : Tab w) :
    Calls Tryd.prog 7 #[.agg #[.int .i64 d, .int .i64 s, .int .i64 e, .int .i64 f, .int .i64 u], .agg #[.int .i64 o, .bool sm], .int .i64 t] w fun e' w' => e' = .returned (.bool true) ∧ Below w.heap.size w w' := by
  have HT := Lib.hid hT
  clear hT
  have K0 := Lib.hid (KL.new w (.int .i64 d) (.int .i64 s) (.int .i64 e) (.int .i64 f) (.int .i64 u) (.int .i64 o) (.bool sm) 23 29)
  have CN := Lib.hid (fun X hX => next_any d s e f u o sm t X hX)
  by_cases ht : 0 ≤ t ∧ t ≤ 268435456
  · have CH := Lib.hid (fun v X hX => holds_any d s e f u o sm v X hX)
    obtain ⟨t0, t1⟩ := ht
    have FX := nxI_facts d s e f u o sm t t0 t1
    generalize nxI d s e f u o sm t = U at *
    generalize hol d s e f u o sm = H at *
    rcases FX with ⟨rfl, HC⟩ | ⟨u1, u2, u3, HC⟩
    · have HC := Lib.hid HC
      go_enter Tryd.func7, Tryd.ntmps7
      go_wp2_with fail
      refine (CN.out _ (HT.out.below K0.out.1)).mono ?_
      rintro e w1 ⟨rfl, g1⟩
      have PRE := Lib.hid (K0.out.below g1)
      clear g1 CN K0
      obtain ⟨-, -, c0, c1, c2, c3, c4, c5, c6⟩ := PRE.out
      go_wp2_with fail
      clear c0 c1 c2 c3 c4 c5 c6
      refine (CH.out t _ (HT.out.below PRE.out.1)).mono ?_
      rintro e wH ⟨rfl, gH⟩
      have KH := Lib.hid (PRE.out.below gH)
      clear gH
      obtain ⟨I, hI⟩ : ∃ I, H t = I := ⟨_, rfl⟩
      rw [hI] at HC
      rw [hI]
      clear hI
      go_wp2_with fail
      go_loopw [10] (fun v wr => ∃ V : Int, v = .int .i64 V ∧ t + 1 ≤ V ∧ V ≤ 268435457 + t ∧ Hid (KL w (.int .i64 d) (.int .i64 s) (.int .i64 e) (.int .i64 f) (.int .i64 u) (.int .i64 o) (.bool sm) wr)) (fun v _ => (536870915 - intOf v).toNat)
      case atStart => exact ⟨t + 1, rfl, Int.le_refl _, by omega, Lib.hid KH.out⟩
      case round =>
        obtain ⟨V, rfl, v1, v2, KR⟩ := hrel
        obtain ⟨-, -, c0, c1, c2, c3, c4, c5, c6⟩ := KR.out
        by_cases q1 : V < 268435457
        · by_cases q2 : V < t + 3000
          · go_wp2_with fail
            clear c0 c1 c2 c3 c4 c5 c6
            refine (CH.out V _ (HT.out.below KR.out.1)).mono ?_
            rintro e wr2 ⟨rfl, gr⟩
            have KR2 := Lib.hid (KR.out.below gr)
            clear gr
            have hv := HC.out V (by omega) q1
            rw [hv]
            clear hv
            cases I
            all_goals
              go_wp2_with fail
              go_roundw
              case rel => exact ⟨V + 1, rfl, by omega, by omega, KR2⟩
              case measure => simp [intOf]; omega
          · clear CH
            go_wp2_with fail
            refine (example_any _ (HT.out.below KR.out.1)).mono ?_
            rintro e wx ⟨rfl, gx⟩
            go_wp2_with fail
            go_ret
            exact ⟨rfl, b2 KR.out.1 gx⟩
        · clear CH
          go_wp2_with fail
          refine (example_any _ (HT.out.below KR.out.1)).mono ?_
          rintro e wx ⟨rfl, gx⟩
          go_wp2_with fail
          go_ret
          exact ⟨rfl, b2 KR.out.1 gx⟩
    · have HC := Lib.hid HC
      have wU : IntKind.i64.wrap (U - 1) = U - 1 := by rw [IntKind.wrap_i64]; omega
      have dE : (H U == H (U - 1)) = false := by simpa using u3
      have dU : decide (U ≤ t) = false := decide_eq_false (by omega)
      have dM : decide (268435456 < U) = false := decide_eq_false (by omega)
      have dN : (U == -1) = false := by simp; omega
      clear u3
      go_enter Tryd.func7, Tryd.ntmps7
      go_wp2_with fail
      refine (CN.out _ (HT.out.below K0.out.1)).mono ?_
      rintro e w1 ⟨rfl, g1⟩
      have S0 := K0.out.below g1
      clear g1 CN K0
      go_wp2_with fail
      go_region_held3 (fun X => Below w.heap.size w X ∧ w.heap.size + 1 < X.heap.size ∧ X.cell? ⟨w.heap.size, 0, none⟩ = some (.int .i64 d) ∧ X.cell? ⟨w.heap.size, 1, none⟩ = some (.int .i64 s) ∧ X.cell? ⟨w.heap.size, 2, none⟩ = some (.int .i64 e) ∧ X.cell? ⟨w.heap.size, 3, none⟩ = some (.int .i64 f) ∧ X.cell? ⟨w.heap.size, 4, none⟩ = some (.int .i64 u) ∧ X.cell? ⟨w.heap.size + 1, 0, none⟩ = some (.int .i64 o) ∧ X.cell? ⟨w.heap.size + 1, 1, none⟩ = some (.bool sm)) (first | assumption | exact KL.draws S0 _ | exact KL.drew (by assumption) | exact KL.below (by assumption) (by assumption))
        ((go_at_call 14; refine (CH.out _ _ (KL.tab HT.out (by assumption))).mono ?_; rintro ea wa ⟨rfl, ga⟩))
      have PRE := Lib.hid (show KL w (.int .i64 d) (.int .i64 s) (.int .i64 e) (.int .i64 f) (.int .i64 u) (.int .i64 o) (.bool sm) wa by assumption)
      clear S0
      go_wp2_with fail
      clear dE wU dU dM dN
      refine (CH.out t _ (HT.out.below PRE.out.1)).mono ?_
      rintro e wH ⟨rfl, gH⟩
      have KH := Lib.hid (PRE.out.below gH)
      clear gH
      obtain ⟨I, hI⟩ : ∃ I, H t = I := ⟨_, rfl⟩
      rw [hI] at HC
      rw [hI]
      clear hI
      go_wp2_with fail
      go_loopw [10] (fun v wr => ∃ V : Int, v = .int .i64 V ∧ t + 1 ≤ V ∧ V ≤ 268435457 + t ∧ Hid (KL w (.int .i64 d) (.int .i64 s) (.int .i64 e) (.int .i64 f) (.int .i64 u) (.int .i64 o) (.bool sm) wr)) (fun v _ => (536870915 - intOf v).toNat)
      case atStart => exact ⟨t + 1, rfl, Int.le_refl _, by omega, Lib.hid KH.out⟩
      case round =>
        obtain ⟨V, rfl, v1, v2, KR⟩ := hrel
        obtain ⟨-, -, c0, c1, c2, c3, c4, c5, c6⟩ := KR.out
        by_cases q1 : V < U
        · by_cases q2 : V < t + 3000
          · go_wp2_with fail
            clear c0 c1 c2 c3 c4 c5 c6
            refine (CH.out V _ (HT.out.below KR.out.1)).mono ?_
            rintro e wr2 ⟨rfl, gr⟩
            have KR2 := Lib.hid (KR.out.below gr)
            clear gr
            have hv := HC.out V (by omega) q1
            rw [hv]
            clear hv
            cases I
            all_goals
              go_wp2_with fail
              go_roundw
              case rel => exact ⟨V + 1, rfl, by omega, by omega, KR2⟩
              case measure => simp [intOf]; omega
          · clear CH
            go_wp2_with fail
            refine (example_any _ (HT.out.below KR.out.1)).mono ?_
            rintro e wx ⟨rfl, gx⟩
            go_wp2_with fail
            go_ret
            exact ⟨rfl, b2 KR.out.1 gx⟩
        · clear CH
          go_wp2_with fail
          refine (example_any _ (HT.out.below KR.out.1)).mono ?_
          rintro e wx ⟨rfl, gx⟩
          go_wp2_with fail
          go_ret
          exact ⟨rfl, b2 KR.out.1 gx⟩
  · have hu : nxI d s e f u o sm t = -1 := by unfold nxI; rw [if_neg fun x => ht x.2]
    rw [hu] at CN
    clear hu
    by_cases h0 : t < 0
    · go_enter Tryd.func7, Tryd.ntmps7
      go_wp2_with fail
      refine (CN.out _ (HT.out.below K0.out.1)).mono ?_
      rintro e w1 ⟨rfl, g1⟩
      have K1 := Lib.hid (K0.out.below g1)
      clear g1
      go_wp2_with fail
      refine (example_any _ (HT.out.below K1.out.1)).mono ?_
      rintro e wx ⟨rfl, gx⟩
      go_wp2_with fail
      go_ret
      exact ⟨rfl, b2 K1.out.1 gx⟩
    · have h1 : 268435456 < t := by omega
      go_enter Tryd.func7, Tryd.ntmps7
      go_wp2_with fail
      refine (CN.out _ (HT.out.below K0.out.1)).mono ?_
      rintro e w1 ⟨rfl, g1⟩
      have K1 := Lib.hid (K0.out.below g1)
      clear g1
      go_wp2_with fail
      refine (example_any _ (HT.out.below K1.out.1)).mono ?_
      rintro e wx ⟨rfl, gx⟩
      go_wp2_with fail
      go_ret
      exact ⟨rfl, b2 K1.out.1 gx⟩

set_option maxRecDepth 100000 in
theorem contract (H : Type) (enc : TypeId × Value → H) (W : World) (base : Nat) (args : Array Value) (ds gs : List (DataW H)) (before : List MemPlace)
    (hval : ∀ (j : Nat) t v, Tryd.f7.params[j]? = some t → args[j]? = some v → Value.okWide Tryd.prog W .any base t v)
    (hW : DataW.Whole enc Tryd.prog Tryd.f7.params.toList Rows.windowConstantSpec.vars false W args.toList ds gs before) (hL : laidMetH Tryd.prog Rows.windowConstantRow.laid W) :
    Calls Tryd.prog 7 args W fun e W' => ∃ v, e = .returned v ∧ Rows.windowConstantSpec.post enc Tryd.prog Tryd.f7 false true false false W args v W' := by
  have hW' := hW
  obtain ⟨p, q, hA0, hV, rfl, hfz, hnd⟩ := hW
  have hA : DataW.TrodAll enc Tryd.prog W 0 (fun _ => true) true Tryd.f7.params.toList args.toList ds p := hA0
  rw [Tryd.params7] at hA hval
  obtain ⟨v0, vs0, d0, ds0, p0, q0, hargs, rfl, rfl, h0, r0⟩ := trodAll_cons hA
  obtain ⟨v1, vs1, d1, ds1, p1, q1, rfl, rfl, rfl, h1, r1⟩ := trodAll_cons r0
  obtain ⟨v2, vs2, d2, ds2, p2, q2, rfl, rfl, rfl, h2, r2⟩ := trodAll_cons r1
  obtain ⟨rfl, rfl, rfl⟩ := trodAll_nil r2
  obtain rfl : args = #[v0, v1, v2] := by cases args; simp_all
  obtain ⟨rfl, rfl⟩ := trodVars_none hV
  have k0' := h0
  have lt0 : ∀ x ∈ p0, x.block < W.heap.size := by obtain ⟨m, hm⟩ := k0'; exact DataW.trod_lt m _ _ _ hm
  have k1' := h1
  have lt1 : ∀ x ∈ p1, x.block < W.heap.size := by obtain ⟨m, hm⟩ := k1'; exact DataW.trod_lt m _ _ _ hm
  have k2' := h2
  have lt2 : ∀ x ∈ p2, x.block < W.heap.size := by obtain ⟨m, hm⟩ := k2'; exact DataW.trod_lt m _ _ _ hm
  obtain ⟨y0, m0, d0', k0, n0, rfl⟩ := window_form (hval 0 23 v0 rfl rfl) h0
  obtain ⟨o1, sm1, rfl⟩ := zone_form (hval 1 29 v1 rfl rfl) h1
  obtain ⟨a2, rfl, rfl, rfl, w2⟩ := open_int Tryd.underlying3 (hval 2 3 v2 rfl rfl) h2
  clear hA0
  simp only [List.append_nil] at hW'
  refine (walk y0 m0 d0' k0 n0 o1 sm1 a2 W w2 (tab_of_laid hL)).mono fun e W' ⟨he, bel⟩ => ?_
  subst he
  exact ⟨_, rfl, _, _, _, [], _, [], hW', trodAll_mk1 (shut_bool Tryd.underlying4 _), (trodAll_cons_mk (Below.trod laidOut (by kernel_rfl) (of_decide_eq_true (by kernel_rfl)) k0' bel lt0) (trodAll_cons_mk (Below.trod laidOut (by kernel_rfl) (of_decide_eq_true (by kernel_rfl)) k1' bel lt1) (trodAll_cons_mk (Below.trod laidOut (by kernel_rfl) (of_decide_eq_true (by kernel_rfl)) k2' bel lt2) trodAll_mk0))), rfl, bel.frame _, fun h => by cases h⟩

set_option maxRecDepth 100000 in
theorem laid_met (os : Os) : laidMet Tryd.prog Rows.windowConstantRow.laid ((laidWorld os).forCall (fun _ _ => 0) ⟨#[], #[.agg #[.int .i64 0, .int .i64 0, .int .i64 0, .int .i64 0, .int .i64 0], .agg #[.int .i64 0, .bool false], .int .i64 0], []⟩).memory :=
  laidMet_of_run' 8 (by kernel_rfl) (by kernel_rfl)
set_option maxRecDepth 100000 in
theorem reads (os : Os) {H : Type} (enc : TypeId × Value → H) : ∃ places, DataW.whole enc Tryd.prog ((laidWorld os).forCall (fun _ _ => 0) ⟨#[], #[.agg #[.int .i64 0, .int .i64 0, .int .i64 0, .int .i64 0, .int .i64 0], .agg #[.int .i64 0, .bool false], .int .i64 0], []⟩).memory Tryd.f7.params.toList Rows.windowConstantSpec.vars false (#[.agg #[.int .i64 0, .int .i64 0, .int .i64 0, .int .i64 0, .int .i64 0], .agg #[.int .i64 0, .bool false], .int .i64 0] : Array Value).toList 8 = some ([.agg [.lit (.int .i64 0), .lit (.int .i64 0), .lit (.int .i64 0), .lit (.int .i64 0), .lit (.int .i64 0)], .agg [.lit (.int .i64 0), .lit (.bool false)], .lit (.int .i64 0)], [], places) :=
  ⟨[], by kernel_rfl⟩

set_option maxRecDepth 100000 in
theorem lifted (os : Os) (started : os.Started) (H : Type) (enc : TypeId × Value → H) (F : Stop.Interp) :
    ReturnsInHanded {} Tryd.checked os 7 .any ((OpenSpec.ofChange Rows.windowConstantSpec).preRow enc Tryd.prog Tryd.f7 Rows.windowConstantRow.domain false Rows.windowConstantRow.laid) (((OpenSpec.ofChange Rows.windowConstantSpec).at F).post enc Tryd.prog Tryd.f7 false true false false) := by
  obtain ⟨places, hx⟩ := reads os enc
  refine returnsInHanded_of_row (C := Tryd.checked) (s := OpenSpec.ofChange Rows.windowConstantSpec) own started (by kernel_rfl) Tryd.func7
    (witness_row_at (enc := enc) (C := Tryd.checked) false (laidWorld os) #[.agg #[.int .i64 0, .int .i64 0, .int .i64 0, .int .i64 0, .int .i64 0], .agg #[.int .i64 0, .bool false], .int .i64 0] rfl (by kernel_rfl) (by kernel_rfl) (by kernel_rfl)
      (OpenSpec.preRow_of_cond 8 hx (by kernel_rfl) (fun k hk => by cases hk) (by kernel_rfl) (laid_met os))) ?_
  intro W base args ds gs before hval hW _ _ _ hL _ _
  exact contract H enc W base args ds gs before hval hW hL

set_option maxRecDepth 100000 in
theorem said : Rows.WindowConstantSaid :=
  OpenClaim.holds_of_cond 7 Tryd.f7 rfl rfl rfl rfl rfl rfl rfl ⟨rfl, rfl, rfl, rfl, rfl⟩ rfl rfl rfl rfl rfl (by kernel_rfl) Tryd.func7 (by kernel_rfl)
    (of_decide_eq_true (by kernel_rfl)) (by unfold Func.isWrapper; first | (rw [if_pos (by decide +kernel)]; kernel_rfl) | (rw [if_neg (by decide +kernel)]; exact ⟨rfl, rfl⟩))
    (fun os started H enc _ F => by rw [OpenClaim.pre_eq_preRow]; exact lifted os started H enc F)

set_option maxRecDepth 100000 in
theorem plain (f : FuncId) (fn : Func) (hf : Tryd.pinned.checked.prog.funcNamed "chargenet/chargenetlaw05.WindowConstant" = some f) (hfn : Tryd.pinned.checked.prog.funcs[f]? = some fn) :
    true = Tryd.pinned.checked.prog.looks [] ∧ ∀ (j : Nat) t, fn.params[j]? = some t → Tryd.pinned.checked.prog.wantsStandIn t = false := by
  obtain rfl : f = 7 := Option.some.inj ((show Tryd.prog.funcNamed "chargenet/chargenetlaw05.WindowConstant" = some 7 by kernel_rfl).symm.trans hf) |>.symm
  obtain rfl : fn = Tryd.f7 := (Option.some.inj (Tryd.func7.symm.trans hfn)).symm
  refine ⟨by kernel_rfl, fun j t ht => ?_⟩
  rw [Tryd.params7] at ht
  have hm : t ∈ [23, 29, 3] := by simpa using Array.mem_of_getElem? ht
  have hall : ([23, 29, 3].all fun u => !Tryd.prog.wantsStandIn u) = true := by kernel_rfl
  exact (show Tryd.prog.wantsStandIn t = false by simpa using List.all_eq_true.1 hall t hm)
end windowConstant

theorem windowConstant_holds : Rows.WindowConstantCardSaid :=
  Claim7.holds_tied_plain_at .later [] _ _ _ _ windowConstant.said (fun _ h => by cases h) (by kernel_rfl) (fun _ h => by cases h) windowConstant_row_tie rfl ⟨rfl, rfl⟩ (by kernel_rfl) rfl windowConstant.plain (by kernel_rfl)
#print axioms windowConstant_holds
end Go.Proofs.YtmapkiefmbgdoaaDoor
