/-
  The law WindowSpans holds: for every input it returns true and leaves its arguments as they were, where the table of the months' lengths is as the program's text lays it.
-/
import Derived.Test.YtmapkiefmbgdoaaDoorWinW
import Derived.BigQuiet
import Derived.WalkKit
import Derived.SevenTiedAt
namespace Go.Proofs.YtmapkiefmbgdoaaDoor
namespace windowSpans
open Go.ChangeShapes Go.WideShapes Go.ChangeAt Go.RowKit
open Cal
set_option linter.unusedVariables false

set_option maxRecDepth 100000 in
set_option maxHeartbeats 8000000 in
theorem walk (d s e f u : Int) (o : Int) (sm : Bool) (F T : Int) (w : World) (wF : (Lit.int .i64 F).wf = true) (wT : (Lit.int .i64 T).wf = true) (hT : Tab w) :
    Calls Tryd.prog 6 #[.agg #[.int .i64 d, .int .i64 s, .int .i64 e, .int .i64 f, .int .i64 u], .agg #[.int .i64 o, .bool sm], .agg #[.int .i64 F, .int .i64 T]] w fun e' w' => e' = .returned (.bool true) ∧ Below w.heap.size w w' := by
  have HT := Lib.hid hT
  clear hT
  have K0 := Lib.hid (KS.new w (.int .i64 d) (.int .i64 s) (.int .i64 e) (.int .i64 f) (.int .i64 u) (.int .i64 o) (.bool sm) (.int .i64 F) (.int .i64 T) 23 29 33)
  have CS := Lib.hid (fun X => rspan_any F T X)
  have HL := spR_len d s e f u o sm F T
  have CA := Lib.hid (fun X hX => spans_any d s e f u o sm F T X hX)
  have CB := Lib.hid (fun X => rspans_any d s e f u o sm F T X)
  generalize spR d s e f u o sm F T = l at *
  generalize spE d s e f u o sm F T = E at *
  have hT0 : T < 9223372036854775808 := by simp [Lit.wf] at wT; omega
  by_cases hb : 0 ≤ F ∧ F ≤ T ∧ T ≤ 268435456
  · rw [show spanB F T = true from decide_eq_true hb] at CS
    by_cases h8 : 800000 < T - F
    · go_enter Tryd.func6, Tryd.ntmps6
      go_wp2_with fail
      refine (CS.out _).mono ?_
      rintro ea w1 ⟨rfl, g1⟩
      have K1 := Lib.hid (K0.out.below g1)
      clear g1
      obtain ⟨-, -, -, -, -, -, -, -, -, c7, c8⟩ := K1.out
      go_wp2_with fail
      refine (example_any _ (HT.out.below K1.out.b)).mono ?_
      rintro e wx ⟨rfl, gx⟩
      go_wp2_with fail
      go_ret
      exact ⟨rfl, b2 K1.out.b gx⟩
    · go_enter Tryd.func6, Tryd.ntmps6
      go_wp2_with fail
      refine (CS.out _).mono ?_
      rintro ea w1 ⟨rfl, g1⟩
      have K1 := Lib.hid (K0.out.below g1)
      clear g1
      obtain ⟨-, -, c0, c1, c2, c3, c4, c5, c6, c7, c8⟩ := K1.out
      go_wp2_with fail
      clear c0 c1 c2 c3 c4 c5 c6 c7 c8
      refine (CA.out _ (HT.out.below K1.out.b)).mono ?_
      rintro ea w2 ⟨va, rfl, r2, g2⟩
      have R2 := Lib.hid r2.rd
      have K2 := Lib.hid (K1.out.below g2)
      clear r2 g2
      obtain ⟨-, -, c0, c1, c2, c3, c4, c5, c6, c7, c8⟩ := K2.out
      go_wp2_with fail
      clear c0 c1 c2 c3 c4 c5 c6 c7 c8
      refine (CB.out _).mono ?_
      rintro ea w3 ⟨vb, rfl, r3, g3⟩
      have R3 := Lib.hid r3.rd
      have R2 := Lib.hid (R2.out.below g3)
      have K3 := Lib.hid (K2.out.below g3)
      clear r3 g3
      obtain ⟨pa, ca, rfl, hca, _, ha⟩ := R2.out
      obtain ⟨pb, cb, rfl, hcb, _, hbb⟩ := R3.out
      have HA := Lib.hid ha
      have HB := Lib.hid hbb
      clear ha hbb R2 R3
      have hq := eq_span
      have hg := guard_span
      clear CA CB CS K0 K1 K2
      go_wp2_with fail
      go_loopw [49] (fun i wr => ∃ k q : Nat, k ≤ l.length ∧ i = .int .i64 k ∧ wr = w3.drewN q) (fun i _ => l.length - (intOf i).toNat)
      case atStart => exact ⟨0, 0, Nat.zero_le _, rfl, rfl⟩
      case round =>
        obtain ⟨k, q, hk, rfl, rfl⟩ := hrel
        by_cases hlt : k < l.length
        · have hne : l ≠ [] := by intro h; rw [h] at hlt; simp at hlt
          obtain ⟨ba, rfl, h1⟩ := HA.out hne
          obtain ⟨bb, rfl, h2⟩ := HB.out hne
          obtain ⟨g1, g2⟩ := h1.2 k hlt
          obtain ⟨g3, g4⟩ := h2.2 k hlt
          obtain ⟨x1, e1⟩ : ∃ x, l[k].1 = x := ⟨_, rfl⟩
          obtain ⟨x2, e2⟩ : ∃ x, l[k].2 = x := ⟨_, rfl⟩
          rw [e1] at g1 g3
          rw [e2] at g2 g4
          have g1' : (w3.drewN q).cell? ⟨ba, k * 2, none⟩ = some (.int .i64 x1) := g1
          have g2' : (w3.drewN q).cell? ⟨ba, k * 2 + 1, none⟩ = some (.int .i64 x2) := g2
          have g3' : (w3.drewN q).cell? ⟨bb, k * 2, none⟩ = some (.int .i64 x1) := g3
          have g4' : (w3.drewN q).cell? ⟨bb, k * 2 + 1, none⟩ = some (.int .i64 x2) := g4
          clear e1 e2 g1 g2 g3 g4 h1 h2 hne
          obtain ⟨X, hX⟩ : ∃ X, w3.drewN q = X := ⟨_, rfl⟩
          rw [hX] at g1' g2' g3' g4' ⊢
          have HX := Lib.hid hX
          clear hX
          go_wp2_with fail
          go_quiet (fail)
          go_wp2_with fail
          go_roundw
          case rel => exact ⟨k + 1, q + nq, by omega, by go_num, by rw [← HX.out, World.drewN_drewN]⟩
          case measure => simp [intOf]; omega
        · have GX := Lib.hid (b_drawsW q K3.out.b)
          clear hq hg
          go_wp2_with fail
          refine (example_any _ (HT.out.below GX.out)).mono ?_
          rintro e wx ⟨rfl, gx⟩
          go_wp2_with fail
          go_ret
          exact ⟨rfl, b2 GX.out gx⟩
  · rw [show spanB F T = false from decide_eq_false hb] at CS
    go_enter Tryd.func6, Tryd.ntmps6
    go_wp2_with fail
    refine (CS.out _).mono ?_
    rintro ea w1 ⟨rfl, g1⟩
    have K1 := Lib.hid (K0.out.below g1)
    clear g1
    obtain ⟨-, -, c0, c1, c2, c3, c4, c5, c6, c7, c8⟩ := K1.out
    go_wp2_with fail
    clear c0 c1 c2 c3 c4 c5 c6 c7 c8
    refine (CA.out _ (HT.out.below K1.out.b)).mono ?_
    rintro ea w2 ⟨va, rfl, r2, g2⟩
    have R2 := Lib.hid r2.rd
    have K2 := Lib.hid (K1.out.below g2)
    clear r2 g2
    obtain ⟨-, -, c0, c1, c2, c3, c4, c5, c6, c7, c8⟩ := K2.out
    go_wp2_with fail
    clear c0 c1 c2 c3 c4 c5 c6 c7 c8
    refine (CB.out _).mono ?_
    rintro ea w3 ⟨vb, rfl, r3, g3⟩
    have R3 := Lib.hid r3.rd
    have R2 := Lib.hid (R2.out.below g3)
    have K3 := Lib.hid (K2.out.below g3)
    clear r3 g3
    obtain ⟨pa, ca, rfl, hca, _, ha⟩ := R2.out
    obtain ⟨pb, cb, rfl, hcb, _, hbb⟩ := R3.out
    have HA := Lib.hid ha
    have HB := Lib.hid hbb
    clear ha hbb R2 R3
    have hq := eq_span
    have hg := guard_span
    clear CA CB CS K0 K1 K2
    go_wp2_with fail
    go_loopw [49] (fun i wr => ∃ k q : Nat, k ≤ l.length ∧ i = .int .i64 k ∧ wr = w3.drewN q) (fun i _ => l.length - (intOf i).toNat)
    case atStart => exact ⟨0, 0, Nat.zero_le _, rfl, rfl⟩
    case round =>
      obtain ⟨k, q, hk, rfl, rfl⟩ := hrel
      by_cases hlt : k < l.length
      · have hne : l ≠ [] := by intro h; rw [h] at hlt; simp at hlt
        obtain ⟨ba, rfl, h1⟩ := HA.out hne
        obtain ⟨bb, rfl, h2⟩ := HB.out hne
        obtain ⟨g1, g2⟩ := h1.2 k hlt
        obtain ⟨g3, g4⟩ := h2.2 k hlt
        obtain ⟨x1, e1⟩ : ∃ x, l[k].1 = x := ⟨_, rfl⟩
        obtain ⟨x2, e2⟩ : ∃ x, l[k].2 = x := ⟨_, rfl⟩
        rw [e1] at g1 g3
        rw [e2] at g2 g4
        have g1' : (w3.drewN q).cell? ⟨ba, k * 2, none⟩ = some (.int .i64 x1) := g1
        have g2' : (w3.drewN q).cell? ⟨ba, k * 2 + 1, none⟩ = some (.int .i64 x2) := g2
        have g3' : (w3.drewN q).cell? ⟨bb, k * 2, none⟩ = some (.int .i64 x1) := g3
        have g4' : (w3.drewN q).cell? ⟨bb, k * 2 + 1, none⟩ = some (.int .i64 x2) := g4
        clear e1 e2 g1 g2 g3 g4 h1 h2 hne
        obtain ⟨X, hX⟩ : ∃ X, w3.drewN q = X := ⟨_, rfl⟩
        rw [hX] at g1' g2' g3' g4' ⊢
        have HX := Lib.hid hX
        clear hX
        go_wp2_with fail
        go_quiet (fail)
        go_wp2_with fail
        go_roundw
        case rel => exact ⟨k + 1, q + nq, by omega, by go_num, by rw [← HX.out, World.drewN_drewN]⟩
        case measure => simp [intOf]; omega
      · have GX := Lib.hid (b_drawsW q K3.out.b)
        clear hq hg
        go_wp2_with fail
        refine (example_any _ (HT.out.below GX.out)).mono ?_
        rintro e wx ⟨rfl, gx⟩
        go_wp2_with fail
        go_ret
        exact ⟨rfl, b2 GX.out gx⟩

set_option maxRecDepth 100000 in
theorem contract (H : Type) (enc : TypeId × Value → H) (W : World) (base : Nat) (args : Array Value) (ds gs : List (DataW H)) (before : List MemPlace)
    (hval : ∀ (j : Nat) t v, Tryd.f6.params[j]? = some t → args[j]? = some v → Value.okWide Tryd.prog W .any base t v)
    (hW : DataW.Whole enc Tryd.prog Tryd.f6.params.toList Rows.windowSpansSpec.vars false W args.toList ds gs before) (hL : laidMetH Tryd.prog Rows.windowSpansRow.laid W) :
    Calls Tryd.prog 6 args W fun e W' => ∃ v, e = .returned v ∧ Rows.windowSpansSpec.post enc Tryd.prog Tryd.f6 false true false false W args v W' := by
  have hW' := hW
  obtain ⟨p, q, hA0, hV, rfl, hfz, hnd⟩ := hW
  have hA : DataW.TrodAll enc Tryd.prog W 0 (fun _ => true) true Tryd.f6.params.toList args.toList ds p := hA0
  rw [Tryd.params6] at hA hval
  obtain ⟨v0, vs0, d0, ds0, p0, q0, hargs, rfl, rfl, h0, r0⟩ := trodAll_cons hA
  obtain ⟨v1, vs1, d1, ds1, p1, q1, rfl, rfl, rfl, h1, r1⟩ := trodAll_cons r0
  obtain ⟨v2, vs2, d2, ds2, p2, q2, rfl, rfl, rfl, h2, r2⟩ := trodAll_cons r1
  obtain ⟨rfl, rfl, rfl⟩ := trodAll_nil r2
  obtain rfl : args = #[v0, v1, v2] := by cases args; simp_all
  obtain ⟨rfl, rfl⟩ := trodVars_none hV
  have k0' := h0
  have lt0 : ∀ x ∈ p0, x.block < W.heap.size := by obtain ⟨m, hm⟩ := k0'; exact DataW.trod_lt m _ _ _ hm
  have k1' := h1
  have lt1 : ∀ x ∈ p1, x.block < W.heap.size := by obtain ⟨m, hm⟩ := k1'; exact DataW.trod_lt m _ _ _ hm
  have k2' := h2
  have lt2 : ∀ x ∈ p2, x.block < W.heap.size := by obtain ⟨m, hm⟩ := k2'; exact DataW.trod_lt m _ _ _ hm
  obtain ⟨y0, m0, d0', k0, n0, rfl⟩ := window_form (hval 0 23 v0 rfl rfl) h0
  obtain ⟨o1, sm1, rfl⟩ := zone_form (hval 1 29 v1 rfl rfl) h1
  obtain ⟨x2, y2, rfl, wx2, wy2⟩ := span_form (hval 2 33 v2 rfl rfl) h2
  clear hA0
  simp only [List.append_nil] at hW'
  refine (walk y0 m0 d0' k0 n0 o1 sm1 x2 y2 W wx2 wy2 (tab_of_laid hL)).mono fun e W' ⟨he, bel⟩ => ?_
  subst he
  exact ⟨_, rfl, _, _, _, [], _, [], hW', trodAll_mk1 (shut_bool Tryd.underlying4 _), (trodAll_cons_mk (Below.trod laidOut (by kernel_rfl) (of_decide_eq_true (by kernel_rfl)) k0' bel lt0) (trodAll_cons_mk (Below.trod laidOut (by kernel_rfl) (of_decide_eq_true (by kernel_rfl)) k1' bel lt1) (trodAll_cons_mk (Below.trod laidOut (by kernel_rfl) (of_decide_eq_true (by kernel_rfl)) k2' bel lt2) trodAll_mk0))), rfl, bel.frame _, fun h => by cases h⟩

set_option maxRecDepth 100000 in
theorem laid_met (os : Os) : laidMet Tryd.prog Rows.windowSpansRow.laid ((laidWorld os).forCall (fun _ _ => 0) ⟨#[], #[.agg #[.int .i64 0, .int .i64 0, .int .i64 0, .int .i64 0, .int .i64 0], .agg #[.int .i64 0, .bool false], .agg #[.int .i64 0, .int .i64 0]], []⟩).memory :=
  laidMet_of_run' 8 (by kernel_rfl) (by kernel_rfl)
set_option maxRecDepth 100000 in
theorem reads (os : Os) {H : Type} (enc : TypeId × Value → H) : ∃ places, DataW.whole enc Tryd.prog ((laidWorld os).forCall (fun _ _ => 0) ⟨#[], #[.agg #[.int .i64 0, .int .i64 0, .int .i64 0, .int .i64 0, .int .i64 0], .agg #[.int .i64 0, .bool false], .agg #[.int .i64 0, .int .i64 0]], []⟩).memory Tryd.f6.params.toList Rows.windowSpansSpec.vars false (#[.agg #[.int .i64 0, .int .i64 0, .int .i64 0, .int .i64 0, .int .i64 0], .agg #[.int .i64 0, .bool false], .agg #[.int .i64 0, .int .i64 0]] : Array Value).toList 8 = some ([.agg [.lit (.int .i64 0), .lit (.int .i64 0), .lit (.int .i64 0), .lit (.int .i64 0), .lit (.int .i64 0)], .agg [.lit (.int .i64 0), .lit (.bool false)], .agg [.lit (.int .i64 0), .lit (.int .i64 0)]], [], places) :=
  ⟨[], by kernel_rfl⟩

set_option maxRecDepth 100000 in
theorem lifted (os : Os) (started : os.Started) (H : Type) (enc : TypeId × Value → H) (F : Stop.Interp) :
    ReturnsInHanded {} Tryd.checked os 6 .any ((OpenSpec.ofChange Rows.windowSpansSpec).preRow enc Tryd.prog Tryd.f6 Rows.windowSpansRow.domain false Rows.windowSpansRow.laid) (((OpenSpec.ofChange Rows.windowSpansSpec).at F).post enc Tryd.prog Tryd.f6 false true false false) := by
  obtain ⟨places, hx⟩ := reads os enc
  refine returnsInHanded_of_row (C := Tryd.checked) (s := OpenSpec.ofChange Rows.windowSpansSpec) own started (by kernel_rfl) Tryd.func6
    (witness_row_at (enc := enc) (C := Tryd.checked) false (laidWorld os) #[.agg #[.int .i64 0, .int .i64 0, .int .i64 0, .int .i64 0, .int .i64 0], .agg #[.int .i64 0, .bool false], .agg #[.int .i64 0, .int .i64 0]] rfl (by kernel_rfl) (by kernel_rfl) (by kernel_rfl)
      (OpenSpec.preRow_of_cond 8 hx (by kernel_rfl) (fun k hk => by cases hk) (by kernel_rfl) (laid_met os))) ?_
  intro W base args ds gs before hval hW _ _ _ hL _ _
  exact contract H enc W base args ds gs before hval hW hL

set_option maxRecDepth 100000 in
theorem said : Rows.WindowSpansSaid :=
  OpenClaim.holds_of_cond 6 Tryd.f6 rfl rfl rfl rfl rfl rfl rfl ⟨rfl, rfl, rfl, rfl, rfl⟩ rfl rfl rfl rfl rfl (by kernel_rfl) Tryd.func6 (by kernel_rfl)
    (of_decide_eq_true (by kernel_rfl)) (by unfold Func.isWrapper; first | (rw [if_pos (by decide +kernel)]; kernel_rfl) | (rw [if_neg (by decide +kernel)]; exact ⟨rfl, rfl⟩))
    (fun os started H enc _ F => by rw [OpenClaim.pre_eq_preRow]; exact lifted os started H enc F)

set_option maxRecDepth 100000 in
theorem plain (f : FuncId) (fn : Func) (hf : Tryd.pinned.checked.prog.funcNamed "chargenet/chargenetlaw05.WindowSpans" = some f) (hfn : Tryd.pinned.checked.prog.funcs[f]? = some fn) :
    true = Tryd.pinned.checked.prog.looks [] ∧ ∀ (j : Nat) t, fn.params[j]? = some t → Tryd.pinned.checked.prog.wantsStandIn t = false := by
  obtain rfl : f = 6 := Option.some.inj ((show Tryd.prog.funcNamed "chargenet/chargenetlaw05.WindowSpans" = some 6 by kernel_rfl).symm.trans hf) |>.symm
  obtain rfl : fn = Tryd.f6 := (Option.some.inj (Tryd.func6.symm.trans hfn)).symm
  refine ⟨by kernel_rfl, fun j t ht => ?_⟩
  rw [Tryd.params6] at ht
  have hm : t ∈ [23, 29, 33] := by simpa using Array.mem_of_getElem? ht
  have hall : ([23, 29, 33].all fun u => !Tryd.prog.wantsStandIn u) = true := by kernel_rfl
  exact (show Tryd.prog.wantsStandIn t = false by simpa using List.all_eq_true.1 hall t hm)
end windowSpans

theorem windowSpans_holds : Rows.WindowSpansCardSaid :=
  Claim7.holds_tied_plain_at .later [] _ _ _ _ windowSpans.said (fun _ h => by cases h) (by kernel_rfl) (fun _ h => by cases h) windowSpans_row_tie rfl ⟨rfl, rfl⟩ (by kernel_rfl) rfl windowSpans.plain (by kernel_rfl)
#print axioms windowSpans_holds
end Go.Proofs.YtmapkiefmbgdoaaDoor
