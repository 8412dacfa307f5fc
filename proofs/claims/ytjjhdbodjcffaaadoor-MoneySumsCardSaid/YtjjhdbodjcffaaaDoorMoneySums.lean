/-
  The law MoneySums holds: for every input it returns true and leaves its arguments as they were, where the library's variables are as its text lays them.
-/
import Derived.Test.YtjjhdbodjcffaaaDoorMonAC
import Derived.Maps.AppendAt
namespace Go.Proofs.YtjjhdbodjcffaaaDoor
namespace moneySums
open Go.ChangeShapes Go.WideShapes Go.ChangeAt Go.RowKit Go.Deep
open Go.ChangeMaps (open_string shut_string)
open IntWalk
set_option linter.unusedVariables false

/-- The last k of a list, the last one first. -/
theorem back_step (l : List Int) (k : Nat) (h : k < l.length) : (l.drop (k + 1)).reverse ++ [l[k]] = (l.drop k).reverse := by
  rw [List.drop_eq_getElem_cons h, List.reverse_cons]
theorem own_rdi {w : World} {base n : Nat} {v : Value} {l : List Int} (h : w.ownsRow base 3 1 v n (l.map (Value.int .i64))) (hl : l.length ≤ 2000000) : RdI w v l := by
  have hn : n = l.length := by have := h.1; simpa using this.symm
  subst hn
  rcases h.2 with ⟨rfl, h2⟩ | ⟨g, cap, cur, rfl, _, hh, h3, h4, _, _⟩
  · have : l = [] := by simpa using h2
    subst this
    exact ⟨none, 0, rfl, Nat.le_refl _, Nat.zero_le _, fun h => absurd rfl h⟩
  · refine ⟨some ⟨g, 0, none⟩, cap, rfl, h3, h4, fun _ => ⟨g, 0, rfl, (h.lt g rfl).2, fun i hi => ?_⟩⟩
    have := h.cells (g := g) rfl i (.int .i64 l[i]) (by simp [hi])
    rw [Addr.add_lit] at this
    exact this
set_option maxHeartbeats 2000000 in
theorem walk (v : Value) (l : List Int) (w : World) (hR : RdI w v l) (hI : ∀ x ∈ l, I64 x) (hT : Tabs w) :
    Calls Tryd.prog 6 #[v] w fun e w' => e = .returned (.bool true) ∧ Below w.heap.size w w' := by
  have HT := Lib.hid hT
  have R0 := Lib.hid hR
  have HI := Lib.hid hI
  obtain ⟨p, c, rfl, hlc, hcm, hcell⟩ := hR
  unfold maxLen at hcm
  clear hT hI
  by_cases h64 : 64 < l.length
  · clear hcell
    go_enter Tryd.func6, Tryd.ntmps6
    go_wp2_with fail
    refine (awake_run _ HT.out).mono ?_
    rintro e wx ⟨rfl, gx⟩
    go_wp2_with fail
    go_ret
    exact ⟨rfl, gx⟩
  · have C1 := Lib.hid (fun W h => sum_run (.slice p l.length c) l W (by omega) HI.out h)
    have C2 := Lib.hid (fun W h => rsum_run (.slice p l.length c) l W (by omega) HI.out h)
    obtain ⟨V, hV⟩ : ∃ V, V = sumV l := ⟨_, rfl⟩
    obtain ⟨E, hE⟩ : ∃ E, E = sumE l := ⟨_, rfl⟩
    rw [← hV, ← hE] at C1 C2
    have C3 := Lib.hid (fun v' W h => sum_run v' l.reverse W (by rw [List.length_reverse]; omega) (fun x hx => HI.out x (List.mem_reverse.1 hx)) h)
    rw [(sum_back l).1, (sum_back l).2, ← hV, ← hE] at C3
    clear hV hE
    have HC := Lib.hid hcell
    clear hcell
    go_enter Tryd.func6, Tryd.ntmps6
    go_wp2_with fail
    refine (C1.out _ R0.out).mono ?_
    rintro e w1 ⟨rfl, rfl⟩
    go_wp2_with fail
    refine (C2.out _ R0.out).mono ?_
    rintro e w1 ⟨rfl, rfl⟩
    go_wp2
    have hz := Lib.hid (show w.ownsRow w.heap.size 3 1 (.slice none 0 0) (l.drop l.length).reverse.length ((l.drop l.length).reverse.map (Value.int .i64)) by simp [World.ownsRow_nil])
    go_loopw [7, 8] (fun b i wr => ∃ k : Nat, k ≤ l.length ∧ i = .int .i64 ((k : Int) - 1) ∧ wr.ownsRow w.heap.size 3 1 b (l.drop k).reverse.length ((l.drop k).reverse.map (Value.int .i64)) ∧ Below w.heap.size w wr) (fun _ i _ => (intOf i + 1).toNat)
    case atStart => exact ⟨l.length, Nat.le_refl _, rfl, hz.out, Below.refl _ _⟩
    case round =>
      obtain ⟨k, hk, rfl, hown, hb⟩ := hrel
      have BH := Lib.hid hb
      cases k with
      | zero =>
        have hR := own_rdi hown (by simp; omega)
        rw [List.drop_zero] at hR
        have HR := Lib.hid hR
        clear hR hown hb
        go_wp2_with fail
        refine (C3.out _ _ HR.out).mono ?_
        rintro e w2 ⟨rfl, rfl⟩
        go_wp2_with fail
        refine (awake_run _ (HT.out.below BH.out)).mono ?_
        rintro e wx ⟨rfl, gx⟩
        go_wp2_with fail
        go_ret
        exact ⟨rfl, bt BH.out gx⟩
      | succ k =>
        have hlt : k < l.length := by omega
        obtain ⟨b, o, hp, ha⟩ := HC.out (fun e => by rw [e] at hlt; exact absurd hlt (by simp))
        have hc := (ha.below hb).2 k hlt
        obtain rfl : some ⟨b, o, none⟩ = p := hp.symm
        obtain ⟨i0, hi, hz0, hz1, hz2⟩ := info_parts Tryd.intInfo
        have hlen : (l.drop (k + 1)).reverse.length ≤ 64 := by simp; omega
        have hstep := back_step l k hlt
        obtain ⟨x, hx⟩ : ∃ x, x = l[k] := ⟨_, rfl⟩
        rw [← hx] at hc hstep
        clear hx hp ha
        have HS := Lib.hid hstep
        clear hstep
        obtain ⟨m, hm⟩ : ∃ m, m = (l.drop (k + 1)).reverse.length := ⟨_, rfl⟩
        rw [← hm] at hown hlen
        have HM := Lib.hid hm
        clear hm
        go_wp2_with (at_builtin; refine wpList_append_own _ rfl _ _ 32 rfl w.heap.size 3 i0 (.int .i64 0) 1 8 Tryd.underlying32 hi hz0 hz1 hz2 rfl (by decide) _ _ _ rfl (hown.alloc _) ⟨wr.heap.size, 0, none⟩ 1 1 [.int .i64 x] rfl rfl (cell_one_new _ _ _) (by simp [Value.oneCell']) (by unfold maxLen; omega) (by omega) (by have := BH.out.size; simp; omega) ?_; intro v' w1 hown' hgrow _)
        have hb1 : Below w.heap.size w w1 := ((BH.out.alloc BH.out.size _).grown hgrow (by have := BH.out.size; simp; omega) (fun j hj => (hown.lt j hj).1))
        have hown2 : w1.ownsRow w.heap.size 3 1 v' (l.drop k).reverse.length ((l.drop k).reverse.map (Value.int .i64)) := by
          rw [← HS.out, List.length_append, List.map_append, ← HM.out]; exact hown'
        have H1 := Lib.hid hb1
        have H2 := Lib.hid hown2
        clear hb1 hown2 hown' hgrow hown hb
        go_wp2
        go_roundw
        case rel => exact ⟨k, by omega, by go_num, H2.out, H1.out⟩
        case measure => simp [intOf]

set_option maxRecDepth 100000 in
theorem contract (H : Type) (enc : TypeId × Value → H) (W : World) (base : Nat) (args : Array Value) (ds gs : List (DataW H)) (before : List MemPlace)
    (hval : ∀ (j : Nat) t v, Tryd.f6.params[j]? = some t → args[j]? = some v → Value.okWide Tryd.prog W .any base t v)
    (hW : DataW.Whole enc Tryd.prog Tryd.f6.params.toList Rows.moneySumsSpec.vars false W args.toList ds gs before) (hL : laidMetH Tryd.prog Rows.moneySumsRow.laid W) :
    Calls Tryd.prog 6 args W fun e W' => ∃ v, e = .returned v ∧ Rows.moneySumsSpec.post enc Tryd.prog Tryd.f6 false true false false W args v W' := by
  have hW' := hW
  obtain ⟨p, q, hA0, hV, rfl, hfz, hnd⟩ := hW
  have hA : DataW.TrodAll enc Tryd.prog W 0 (fun _ => true) true Tryd.f6.params.toList args.toList ds p := hA0
  rw [Tryd.params6] at hA hval
  obtain ⟨v0, vs0, d0, ds0, p0, q0, hargs, rfl, rfl, h0, r0⟩ := trodAll_cons hA
  obtain ⟨rfl, rfl, rfl⟩ := trodAll_nil r0
  obtain rfl : args = #[v0] := by cases args; simp_all
  obtain ⟨rfl, rfl⟩ := trodVars_none hV
  have k0' := h0
  have lt0 : ∀ x ∈ p0, x.block < W.heap.size := by obtain ⟨m, hm⟩ := k0'; exact DataW.trod_lt m _ _ _ hm
  obtain ⟨x0, b0, c0⟩ := ints_form (hval 0 32 v0 rfl rfl) h0
  clear hA0
  simp only [List.append_nil] at hW'
  refine (walk v0 x0 W b0 c0 (tabs_of_laid hL)).mono fun e W' ⟨he, bel⟩ => ?_
  subst he
  exact ⟨_, rfl, _, _, _, [], _, [], hW', trodAll_mk1 (shut_bool Tryd.underlying4 _), (trodAll_cons_mk (Below.trod laidOut (by kernel_rfl) (of_decide_eq_true (by kernel_rfl)) k0' bel lt0) trodAll_mk0), rfl, bel.frame _, fun h => by cases h⟩

noncomputable def lawWorld (os : Os) : World := World.laidAll Tryd.prog os Rows.moneySumsRow.laid
theorem laid_met (os : Os) : laidMet Tryd.prog Rows.moneySumsRow.laid ((lawWorld os).forCall (fun _ _ => 0) ⟨#[], #[.slice none 0 0], []⟩).memory :=
  laidMet_laidAll _ (by kernel_rfl) (by kernel_rfl)
theorem reads (os : Os) {H : Type} (enc : TypeId × Value → H) : ∃ places, DataW.whole enc Tryd.prog ((lawWorld os).forCall (fun _ _ => 0) ⟨#[], #[.slice none 0 0], []⟩).memory Tryd.f6.params.toList Rows.moneySumsSpec.vars false (#[.slice none 0 0] : Array Value).toList 8 = some ([.nil], [], places) :=
  ⟨[], by kernel_rfl⟩

theorem fits (os : Os) : Input.okWideB Tryd.checked.prog ((lawWorld os).forCall (fun _ _ => 0) ⟨#[], #[.slice none 0 0], []⟩) 6 ⟨#[], #[.slice none 0 0], []⟩ = true := by kernel_rfl

set_option maxRecDepth 100000 in
theorem lifted (os : Os) (started : os.Started) (H : Type) (enc : TypeId × Value → H) (F : Stop.Interp) :
    ReturnsInHanded {} Tryd.checked os 6 .any ((OpenSpec.ofChange Rows.moneySumsSpec).preRow enc Tryd.prog Tryd.f6 Rows.moneySumsRow.domain false Rows.moneySumsRow.laid) (((OpenSpec.ofChange Rows.moneySumsSpec).at F).post enc Tryd.prog Tryd.f6 false true false false) := by
  obtain ⟨places, hx⟩ := reads os enc
  refine returnsInHanded_of_row (C := Tryd.checked) (s := OpenSpec.ofChange Rows.moneySumsSpec) own started (by kernel_rfl) Tryd.func6
    ⟨lawWorld os, fun _ _ => 0, ⟨#[], #[.slice none 0 0], []⟩, World.laidAll_os _ _ _, World.shaped_of_ZipB (by kernel_rfl) (by kernel_rfl), (Input.okWide_of_okWideB (base := 0) (fits os)).1, (Input.okWide_of_okWideB (fits os)).2,
      OpenSpec.preRow_of_cond 8 hx (by kernel_rfl) (fun k hk => by cases hk) (by kernel_rfl) (laid_met os), by
        simp only [Assume.holds]
        exact ⟨by simp, by simp, fun _ => Modest.zero, by simp, by simp⟩⟩ ?_
  intro W base args ds gs before hval hW _ _ _ hL _ _
  exact contract H enc W base args ds gs before hval hW hL

theorem said : Rows.MoneySumsSaid :=
  OpenClaim.holds_of_cond 6 Tryd.f6 rfl rfl rfl rfl rfl rfl rfl ⟨rfl, rfl, rfl, rfl, rfl⟩ rfl rfl rfl rfl rfl (by kernel_rfl) Tryd.func6 (by kernel_rfl)
    (of_decide_eq_true (by kernel_rfl)) (by unfold Func.isWrapper; first | (rw [if_pos (by decide +kernel)]; kernel_rfl) | (rw [if_neg (by decide +kernel)]; exact ⟨rfl, rfl⟩))
    (fun os started H enc _ F => by rw [OpenClaim.pre_eq_preRow]; exact lifted os started H enc F)

theorem plain (f : FuncId) (fn : Func) (hf : Tryd.pinned.checked.prog.funcNamed "chargenet/chargenetlaw03.MoneySums" = some f) (hfn : Tryd.pinned.checked.prog.funcs[f]? = some fn) :
    true = Tryd.pinned.checked.prog.looks [] ∧ ∀ (j : Nat) t, fn.params[j]? = some t → Tryd.pinned.checked.prog.wantsStandIn t = false := by
  obtain rfl : f = 6 := Option.some.inj ((show Tryd.prog.funcNamed "chargenet/chargenetlaw03.MoneySums" = some 6 by kernel_rfl).symm.trans hf) |>.symm
  obtain rfl : fn = Tryd.f6 := (Option.some.inj (Tryd.func6.symm.trans hfn)).symm
  refine ⟨by kernel_rfl, fun j t ht => ?_⟩
  rw [Tryd.params6] at ht
  have hm : t ∈ [32] := by simpa using Array.mem_of_getElem? ht
  have hall : ([32].all fun u => !Tryd.prog.wantsStandIn u) = true := by kernel_rfl
  exact (show Tryd.prog.wantsStandIn t = false by simpa using List.all_eq_true.1 hall t hm)
end moneySums

theorem moneySums_holds : Rows.MoneySumsCardSaid :=
  Claim7.holds_tied_plain_at .later [] _ _ _ _ moneySums.said (fun _ h => by cases h) (by kernel_rfl) (fun _ h => by cases h) moneySums_row_tie rfl ⟨rfl, rfl⟩ (by kernel_rfl) rfl moneySums.plain (by kernel_rfl)
#print axioms moneySums_holds
end Go.Proofs.YtjjhdbodjcffaaaDoor
