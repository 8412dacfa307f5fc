/-
  The law MoneySplits holds: for every input it returns true and leaves its arguments as they were, where the library's variables are as its text lays them.
-/
import Derived.Test.YtjjhdbodjcffaaaDoorMonAC
import Derived.Test.YtjjhdbodjcffaaaDoorMonAQ
namespace Go.Proofs.YtjjhdbodjcffaaaDoor
namespace moneySplits
open Go.ChangeShapes Go.WideShapes Go.ChangeAt Go.RowKit Go.Deep
open Go.ChangeMaps (open_string shut_string)
open IntWalk
set_option linter.unusedVariables false

set_option maxHeartbeats 4000000 in
set_option maxRecDepth 100000 in
theorem walk (a : Int) (v : Value) (l : List Int) (w : World) (hR : RdI w v l) (hI : ∀ x ∈ l, I64 x) (hT : Tabs w) :
    Calls Tryd.prog 7 #[.int .i64 a, v] w fun e w' => e = .returned (.bool true) ∧ Below w.heap.size w w' := by
  have HT := Lib.hid hT
  have R0 := Lib.hid hR
  obtain ⟨p, c, rfl, hlc, hcm, -⟩ := hR
  clear hT hI
  by_cases q1 : 520 < l.length
  · go_enter Tryd.func7, Tryd.ntmps7
    go_wp2_with fail
    refine (awake_run _ HT.out).mono ?_
    rintro e wx ⟨rfl, gx⟩
    go_wp2_with fail
    go_ret
    exact ⟨rfl, gx⟩
  · have C1 := Lib.hid (fun X hX => split_any a (.slice p l.length c) l X hX)
    have C2 := Lib.hid (fun X hX => rsplit_any a (.slice p l.length c) l X hX)
    have LL := Lib.hid (spL_len a l)
    obtain ⟨E, hE⟩ : ∃ E, spE a l = E := ⟨_, rfl⟩
    obtain ⟨L, hL⟩ : ∃ L, spL a l = L := ⟨_, rfl⟩
    rw [hE, hL] at C1 C2
    rw [hL] at LL
    clear hE hL
    go_enter Tryd.func7, Tryd.ntmps7
    go_wp2_with fail
    refine (C1.out _ R0.out).mono ?_
    rintro e w1 ⟨v1, rfl, r1, b1⟩
    have R1 := Lib.hid r1
    have B1 := Lib.hid b1
    have R2 := Lib.hid (R0.out.below b1)
    clear r1 b1
    go_wp2_with fail
    refine (C2.out _ R2.out).mono ?_
    rintro e w2 ⟨v2, rfl, r2, b2⟩
    have R3 := Lib.hid r2
    have R4 := Lib.hid (R1.out.below b2)
    have B2 := Lib.hid (bt B1.out b2)
    clear r2 b2 R1 R2 B1
    have CS := Lib.hid (same_run v1 v2 L L w2 LL.out R4.out R3.out)
    rw [decide_eq_true rfl] at CS
    clear C1 C2
    go_wp2_with fail
    refine CS.out.mono ?_
    rintro e w3 ⟨rfl, q, rfl⟩
    have B3 := Lib.hid (b_draws B2.out q)
    go_wp2_with fail
    refine (awake_run _ (HT.out.below B3.out)).mono ?_
    rintro e wx ⟨rfl, gx⟩
    go_wp2_with fail
    go_ret
    exact ⟨rfl, bt B3.out gx⟩

set_option maxRecDepth 100000 in
theorem contract (H : Type) (enc : TypeId × Value → H) (W : World) (base : Nat) (args : Array Value) (ds gs : List (DataW H)) (before : List MemPlace)
    (hval : ∀ (j : Nat) t v, Tryd.f7.params[j]? = some t → args[j]? = some v → Value.okWide Tryd.prog W .any base t v)
    (hW : DataW.Whole enc Tryd.prog Tryd.f7.params.toList Rows.moneySplitsSpec.vars false W args.toList ds gs before) (hL : laidMetH Tryd.prog Rows.moneySplitsRow.laid W) :
    Calls Tryd.prog 7 args W fun e W' => ∃ v, e = .returned v ∧ Rows.moneySplitsSpec.post enc Tryd.prog Tryd.f7 false true false false W args v W' := by
  have hW' := hW
  obtain ⟨p, q, hA0, hV, rfl, hfz, hnd⟩ := hW
  have hA : DataW.TrodAll enc Tryd.prog W 0 (fun _ => true) true Tryd.f7.params.toList args.toList ds p := hA0
  rw [Tryd.params7] at hA hval
  obtain ⟨v0, vs0, d0, ds0, p0, q0, hargs, rfl, rfl, h0, r0⟩ := trodAll_cons hA
  obtain ⟨v1, vs1, d1, ds1, p1, q1, rfl, rfl, rfl, h1, r1⟩ := trodAll_cons r0
  obtain ⟨rfl, rfl, rfl⟩ := trodAll_nil r1
  obtain rfl : args = #[v0, v1] := by cases args; simp_all
  obtain ⟨rfl, rfl⟩ := trodVars_none hV
  have k0' := h0
  have lt0 : ∀ x ∈ p0, x.block < W.heap.size := by obtain ⟨m, hm⟩ := k0'; exact DataW.trod_lt m _ _ _ hm
  have k1' := h1
  have lt1 : ∀ x ∈ p1, x.block < W.heap.size := by obtain ⟨m, hm⟩ := k1'; exact DataW.trod_lt m _ _ _ hm
  obtain ⟨x0, rfl, b0⟩ := int_form (hval 0 3 v0 rfl rfl) h0
  obtain ⟨x1, b1, c1⟩ := ints_form (hval 1 32 v1 rfl rfl) h1
  clear hA0
  simp only [List.append_nil] at hW'
  refine (walk x0 v1 x1 W b1 c1 (tabs_of_laid hL)).mono fun e W' ⟨he, bel⟩ => ?_
  subst he
  exact ⟨_, rfl, _, _, _, [], _, [], hW', trodAll_mk1 (shut_bool Tryd.underlying4 _), (trodAll_cons_mk (Below.trod laidOut (by kernel_rfl) (of_decide_eq_true (by kernel_rfl)) k0' bel lt0) (trodAll_cons_mk (Below.trod laidOut (by kernel_rfl) (of_decide_eq_true (by kernel_rfl)) k1' bel lt1) trodAll_mk0)), rfl, bel.frame _, fun h => by cases h⟩

noncomputable def lawWorld (os : Os) : World := World.laidAll Tryd.prog os Rows.moneySplitsRow.laid
theorem laid_met (os : Os) : laidMet Tryd.prog Rows.moneySplitsRow.laid ((lawWorld os).forCall (fun _ _ => 0) ⟨#[], #[.int .i64 0, .slice none 0 0], []⟩).memory :=
  laidMet_laidAll _ (by kernel_rfl) (by kernel_rfl)
theorem reads (os : Os) {H : Type} (enc : TypeId × Value → H) : ∃ places, DataW.whole enc Tryd.prog ((lawWorld os).forCall (fun _ _ => 0) ⟨#[], #[.int .i64 0, .slice none 0 0], []⟩).memory Tryd.f7.params.toList Rows.moneySplitsSpec.vars false (#[.int .i64 0, .slice none 0 0] : Array Value).toList 8 = some ([.lit (.int .i64 0), .nil], [], places) :=
  ⟨[], by kernel_rfl⟩

theorem fits (os : Os) : Input.okWideB Tryd.checked.prog ((lawWorld os).forCall (fun _ _ => 0) ⟨#[], #[.int .i64 0, .slice none 0 0], []⟩) 7 ⟨#[], #[.int .i64 0, .slice none 0 0], []⟩ = true := by kernel_rfl

set_option maxRecDepth 100000 in
theorem lifted (os : Os) (started : os.Started) (H : Type) (enc : TypeId × Value → H) (F : Stop.Interp) :
    ReturnsInHanded {} Tryd.checked os 7 .any ((OpenSpec.ofChange Rows.moneySplitsSpec).preRow enc Tryd.prog Tryd.f7 Rows.moneySplitsRow.domain false Rows.moneySplitsRow.laid) (((OpenSpec.ofChange Rows.moneySplitsSpec).at F).post enc Tryd.prog Tryd.f7 false true false false) := by
  obtain ⟨places, hx⟩ := reads os enc
  refine returnsInHanded_of_row (C := Tryd.checked) (s := OpenSpec.ofChange Rows.moneySplitsSpec) own started (by kernel_rfl) Tryd.func7
    ⟨lawWorld os, fun _ _ => 0, ⟨#[], #[.int .i64 0, .slice none 0 0], []⟩, World.laidAll_os _ _ _, World.shaped_of_ZipB (by kernel_rfl) (by kernel_rfl), (Input.okWide_of_okWideB (base := 0) (fits os)).1, (Input.okWide_of_okWideB (fits os)).2,
      OpenSpec.preRow_of_cond 8 hx (by kernel_rfl) (fun k hk => by cases hk) (by kernel_rfl) (laid_met os), by
        simp only [Assume.holds]
        exact ⟨by simp, by simp, fun _ => Modest.zero, by simp, by simp⟩⟩ ?_
  intro W base args ds gs before hval hW _ _ _ hL _ _
  exact contract H enc W base args ds gs before hval hW hL

theorem said : Rows.MoneySplitsSaid :=
  OpenClaim.holds_of_cond 7 Tryd.f7 rfl rfl rfl rfl rfl rfl rfl ⟨rfl, rfl, rfl, rfl, rfl⟩ rfl rfl rfl rfl rfl (by kernel_rfl) Tryd.func7 (by kernel_rfl)
    (of_decide_eq_true (by kernel_rfl)) (by unfold Func.isWrapper; first | (rw [if_pos (by decide +kernel)]; kernel_rfl) | (rw [if_neg (by decide +kernel)]; exact ⟨rfl, rfl⟩))
    (fun os started H enc _ F => by rw [OpenClaim.pre_eq_preRow]; exact lifted os started H enc F)

theorem plain (f : FuncId) (fn : Func) (hf : Tryd.pinned.checked.prog.funcNamed "chargenet/chargenetlaw03.MoneySplits" = some f) (hfn : Tryd.pinned.checked.prog.funcs[f]? = some fn) :
    true = Tryd.pinned.checked.prog.looks [] ∧ ∀ (j : Nat) t, fn.params[j]? = some t → Tryd.pinned.checked.prog.wantsStandIn t = false := by
  obtain rfl : f = 7 := Option.some.inj ((show Tryd.prog.funcNamed "chargenet/chargenetlaw03.MoneySplits" = some 7 by kernel_rfl).symm.trans hf) |>.symm
  obtain rfl : fn = Tryd.f7 := (Option.some.inj (Tryd.func7.symm.trans hfn)).symm
  refine ⟨by kernel_rfl, fun j t ht => ?_⟩
  rw [Tryd.params7] at ht
  have hm : t ∈ [3, 32] := by simpa using Array.mem_of_getElem? ht
  have hall : ([3, 32].all fun u => !Tryd.prog.wantsStandIn u) = true := by kernel_rfl
  exact (show Tryd.prog.wantsStandIn t = false by simpa using List.all_eq_true.1 hall t hm)
end moneySplits

theorem moneySplits_holds : Rows.MoneySplitsCardSaid :=
  Claim7.holds_tied_plain_at .later [] _ _ _ _ moneySplits.said (fun _ h => by cases h) (by kernel_rfl) (fun _ h => by cases h) moneySplits_row_tie rfl ⟨rfl, rfl⟩ (by kernel_rfl) rfl moneySplits.plain (by kernel_rfl)
#print axioms moneySplits_holds
end Go.Proofs.YtjjhdbodjcffaaaDoor
