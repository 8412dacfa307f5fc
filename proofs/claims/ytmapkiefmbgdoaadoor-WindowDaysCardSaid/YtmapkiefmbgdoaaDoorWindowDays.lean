/-
  The law WindowDays holds: for every input it returns true and leaves its arguments as they were, where the table of the months' lengths is as the program's text lays it.
-/
import Derived.Test.YtmapkiefmbgdoaaDoorWinW
import Derived.Deep.RegionHeld3
import Derived.WalkKit
import Derived.SevenTiedAt
namespace Go.Proofs.YtmapkiefmbgdoaaDoor
namespace windowDays
open Go.ChangeShapes Go.WideShapes Go.ChangeAt Go.RowKit
open Cal
set_option linter.unusedVariables false
theorem bit_comp : ∀ d : Fin 127, ∀ W : Fin 8, 1 ≤ d.1 → 1 ≤ W.1 → bitB (127 - (d.1 : Int)) W.1 = !bitB d.1 W.1 := by decide +kernel
theorem on_comp {d W : Int} (d0 : 1 ≤ d) (d1 : d ≤ 126) (w0 : 1 ≤ W) (w1 : W ≤ 7) : onB (127 - d) W = !onB d W := by
  have h := bit_comp ⟨d.toNat, by omega⟩ ⟨W.toNat, by omega⟩ (by show 1 ≤ d.toNat; omega) (by show 1 ≤ W.toNat; omega)
  have e1 : ((d.toNat : Nat) : Int) = d := by omega
  have e2 : ((W.toNat : Nat) : Int) = W := by omega
  simp only [e1, e2] at h
  unfold onB
  rw [h, show ((127 - d) == 0) = false by simp; omega, show (d == 0) = false by simp; omega]
  simp
theorem on_zero (W : Int) : onB 0 W = true := rfl
theorem day_comp {d s e W N : Int} (d0 : 1 ≤ d) (d1 : d ≤ 126) (w0 : 1 ≤ W) (w1 : W ≤ 7) :
    (dayB d s e W N && dayB (127 - d) s e W N) = false ∧ (dayB d s e W N || dayB (127 - d) s e W N) = dayB 0 s e W N := by
  have p0 := (pw_bd W)
  have o1 := on_comp d0 d1 w0 w1
  have o2 := on_comp d0 d1 p0.1 p0.2
  by_cases h1 : s = e
  · rw [dayB_eq h1, dayB_eq h1, dayB_eq h1, o1, on_zero]
    cases onB d W <;> exact ⟨rfl, rfl⟩
  · by_cases h2 : s < e
    · rw [dayB_lt h2, dayB_lt h2, dayB_lt h2, o1, on_zero]
      cases onB d W <;> cases decide (s ≤ N) <;> cases decide (N < e) <;> exact ⟨rfl, rfl⟩
    · have h3 : e < s := by omega
      rw [dayB_gt h3, dayB_gt h3, dayB_gt h3, o1, o2, on_zero, on_zero]
      by_cases h4 : s ≤ N
      · rw [decide_eq_true h4, decide_eq_false (show ¬ N < e by omega)]
        cases onB d W <;> cases onB d (pw W) <;> exact ⟨rfl, rfl⟩
      · rw [decide_eq_false h4]
        cases onB d W <;> cases onB d (pw W) <;> cases decide (N < e) <;> exact ⟨rfl, rfl⟩
theorem ok_comp {d s e f u : Int} (d0 : 1 ≤ d) (d1 : d ≤ 126) : (OkW (127 - d) s e f u ↔ OkW d s e f u) ∧ (OkW 0 s e f u ↔ OkW d s e f u) := by
  unfold OkW; omega
theorem hol_comp {d s e f u o : Int} {sm : Bool} {t : Int} (d0 : 1 ≤ d) (d1 : d ≤ 126) :
    (hol d s e f u o sm t && hol (127 - d) s e f u o sm t) = false ∧ (hol d s e f u o sm t || hol (127 - d) s e f u o sm t) = hol 0 s e f u o sm t := by
  obtain ⟨k1, k2⟩ := ok_comp (d := d) (s := s) (e := e) (f := f) (u := u) d0 d1
  unfold hol
  by_cases h : OkW d s e f u ∧ -840 ≤ o ∧ o ≤ 840
  · rw [decide_eq_true h, decide_eq_true (show OkW (127 - d) s e f u ∧ -840 ≤ o ∧ o ≤ 840 from ⟨k1.2 h.1, h.2⟩), decide_eq_true (show OkW 0 s e f u ∧ -840 ≤ o ∧ o ≤ 840 from ⟨k2.2 h.1, h.2⟩)]
    simp only [Bool.true_and]
    unfold hB
    have := day_comp (s := s) (e := e) (N := (t + offI o sm t) % 1440) d0 d1 (wd_bd ((t + offI o sm t) / 1440)).1 (wd_bd ((t + offI o sm t) / 1440)).2
    unfold dB lB
    obtain ⟨a1, a2⟩ := this
    rw [← a2]
    generalize dayB d s e (wd ((t + offI o sm t) / 1440)) ((t + offI o sm t) % 1440) = A at *
    generalize dayB (127 - d) s e (wd ((t + offI o sm t) / 1440)) ((t + offI o sm t) % 1440) = B at *
    generalize decide ((0 ≤ t ∧ t ≤ 268435456) ∧ f ≤ t ∧ (u = -1 ∨ t < u)) = C
    revert a1
    cases A <;> cases B <;> cases C <;> decide
  · rw [decide_eq_false h, decide_eq_false (fun k => h ⟨k1.1 k.1, k.2⟩), decide_eq_false (fun k => h ⟨k2.1 k.1, k.2⟩)]
    exact ⟨rfl, rfl⟩
/-- The world of the three calls. -/
abbrev KD3 (w : World) (g h : Nat) (d s e f u o x : Int) (sm : Bool) (X : World) : Prop :=
  Below w.heap.size w X ∧ w.heap.size + 1 + 1 + 1 < X.heap.size ∧ X.cell? ⟨w.heap.size, 0, none⟩ = some (.int .i64 d) ∧ X.cell? ⟨w.heap.size, 1, none⟩ = some (.int .i64 s) ∧ X.cell? ⟨w.heap.size, 2, none⟩ = some (.int .i64 e) ∧ X.cell? ⟨w.heap.size, 3, none⟩ = some (.int .i64 f) ∧ X.cell? ⟨w.heap.size, 4, none⟩ = some (.int .i64 u) ∧ X.cell? ⟨w.heap.size + 1, 0, none⟩ = some (.int .i64 o) ∧ X.cell? ⟨w.heap.size + 1, 1, none⟩ = some (.bool sm) ∧
  X.cell? ⟨g, 0, none⟩ = some (.int .i64 x) ∧ X.cell? ⟨g, 1, none⟩ = some (.int .i64 s) ∧ X.cell? ⟨g, 2, none⟩ = some (.int .i64 e) ∧ X.cell? ⟨g, 3, none⟩ = some (.int .i64 f) ∧ X.cell? ⟨g, 4, none⟩ = some (.int .i64 u) ∧
  X.cell? ⟨h, 0, none⟩ = some (.int .i64 0) ∧ X.cell? ⟨h, 1, none⟩ = some (.int .i64 s) ∧ X.cell? ⟨h, 2, none⟩ = some (.int .i64 e) ∧ X.cell? ⟨h, 3, none⟩ = some (.int .i64 f) ∧ X.cell? ⟨h, 4, none⟩ = some (.int .i64 u)
theorem KD3.below {w X X' : World} {g h : Nat} {d s e f u o x : Int} {sm : Bool} (hg : g ≤ w.heap.size + 1 + 1 + 1) (hh : h ≤ w.heap.size + 1 + 1 + 1) (k : KD3 w g h d s e f u o x sm X) (b : Below X.heap.size X X') : KD3 w g h d s e f u o x sm X' := by
  obtain ⟨h0, l0, c0, c1, c2, c3, c4, c5, c6, c7, c8, c9, c10, c11, c12, c13, c14, c15, c16⟩ := k
  have hc := (bcell b).1
  have l1 : w.heap.size < X.heap.size := by omega
  have l2 : w.heap.size + 1 < X.heap.size := by omega
  have l3 : g < X.heap.size := by omega
  have l4 : h < X.heap.size := by omega
  exact ⟨b2 h0 b, Nat.lt_of_lt_of_le l0 b.size, by rw [hc _ _ l1]; exact c0, by rw [hc _ _ l1]; exact c1, by rw [hc _ _ l1]; exact c2, by rw [hc _ _ l1]; exact c3, by rw [hc _ _ l1]; exact c4, by rw [hc _ _ l2]; exact c5, by rw [hc _ _ l2]; exact c6,
    by rw [hc _ _ l3]; exact c7, by rw [hc _ _ l3]; exact c8, by rw [hc _ _ l3]; exact c9, by rw [hc _ _ l3]; exact c10, by rw [hc _ _ l3]; exact c11, by rw [hc _ _ l4]; exact c12, by rw [hc _ _ l4]; exact c13, by rw [hc _ _ l4]; exact c14, by rw [hc _ _ l4]; exact c15, by rw [hc _ _ l4]; exact c16⟩
theorem KD3.drew {w X : World} {g h : Nat} {d s e f u o x : Int} {sm : Bool} (k : KD3 w g h d s e f u o x sm X) : KD3 w g h d s e f u o x sm X.drew := ⟨k.1.drew, k.2⟩
theorem KD3.draws {w X : World} {g h : Nat} {d s e f u o x : Int} {sm : Bool} (k : KD3 w g h d s e f u o x sm X) (q : Nat) : KD3 w g h d s e f u o x sm (X.drewN q) := by
  induction q with
  | zero => exact k
  | succ q ih => exact ih.drew

set_option maxRecDepth 100000 in
set_option maxHeartbeats 8000000 in
theorem walk (d s e f u : Int) (o : Int) (sm : Bool) (t : Int) (w : World) (wt : (Lit.int .i64 t).wf = true) (hT : Tab w) :
    Calls Tryd.prog 9 #[.agg #[.int .i64 d, .int .i64 s, .int .i64 e, .int .i64 f, .int .i64 u], .agg #[.int .i64 o, .bool sm], .int .i64 t] w fun e' w' => e' = .returned (.bool true) ∧ Below w.heap.size w w' := by
  have HT := Lib.hid hT
  clear hT
  by_cases h0 : d < 1
  · go_enter Tryd.func9, Tryd.ntmps9
    go_wp2_with fail
    refine (example_any _ (HT.out.below (b2 (b_new _ _) (b_new _ _)))).mono ?_
    rintro e wx ⟨rfl, gx⟩
    go_wp2_with fail
    go_ret
    exact ⟨rfl, b2 (b2 (b_new _ _) (b_new _ _)) gx⟩
  by_cases h1 : 126 < d
  · go_enter Tryd.func9, Tryd.ntmps9
    go_wp2_with fail
    refine (example_any _ (HT.out.below (b2 (b_new _ _) (b_new _ _)))).mono ?_
    rintro e wx ⟨rfl, gx⟩
    go_wp2_with fail
    go_ret
    exact ⟨rfl, b2 (b2 (b_new _ _) (b_new _ _)) gx⟩
  have C1 := Lib.hid (fun x X hX => holds_any x s e f u o sm t X hX)
  have Q := Lib.hid (hol_comp (d := d) (s := s) (e := e) (f := f) (u := u) (o := o) (sm := sm) (t := t) (by omega) (by omega))
  go_enter Tryd.func9, Tryd.ntmps9
  go_wp2_with fail
  go_region
  · go_wp2_with fail
    generalize 127 - d = x at *
    have S0 : KD3 w (w.heap.size + 1 + 1) (w.heap.size + 1 + 1 + 1) d s e f u o x sm (((((w.alloc (.cells #[.int .i64 d, .int .i64 s, .int .i64 e, .int .i64 f, .int .i64 u] 23)).alloc (.cells #[.int .i64 o, .bool sm] 29)).alloc (.cells #[.int .i64 x, .int .i64 s, .int .i64 e, .int .i64 f, .int .i64 u] 23)).alloc (.cells #[.int .i64 0, .int .i64 s, .int .i64 e, .int .i64 f, .int .i64 u] 23)).drew) := by
      refine KD3.drew ⟨b2 (b2 (b2 (b_new _ _) (b_new _ _)) (b_new _ _)) (b_new _ _), by simp, ?_, ?_, ?_, ?_, ?_, ?_, ?_, ?_, ?_, ?_, ?_, ?_, ?_, ?_, ?_, ?_, ?_⟩ <;> simp [go_sem]
    have T0 := fun (X : World) (k : KD3 w (w.heap.size + 1 + 1) (w.heap.size + 1 + 1 + 1) d s e f u o x sm X) => HT.out.below k.1
    go_region_held3 (fun X => Below w.heap.size w X ∧ w.heap.size + 1 + 1 + 1 < X.heap.size ∧ X.cell? ⟨w.heap.size, 0, none⟩ = some (.int .i64 d) ∧ X.cell? ⟨w.heap.size, 1, none⟩ = some (.int .i64 s) ∧ X.cell? ⟨w.heap.size, 2, none⟩ = some (.int .i64 e) ∧ X.cell? ⟨w.heap.size, 3, none⟩ = some (.int .i64 f) ∧ X.cell? ⟨w.heap.size, 4, none⟩ = some (.int .i64 u) ∧ X.cell? ⟨w.heap.size + 1, 0, none⟩ = some (.int .i64 o) ∧ X.cell? ⟨w.heap.size + 1, 1, none⟩ = some (.bool sm) ∧ X.cell? ⟨w.heap.size + 1 + 1, 0, none⟩ = some (.int .i64 x) ∧ X.cell? ⟨w.heap.size + 1 + 1, 1, none⟩ = some (.int .i64 s) ∧ X.cell? ⟨w.heap.size + 1 + 1, 2, none⟩ = some (.int .i64 e) ∧ X.cell? ⟨w.heap.size + 1 + 1, 3, none⟩ = some (.int .i64 f) ∧ X.cell? ⟨w.heap.size + 1 + 1, 4, none⟩ = some (.int .i64 u) ∧ X.cell? ⟨w.heap.size + 1 + 1 + 1, 0, none⟩ = some (.int .i64 0) ∧ X.cell? ⟨w.heap.size + 1 + 1 + 1, 1, none⟩ = some (.int .i64 s) ∧ X.cell? ⟨w.heap.size + 1 + 1 + 1, 2, none⟩ = some (.int .i64 e) ∧ X.cell? ⟨w.heap.size + 1 + 1 + 1, 3, none⟩ = some (.int .i64 f) ∧ X.cell? ⟨w.heap.size + 1 + 1 + 1, 4, none⟩ = some (.int .i64 u)) (first | assumption | exact KD3.draws S0 _ | exact KD3.drew (by assumption) | exact KD3.below (by omega) (by omega) (by assumption) (by assumption))
      ((go_at_call 14; refine (C1.out _ _ (T0 _ (by assumption))).mono ?_; rintro ea wa ⟨rfl, ga⟩))
    have KF : KD3 w (w.heap.size + 1 + 1) (w.heap.size + 1 + 1 + 1) d s e f u o x sm wa := by assumption
    have KB := Lib.hid KF.1
    obtain ⟨q1, q2⟩ := Q.out
    rw [← q2]
    clear q2 KF S0 T0
    clear Q C1
    generalize hol d s e f u o sm t = A at *
    generalize hol x s e f u o sm t = B at *
    cases A <;> cases B
    case true.true => exact absurd q1 (by decide)
    all_goals
      go_wp2_with fail
      refine (example_any _ (HT.out.below KB.out)).mono ?_
      rintro e wx ⟨rfl, gx⟩
      go_wp2_with fail
      go_ret
      exact ⟨rfl, b2 KB.out gx⟩
  · go_wp2_with fail
    generalize 127 - d = x at *
    have S0 : KD3 w (w.heap.size + 1 + 1 + 1) (w.heap.size + 1 + 1) d s e f u o x sm (((((w.alloc (.cells #[.int .i64 d, .int .i64 s, .int .i64 e, .int .i64 f, .int .i64 u] 23)).alloc (.cells #[.int .i64 o, .bool sm] 29)).alloc (.cells #[.int .i64 0, .int .i64 s, .int .i64 e, .int .i64 f, .int .i64 u] 23)).alloc (.cells #[.int .i64 x, .int .i64 s, .int .i64 e, .int .i64 f, .int .i64 u] 23)).drew) := by
      refine KD3.drew ⟨b2 (b2 (b2 (b_new _ _) (b_new _ _)) (b_new _ _)) (b_new _ _), by simp, ?_, ?_, ?_, ?_, ?_, ?_, ?_, ?_, ?_, ?_, ?_, ?_, ?_, ?_, ?_, ?_, ?_⟩ <;> simp [go_sem]
    have T0 := fun (X : World) (k : KD3 w (w.heap.size + 1 + 1 + 1) (w.heap.size + 1 + 1) d s e f u o x sm X) => HT.out.below k.1
    go_region_held3 (fun X => Below w.heap.size w X ∧ w.heap.size + 1 + 1 + 1 < X.heap.size ∧ X.cell? ⟨w.heap.size, 0, none⟩ = some (.int .i64 d) ∧ X.cell? ⟨w.heap.size, 1, none⟩ = some (.int .i64 s) ∧ X.cell? ⟨w.heap.size, 2, none⟩ = some (.int .i64 e) ∧ X.cell? ⟨w.heap.size, 3, none⟩ = some (.int .i64 f) ∧ X.cell? ⟨w.heap.size, 4, none⟩ = some (.int .i64 u) ∧ X.cell? ⟨w.heap.size + 1, 0, none⟩ = some (.int .i64 o) ∧ X.cell? ⟨w.heap.size + 1, 1, none⟩ = some (.bool sm) ∧ X.cell? ⟨w.heap.size + 1 + 1 + 1, 0, none⟩ = some (.int .i64 x) ∧ X.cell? ⟨w.heap.size + 1 + 1 + 1, 1, none⟩ = some (.int .i64 s) ∧ X.cell? ⟨w.heap.size + 1 + 1 + 1, 2, none⟩ = some (.int .i64 e) ∧ X.cell? ⟨w.heap.size + 1 + 1 + 1, 3, none⟩ = some (.int .i64 f) ∧ X.cell? ⟨w.heap.size + 1 + 1 + 1, 4, none⟩ = some (.int .i64 u) ∧ X.cell? ⟨w.heap.size + 1 + 1, 0, none⟩ = some (.int .i64 0) ∧ X.cell? ⟨w.heap.size + 1 + 1, 1, none⟩ = some (.int .i64 s) ∧ X.cell? ⟨w.heap.size + 1 + 1, 2, none⟩ = some (.int .i64 e) ∧ X.cell? ⟨w.heap.size + 1 + 1, 3, none⟩ = some (.int .i64 f) ∧ X.cell? ⟨w.heap.size + 1 + 1, 4, none⟩ = some (.int .i64 u)) (first | assumption | exact KD3.draws S0 _ | exact KD3.drew (by assumption) | exact KD3.below (by omega) (by omega) (by assumption) (by assumption))
      ((go_at_call 14; refine (C1.out _ _ (T0 _ (by assumption))).mono ?_; rintro ea wa ⟨rfl, ga⟩))
    have KF : KD3 w (w.heap.size + 1 + 1 + 1) (w.heap.size + 1 + 1) d s e f u o x sm wa := by assumption
    have KB := Lib.hid KF.1
    obtain ⟨q1, q2⟩ := Q.out
    rw [← q2]
    clear q2 KF S0 T0
    clear Q C1
    generalize hol d s e f u o sm t = A at *
    generalize hol x s e f u o sm t = B at *
    cases A <;> cases B
    case true.true => exact absurd q1 (by decide)
    all_goals
      go_wp2_with fail
      refine (example_any _ (HT.out.below KB.out)).mono ?_
      rintro e wx ⟨rfl, gx⟩
      go_wp2_with fail
      go_ret
      exact ⟨rfl, b2 KB.out gx⟩

set_option maxRecDepth 100000 in
theorem contract (H : Type) (enc : TypeId × Value → H) (W : World) (base : Nat) (args : Array Value) (ds gs : List (DataW H)) (before : List MemPlace)
    (hval : ∀ (j : Nat) t v, Tryd.f9.params[j]? = some t → args[j]? = some v → Value.okWide Tryd.prog W .any base t v)
    (hW : DataW.Whole enc Tryd.prog Tryd.f9.params.toList Rows.windowDaysSpec.vars false W args.toList ds gs before) (hL : laidMetH Tryd.prog Rows.windowDaysRow.laid W) :
    Calls Tryd.prog 9 args W fun e W' => ∃ v, e = .returned v ∧ Rows.windowDaysSpec.post enc Tryd.prog Tryd.f9 false true false false W args v W' := by
  have hW' := hW
  obtain ⟨p, q, hA0, hV, rfl, hfz, hnd⟩ := hW
  have hA : DataW.TrodAll enc Tryd.prog W 0 (fun _ => true) true Tryd.f9.params.toList args.toList ds p := hA0
  rw [Tryd.params9] at hA hval
  obtain ⟨v0, vs0, d0, ds0, p0, q0, hargs, rfl, rfl, h0, r0⟩ := trodAll_cons hA
  obtain ⟨v1, vs1, d1, ds1, p1, q1, rfl, rfl, rfl, h1, r1⟩ := trodAll_cons r0
  obtain ⟨v2, vs2, d2, ds2, p2, q2, rfl, rfl, rfl, h2, r2⟩ := trodAll_cons r1
  obtain ⟨rfl, rfl, rfl⟩ := trodAll_nil r2
  obtain rfl : args = #[v0, v1, v2] := by cases args; simp_all
  obtain ⟨rfl, rfl⟩ := trodVars_none hV
  have k0' := h0
  have lt0 : ∀ x ∈ p0, x.block < W.heap.size := by obtain ⟨m, hm⟩ := k0'; exact DataW.trod_lt m _ _ _ hm
  have k1' := h1
  have lt1 : ∀ x ∈ p1, x.block < W.heap.size := by obtain ⟨m, hm⟩ := k1'; exact DataW.trod_lt m _ _ _ hm
  have k2' := h2
  have lt2 : ∀ x ∈ p2, x.block < W.heap.size := by obtain ⟨m, hm⟩ := k2'; exact DataW.trod_lt m _ _ _ hm
  obtain ⟨y0, m0, d0', k0, n0, rfl⟩ := window_form (hval 0 23 v0 rfl rfl) h0
  obtain ⟨o1, sm1, rfl⟩ := zone_form (hval 1 29 v1 rfl rfl) h1
  obtain ⟨a2, rfl, rfl, rfl, w2⟩ := open_int Tryd.underlying3 (hval 2 3 v2 rfl rfl) h2
  clear hA0
  simp only [List.append_nil] at hW'
  refine (walk y0 m0 d0' k0 n0 o1 sm1 a2 W w2 (tab_of_laid hL)).mono fun e W' ⟨he, bel⟩ => ?_
  subst he
  exact ⟨_, rfl, _, _, _, [], _, [], hW', trodAll_mk1 (shut_bool Tryd.underlying4 _), (trodAll_cons_mk (Below.trod laidOut (by kernel_rfl) (of_decide_eq_true (by kernel_rfl)) k0' bel lt0) (trodAll_cons_mk (Below.trod laidOut (by kernel_rfl) (of_decide_eq_true (by kernel_rfl)) k1' bel lt1) (trodAll_cons_mk (Below.trod laidOut (by kernel_rfl) (of_decide_eq_true (by kernel_rfl)) k2' bel lt2) trodAll_mk0))), rfl, bel.frame _, fun h => by cases h⟩

set_option maxRecDepth 100000 in
theorem laid_met (os : Os) : laidMet Tryd.prog Rows.windowDaysRow.laid ((laidWorld os).forCall (fun _ _ => 0) ⟨#[], #[.agg #[.int .i64 0, .int .i64 0, .int .i64 0, .int .i64 0, .int .i64 0], .agg #[.int .i64 0, .bool false], .int .i64 0], []⟩).memory :=
  laidMet_of_run' 8 (by kernel_rfl) (by kernel_rfl)
set_option maxRecDepth 100000 in
theorem reads (os : Os) {H : Type} (enc : TypeId × Value → H) : ∃ places, DataW.whole enc Tryd.prog ((laidWorld os).forCall (fun _ _ => 0) ⟨#[], #[.agg #[.int .i64 0, .int .i64 0, .int .i64 0, .int .i64 0, .int .i64 0], .agg #[.int .i64 0, .bool false], .int .i64 0], []⟩).memory Tryd.f9.params.toList Rows.windowDaysSpec.vars false (#[.agg #[.int .i64 0, .int .i64 0, .int .i64 0, .int .i64 0, .int .i64 0], .agg #[.int .i64 0, .bool false], .int .i64 0] : Array Value).toList 8 = some ([.agg [.lit (.int .i64 0), .lit (.int .i64 0), .lit (.int .i64 0), .lit (.int .i64 0), .lit (.int .i64 0)], .agg [.lit (.int .i64 0), .lit (.bool false)], .lit (.int .i64 0)], [], places) :=
  ⟨[], by kernel_rfl⟩

set_option maxRecDepth 100000 in
theorem lifted (os : Os) (started : os.Started) (H : Type) (enc : TypeId × Value → H) (F : Stop.Interp) :
    ReturnsInHanded {} Tryd.checked os 9 .any ((OpenSpec.ofChange Rows.windowDaysSpec).preRow enc Tryd.prog Tryd.f9 Rows.windowDaysRow.domain false Rows.windowDaysRow.laid) (((OpenSpec.ofChange Rows.windowDaysSpec).at F).post enc Tryd.prog Tryd.f9 false true false false) := by
  obtain ⟨places, hx⟩ := reads os enc
  refine returnsInHanded_of_row (C := Tryd.checked) (s := OpenSpec.ofChange Rows.windowDaysSpec) own started (by kernel_rfl) Tryd.func9
    (witness_row_at (enc := enc) (C := Tryd.checked) false (laidWorld os) #[.agg #[.int .i64 0, .int .i64 0, .int .i64 0, .int .i64 0, .int .i64 0], .agg #[.int .i64 0, .bool false], .int .i64 0] rfl (by kernel_rfl) (by kernel_rfl) (by kernel_rfl)
      (OpenSpec.preRow_of_cond 8 hx (by kernel_rfl) (fun k hk => by cases hk) (by kernel_rfl) (laid_met os))) ?_
  intro W base args ds gs before hval hW _ _ _ hL _ _
  exact contract H enc W base args ds gs before hval hW hL

set_option maxRecDepth 100000 in
theorem said : Rows.WindowDaysSaid :=
  OpenClaim.holds_of_cond 9 Tryd.f9 rfl rfl rfl rfl rfl rfl rfl ⟨rfl, rfl, rfl, rfl, rfl⟩ rfl rfl rfl rfl rfl (by kernel_rfl) Tryd.func9 (by kernel_rfl)
    (of_decide_eq_true (by kernel_rfl)) (by unfold Func.isWrapper; first | (rw [if_pos (by decide +kernel)]; kernel_rfl) | (rw [if_neg (by decide +kernel)]; exact ⟨rfl, rfl⟩))
    (fun os started H enc _ F => by rw [OpenClaim.pre_eq_preRow]; exact lifted os started H enc F)

set_option maxRecDepth 100000 in
theorem plain (f : FuncId) (fn : Func) (hf : Tryd.pinned.checked.prog.funcNamed "chargenet/chargenetlaw05.WindowDays" = some f) (hfn : Tryd.pinned.checked.prog.funcs[f]? = some fn) :
    true = Tryd.pinned.checked.prog.looks [] ∧ ∀ (j : Nat) t, fn.params[j]? = some t → Tryd.pinned.checked.prog.wantsStandIn t = false := by
  obtain rfl : f = 9 := Option.some.inj ((show Tryd.prog.funcNamed "chargenet/chargenetlaw05.WindowDays" = some 9 by kernel_rfl).symm.trans hf) |>.symm
  obtain rfl : fn = Tryd.f9 := (Option.some.inj (Tryd.func9.symm.trans hfn)).symm
  refine ⟨by kernel_rfl, fun j t ht => ?_⟩
  rw [Tryd.params9] at ht
  have hm : t ∈ [23, 29, 3] := by simpa using Array.mem_of_getElem? ht
  have hall : ([23, 29, 3].all fun u => !Tryd.prog.wantsStandIn u) = true := by kernel_rfl
  exact (show Tryd.prog.wantsStandIn t = false by simpa using List.all_eq_true.1 hall t hm)
end windowDays

theorem windowDays_holds : Rows.WindowDaysCardSaid :=
  Claim7.holds_tied_plain_at .later [] _ _ _ _ windowDays.said (fun _ h => by cases h) (by kernel_rfl) (fun _ h => by cases h) windowDays_row_tie rfl ⟨rfl, rfl⟩ (by kernel_rfl) rfl windowDays.plain (by kernel_rfl)
#print axioms windowDays_holds
end Go.Proofs.YtmapkiefmbgdoaaDoor
