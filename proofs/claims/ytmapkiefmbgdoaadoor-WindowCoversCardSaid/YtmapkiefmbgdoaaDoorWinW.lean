/-
  What the laws on windows share: the table of the months' lengths out of the row's list, the structs that come in, what is kept in the drawn regions.
-/
import Derived.Test.YtmapkiefmbgdoaaDoorCards
import Derived.Test.YtmapkiefmbgdoaaDoorTie
import Derived.Test.YtmapkiefmbgdoaaDoorWinV
import Derived.ProofKit
import Derived.OpenShut
import Derived.ShutString
import Derived.Deep.DeepHandedRow
import Derived.Lib.LaidTab
import Derived.Lib.SmallJoins
import Derived.Deep.Fields
namespace Go.Proofs.YtmapkiefmbgdoaaDoor
open Go.ChangeShapes Go.WideShapes Go.ChangeAt Go.RowKit
open Cal
set_option linter.unusedVariables false

theorem own : ownKnob Tryd.prog.godebug = none := by kernel_rfl
theorem laidOut : laidOutB Tryd.prog = true := by kernel_rfl
theorem gTab : Tryd.prog.globalNamed "chargenet/calendar.lengths" = some 2 := by kernel_rfl
theorem gTabType : (Tryd.prog.globals[2]?).map (·.type) = some 102 := by kernel_rfl
theorem cellsTab : Tryd.prog.cellsOf 102 = 12 := by kernel_rfl
theorem cellsInt : Tryd.prog.cellsOf 3 = 1 := by kernel_rfl

theorem tab_of_laid {W : World} (h : laidMetH Tryd.prog [("chargenet/calendar.lengths", Rows.laid_chargenet_calendar_lengths)] W) : Tab W := by
  have ht : Lib.TabIs Tryd.prog W "chargenet/calendar.lengths" .i64 [31, 28, 31, 30, 31, 30, 31, 31, 30, 31, 30, 31] :=
    Lib.tabIs_of_head (rest := []) gTab gTabType Tryd.underlying102 Tryd.underlying3 cellsInt cellsTab h
  intro k hk
  have hc := ht.cell gTab k (by simpa using hk)
  rw [hc]
  have e : ∀ k : Fin 12, ([31, 28, 31, 30, 31, 30, 31, 31, 30, 31, 30, 31] : List Int).getD k.1 0 = tabAt k.1 := by decide
  exact congrArg (fun x => some (Value.int .i64 x)) (e ⟨k, hk⟩)

/-- A world in which the table lies as its initialiser lays it. -/
noncomputable def laidWorld (os : Os) : World :=
  { World.holding Tryd.prog os ⟨#[], #[], []⟩ with heap := (World.holding Tryd.prog os ⟨#[], #[], []⟩).heap.modify 2 fun
      | .cells _ t frozen => .cells #[.int .i64 31, .int .i64 28, .int .i64 31, .int .i64 30, .int .i64 31, .int .i64 30, .int .i64 31, .int .i64 31, .int .i64 30, .int .i64 31, .int .i64 30, .int .i64 31] t frozen
      | o => o }

/-! The structs that come in by value. -/
theorem cellsZone : Tryd.prog.cellsOf 29 = 2 := by kernel_rfl
theorem cellsSpan : Tryd.prog.cellsOf 33 = 2 := by kernel_rfl
theorem cellsWindow : Tryd.prog.cellsOf 23 = 5 := by kernel_rfl
theorem arr_five (cs : Array Value) (h : cs.size = 5) : ∃ c0 c1 c2 c3 c4, cs = #[c0, c1, c2, c3, c4] := by
  obtain ⟨l⟩ := cs
  match l, h with
  | [c0, c1, c2, c3, c4], _ => exact ⟨c0, c1, c2, c3, c4, rfl⟩
section
variable {H : Type} {enc : TypeId × Value → H} {W : World} {base : Nat} {spare : Nat → Bool} {held : Bool} {v : Value} {d : DataW H} {p : List MemPlace} {r : Reach} {b0 : Nat}
set_option maxRecDepth 100000 in
theorem zone_form (hv : Value.okWide Tryd.prog W r b0 29 v) (h : DataW.Trod enc Tryd.prog W base spare held 29 v d p) : ∃ o sm, v = .agg #[.int .i64 o, .bool sm] := by
  obtain ⟨c0, c1, y0, y1, n, rfl, _, _, h0, h1⟩ := Joins.open_agg2 Tryd.underlying29 (by kernel_rfl) cellsZone hv h
  obtain ⟨o, e0, _, _⟩ := DataW.trod_int Tryd.underlying3 h0
  obtain ⟨s, e1, _⟩ := DataW.trod_bool Tryd.underlying4 h1
  simp only [List.cons.injEq, and_true] at e0 e1
  exact ⟨o, s, by rw [e0, e1]⟩
set_option maxRecDepth 100000 in
theorem span_form (hv : Value.okWide Tryd.prog W r b0 33 v) (h : DataW.Trod enc Tryd.prog W base spare held 33 v d p) : ∃ x y, v = .agg #[.int .i64 x, .int .i64 y] ∧ (Lit.int .i64 x).wf = true ∧ (Lit.int .i64 y).wf = true := by
  obtain ⟨c0, c1, y0, y1, n, rfl, _, _, h0, h1⟩ := Joins.open_agg2 Tryd.underlying33 (by kernel_rfl) cellsSpan hv h
  obtain ⟨o, e0, _, k0⟩ := DataW.trod_int Tryd.underlying3 h0
  obtain ⟨s, e1, _, k1⟩ := DataW.trod_int Tryd.underlying3 h1
  simp only [List.cons.injEq, and_true] at e0 e1
  exact ⟨o, s, by rw [e0, e1], k0, k1⟩
set_option maxRecDepth 100000 in
theorem window_form (hv : Value.okWide Tryd.prog W r b0 23 v) (h : DataW.Trod enc Tryd.prog W base spare held 23 v d p) : ∃ y m k q n, v = .agg #[.int .i64 y, .int .i64 m, .int .i64 k, .int .i64 q, .int .i64 n] := by
  obtain ⟨cs, rfl, hsz⟩ := okWide_struct Tryd.underlying23 hv
  rw [cellsWindow] at hsz
  obtain ⟨fuel, hf⟩ := h
  obtain ⟨xs, n, _, _, _, hlen, hg⟩ := DataW.trod_struct Tryd.underlying23 hf
  have one : ∀ i : Nat, i < 5 → ∃ z : Int, cs[i]? = some (.int .i64 z) := by
    intro i hi
    have hx : ∃ x, xs[i]? = some x := by
      have : i < xs.length := by rw [hlen]; exact hi
      exact ⟨xs[i], List.getElem?_eq_getElem this⟩
    obtain ⟨x, hx⟩ := hx
    have key : ∀ f : Field, f.offset = i → f.type = 3 → DataW.trod enc Tryd.prog W base spare held n f.type (((Value.agg cs).cells.toList.drop f.offset).take (Tryd.prog.cellsOf f.type)) = xs[i]? → ∃ z : Int, cs[i]? = some (.int .i64 z) := by
      intro f ho ht hfi
      rw [ho, ht, cellsInt, hx] at hfi
      obtain ⟨z, e, _, _⟩ := DataW.trod_int Tryd.underlying3 hfi
      have hi' : i < cs.toList.length := by rw [Array.length_toList, hsz]; exact hi
      have e2 : (cs.toList.drop i).take 1 = [cs.toList[i]] := by rw [List.drop_eq_getElem_cons hi']; rfl
      have e3 : (cs.toList.drop i).take 1 = [.int .i64 z] := e
      rw [e2] at e3
      simp only [List.cons.injEq, and_true] at e3
      exact ⟨z, by rw [Array.getElem?_eq_getElem (by omega)]; simpa using e3⟩
    match i, hi with
    | 0, _ => exact key _ rfl rfl (hg 0 _ rfl)
    | 1, _ => exact key _ rfl rfl (hg 1 _ rfl)
    | 2, _ => exact key _ rfl rfl (hg 2 _ rfl)
    | 3, _ => exact key _ rfl rfl (hg 3 _ rfl)
    | 4, _ => exact key _ rfl rfl (hg 4 _ rfl)
    | i + 5, hi => exact absurd hi (by omega)
  obtain ⟨c0, c1, c2, c3, c4, rfl⟩ := arr_five cs hsz
  obtain ⟨z0, e0⟩ := one 0 (by decide)
  obtain ⟨z1, e1⟩ := one 1 (by decide)
  obtain ⟨z2, e2⟩ := one 2 (by decide)
  obtain ⟨z3, e3⟩ := one 3 (by decide)
  obtain ⟨z4, e4⟩ := one 4 (by decide)
  simp at e0 e1 e2 e3 e4
  exact ⟨z0, z1, z2, z3, z4, by rw [e0, e1, e2, e3, e4]⟩
end
/-- What is kept in a drawn region: the window and the zone that came in lie in the call's first two blocks. -/
abbrev KL (w : World) (a0 a1 a2 a3 a4 a5 a6 : Value) (X : World) : Prop :=
  Below w.heap.size w X ∧ w.heap.size + 1 < X.heap.size ∧ X.cell? ⟨w.heap.size, 0, none⟩ = some a0 ∧ X.cell? ⟨w.heap.size, 1, none⟩ = some a1 ∧ X.cell? ⟨w.heap.size, 2, none⟩ = some a2 ∧ X.cell? ⟨w.heap.size, 3, none⟩ = some a3 ∧ X.cell? ⟨w.heap.size, 4, none⟩ = some a4 ∧ X.cell? ⟨w.heap.size + 1, 0, none⟩ = some a5 ∧ X.cell? ⟨w.heap.size + 1, 1, none⟩ = some a6
theorem KL.below {w X X' : World} {a0 a1 a2 a3 a4 a5 a6 : Value} (g : KL w a0 a1 a2 a3 a4 a5 a6 X) (b : Below X.heap.size X X') : KL w a0 a1 a2 a3 a4 a5 a6 X' := by
  obtain ⟨h, l0, c0, c1, c2, c3, c4, c5, c6⟩ := g
  have hc := (bcell b).1
  have l1 : w.heap.size < X.heap.size := by omega
  exact ⟨b2 h b, Nat.lt_of_lt_of_le l0 b.size, by rw [hc _ _ l1]; exact c0, by rw [hc _ _ l1]; exact c1, by rw [hc _ _ l1]; exact c2, by rw [hc _ _ l1]; exact c3, by rw [hc _ _ l1]; exact c4, by rw [hc _ _ l0]; exact c5, by rw [hc _ _ l0]; exact c6⟩
theorem KL.drew {w X : World} {a0 a1 a2 a3 a4 a5 a6 : Value} (g : KL w a0 a1 a2 a3 a4 a5 a6 X) : KL w a0 a1 a2 a3 a4 a5 a6 X.drew := ⟨g.1.drew, g.2⟩
theorem KL.draws {w X : World} {a0 a1 a2 a3 a4 a5 a6 : Value} (g : KL w a0 a1 a2 a3 a4 a5 a6 X) (q : Nat) : KL w a0 a1 a2 a3 a4 a5 a6 (X.drewN q) := by
  induction q with
  | zero => exact g
  | succ q ih => exact ih.drew
theorem KL.new (w : World) (a0 a1 a2 a3 a4 a5 a6 : Value) (T Z : TypeId) : KL w a0 a1 a2 a3 a4 a5 a6 ((w.alloc (.cells #[a0, a1, a2, a3, a4] T)).alloc (.cells #[a5, a6] Z)) := by
  refine ⟨b2 (b_new _ _) (b_new _ _), by simp, ?_, ?_, ?_, ?_, ?_, ?_, ?_⟩ <;> simp [go_sem]
theorem KL.tab {w X : World} {a0 a1 a2 a3 a4 a5 a6 : Value} (hT : Tab w) (g : KL w a0 a1 a2 a3 a4 a5 a6 X) : Tab X := hT.below g.1
theorem spR_len (d s e f u o : Int) (sm : Bool) (F T : Int) : (spR d s e f u o sm F T).length ≤ 512 := by
  unfold spR
  split
  · split
    · unfold limP; split
      · assumption
      · simp
    · simp
  · simp
theorem b_drawsW {n : Nat} {w X : World} (q : Nat) (h : Below n w X) : Below n w (X.drewN q) := by
  induction q with
  | zero => exact h
  | succ q ih => exact ih.drew
/-- The window, the zone and the span that came in lie in the call's first three blocks. -/
structure KS (w : World) (a0 a1 a2 a3 a4 a5 a6 a7 a8 : Value) (X : World) : Prop where
  b : Below w.heap.size w X
  l : w.heap.size + 1 + 1 < X.heap.size
  c0 : X.cell? ⟨w.heap.size, 0, none⟩ = some a0
  c1 : X.cell? ⟨w.heap.size, 1, none⟩ = some a1
  c2 : X.cell? ⟨w.heap.size, 2, none⟩ = some a2
  c3 : X.cell? ⟨w.heap.size, 3, none⟩ = some a3
  c4 : X.cell? ⟨w.heap.size, 4, none⟩ = some a4
  c5 : X.cell? ⟨w.heap.size + 1, 0, none⟩ = some a5
  c6 : X.cell? ⟨w.heap.size + 1, 1, none⟩ = some a6
  c7 : X.cell? ⟨w.heap.size + 1 + 1, 0, none⟩ = some a7
  c8 : X.cell? ⟨w.heap.size + 1 + 1, 1, none⟩ = some a8
theorem KS.below {w X X' : World} {a0 a1 a2 a3 a4 a5 a6 a7 a8 : Value} (g : KS w a0 a1 a2 a3 a4 a5 a6 a7 a8 X) (b : Below X.heap.size X X') : KS w a0 a1 a2 a3 a4 a5 a6 a7 a8 X' := by
  obtain ⟨h, l0, c0, c1, c2, c3, c4, c5, c6, c7, c8⟩ := g
  have hc := (bcell b).1
  have l1 : w.heap.size < X.heap.size := by omega
  have l2 : w.heap.size + 1 < X.heap.size := by omega
  exact ⟨b2 h b, Nat.lt_of_lt_of_le l0 b.size, by rw [hc _ _ l1]; exact c0, by rw [hc _ _ l1]; exact c1, by rw [hc _ _ l1]; exact c2, by rw [hc _ _ l1]; exact c3, by rw [hc _ _ l1]; exact c4, by rw [hc _ _ l2]; exact c5, by rw [hc _ _ l2]; exact c6, by rw [hc _ _ l0]; exact c7, by rw [hc _ _ l0]; exact c8⟩
theorem KS.new (w : World) (a0 a1 a2 a3 a4 a5 a6 a7 a8 : Value) (T Z S : TypeId) : KS w a0 a1 a2 a3 a4 a5 a6 a7 a8 (((w.alloc (.cells #[a0, a1, a2, a3, a4] T)).alloc (.cells #[a5, a6] Z)).alloc (.cells #[a7, a8] S)) := by
  refine ⟨b2 (b2 (b_new _ _) (b_new _ _)) (b_new _ _), by simp, ?_, ?_, ?_, ?_, ?_, ?_, ?_, ?_, ?_⟩ <;> simp [go_sem]
end Go.Proofs.YtmapkiefmbgdoaaDoor
