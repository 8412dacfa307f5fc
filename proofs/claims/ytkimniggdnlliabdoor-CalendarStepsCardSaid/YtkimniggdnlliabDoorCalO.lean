/-
  The table of the months' lengths, out of the row's list; a world that holds it.
-/
import Derived.Test.YtkimniggdnlliabDoorCards
import Derived.Test.YtkimniggdnlliabDoorTie
import Derived.Test.YtkimniggdnlliabDoorCalN
import Derived.ProofKit
import Derived.OpenShut
import Derived.ShutString
import Derived.Deep.DeepHandedRow
import Derived.Lib.LaidTab
import Derived.Lib.SmallJoins
import Derived.Deep.Fields
namespace Go.Proofs.YtkimniggdnlliabDoor
open Go.ChangeShapes Go.WideShapes Go.ChangeAt Go.RowKit
open Cal
set_option linter.unusedVariables false

theorem own : ownKnob Tryd.prog.godebug = none := by kernel_rfl
theorem laidOut : laidOutB Tryd.prog = true := by kernel_rfl
theorem gTab : Tryd.prog.globalNamed "chargenet/calendar.lengths" = some 0 := by kernel_rfl
theorem gTabType : (Tryd.prog.globals[0]?).map (·.type) = some 52 := by kernel_rfl
theorem cellsTab : Tryd.prog.cellsOf 52 = 12 := by kernel_rfl
theorem cellsInt : Tryd.prog.cellsOf 3 = 1 := by kernel_rfl

theorem tab_of_laid {W : World} (h : laidMetH Tryd.prog [("chargenet/calendar.lengths", Rows.laid_chargenet_calendar_lengths)] W) : Tab W := by
  have ht : Lib.TabIs Tryd.prog W "chargenet/calendar.lengths" .i64 [31, 28, 31, 30, 31, 30, 31, 31, 30, 31, 30, 31] :=
    Lib.tabIs_of_head (rest := []) gTab gTabType Tryd.underlying52 Tryd.underlying3 cellsInt cellsTab h
  intro k hk
  have hc := ht.cell gTab k (by simpa using hk)
  rw [hc]
  have e : ∀ k : Fin 12, ([31, 28, 31, 30, 31, 30, 31, 31, 30, 31, 30, 31] : List Int).getD k.1 0 = tabAt k.1 := by decide
  exact congrArg (fun x => some (Value.int .i64 x)) (e ⟨k, hk⟩)

/-- A world in which the table lies as its initialiser lays it. -/
noncomputable def laidWorld (os : Os) : World :=
  { World.holding Tryd.prog os ⟨#[], #[], []⟩ with heap := (World.holding Tryd.prog os ⟨#[], #[], []⟩).heap.modify 0 fun
      | .cells _ t frozen => .cells #[.int .i64 31, .int .i64 28, .int .i64 31, .int .i64 30, .int .i64 31, .int .i64 30, .int .i64 31, .int .i64 31, .int .i64 30, .int .i64 31, .int .i64 30, .int .i64 31] t frozen
      | o => o }

/-! The structs that come in by value. -/
theorem cellsZone : Tryd.prog.cellsOf 23 = 2 := by kernel_rfl
theorem cellsDate : Tryd.prog.cellsOf 25 = 5 := by kernel_rfl
theorem arr_five (cs : Array Value) (h : cs.size = 5) : ∃ c0 c1 c2 c3 c4, cs = #[c0, c1, c2, c3, c4] := by
  obtain ⟨l⟩ := cs
  match l, h with
  | [c0, c1, c2, c3, c4], _ => exact ⟨c0, c1, c2, c3, c4, rfl⟩
section
variable {H : Type} {enc : TypeId × Value → H} {W : World} {base : Nat} {spare : Nat → Bool} {held : Bool} {v : Value} {d : DataW H} {p : List MemPlace} {r : Reach} {b0 : Nat}
theorem zone_form (hv : Value.okWide Tryd.prog W r b0 23 v) (h : DataW.Trod enc Tryd.prog W base spare held 23 v d p) : ∃ o sm, v = .agg #[.int .i64 o, .bool sm] := by
  obtain ⟨c0, c1, y0, y1, n, rfl, _, _, h0, h1⟩ := Joins.open_agg2 Tryd.underlying23 (by kernel_rfl) cellsZone hv h
  obtain ⟨o, e0, _, _⟩ := DataW.trod_int Tryd.underlying3 h0
  obtain ⟨s, e1, _⟩ := DataW.trod_bool Tryd.underlying4 h1
  simp only [List.cons.injEq, and_true] at e0 e1
  exact ⟨o, s, by rw [e0, e1]⟩
theorem date_form (hv : Value.okWide Tryd.prog W r b0 25 v) (h : DataW.Trod enc Tryd.prog W base spare held 25 v d p) : ∃ y m k q n, v = .agg #[.int .i64 y, .int .i64 m, .int .i64 k, .int .i64 q, .int .i64 n] := by
  obtain ⟨cs, rfl, hsz⟩ := okWide_struct Tryd.underlying25 hv
  rw [cellsDate] at hsz
  obtain ⟨fuel, hf⟩ := h
  obtain ⟨xs, n, _, _, _, hlen, hg⟩ := DataW.trod_struct Tryd.underlying25 hf
  have one : ∀ i : Nat, i < 5 → ∃ z : Int, cs[i]? = some (.int .i64 z) := by
    intro i hi
    have hx : ∃ x, xs[i]? = some x := by
      have : i < xs.length := by rw [hlen]; exact hi
      exact ⟨xs[i], List.getElem?_eq_getElem this⟩
    obtain ⟨x, hx⟩ := hx
    have key : ∀ f : Field, f.offset = i → f.type = 3 → DataW.trod enc Tryd.prog W base spare held n f.type (((Value.agg cs).cells.toList.drop f.offset).take (Tryd.prog.cellsOf f.type)) = xs[i]? → ∃ z : Int, cs[i]? = some (.int .i64 z) := by
      intro f ho ht hfi
      rw [ho, ht, cellsInt, hx] at hfi
      obtain ⟨z, e, _, _⟩ := DataW.trod_int Tryd.underlying3 hfi
      have hi' : i < cs.toList.length := by rw [Array.length_toList, hsz]; exact hi
      have e2 : (cs.toList.drop i).take 1 = [cs.toList[i]] := by rw [List.drop_eq_getElem_cons hi']; rfl
      have e3 : (cs.toList.drop i).take 1 = [.int .i64 z] := e
      rw [e2] at e3
      simp only [List.cons.injEq, and_true] at e3
      exact ⟨z, by rw [Array.getElem?_eq_getElem (by omega)]; simpa using e3⟩
    match i, hi with
    | 0, _ => exact key _ rfl rfl (hg 0 _ rfl)
    | 1, _ => exact key _ rfl rfl (hg 1 _ rfl)
    | 2, _ => exact key _ rfl rfl (hg 2 _ rfl)
    | 3, _ => exact key _ rfl rfl (hg 3 _ rfl)
    | 4, _ => exact key _ rfl rfl (hg 4 _ rfl)
    | i + 5, hi => exact absurd hi (by omega)
  obtain ⟨c0, c1, c2, c3, c4, rfl⟩ := arr_five cs hsz
  obtain ⟨z0, e0⟩ := one 0 (by decide)
  obtain ⟨z1, e1⟩ := one 1 (by decide)
  obtain ⟨z2, e2⟩ := one 2 (by decide)
  obtain ⟨z3, e3⟩ := one 3 (by decide)
  obtain ⟨z4, e4⟩ := one 4 (by decide)
  simp at e0 e1 e2 e3 e4
  exact ⟨z0, z1, z2, z3, z4, by rw [e0, e1, e2, e3, e4]⟩
theorem cellsAsk : Tryd.prog.cellsOf 34 = 3 := by kernel_rfl
theorem ask_form (hv : Value.okWide Tryd.prog W r b0 34 v) (h : DataW.Trod enc Tryd.prog W base spare held 34 v d p) : ∃ x y z, v = .agg #[.int .i64 x, .int .i64 y, .int .i64 z] := by
  obtain ⟨c0, c1, c2, y0, y1, y2, n, rfl, _, _, h0, h1, h2⟩ := Joins.open_agg3 Tryd.underlying34 (by kernel_rfl) cellsAsk hv h
  obtain ⟨x, e0, _, _⟩ := DataW.trod_int Tryd.underlying3 h0
  obtain ⟨y, e1, _, _⟩ := DataW.trod_int Tryd.underlying3 h1
  obtain ⟨z, e2, _, _⟩ := DataW.trod_int Tryd.underlying3 h2
  simp only [List.cons.injEq, and_true] at e0 e1 e2
  exact ⟨x, y, z, by rw [e0, e1, e2]⟩
end
end Go.Proofs.YtkimniggdnlliabDoor
