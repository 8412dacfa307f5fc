/-
  The arguments of the laws of the series: what comes in, as a list of steps or as two numbers.
-/
import Derived.Test.YtapfinnbfnhdbabSerZ
import Derived.ProofKit
import Derived.OpenShut
import Derived.ChangeOld
import Derived.Deep.DeepHandedRow
import Derived.Lib.SmallJoins
import Derived.Deep.Fields
import Derived.Deep.Slices
namespace Go.Proofs.Ytapfinnbfnhdbab
open Go.RowKit
open Ser
open Go.ChangeShapes Go.WideShapes Go.Deep
set_option linter.unusedVariables false

theorem own : ownKnob Try.prog.godebug = none := by kernel_rfl
theorem laidOut : laidOutB Try.prog = true := by kernel_rfl
theorem cellsStep : Try.prog.cellsOf 30 = 2 := by kernel_rfl
theorem cellsInt : Try.prog.cellsOf 3 = 1 := by kernel_rfl
section
variable {H : Type} {enc : TypeId × Value → H} {W : World} {base : Nat} {spare : Nat → Bool} {held : Bool} {v : Value} {d : DataW H} {p : List MemPlace} {r : Reach} {b0 : Nat}
theorem span_form (hv : Value.okWide Try.prog W r b0 35 v) (h : DataW.Trod enc Try.prog W base spare held 35 v d p) : ∃ f t, v = .agg #[.int .i64 f, .int .i64 t] := by
  obtain ⟨c0, c1, y0, y1, n, rfl, _, _, h0, h1⟩ := Joins.open_agg2 Try.underlying35 (by kernel_rfl) (by kernel_rfl) hv h
  obtain ⟨f, e0, _, _⟩ := DataW.trod_int Try.underlying3 h0
  obtain ⟨t, e1, _, _⟩ := DataW.trod_int Try.underlying3 h1
  simp only [List.cons.injEq, and_true] at e0 e1
  exact ⟨f, t, by rw [e0, e1]⟩
theorem step_cells {fuel : Nat} {cs : List Value} {x : DataW H × List MemPlace} (h : DataW.trod enc Try.prog W base spare held fuel 30 cs = some x) : ∃ a b : Int, cs[0]? = some (.int .i64 a) ∧ cs[1]? = some (.int .i64 b) := by
  obtain ⟨xs, n, _, _, hc, hlen, hg⟩ := DataW.trod_struct Try.underlying30 h
  rw [cellsStep] at hc
  match cs, hc with
  | [c0, c1], _ =>
    have h0 := hg 0 _ rfl
    have h1 := hg 1 _ rfl
    have l0 : xs[0]? = some (xs[0]'(by rw [hlen]; decide)) := List.getElem?_eq_getElem _
    have l1 : xs[1]? = some (xs[1]'(by rw [hlen]; decide)) := List.getElem?_eq_getElem _
    rw [l0] at h0
    rw [l1] at h1
    obtain ⟨a, e0, _, _⟩ := DataW.trod_int Try.underlying3 h0
    obtain ⟨b, e1, _, _⟩ := DataW.trod_int Try.underlying3 h1
    have e0' : [c0] = [Value.int .i64 a] := e0
    have e1' : [c1] = [Value.int .i64 b] := e1
    simp only [List.cons.injEq, and_true] at e0' e1'
    exact ⟨a, b, by rw [e0']; rfl, by rw [e1']; rfl⟩
theorem steps_form (hv : Value.okWide Try.prog W r b0 22 v) (h : DataW.Trod enc Try.prog W base spare held 22 v d p) : ∃ l : List St, Rd W v l := by
  obtain ⟨a0, len0, cap0, rfl⟩ := okWide_slice Try.underlying22 hv
  obtain ⟨fuel, hf⟩ := h
  rcases open_slice Try.underlying22 hf with ⟨hn, _⟩ | ⟨a, len, cap, m, n, D, Pl, hc, hb, hl, hm, hmm, _, hi⟩
  · have e : Value.slice a0 len0 cap0 = .slice none 0 0 := (List.cons.inj hn).1
    rw [e]; exact ⟨[], Rd.nil W⟩
  · have e : Value.slice a0 len0 cap0 = .slice (some a) len cap := (List.cons.inj hc).1
    rw [e]
    rw [cellsStep] at hi
    have hlm : len ≤ m := by rw [hmm]; split <;> omega
    have key : ∀ i, i < len → ∃ s : St, W.cell? (a.add (i * 2)) = some (.int .i64 s.1) ∧ W.cell? ((a.add (i * 2)).add 1) = some (.int .i64 s.2) := fun i hil => by
      obtain ⟨cs', h1, h2⟩ := hi i (by omega)
      obtain ⟨x, y, e0, e1⟩ := step_cells h2
      obtain ⟨_, _, h3⟩ := World.cells?_some h1
      refine ⟨(x, y), ?_, ?_⟩
      · have := h3 0 (by decide); rw [e0] at this; simpa [Addr.add] using this
      · have := h3 1 (by decide); rw [e1] at this; exact this
    obtain ⟨F, hF⟩ := choose_lt (α := St) key
    refine ⟨(List.range len).map F, some a, cap, by simp, by simpa using hl, hm, fun hne => ?_⟩
    have hpos : 0 < len := by
      by_cases c : 0 < len
      · exact c
      · exfalso; apply hne; simp [show len = 0 by omega]
    obtain ⟨b, o, spot⟩ := a
    have h0 := (hF 0 hpos).1
    have hs : spot = none := by
      cases spot with
      | none => rfl
      | some x =>
        have hz : W.cell? (Addr.add ⟨b, o, some x⟩ (0 * 2)) = none := by
          simp only [Nat.zero_mul, Addr.add, World.cell?]
          split <;> simp
        rw [hz] at h0; cases h0
    subst hs
    refine ⟨b, o, rfl, World.block_lt_of_cell? W _ h0, fun i hi' => ?_⟩
    have hil : i < len := by simpa using hi'
    obtain ⟨c1, c2⟩ := hF i hil
    rw [Addr.add_lit] at c1 c2
    rw [Addr.add_lit] at c2
    simp only [List.getElem_map, List.getElem_range]
    exact ⟨c1, c2⟩
end
theorem limL_len (l : List St) : (limL l).length ≤ 2000000 := by
  unfold limL; split
  · simp
  · omega
theorem addL_len (a b : List St) : (addL a b).length ≤ 2000000 := by
  unfold addL; split
  · split
    · exact limL_len _
    · simp
  · simp
theorem leastL_len (a b : List St) : (leastL a b).length ≤ 2000000 := by
  unfold leastL; split
  · exact limL_len _
  · simp
theorem clipL_len (l : List St) (f t : Int) : (clipL l f t).length ≤ 2000000 := by
  unfold clipL; split
  · split
    · simp
    · exact limL_len _
  · simp
theorem shL_len (l : List St) (m : Int) : (shL l m).length ≤ 2000000 := by
  unfold shL; split
  · rename_i h
    have h1 := ((ok_iff l).1 h).len
    split
    · have := nL_len (mvL m l) 0; rw [mvL_len] at this; omega
    · simp
  · simp
end Go.Proofs.Ytapfinnbfnhdbab
