/-
  What lies between two marks, in the reference; what a slice of bytes is to both.
-/
import Derived.Test.YtbaodpfiilmpjaaFrF
namespace Go.Proofs.Ytbaodpfiilmpjaa.F
open Go.RowKit
open IntWalk

theorem contOf_run (u : Value) (l : List UInt8) (w : World) (hl : l.length ≤ 100000) (hR : RdB w u l) : Calls Try.prog 29 #[u] w (Gives w (contR l)) := by
  obtain ⟨p, c, rfl, _, _, h⟩ := hR
  by_cases hn : l = []
  · subst hn
    refine (content_none p c w).mono fun e w' ⟨he, hw⟩ => ?_
    subst hw; subst he
    exact gives_err rfl (Below.refl _ _)
  · obtain ⟨b, o, rfl, ha⟩ := h hn
    exact content_some b o c l w hl hn ha
/-- The end of inside. -/
def GivesI (w : World) (n : Nat) (r : Ins) (e : Ending) (w' : World) : Prop :=
  (match r with
  | .short => e = .returned (.tuple #[.slice none 0 0, .int .i64 0, .int .i64 6])
  | .form => e = .returned (.tuple #[.slice none 0 0, .int .i64 0, .int .i64 5])
  | .done acc rest => rest.length < n ∧ ∃ v, e = .returned (.tuple #[v, .int .i64 ((n : Int) - 1 - rest.length), .int .i64 0]) ∧ OwnB w' w.heap.size v acc) ∧ Below w.heap.size w w'
theorem givesI_short {w w' : World} {n : Nat} {r : Ins} (h : r = .short) (hb : Below w.heap.size w w') : GivesI w n r (.returned (.tuple #[.slice none 0 0, .int .i64 0, .int .i64 6])) w' := by subst h; exact ⟨rfl, hb⟩
theorem givesI_form {w w' : World} {n : Nat} {r : Ins} (h : r = .form) (hb : Below w.heap.size w w') : GivesI w n r (.returned (.tuple #[.slice none 0 0, .int .i64 0, .int .i64 5])) w' := by subst h; exact ⟨rfl, hb⟩
theorem givesI_done {w w' : World} {n : Nat} {r : Ins} {v : Value} {acc rest : List UInt8} {i : Int} (h : r = .done acc rest) (hi : i = (n : Int) - 1 - rest.length) (hr : rest.length < n) (ho : OwnB w' w.heap.size v acc) (hb : Below w.heap.size w w') :
    GivesI w n r (.returned (.tuple #[v, .int .i64 i, .int .i64 0])) w' := by subst h; subst hi; exact ⟨⟨hr, v, rfl, ho⟩, hb⟩

end Go.Proofs.Ytbaodpfiilmpjaa.F
