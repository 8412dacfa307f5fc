/-
  TakeList, whole.
-/
import Derived.Test.YtbaodpfiilmpjaaFiK
namespace Go.Proofs.Ytbaodpfiilmpjaa
open Go.RowKit
open IntWalk
set_option linter.unusedVariables false

def GivesP (w : World) (r : Except Int (List (List UInt8))) (e : Ending) (w' : World) : Prop := ∃ u, e = .returned (.tuple #[u, .int .i64 (kR r)]) ∧ RdP w' u (okL r) ∧ Below w.heap.size w w'

end Go.Proofs.Ytbaodpfiilmpjaa
