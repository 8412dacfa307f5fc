/-
  Lists and records compared.
-/
import Derived.Test.YtbaodpfiilmpjaaFiN
namespace Go.Proofs.Ytbaodpfiilmpjaa
open Go.RowKit
open IntWalk
end Go.Proofs.Ytbaodpfiilmpjaa
