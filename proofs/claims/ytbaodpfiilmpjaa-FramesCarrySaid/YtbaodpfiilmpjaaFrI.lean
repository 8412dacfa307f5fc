/-
  What the reference's Unpack returns.
-/
import Derived.Test.YtbaodpfiilmpjaaFrH
namespace Go.Proofs.Ytbaodpfiilmpjaa.F
open Go.RowKit
open IntWalk

end Go.Proofs.Ytbaodpfiilmpjaa.F
