/-
  What Holds of the reference returns.
-/
import Derived.Test.YtmapkiefmbgdoabDoorWinE
namespace Go.Proofs.YtmapkiefmbgdoabDoor
open Go.RowKit
open Cal

end Go.Proofs.YtmapkiefmbgdoabDoor
