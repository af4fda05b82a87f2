/- The document's stage: on. -/
import Derived.Test.YtccokpnmdfalpaaGreatDoorWalkB
namespace Go.Proofs.YtccokpnmdfalpaaGreatDoor
open Go.RowKit

end Go.Proofs.YtccokpnmdfalpaaGreatDoor
