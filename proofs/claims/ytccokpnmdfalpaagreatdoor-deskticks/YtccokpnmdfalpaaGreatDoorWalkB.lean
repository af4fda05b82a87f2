/- The document's stage: begin. -/
import Derived.Test.YtccokpnmdfalpaaGreatDoorWalkM
namespace Go.Proofs.YtccokpnmdfalpaaGreatDoor
open Go.RowKit

end Go.Proofs.YtccokpnmdfalpaaGreatDoor
