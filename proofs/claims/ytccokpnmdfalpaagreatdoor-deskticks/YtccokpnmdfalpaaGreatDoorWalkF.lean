/- The document's walk (WalkOf), its rows made since. -/
import Derived.Test.YtccokpnmdfalpaaGreatDoorWalkC
import Derived.Test.YtccokpnmdfalpaaGreatDoorWalkD
import Derived.Test.YtccokpnmdfalpaaGreatDoorTickA
import Derived.Test.YtccokpnmdfalpaaGreatDoorEvalM
namespace Go.Proofs.YtccokpnmdfalpaaGreatDoor
open Go.RowKit

end Go.Proofs.YtccokpnmdfalpaaGreatDoor
