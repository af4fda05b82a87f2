/- The document's two: two parts of a node, with words ahead, between and behind. -/
import Derived.Test.YtccokpnmdfalpaaGreatDoorReadE
import Derived.Test.YtccokpnmdfalpaaGreatDoorTextR
namespace Go.Proofs.YtccokpnmdfalpaaGreatDoor
open Go.RowKit

end Go.Proofs.YtccokpnmdfalpaaGreatDoor
