/- The document's ProgFrom, and the statement TextShows. -/
import Derived.Test.YtccokpnmdfalpaaGreatDoorTextF
import Derived.Test.YtccokpnmdfalpaaGreatDoorTextS
namespace Go.Proofs.YtccokpnmdfalpaaGreatDoor
open Go.RowKit

end Go.Proofs.YtccokpnmdfalpaaGreatDoor
