/- The document's two: two parts of a node, with words ahead, between and behind. -/
import Derived.Test.YtongajonecgdpagGreatDoorReadE
import Derived.Test.YtongajonecgdpagGreatDoorTextR
namespace Go.Proofs.YtongajonecgdpagGreatDoor
open Go.RowKit

end Go.Proofs.YtongajonecgdpagGreatDoor
