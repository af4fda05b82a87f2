/- The document's walk (WalkOf), its rows made since. -/
import Derived.Test.YtongajonecgdpagGreatDoorWalkC
import Derived.Test.YtongajonecgdpagGreatDoorWalkD
import Derived.Test.YtongajonecgdpagGreatDoorTickA
import Derived.Test.YtongajonecgdpagGreatDoorEvalM
namespace Go.Proofs.YtongajonecgdpagGreatDoor
open Go.RowKit

end Go.Proofs.YtongajonecgdpagGreatDoor
