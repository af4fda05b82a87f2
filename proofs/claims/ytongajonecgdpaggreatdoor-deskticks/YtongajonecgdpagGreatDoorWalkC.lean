/- The document's stage: on. -/
import Derived.Test.YtongajonecgdpagGreatDoorWalkB
namespace Go.Proofs.YtongajonecgdpagGreatDoor
open Go.RowKit

end Go.Proofs.YtongajonecgdpagGreatDoor
