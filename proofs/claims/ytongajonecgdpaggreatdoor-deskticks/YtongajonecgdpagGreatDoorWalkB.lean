/- The document's stage: begin. -/
import Derived.Test.YtongajonecgdpagGreatDoorWalkM
namespace Go.Proofs.YtongajonecgdpagGreatDoor
open Go.RowKit

end Go.Proofs.YtongajonecgdpagGreatDoor
