/- The document's ProgFrom, and the statement TextShows. -/
import Derived.Test.YtongajonecgdpagGreatDoorTextF
import Derived.Test.YtongajonecgdpagGreatDoorTextS
namespace Go.Proofs.YtongajonecgdpagGreatDoor
open Go.RowKit

end Go.Proofs.YtongajonecgdpagGreatDoor
