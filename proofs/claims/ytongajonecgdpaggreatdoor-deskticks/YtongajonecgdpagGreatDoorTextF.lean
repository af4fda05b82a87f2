/- The document's nodeFrom: a node, read from a text. -/
import Derived.Test.YtongajonecgdpagGreatDoorTextE
import Derived.Deep.Upon
import Derived.Deep.DeepCutAuto
import Derived.Deep.CutBlock
import Derived.Deep.RegionHeld3
import Derived.Deep.LoopGhost
namespace Go.Proofs.YtongajonecgdpagGreatDoor
open Go.RowKit

theorem four {k : Nat} (h : k < 4) : k = 0 ∨ k = 1 ∨ k = 2 ∨ k = 3 := by omega
end Go.Proofs.YtongajonecgdpagGreatDoor
