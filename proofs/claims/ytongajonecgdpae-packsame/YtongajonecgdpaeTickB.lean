/- The document's timesError and DoOf. -/
import Derived.Test.YtongajonecgdpaeTickA
import Derived.Test.YtongajonecgdpaeEvalV
import Derived.Deep.RegionHeld3
import Derived.Deep.DrawnRows
namespace Go.Proofs.Ytongajonecgdpae
open Go.RowKit

def inPow (l : List Int) (n : Nat) : Bool := l.all (fun x => wth x 0 (2 ^ n - 1))
def timesE (l : List Int) (n : Nat) : Int := if 60 < l.length then 2 else if inPow l n = true then 0 else 3

end Go.Proofs.Ytongajonecgdpae
