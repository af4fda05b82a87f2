/- The last askers of net.Check, its deferred call, and net.Check itself: what they answer, for every net that is read. -/
import Derived.Test.YtopacgdfafhfhafNetB
namespace Go.Proofs.Ytopacgdfafhfhaf
open Go.RowKit

def kindB (g : GateD) : Bool := decide (0 ≤ g.kind ∧ g.kind ≤ 6)
def kindsTo (d : NetD) (k : Nat) : Bool := (d.gates.take k).all kindB
def kindsB (d : NetD) : Bool := kindsTo d d.gates.length
def numB (ins : Int) (rn : Nat) (g : GateD) : Bool := if g.kind = 2 then isB g.n ins else if g.kind = 3 then isB g.n rn else g.n == 0
def argB (g : GateD) : Bool := if g.kind = 0 ∨ g.kind = 1 ∨ g.kind = 2 ∨ g.kind = 3 then (g.args.length : Int) == 0 else if g.kind = 6 then (g.args.length : Int) == 1 else true
def formB (d : NetD) (g : GateD) : Bool := numB d.ins d.regs.length g && argB g
def formsTo (d : NetD) (k : Nat) : Bool := (d.gates.take k).all (formB d)
def formsB (d : NetD) : Bool := formsTo d d.gates.length
def checkE (d : NetD) : Int := if countsB d then (if numbersB d then (if kindsB d then (if formsB d then 0 else 1) else 4) else 3) else 2

end Go.Proofs.Ytopacgdfafhfhaf
