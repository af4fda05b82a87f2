/- The other askers of net.Check, and net.Check itself: what they answer, for every net that is read. -/
import Derived.Test.YtopacgdfafhfhafNetA
namespace Go.Proofs.Ytopacgdfafhfhaf
open Go.RowKit

def argsIn (gn : Nat) (g : GateD) : Bool := g.args.all (fun x => isB x gn)
def regsTo (d : NetD) (k : Nat) : Bool := (d.regs.take k).all (fun r => isB r.2 d.gates.length)
def outsTo (d : NetD) (k : Nat) : Bool := (d.outs.take k).all (fun x => isB x d.gates.length)
def argsTo (d : NetD) (k : Nat) : Bool := (d.gates.take k).all (argsIn d.gates.length)
def numbersB (d : NetD) : Bool := decide (0 ≤ d.ins) && regsTo d d.regs.length && outsTo d d.outs.length && argsTo d d.gates.length

end Go.Proofs.Ytopacgdfafhfhaf
