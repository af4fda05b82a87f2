/- The statements' own look at eval (evalBegun): true, whatever the memory. Over the contracts Step_any and Solves_any of the program. -/
import Derived.Test.YtongajonecgdpaeEvalQ
import Derived.Test.YtongajonecgdpaeNetK
namespace Go.Proofs.Ytongajonecgdpae
open Go.RowKit

def looseG (b : Nat) : Array Value := #[.int .i64 2, .int .i64 0, .slice none 0 0, .int .i64 5, .int .i64 0, .slice (some ⟨b + 1, 0, none⟩) 2 2, .int .i64 4, .int .i64 0, .slice (some ⟨b + 2, 0, none⟩) 1 1]
def looseD : NetD := { ins := 1, gates := [⟨2, 0, []⟩, ⟨5, 0, [0, 2]⟩, ⟨4, 0, [1]⟩], regs := [], outs := [1] }

def iterV (d : NetD) (regs ins : List Int) : Nat → List Int
  | 0 => List.replicate d.gates.length 2
  | k + 1 => roundV d regs ins (iterV d regs ins k)
theorem iter_way (d : NetD) (regs ins : List Int) : ∀ k, Way d regs ins (iterV d regs ins k)
  | 0 => Way.start d regs ins
  | k + 1 => (iter_way d regs ins k).round
theorem least_iter {d : NetD} {regs ins v : List Int} (k : Nat) (h : iterV d regs ins k = v) (hf : roundV d regs ins v = v) : Least d regs ins v := by
  have := iter_way d regs ins k
  rw [h] at this
  exact this.least hf

theorem knot_least : Least knotD [0] [1] [1, 0, 1, 0, 1, 0, 1, 1, 0, 0] := least_iter 6 (by decide) (by decide)
theorem loose_least0 : Least looseD [] [0] [0, 2, 2] := least_iter 2 (by decide) (by decide)
theorem loose_least1 : Least looseD [] [1] [1, 1, 1] := least_iter 4 (by decide) (by decide)

end Go.Proofs.Ytongajonecgdpae
