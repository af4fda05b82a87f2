/- The tied knot, sixty-four at once: what comes (plain). -/
import Derived.Test.YtfeceelibjdaoaePackU
import Derived.Test.YtfeceelibjdaoaeLevelV
namespace Go.Proofs.Ytfeceelibjdaoae
open Go.RowKit

set_option maxRecDepth 100000 in
theorem tied_step : pstepE knotDT [6] [5] = 0 ∧ pstepO knotDT [6] [5] = [3, 6] ∧ pstepN knotDT [6] [5] = [3] ∧ pstepE knotDT [] [5] = 1 := by decide +kernel
set_option maxRecDepth 100000 in
theorem tied_run : prunE knotDT [[5], [1]] = 0 ∧ prunL knotDT [[5], [1]] = [packRow knotDT [[5], [1]] 0, [4, 5]] ∧ prunE knotD [] = 5 := by decide +kernel
end Go.Proofs.Ytfeceelibjdaoae
