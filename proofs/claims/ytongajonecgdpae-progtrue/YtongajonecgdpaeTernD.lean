/- What the statements' own look at tern (ternBegun) answers: true, whatever the memory. -/
import Derived.Test.YtongajonecgdpaeTernC
namespace Go.Proofs.Ytongajonecgdpae
open Go.RowKit

theorem bstep {w wk w' : World} (hb : Below w.heap.size w wk) (h : Below wk.heap.size wk w') : Below w.heap.size w w' := hb.trans (h.mono hb.size)
theorem bstep1 {w wk w' : World} (hb : Below w.heap.size w wk) {o : Obj} (h : Below (wk.alloc o).heap.size (wk.alloc o) w') : Below w.heap.size w w' := bstep (hb.alloc hb.size o) h

end Go.Proofs.Ytongajonecgdpae
