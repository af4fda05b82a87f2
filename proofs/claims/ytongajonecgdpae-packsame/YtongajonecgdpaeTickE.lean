/- The document's SameRows. -/
import Derived.Test.YtongajonecgdpaeTickD
namespace Go.Proofs.Ytongajonecgdpae
open Go.RowKit

theorem held2_of {w0 W : World} {p q : Addr} {x y : Value} (hp : p.block < w0.heap.size) (hc : w0.cell? p = some x) (hq : q.block < w0.heap.size) (hd : w0.cell? q = some y) (h : Below w0.heap.size w0 W) :
    Below w0.heap.size w0 W ∧ W.cell? p = some x ∧ W.cell? q = some y := ⟨h, (h.cell hp).trans hc, (h.cell hq).trans hd⟩
def sameTo (xss yss : List (List Int)) (k : Nat) : Bool := decide (xss.take k = yss.take k)
theorem sameTo_succ (xss yss : List (List Int)) (k : Nat) (h : k < xss.length) (h' : k < yss.length) (hs : sameTo xss yss k = true) (e : decide (xss[k] = yss[k]) = true) : sameTo xss yss (k + 1) = true := by
  unfold sameTo at hs ⊢
  rw [decide_eq_true_iff] at hs e ⊢
  rw [List.take_succ_eq_append_getElem h, List.take_succ_eq_append_getElem h', hs, e]

end Go.Proofs.Ytongajonecgdpae
