/- The document's answer of Begin; the statements' own net (knot). -/
import Derived.Test.YtongajonecgdpaeNetQ
namespace Go.Proofs.Ytongajonecgdpae
open Go.RowKit

def begTo (d : NetD) (k : Nat) : List Value := ((begins d).take k).map (fun x => Value.int .i64 x)
theorem begTo_succ (d : NetD) (k : Nat) (h : k < d.regs.length) : begTo d (k + 1) = begTo d k ++ [.int .i64 (if d.regs[k].1 = true then 1 else 0)] := by
  have hk : k < (begins d).length := by simpa [begins] using h
  unfold begTo
  rw [List.take_succ_eq_append_getElem hk, List.map_append]
  simp [begins]
theorem begTo_full (d : NetD) (k : Nat) (h : d.regs.length ≤ k) : begTo d k = (begins d).map (fun x => Value.int .i64 x) := by
  unfold begTo; rw [List.take_of_length_le (by simpa [begins] using h)]

end Go.Proofs.Ytongajonecgdpae
