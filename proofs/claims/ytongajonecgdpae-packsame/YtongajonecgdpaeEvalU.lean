/- The document's answer: linchpinref.SolvesOf. -/
import Derived.Test.YtongajonecgdpaeEvalT
namespace Go.Proofs.Ytongajonecgdpae
open Go.RowKit

def solveE (d : NetD) (regs ins v : List Int) : Int := if stepE d regs ins = 0 then (if v.length = d.gates.length then (if vals v then 0 else 3) else 1) else stepE d regs ins
def solveB (d : NetD) (regs ins v : List Int) : Bool := if solveE d regs ins v = 0 then decide (roundV d regs ins v = v) else false
theorem solveE_ok {d : NetD} {regs ins v : List Int} (h : solveE d regs ins v = 0) : stepE d regs ins = 0 ∧ v.length = d.gates.length ∧ vals v = true := by
  unfold solveE at h
  by_cases e : stepE d regs ins = 0
  · rw [if_pos e] at h
    by_cases e2 : v.length = d.gates.length
    · rw [if_pos e2] at h
      cases e3 : vals v
      · rw [e3] at h; simp at h
      · exact ⟨e, e2, rfl⟩
    · rw [if_neg e2] at h; simp at h
  · rw [if_neg e] at h; exact absurd h e

end Go.Proofs.Ytongajonecgdpae
