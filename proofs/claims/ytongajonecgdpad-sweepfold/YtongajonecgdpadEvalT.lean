/- The document's answers: linchpinref.StepOf and SolvesOf. -/
import Derived.Test.YtongajonecgdpadEvalS
import Derived.Test.YtongajonecgdpadFam
namespace Go.Proofs.Ytongajonecgdpad
open Go.RowKit

/-- What Step answers. -/
def StepAns (d : NetD) (regs ins v : List Int) : Prop := (stepE d regs ins = 0 → Least d regs ins v ∧ vals v = true) ∧ (stepE d regs ins ≠ 0 → v = [])
theorem StepAns.same {d : NetD} {regs ins v u : List Int} (h : StepAns d regs ins v) (h' : StepAns d regs ins u) : v = u := by
  by_cases e : stepE d regs ins = 0
  · exact (h.1 e).1.same (h'.1 e).1
  · rw [h.2 e, h'.2 e]

def solvesTo (d : NetD) (regs ins v : List Int) (k : Nat) : Bool := decide (∀ i, i < k → v.getD i 2 = (roundV d regs ins v).getD i 2)
theorem solvesTo_succ (d : NetD) (regs ins v : List Int) (k : Nat) (h : solvesTo d regs ins v k = true) (e : v.getD k 2 = (roundV d regs ins v).getD k 2) : solvesTo d regs ins v (k + 1) = true := by
  unfold solvesTo at h ⊢
  rw [decide_eq_true_iff] at h ⊢
  intro i hi
  by_cases hk : i = k
  · rw [hk]; exact e
  · exact h i (by omega)
theorem solves_all (d : NetD) (regs ins v : List Int) (hl : v.length = d.gates.length) (h : solvesTo d regs ins v v.length = true) : decide (roundV d regs ins v = v) = true := by
  rw [decide_eq_true_iff]
  apply List.ext_getElem (by rw [roundV_len, hl])
  intro i h1 h2
  unfold solvesTo at h
  rw [decide_eq_true_iff] at h
  have := h i h2
  simp only [List.getD_eq_getElem?_getD, List.getElem?_eq_getElem h2, List.getElem?_eq_getElem h1, Option.getD_some] at this
  exact this.symm
theorem solves_not (d : NetD) (regs ins v : List Int) (k : Nat) (e : v.getD k 2 ≠ (roundV d regs ins v).getD k 2) : decide (roundV d regs ins v = v) = false := by
  rw [decide_eq_false_iff_not]
  intro h; exact e (by rw [h])

end Go.Proofs.Ytongajonecgdpad
