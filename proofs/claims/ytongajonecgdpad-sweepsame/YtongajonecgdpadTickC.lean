/- What one instant comes to: the least that solves, as a function; the document's DoOf. -/
import Derived.Test.YtongajonecgdpadTickB
namespace Go.Proofs.Ytongajonecgdpad
open Go.RowKit

def lfp (d : NetD) (regs ins : List Int) : List Int := iterV d regs ins d.gates.length
theorem iter_down (d : NetD) (regs ins : List Int) : ∀ k, roundV d regs ins (iterV d regs ins k) = iterV d regs ins k ∨ opens (iterV d regs ins k) + k ≤ d.gates.length
  | 0 => Or.inr (by have := opens_le_length (List.replicate d.gates.length 2); simpa [iterV] using this)
  | k + 1 => by
    rcases iter_down d regs ins k with h | h
    · exact Or.inl (by show roundV d regs ins (roundV d regs ins (iterV d regs ins k)) = roundV d regs ins (iterV d regs ins k); rw [h, h])
    · by_cases hf : roundV d regs ins (iterV d regs ins k) = iterV d regs ins k
      · exact Or.inl (by show roundV d regs ins (roundV d regs ins (iterV d regs ins k)) = roundV d regs ins (iterV d regs ins k); rw [hf, hf])
      · have := (iter_way d regs ins k).fewer hf
        exact Or.inr (by show opens (roundV d regs ins (iterV d regs ins k)) + (k + 1) ≤ _; omega)
theorem lfp_least (d : NetD) (regs ins : List Int) : Least d regs ins (lfp d regs ins) := by
  refine (iter_way d regs ins _).least ?_
  rcases iter_down d regs ins d.gates.length with h | h
  · exact h
  · apply Classical.byContradiction
    intro hf
    have := (iter_way d regs ins _).fewer hf
    omega
theorem Least.is {d : NetD} {regs ins v : List Int} (h : Least d regs ins v) : v = lfp d regs ins := h.same (lfp_least d regs ins)

/-- Which error Do gives; what it puts out; what is next. -/
def doE (d : NetD) (regs ins : List Int) : Int := if stepE d regs ins = 0 then (if opens (lfp d regs ins) = 0 then 0 else 6) else stepE d regs ins
def doOuts (d : NetD) (regs ins : List Int) : List Int := if doE d regs ins = 0 then pickV (lfp d regs ins) d.outs else []
def doNext (d : NetD) (regs ins : List Int) : List Int := if doE d regs ins = 0 then pickV (lfp d regs ins) (nextsV d) else []
theorem doE_ok {d : NetD} {regs ins : List Int} (h : doE d regs ins = 0) : stepE d regs ins = 0 ∧ opens (lfp d regs ins) = 0 := by
  unfold doE at h
  by_cases e : stepE d regs ins = 0
  · rw [if_pos e] at h
    by_cases o : opens (lfp d regs ins) = 0
    · exact ⟨e, o⟩
    · rw [if_neg o] at h; simp at h
  · rw [if_neg e] at h; exact absurd h e


theorem outs_in {d : NetD} (h : numbersB d = true) (j : Nat) (hj : j < d.outs.length) : 0 ≤ d.outs[j] ∧ d.outs[j] < d.gates.length := by
  simp only [numbersB, Bool.and_eq_true] at h
  have := h.1.2
  unfold outsTo at this
  rw [List.take_length, List.all_eq_true] at this
  simpa [isB] using this _ (List.getElem_mem hj)
theorem nexts_in {d : NetD} (h : numbersB d = true) (j : Nat) (hj : j < (nextsV d).length) : 0 ≤ (nextsV d)[j] ∧ (nextsV d)[j] < d.gates.length := by
  simp only [numbersB, Bool.and_eq_true] at h
  have := h.1.1.2
  unfold regsTo at this
  rw [List.take_length, List.all_eq_true] at this
  rw [nextsV_len] at hj
  simpa [isB, nextsV] using this _ (List.getElem_mem hj)
theorem held_below {w0 W : World} {R : Prop} (h : Below w0.heap.size w0 W ∧ R) : Below w0.heap.size w0 W := h.1
theorem held_of {w0 W : World} {b : Nat} {ins0 : Int} {ga ra oa : Option Addr} {gn gc rn rc on oc : Nat} (hx : Boxed w0 b ins0 ga gn gc ra rn rc oa on oc) (h : Below w0.heap.size w0 W) :
    Below w0.heap.size w0 W ∧ W.cell? ⟨b, 0, none⟩ = some (.int .i64 ins0) ∧ W.cell? ⟨b, 1, none⟩ = some (.slice ga gn gc) ∧ W.cell? ⟨b, 2, none⟩ = some (.slice ra rn rc) ∧ W.cell? ⟨b, 3, none⟩ = some (.slice oa on oc) := by
  obtain ⟨_, x1, x2, x3, x4⟩ := hx.below h
  exact ⟨h, x1, x2, x3, x4⟩
theorem held_start {w0 : World} {b : Nat} {ins0 : Int} {ga ra oa : Option Addr} {gn gc rn rc on oc : Nat} (hx : Boxed w0 b ins0 ga gn gc ra rn rc oa on oc) :
    Below w0.heap.size w0 w0.drew ∧ w0.drew.cell? ⟨b, 0, none⟩ = some (.int .i64 ins0) ∧ w0.drew.cell? ⟨b, 1, none⟩ = some (.slice ga gn gc) ∧ w0.drew.cell? ⟨b, 2, none⟩ = some (.slice ra rn rc) ∧ w0.drew.cell? ⟨b, 3, none⟩ = some (.slice oa on oc) := held_of hx (Below.refl _ _).drew
theorem held_next {w0 W W' : World} {R : Prop} {b : Nat} {ins0 : Int} {ga ra oa : Option Addr} {gn gc rn rc on oc : Nat} (hx : Boxed w0 b ins0 ga gn gc ra rn rc oa on oc) (h : Below w0.heap.size w0 W ∧ R) (hb : Below W.heap.size W W') :
    Below w0.heap.size w0 W' ∧ W'.cell? ⟨b, 0, none⟩ = some (.int .i64 ins0) ∧ W'.cell? ⟨b, 1, none⟩ = some (.slice ga gn gc) ∧ W'.cell? ⟨b, 2, none⟩ = some (.slice ra rn rc) ∧ W'.cell? ⟨b, 3, none⟩ = some (.slice oa on oc) := held_of hx (bstep h.1 hb)
theorem Fresh.down {b b' : Nat} {a : Option Addr} {n : Nat} (h : Fresh b a n) (hb : b' ≤ b) : Fresh b' a n := by
  rcases h with h | ⟨g, off, ha, hg⟩
  · exact Or.inl h
  · exact Or.inr ⟨g, off, ha, Nat.le_trans hb hg⟩
theorem fresh_size {w w0 W : World} {R : Prop} (h0 : Below w.heap.size w w0) (h : Below w0.heap.size w0 W ∧ R) : w.heap.size ≤ W.heap.size := Nat.le_trans h0.size h.1.size
theorem ret_sl2 {a b : Option Addr} {n c m k : Nat} {x y : Int} (h : x = y) : Ending.returned (.tuple #[.slice a n c, .slice b m k, .int .i64 x]) = .returned (.tuple #[.slice a n c, .slice b m k, .int .i64 y]) := by rw [h]

end Go.Proofs.Ytongajonecgdpad
