/- The document's stage: some, begin, on. -/
import Derived.Test.YtopacgdfafhfhaeWalkM
import Derived.Deep.RegionHeld3
namespace Go.Proofs.Ytopacgdfafhfhae
open Go.RowKit

/-- What a stage holds but what comes next. -/
structure StQ (sb gW gO : Nat) (p : List NodeD) (r : RestD) (ins : List Int) (a : Option Addr) (n c : Nat) (wa : Option Addr) (wn wc : Nat) (oa : Option Addr) (on oc : Nat) (ia : Option Addr) (inn ic : Nat) (V : World) : Prop where
  lt : sb < V.heap.size
  c0 : V.cell? ⟨sb, 0, none⟩ = some (.slice a n c)
  c2 : V.cell? ⟨sb, 2, none⟩ = some (.slice wa wn wc)
  c3 : V.cell? ⟨sb, 3, none⟩ = some (.slice oa on oc)
  c4 : V.cell? ⟨sb, 4, none⟩ = some (.slice ia inn ic)
  c6 : V.cell? ⟨sb, 6, none⟩ = some (.slice (some ⟨gW, 0, none⟩) n n)
  c7 : V.cell? ⟨sb, 7, none⟩ = some (.slice (some ⟨gO, 0, none⟩) 3 3)
  nodes : Nodes V a n p
  waits : Bools V wa wn r.waits
  outs : Bools V oa on r.outs
  ins : Ints V ia inn ins

theorem some_yes {p : List NodeD} {ws : List Bool} {k j : Nat} (h1 : k ≤ j) (h2 : j < endP p k) (h3 : ws.getD j false = true) : someP p ws k = true := by
  simp only [someP, List.any_eq_true, List.mem_range, Bool.and_eq_true, decide_eq_true_iff]
  exact ⟨j, h2, h1, h3⟩
theorem some_none {p : List NodeD} {ws : List Bool} {k : Nat} (h : ∀ i, k ≤ i → i < endP p k → ws.getD i false = false) : someP p ws k = false := by
  rw [Bool.eq_false_iff]
  intro h1
  simp only [someP, List.any_eq_true, List.mem_range, Bool.and_eq_true, decide_eq_true_iff] at h1
  obtain ⟨i, h2, h3, h4⟩ := h1
  rw [h i h3 h2] at h4; simp at h4

end Go.Proofs.Ytopacgdfafhfhae
