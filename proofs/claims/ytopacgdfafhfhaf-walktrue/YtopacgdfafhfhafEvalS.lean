/- The document's answers of eval.Step and eval.Solves. -/
import Derived.Test.YtopacgdfafhfhafEvalR
import Derived.Deep.LoopGhost
namespace Go.Proofs.Ytopacgdfafhfhaf
open Go.RowKit

def stepE (d : NetD) (regs ins : List Int) : Int :=
  if checkE d = 0 then (if regs.length = d.regs.length ∧ (ins.length : Int) = d.ins then (if vals regs && vals ins then 0 else 3) else 1) else checkE d

theorem stepE_ok {d : NetD} {regs ins : List Int} (h : stepE d regs ins = 0) : checkE d = 0 ∧ regs.length = d.regs.length ∧ (ins.length : Int) = d.ins ∧ vals regs = true ∧ vals ins = true := by
  unfold stepE at h
  by_cases e : checkE d = 0
  · rw [if_pos e] at h
    by_cases e2 : regs.length = d.regs.length ∧ (ins.length : Int) = d.ins
    · rw [if_pos e2] at h
      cases h3 : vals regs <;> cases h4 : vals ins <;> simp [h3, h4] at h
      exact ⟨e, e2.1, e2.2, rfl, rfl⟩
    · rw [if_neg e2] at h; simp at h
  · rw [if_neg e] at h; exact absurd h e

def is64 (xs : List Int) : Array Value := (xs.map (fun x => Value.int .i64 x)).toArray
/-- A row of ints: a block of its own. -/
def IntRow (w : World) (g : Nat) (xs : List Int) : Prop := w.heap[g]? = some (.cells (is64 xs) 3 (0, 0))
theorem IntRow.cell {w : World} {g : Nat} {xs : List Int} (h : IntRow w g xs) (k : Nat) (hk : k < xs.length) : w.cell? ⟨g, k, none⟩ = some (.int .i64 xs[k]) := by
  rw [cell_of_row w g k _ _ _ h]
  simp [is64, hk]
theorem IntRow.frozen {w : World} {g : Nat} {xs : List Int} (h : IntRow w g xs) (k : Nat) : w.frozen? ⟨g, k, none⟩ = false := frozen_of_row w g k _ _ h
theorem IntRow.set {w : World} {g : Nat} {xs : List Int} (h : IntRow w g xs) (k : Nat) (x : Int) : IntRow (w.setCell ⟨g, k, none⟩ (.int .i64 x)) g (xs.set k x) := by
  unfold IntRow
  rw [Go.heap_setCell_same w g k _ _ _ h]
  congr 2
  simp [is64]
theorem IntRow.lt {w : World} {g : Nat} {xs : List Int} (h : IntRow w g xs) : g < w.heap.size := (Array.getElem?_eq_some_iff.1 h).1
theorem IntRow.below {B : Nat} {w w' : World} {g : Nat} {xs : List Int} (h : IntRow w g xs) (hb : Below B w w') (hg : g < B) : IntRow w' g xs := by
  unfold IntRow; rw [hb.block g hg]; exact h
theorem IntRow.ints {w : World} {g : Nat} {xs : List Int} (h : IntRow w g xs) (n : Nat) (hn : n = xs.length) (hm : xs.length ≤ maxLen) : Ints w (some ⟨g, 0, none⟩) n xs :=
  ⟨hn, hm, Or.inr ⟨g, 0, rfl, h.lt, fun i hi => by rw [Nat.zero_add, h.cell i hi]⟩⟩
theorem made_introw {w : World} {base g n : Nat} (h : w.ownsRow base 3 1 (.slice (some ⟨g, 0, none⟩) n n) n (madeCells #[Value.int .i64 0] n).toList) : IntRow w g (List.replicate n 0) := by
  rcases h.2 with ⟨h1, _⟩ | ⟨g', cap, cur, hv, _, hh, _, _, hs, ht⟩
  · simp at h1
  · simp only [Value.slice.injEq, Option.some.injEq, Addr.mk.injEq, and_true, true_and] at hv
    obtain ⟨rfl, rfl⟩ := hv
    rw [toList_madeCells_one, List.take_of_length_le (by simp [hs])] at ht
    unfold IntRow
    rw [hh]
    congr 2
    apply Array.ext'
    rw [ht]; simp [is64]

/-- The first k of ys, and noughts behind. -/
def partTo (c : Int) (ys : List Int) (k : Nat) : List Int := ys.take k ++ List.replicate (ys.length - k) c
theorem partTo_len (c : Int) (ys : List Int) (k : Nat) (h : k ≤ ys.length) : (partTo c ys k).length = ys.length := by simp [partTo]; omega
theorem partTo_zero (c : Int) (ys : List Int) : partTo c ys 0 = List.replicate ys.length c := by simp [partTo]
theorem partTo_full (c : Int) (ys : List Int) : partTo c ys ys.length = ys := by simp [partTo]
theorem partTo_set (c : Int) (ys : List Int) (k : Nat) (h : k < ys.length) : (partTo c ys k).set k ys[k] = partTo c ys (k + 1) := by
  have e : ys.take (k + 1) = ys.take k ++ [ys[k]] := List.take_succ_eq_append_getElem h
  have hl : (ys.take k).length = k := by simp; omega
  unfold partTo
  rw [show ys.length - k = (ys.length - (k + 1)) + 1 from by omega, List.replicate_succ, e, List.set_append_right _ _ (by omega), hl, Nat.sub_self, List.set_cons_zero, List.append_assoc]
  rfl

end Go.Proofs.Ytopacgdfafhfhaf
