/- net.need: it marks what is needed, and changes nothing but the marks; SameInts and SameBools. -/
import Derived.Test.YtongajonecgdpaeNetM
import Derived.Deep.QuietTactic
import Derived.BigQuiet
namespace Go.Proofs.Ytongajonecgdpae
open Go.RowKit

theorem hide {p : Prop} (h : p) : Hid p := h
theorem unhide {p : Prop} (h : Hid p) : p := h

def bs (ys : List Bool) : Array Value := (ys.map (fun b => Value.bool b)).toArray
/-- A row of marks: a block of its own. -/
def BoolRow (w : World) (g : Nat) (ys : List Bool) : Prop := w.heap[g]? = some (.cells (bs ys) 4 (0, 0))

theorem BoolRow.cell {w : World} {g : Nat} {ys : List Bool} (h : BoolRow w g ys) (k : Nat) (hk : k < ys.length) : w.cell? ⟨g, k, none⟩ = some (.bool (ys.getD k false)) := by
  rw [cell_of_row w g k _ _ _ h]
  simp [bs, hk, List.getD_eq_getElem?_getD]
theorem BoolRow.frozen {w : World} {g : Nat} {ys : List Bool} (h : BoolRow w g ys) (k : Nat) : w.frozen? ⟨g, k, none⟩ = false := frozen_of_row w g k _ _ h
theorem BoolRow.set {w : World} {g : Nat} {ys : List Bool} (h : BoolRow w g ys) (k : Nat) (b : Bool) : BoolRow (w.setCell ⟨g, k, none⟩ (.bool b)) g (ys.set k b) := by
  unfold BoolRow
  rw [Go.heap_setCell_same w g k _ _ _ h]
  congr 2
  simp [bs]
theorem BoolRow.lt {w : World} {g : Nat} {ys : List Bool} (h : BoolRow w g ys) : g < w.heap.size := (Array.getElem?_eq_some_iff.1 h).1

/-- Marks that are only read. -/
def Bools (w : World) (a : Option Addr) (n : Nat) (xs : List Bool) : Prop :=
  n = xs.length ∧ xs.length ≤ maxLen ∧ (xs = [] ∨ ∃ b off, a = some ⟨b, off, none⟩ ∧ b < w.heap.size ∧ ∀ i (hi : i < xs.length), w.cell? ⟨b, off + i, none⟩ = some (.bool xs[i]))
theorem Bools.below {w w' : World} {a : Option Addr} {n : Nat} {xs : List Bool} (h : Bools w a n xs) (hb : Below w.heap.size w w') : Bools w' a n xs := by
  obtain ⟨h1, h2, h3⟩ := h
  refine ⟨h1, h2, ?_⟩
  rcases h3 with h3 | ⟨b, off, ha, hlt, hc⟩
  · exact Or.inl h3
  · exact Or.inr ⟨b, off, ha, Nat.lt_of_lt_of_le hlt hb.size, fun i hi => by rw [hb.cell (p := ⟨b, off + i, none⟩) hlt]; exact hc i hi⟩
theorem Bools.nothing (w : World) : Bools w none 0 [] := ⟨rfl, Nat.zero_le _, Or.inl rfl⟩
theorem BoolRow.bools {w : World} {g : Nat} {ys : List Bool} (h : BoolRow w g ys) (hm : ys.length ≤ maxLen) : Bools w (some ⟨g, 0, none⟩) ys.length ys :=
  ⟨rfl, hm, Or.inr ⟨g, 0, rfl, h.lt, fun i hi => by rw [Nat.zero_add, h.cell i hi]; simp [List.getD_eq_getElem?_getD, hi]⟩⟩
theorem Bools.at {w : World} {a : Option Addr} {n : Nat} {xs : List Bool} (h : Bools w a n xs) {k : Nat} (hk : k < xs.length) :
    ∃ b off, a = some ⟨b, off, none⟩ ∧ b < w.heap.size ∧ w.cell? ⟨b, off + k, none⟩ = some (.bool xs[k]) := by
  obtain ⟨h1, h2, h3⟩ := h
  rcases h3 with h3 | ⟨b, off, ha, hlt, hc⟩
  · rw [h3] at hk; simp at hk
  · exact ⟨b, off, ha, hlt, hc k hk⟩
theorem Bools.new' (w : World) (C : Array Value) (T : TypeId) (g n : Nat) (xs : List Bool) (hg : g = w.heap.size) (hC : C = (xs.map (fun x => Value.bool x)).toArray) (hn : n = xs.length) (hm : xs.length ≤ maxLen) :
    Bools (w.alloc (.cells C T)) (some ⟨g, 0, Option.none⟩) n xs := by
  subst hg
  refine ⟨hn, hm, Or.inr ⟨w.heap.size, 0, rfl, by simp, fun i hi => ?_⟩⟩
  subst hC
  rw [cell_new _ _ _ i (by simpa using hi)]
  simp

end Go.Proofs.Ytongajonecgdpae
