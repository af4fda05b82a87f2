/- What stays while lists that were made since are written to. -/
import Derived.Test.YtongajonecgdpagSoftB
namespace Go.Proofs.Ytongajonecgdpag
open Go.RowKit

/-- Rows made since B were written to: the blocks and the cells are there; what was a list is that list, or none. -/
def RW (B : Nat) (w0 wr : World) : Prop :=
  Below B w0 wr ∧ (∀ (b : Nat) (cs : Array Value) (T : TypeId), w0.heap[b]? = some (Obj.cells cs T) → ∃ cs', wr.heap[b]? = some (Obj.cells cs' T)) ∧ (∀ (p : Addr) (z : Value), w0.cell? p = some z → ∃ z', wr.cell? p = some z') ∧ (∀ (p : Addr) (a : Option Addr) (n c : Nat), w0.cell? p = some (.slice a n c) → wr.cell? p = some (.slice a n c) ∨ wr.cell? p = some (.slice none 0 0))
theorem RW.of {B : Nat} {w0 w1 : World} (hb : Below w0.heap.size w0 w1) (hB : B ≤ w0.heap.size) : RW B w0 w1 := by
  have hlt : ∀ p z, w0.cell? p = some z → p.block < w0.heap.size := fun p z hz => by
    unfold World.cell? at hz
    rcases Nat.lt_or_ge p.block w0.heap.size with h | h
    · exact h
    · rw [Array.getElem?_eq_none h] at hz; simp at hz
  exact ⟨hb.mono hB, fun b cs _ h => ⟨cs, (hb.block b (Array.getElem?_eq_some_iff.1 h).1).trans h⟩, fun p z h => ⟨z, (hb.cell (hlt p z h)).trans h⟩, fun p _ _ _ h => Or.inl ((hb.cell (hlt p _ h)).trans h)⟩
theorem RW.put {B : Nat} {w0 wr : World} (h : RW B w0 wr) {b k : Nat} (v : Value) (hb : B ≤ b) (hno : (∀ a n c, w0.cell? ⟨b, k, none⟩ ≠ some (.slice a n c)) ∨ v = .slice none 0 0) : RW B w0 (wr.setCell ⟨b, k, none⟩ v) := by
  obtain ⟨h1, h2, h3, h4⟩ := h
  refine ⟨h1.setCell hb v, fun b' cs T hc => ?_, fun p z hz => ?_, fun p a n c hp => ?_⟩
  · obtain ⟨cs', e⟩ := h2 b' cs T hc
    by_cases hbb : b' = b
    · subst hbb
      have hc' : Cells wr b' cs'.toList T := by unfold Cells; rw [e]
      exact ⟨_, hc'.set k v⟩
    · exact ⟨cs', (set_other hbb).trans e⟩
  · obtain ⟨z', e⟩ := h3 p z hz
    by_cases hp : (⟨b, k, none⟩ : Addr) = p
    · subst hp; exact ⟨v, World.cell?_setCell_same _ _ _ e⟩
    · exact ⟨z', (World.cell?_setCell_other _ _ _ _ hp).trans e⟩
  · by_cases hpp : (⟨b, k, none⟩ : Addr) = p
    · subst hpp
      rcases hno with hno | hno
      · exact absurd hp (hno a n c)
      · subst hno
        obtain ⟨z', e⟩ := h3 _ _ hp
        exact Or.inr (World.cell?_setCell_same _ _ _ e)
    · rcases h4 p a n c hp with e | e
      · exact Or.inl ((World.cell?_setCell_other _ _ _ _ hpp).trans e)
      · exact Or.inr ((World.cell?_setCell_other _ _ _ _ hpp).trans e)
theorem RW.frozen {B : Nat} {w0 wr : World} (h : RW B w0 wr) {b : Nat} {cs : Array Value} {T : TypeId} (hc : w0.heap[b]? = some (Obj.cells cs T)) (k : Nat) : wr.frozen? ⟨b, k, none⟩ = false := by
  obtain ⟨cs', e⟩ := h.2.1 b cs T hc
  exact frozen_of_row wr b k _ _ e
theorem soft_ints {w : World} {B n k : Nat} {a : Option Addr} {xs : List Int} (hI : Ints w a n xs) (hS : Soft w B a n) (hk : k < n) : ∃ b off cs T z, a = some ⟨b, off, none⟩ ∧ B ≤ b ∧ b < w.heap.size ∧ w.heap[b]? = some (Obj.cells cs T) ∧ w.cell? ⟨b, off + k, none⟩ = some (.int .i64 z) := by
  obtain ⟨b, off, e1, h1, h2⟩ := hI.at (k := k) (by have := hI.1; omega)
  rcases hS with h | ⟨b', off', cs, T, e2, h3, h4⟩
  · omega
  · rw [e1] at e2
    injection e2 with e2
    injection e2 with e3 e4 _
    subst e3; subst e4
    exact ⟨b, off, cs, T, _, e1, h3, h1, h4, h2⟩
theorem soft_regs {w : World} {B n k : Nat} {a : Option Addr} {rs : List (Bool × Int)} (hI : Regs w a n rs) (hS : Soft w B a n) (hk : k < n) : ∃ b off cs T z y, a = some ⟨b, off, none⟩ ∧ B ≤ b ∧ b < w.heap.size ∧ w.heap[b]? = some (Obj.cells cs T) ∧ w.cell? ⟨b, off + k * 2, none⟩ = some (.bool z) ∧ w.cell? ⟨b, off + k * 2 + 1, none⟩ = some (.int .i64 y) := by
  obtain ⟨b, off, e1, h1, h2, h5⟩ := hI.at (k := k) (by have := hI.1; omega)
  rcases hS with h | ⟨b', off', cs, T, e2, h3, h4⟩
  · omega
  · rw [e1] at e2
    injection e2 with e2
    injection e2 with e3 e4 _
    subst e3; subst e4
    exact ⟨b, off, cs, T, _, _, e1, h3, h1, h4, h2, h5⟩
theorem soft_gates {w : World} {B gn rn on k : Nat} {ga ra oa : Option Addr} {gs : List GateD} (hG : Gates w ga gn gs) (hS : NetSoft w B ga gn ra rn oa on) (hk : k < gn) : ∃ b off cs T z y aa an ac xs, ga = some ⟨b, off, none⟩ ∧ B ≤ b ∧ b < w.heap.size ∧ w.heap[b]? = some (Obj.cells cs T) ∧ w.cell? ⟨b, off + k * 3, none⟩ = some (.int .i64 z) ∧ w.cell? ⟨b, off + k * 3 + 1, none⟩ = some (.int .i64 y) ∧ w.cell? ⟨b, off + k * 3 + 2, none⟩ = some (.slice aa an ac) ∧ Ints w aa an xs ∧ Soft w B aa an := by
  obtain ⟨b, off, aa, an, ac, e1, h1, c1, c2, c3, hI⟩ := hG.at' (k := k) (by have := hG.1; omega)
  have hA := hS.2.2.2 b off e1 k hk aa an ac c3
  rcases hS.1 with h | ⟨b', off', cs, T, e2, h3, h4⟩
  · omega
  · rw [e1] at e2
    injection e2 with e2
    injection e2 with e3 e4 _
    subst e3; subst e4
    exact ⟨b, off, cs, T, _, _, aa, an, ac, _, e1, h3, h1, h4, c1, c2, c3, hI, hA⟩
end Go.Proofs.Ytongajonecgdpag
