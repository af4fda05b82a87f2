/- What a program puts out by a list of times (PlayedOf): rows that come, and the rest in its box. -/
import Derived.Test.YtongajonecgdpagGreatDoorWalkD
import Derived.Test.YtongajonecgdpagGreatDoorTickB
import Derived.Test.YtongajonecgdpagGreatDoorForgeM
namespace Go.Proofs.YtongajonecgdpagGreatDoor
open Go.RowKit
/-- A rest's two rows, off the box and off the rows' own block. -/
def BoolsOff (w : World) (bx : Nat) (g : Option Nat) (a : Option Addr) (n : Nat) (xs : List Bool) : Prop := Bools w a n xs ∧ (n = 0 ∨ ∃ b off, a = some ⟨b, off, none⟩ ∧ b < w.heap.size ∧ b ≠ bx ∧ g ≠ some b)
theorem BoolsOff.below {w w' : World} {bx : Nat} {g : Option Nat} {a : Option Addr} {n : Nat} {xs : List Bool} (h : BoolsOff w bx g a n xs) (hb : Below w.heap.size w w') : BoolsOff w' bx g a n xs := by
  refine ⟨h.1.below hb, ?_⟩
  rcases h.2 with h | ⟨b, off, ha, hl, hx, hg⟩
  · exact Or.inl h
  · exact Or.inr ⟨b, off, ha, Nat.lt_of_lt_of_le hl hb.size, hx, hg⟩
theorem BoolsOff.grown {w w' : World} {bx : Nat} {g g' : Option Nat} {a : Option Addr} {n : Nat} {xs : List Bool} (h : BoolsOff w bx g a n xs) (hg : w.grownBy w' g) (hg' : g' = g ∨ g' = some w.heap.size) : BoolsOff w' bx g' a n xs := by
  obtain ⟨⟨h1, h2, h3⟩, h4⟩ := h
  rcases h4 with h4 | ⟨b, off, ha, hl, hx, hne⟩
  · exact ⟨⟨h1, h2, Or.inl (List.length_eq_zero_iff.1 (by omega))⟩, Or.inl h4⟩
  · refine ⟨⟨h1, h2, ?_⟩, Or.inr ⟨b, off, ha, Nat.lt_of_lt_of_le hl hg.size, hx, ?_⟩⟩
    · rcases h3 with h3 | ⟨b', off', ha', hl', hc⟩
      · exact Or.inl h3
      · rw [ha] at ha'
        injection ha' with ha'
        injection ha' with e1 e2 _
        subst e1; subst e2
        exact Or.inr ⟨b, off, ha, Nat.lt_of_lt_of_le hl hg.size, fun i hi => hg.cell (hc i hi) (fun e => hne e.symm)⟩
    · rcases hg' with e | e
      · rw [e]; exact hne
      · rw [e]; intro hh; injection hh with hh; omega
theorem BoolsOff.set {w : World} {bx : Nat} {g : Option Nat} {a : Option Addr} {n : Nat} {xs : List Bool} (h : BoolsOff w bx g a n xs) (k : Nat) (v : Value) : BoolsOff (w.setCell ⟨bx, k, none⟩ v) bx g a n xs := by
  obtain ⟨⟨h1, h2, h3⟩, h4⟩ := h
  rcases h4 with h4 | ⟨b, off, ha, hl, hx, hne⟩
  · exact ⟨⟨h1, h2, Or.inl (List.length_eq_zero_iff.1 (by omega))⟩, Or.inl h4⟩
  · refine ⟨⟨h1, h2, ?_⟩, Or.inr ⟨b, off, ha, by simpa using hl, hx, hne⟩⟩
    rcases h3 with h3 | ⟨b', off', ha', hl', hc⟩
    · exact Or.inl h3
    · rw [ha] at ha'
      injection ha' with ha'
      injection ha' with e1 e2 _
      subst e1; subst e2
      refine Or.inr ⟨b, off, ha, by simpa using hl, fun i hi => ?_⟩
      exact (World.cell?_setCell_other _ _ _ _ (fun e => hx (by injection e with e; rw [e]))).trans (hc i hi)
theorem BoolsOff.fresh {w : World} {bx base : Nat} {g : Option Nat} {a : Option Addr} {n : Nat} {xs : List Bool} (h : Bools w a n xs) (hF : Fresh base a n) (hx : bx < base) (hg : ∀ k, g = some k → k < base) : BoolsOff w bx g a n xs := by
  refine ⟨h, ?_⟩
  rcases hF with hF | ⟨b, off, ha, hb⟩
  · exact Or.inl hF
  · rcases h.2.2 with h3 | ⟨b', off', ha', hl', hc⟩
    · exact Or.inl (by rw [h.1, h3]; rfl)
    · rw [ha] at ha'
      injection ha' with ha'
      injection ha' with e1 e2 _
      subst e1
      exact Or.inr ⟨b, off, ha, hl', by omega, fun e => by have := hg b e; omega⟩
end Go.Proofs.YtongajonecgdpagGreatDoor
