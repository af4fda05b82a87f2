/- What a program puts out by a list of times (PlayedOf). -/
import Derived.Test.YtongajonecgdpagGreatDoorPlayA
import Derived.Test.YtongajonecgdpagGreatDoorWalkF
import Derived.Deep.Upon
import Derived.Deep.DeepCutAuto
import Derived.Deep.CutBlock
namespace Go.Proofs.YtongajonecgdpagGreatDoor
open Go.RowKit

def toldTo (p : List NodeD) (l : List Int) (k : Nat) : List (List Int) := (List.range k).map (fun j => toldV (restTo p l (j + 1)).outs)
theorem toldTo_succ (p : List NodeD) (l : List Int) (k : Nat) : toldTo p l (k + 1) = toldTo p l k ++ [toldV (restTo p l (k + 1)).outs] := by simp [toldTo, List.range_succ]
theorem rest_len {p : List NodeD} (hok : POk p) {l : List Int} (hl : inPow l 3 = true) {k : Nat} (hk : k ≤ l.length) : (restTo p l k).waits.length = p.length ∧ (restTo p l k).outs.length = 3 := by
  have h := restE_len (forge_states hok hl k hk).1
  exact ⟨h.2.1, h.2.2⟩
theorem play_err {p : List NodeD} {l : List Int} {w w' : World} {e : Int} (h : playE p l = e) (h0 : e ≠ 0) (hb : Below w.heap.size w w') : ∃ a n c, Ending.returned (.tuple #[.slice none 0 0, .int .i64 e]) = .returned (.tuple #[.slice a n c, .int .i64 (playE p l)]) ∧ Rows w' a n (playRows p l) ∧ Below w.heap.size w w' := by
  refine ⟨none, 0, 0, by rw [h], ?_, hb⟩
  unfold playRows
  rw [if_neg (by rw [h]; exact h0)]
  exact ⟨rfl, Nat.zero_le _, Or.inl rfl⟩

theorem cell_far3 {W : World} {bx b k : Nat} {u v0 v1 v2 : Value} (hne : b ≠ bx) (h : W.cell? ⟨b, k, none⟩ = some u) : (((W.setCell ⟨bx, 0, none⟩ v0).setCell ⟨bx, 1, none⟩ v1).setCell ⟨bx, 2, none⟩ v2).cell? ⟨b, k, none⟩ = some u := by
  have hn : ∀ j, (⟨bx, j, none⟩ : Addr) ≠ ⟨b, k, none⟩ := fun j e => hne (by injection e with e; exact e.symm)
  rw [World.cell?_setCell_other _ _ _ _ (hn _), World.cell?_setCell_other _ _ _ _ (hn _), World.cell?_setCell_other _ _ _ _ (hn _)]
  exact h
theorem Cells.onF {w w' : World} {g : Nat} {vs : List Value} {T : TypeId} (h : Cells w g vs T) (hb : Below w.heap.size w w') : Cells w' g vs T := (hb.block g h.lt).trans h
theorem cells_grown {w w' : World} {b : Nat} {vs : List Value} {T : TypeId} {g : Option Nat} (h : Cells w b vs T) (hg : w.grownBy w' g) (hne : g ≠ some b) : Cells w' b vs T := (hg.block _ h.lt (fun e => hne e.symm)).trans h
theorem rowsOff_set3 {w : World} {g : Option Nat} {vs : List Value} {xss : List (List Int)} (h : RowsOff w g vs xss) {bx : Nat} {T : TypeId} {f f2 : Bool} {a a2 o o2 : Option Addr} {n c m d n2 c2 m2 d2 : Nat} (hc : Cells w bx [.bool f, .slice a n c, .slice o m d] T) :
    RowsOff (((w.setCell ⟨bx, 0, none⟩ (.bool f2)).setCell ⟨bx, 1, none⟩ (.slice a2 n2 c2)).setCell ⟨bx, 2, none⟩ (.slice o2 m2 d2)) g vs xss := by
  have h1 := hc.set 0 (.bool f2)
  have h2 := h1.set 1 (.slice a2 n2 c2)
  refine rowsOff_setOther (rowsOff_setOther (rowsOff_setOther h (hc.cell 0) (by intro x e; cases e) _) (h1.cell 1) (by intro x e; cases e) _) (h2.cell 2) (by intro x e; cases e) _

end Go.Proofs.YtongajonecgdpagGreatDoor
