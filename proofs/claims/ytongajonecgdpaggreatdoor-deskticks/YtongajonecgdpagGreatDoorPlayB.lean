/- What a program puts out by a list of times (PlayedOf). -/
import Derived.Test.YtongajonecgdpagGreatDoorPlayA
import Derived.Test.YtongajonecgdpagGreatDoorWalkF
import Derived.Deep.Upon
import Derived.Deep.DeepCutAuto
import Derived.Deep.CutBlock
namespace Go.Proofs.YtongajonecgdpagGreatDoor
open Go.RowKit

def toldTo (p : List NodeD) (l : List Int) (k : Nat) : List (List Int) := (List.range k).map (fun j => toldV (restTo p l (j + 1)).outs)
theorem rest_len {p : List NodeD} (hok : POk p) {l : List Int} (hl : inPow l 3 = true) {k : Nat} (hk : k ≤ l.length) : (restTo p l k).waits.length = p.length ∧ (restTo p l k).outs.length = 3 := by
  have h := restE_len (forge_states hok hl k hk).1
  exact ⟨h.2.1, h.2.2⟩
theorem Cells.onF {w w' : World} {g : Nat} {vs : List Value} {T : TypeId} (h : Cells w g vs T) (hb : Below w.heap.size w w') : Cells w' g vs T := (hb.block g h.lt).trans h
end Go.Proofs.YtongajonecgdpagGreatDoor
