/- The document's texts: sign, NodeText. -/
import Derived.Test.YtongajonecgdpagGreatDoorTextM
import Derived.Laws.Concat
import Derived.Laws.IdiomStrings
import Derived.Deep.DeepCutAuto
import Derived.Deep.CutBlock
namespace Go.Proofs.YtongajonecgdpagGreatDoor
open Go.RowKit

theorem three' {k : Nat} (h : k ≤ 2) : k = 0 ∨ k = 1 ∨ k = 2 := by omega
theorem nineT {x : Int} (h : 0 ≤ x ∧ x ≤ 8) : x = 0 ∨ x = 1 ∨ x = 2 ∨ x = 3 ∨ x = 4 ∨ x = 5 ∨ x = 6 ∨ x = 7 ∨ x = 8 := by omega
theorem pairT (w : World) (u v : Value) (T : TypeId) : (w.alloc (.cells #[u, v] T)).cell? ⟨w.heap.size, 0, none⟩ = some u ∧ (w.alloc (.cells #[u, v] T)).cell? ⟨w.heap.size, 1, none⟩ = some v ∧ w.heap.size < (w.alloc (.cells #[u, v] T)).heap.size := ⟨by simp, by simp, by simp⟩
theorem sigN_of {p : List NodeD} {k x : Nat} (hk : k < p.length) (h : p[k].sig = (x : Int)) : sigN p k = x := by simp [sigN, List.getD_eq_getElem?_getD, hk, h]
theorem str_app (a b : List UInt8) : (⟨a.toArray⟩ : ByteArray) ++ ⟨b.toArray⟩ = ⟨(a ++ b).toArray⟩ := by rw [ByteArray.mk_append_mk]
theorem ret_str {a b : ByteArray} (h : a = b) : Ending.returned (.string a) = .returned (.string b) := by rw [h]
end Go.Proofs.YtongajonecgdpagGreatDoor
