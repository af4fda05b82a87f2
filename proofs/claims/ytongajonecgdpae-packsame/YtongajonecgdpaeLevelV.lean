/- The statements' own look at level (levelBegun): true, whatever the memory. Over Order_any and LStep_any of the program. -/
import Derived.Test.YtongajonecgdpaeLevelP
import Derived.Test.YtongajonecgdpaeNetK
import Derived.Test.YtongajonecgdpaeEvalQ
namespace Go.Proofs.Ytongajonecgdpae
open Go.RowKit

def knotT (b c : Nat) : Array Value := #[.int .i64 2, .int .i64 0, .slice none 0 0, .int .i64 3, .int .i64 0, .slice none 0 0, .int .i64 6, .int .i64 0, .slice (some ⟨b + 1, 0, none⟩) 1 1, .int .i64 6, .int .i64 0, .slice (some ⟨b + 2, 0, none⟩) 1 1, .int .i64 4, .int .i64 0, .slice (some ⟨b + 3, 0, none⟩) 2 2, .int .i64 4, .int .i64 0, .slice (some ⟨b + 4, 0, none⟩) 2 2, .int .i64 5, .int .i64 0, .slice (some ⟨b + 5, 0, none⟩) 2 2, .int .i64 5, .int .i64 0, .slice (some ⟨b + 6, 0, none⟩) 2 2, .int .i64 4, .int .i64 0, .slice (some ⟨c, 0, none⟩) 1 1, .int .i64 0, .int .i64 0, .slice none 0 0]
def knotDT : NetD := { ins := 1, gates := [⟨2, 0, []⟩, ⟨3, 0, []⟩, ⟨6, 0, [1]⟩, ⟨6, 0, [0]⟩, ⟨4, 0, [0, 2]⟩, ⟨4, 0, [3, 1]⟩, ⟨5, 0, [4, 5]⟩, ⟨5, 0, [6, 8]⟩, ⟨4, 0, [9]⟩, ⟨0, 0, []⟩], regs := [(false, 6)], outs := [7, 1] }
theorem knot_netT {w : World} {b c : Nat} (h : KnotAt w b (knotT b c) #[.bool false, .int .i64 6]) (h7 : w.heap[c]? = some (.cells #[.int .i64 9] 3 (0, 0))) : NetAt w knotDT 1 (some ⟨b + 8, 0, none⟩) 10 (some ⟨b + 9, 0, none⟩) 1 (some ⟨b + 10, 0, none⟩) 2 := by
  have hl := h.lt
  have hm : ∀ n : Nat, n ≤ 100 → n ≤ maxLen := lt_maxLen
  have i1 : Ints w (some ⟨b + 1, 0, none⟩) 1 [1] := ints_heap [1] h.a1 rfl (hm _ (by decide))
  have i2 : Ints w (some ⟨b + 2, 0, none⟩) 1 [0] := ints_heap [0] h.a2 rfl (hm _ (by decide))
  have i3 : Ints w (some ⟨b + 3, 0, none⟩) 2 [0, 2] := ints_heap [0, 2] h.a3 rfl (hm _ (by decide))
  have i4 : Ints w (some ⟨b + 4, 0, none⟩) 2 [3, 1] := ints_heap [3, 1] h.a4 rfl (hm _ (by decide))
  have i5 : Ints w (some ⟨b + 5, 0, none⟩) 2 [4, 5] := ints_heap [4, 5] h.a5 rfl (hm _ (by decide))
  have i6 : Ints w (some ⟨b + 6, 0, none⟩) 2 [6, 8] := ints_heap [6, 8] h.a6 rfl (hm _ (by decide))
  have i7 : Ints w (some ⟨c, 0, none⟩) 1 [9] := ints_heap [9] h7 rfl (hm _ (by decide))
  have io : Ints w (some ⟨b + 10, 0, none⟩) 2 [7, 1] := ints_heap [7, 1] h.o rfl (hm _ (by decide))
  refine ⟨rfl, ⟨rfl, hm _ (by decide), Or.inr ⟨b + 8, 0, rfl, by omega, fun i hi => ?_⟩⟩, ⟨rfl, hm _ (by decide), Or.inr ⟨b + 9, 0, rfl, by omega, fun i hi => ?_⟩⟩, io⟩
  · have hi' : i < 10 := hi
    rcases Nat.lt_or_ge i 5 with h5 | h5
    · match i, h5 with
      | 0, _ => exact gate_mk h.g rfl rfl rfl (Ints.none _)
      | 1, _ => exact gate_mk h.g rfl rfl rfl (Ints.none _)
      | 2, _ => exact gate_mk h.g rfl rfl rfl (i1)
      | 3, _ => exact gate_mk h.g rfl rfl rfl (i2)
      | 4, _ => exact gate_mk h.g rfl rfl rfl (i3)
    · obtain ⟨j, rfl⟩ := Nat.exists_eq_add_of_le h5
      have hj : j < 5 := by omega
      match j, hj with
      | 0, _ => exact gate_mk h.g rfl rfl rfl (i4)
      | 1, _ => exact gate_mk h.g rfl rfl rfl (i5)
      | 2, _ => exact gate_mk h.g rfl rfl rfl (i6)
      | 3, _ => exact gate_mk h.g rfl rfl rfl (i7)
      | 4, _ => exact gate_mk h.g rfl rfl rfl (Ints.none _)
  · have hi' : i < 1 := hi
    match i, hi' with
    | 0, _ => exact ⟨by rw [cell_of_row _ _ _ _ _ _ h.r]; rfl, by rw [cell_of_row _ _ _ _ _ _ h.r]; rfl⟩


theorem KnotAt.setT {w : World} {b : Nat} (c : Nat) {R : Array Value} (h : KnotAt w b (knotG b) R) : KnotAt (w.setCell ⟨b + 8, 26, none⟩ (.slice (some ⟨c, 0, none⟩) 1 1)) b (knotT b c) R :=
  ⟨by rw [Below.heap_setCell _ _ _ _ (by simp)]; exact h.a1, by rw [Below.heap_setCell _ _ _ _ (by simp)]; exact h.a2, by rw [Below.heap_setCell _ _ _ _ (by simp)]; exact h.a3, by rw [Below.heap_setCell _ _ _ _ (by simp)]; exact h.a4, by rw [Below.heap_setCell _ _ _ _ (by simp)]; exact h.a5, by rw [Below.heap_setCell _ _ _ _ (by simp)]; exact h.a6, by rw [Below.heap_setCell _ _ _ _ (by simp)]; exact h.a7, by rw [Go.heap_setCell_same w (b + 8) 26 _ _ _ h.g]; rfl, by rw [Below.heap_setCell _ _ _ _ (by simp)]; exact h.r, by rw [Below.heap_setCell _ _ _ _ (by simp)]; exact h.o⟩

set_option maxRecDepth 100000 in
theorem tied_order : orderE knotDT = 0 ∧ orderL knotDT = [0, 1, 2, 3, 4, 5, 6, 9, 8, 7] ∧ lvlE knotDT [0] [1] = 0 ∧ lvlL knotDT [0] [1] = [1, 0, 1, 0, 1, 0, 1, 1, 0, 0] := by decide +kernel
set_option maxRecDepth 100000 in
theorem knot_order : orderE knotD = 5 ∧ lvlE knotD [0] [1] = 5 := by decide +kernel

end Go.Proofs.Ytongajonecgdpae
