/- The statements' own look at level (levelBegun): true, whatever the memory. Over Order_any and LStep_any of the program. -/
import Derived.Test.YtongajonecgdpadLevelP
import Derived.Test.YtongajonecgdpadNetK
import Derived.Test.YtongajonecgdpadEvalQ
namespace Go.Proofs.Ytongajonecgdpad
open Go.RowKit

def knotT (b c : Nat) : Array Value := #[.int .i64 2, .int .i64 0, .slice none 0 0, .int .i64 3, .int .i64 0, .slice none 0 0, .int .i64 6, .int .i64 0, .slice (some ⟨b + 1, 0, none⟩) 1 1, .int .i64 6, .int .i64 0, .slice (some ⟨b + 2, 0, none⟩) 1 1, .int .i64 4, .int .i64 0, .slice (some ⟨b + 3, 0, none⟩) 2 2, .int .i64 4, .int .i64 0, .slice (some ⟨b + 4, 0, none⟩) 2 2, .int .i64 5, .int .i64 0, .slice (some ⟨b + 5, 0, none⟩) 2 2, .int .i64 5, .int .i64 0, .slice (some ⟨b + 6, 0, none⟩) 2 2, .int .i64 4, .int .i64 0, .slice (some ⟨c, 0, none⟩) 1 1, .int .i64 0, .int .i64 0, .slice none 0 0]
def knotDT : NetD := { ins := 1, gates := [⟨2, 0, []⟩, ⟨3, 0, []⟩, ⟨6, 0, [1]⟩, ⟨6, 0, [0]⟩, ⟨4, 0, [0, 2]⟩, ⟨4, 0, [3, 1]⟩, ⟨5, 0, [4, 5]⟩, ⟨5, 0, [6, 8]⟩, ⟨4, 0, [9]⟩, ⟨0, 0, []⟩], regs := [(false, 6)], outs := [7, 1] }
theorem knot_netT {w : World} {b c : Nat} (h : KnotAt w b (knotT b c) #[.bool false, .int .i64 6]) (h7 : w.heap[c]? = some (.cells #[.int .i64 9] 3 (0, 0))) : NetAt w knotDT 1 (some ⟨b + 8, 0, none⟩) 10 (some ⟨b + 9, 0, none⟩) 1 (some ⟨b + 10, 0, none⟩) 2 := by
  have hl := h.lt
  have hm : ∀ n : Nat, n ≤ 100 → n ≤ maxLen := lt_maxLen
  have i1 : Ints w (some ⟨b + 1, 0, none⟩) 1 [1] := ints_heap [1] h.a1 rfl (hm _ (by decide))
  have i2 : Ints w (some ⟨b + 2, 0, none⟩) 1 [0] := ints_heap [0] h.a2 rfl (hm _ (by decide))
  have i3 : Ints w (some ⟨b + 3, 0, none⟩) 2 [0, 2] := ints_heap [0, 2] h.a3 rfl (hm _ (by decide))
  have i4 : Ints w (some ⟨b + 4, 0, none⟩) 2 [3, 1] := ints_heap [3, 1] h.a4 rfl (hm _ (by decide))
  have i5 : Ints w (some ⟨b + 5, 0, none⟩) 2 [4, 5] := ints_heap [4, 5] h.a5 rfl (hm _ (by decide))
  have i6 : Ints w (some ⟨b + 6, 0, none⟩) 2 [6, 8] := ints_heap [6, 8] h.a6 rfl (hm _ (by decide))
  have i7 : Ints w (some ⟨c, 0, none⟩) 1 [9] := ints_heap [9] h7 rfl (hm _ (by decide))
  have io : Ints w (some ⟨b + 10, 0, none⟩) 2 [7, 1] := ints_heap [7, 1] h.o rfl (hm _ (by decide))
  refine ⟨rfl, ⟨rfl, hm _ (by decide), Or.inr ⟨b + 8, 0, rfl, by omega, fun i hi => ?_⟩⟩, ⟨rfl, hm _ (by decide), Or.inr ⟨b + 9, 0, rfl, by omega, fun i hi => ?_⟩⟩, io⟩
  · have hi' : i < 10 := hi
    rcases Nat.lt_or_ge i 5 with h5 | h5
    · match i, h5 with
      | 0, _ => exact gate_mk h.g rfl rfl rfl (Ints.none _)
      | 1, _ => exact gate_mk h.g rfl rfl rfl (Ints.none _)
      | 2, _ => exact gate_mk h.g rfl rfl rfl (i1)
      | 3, _ => exact gate_mk h.g rfl rfl rfl (i2)
      | 4, _ => exact gate_mk h.g rfl rfl rfl (i3)
    · obtain ⟨j, rfl⟩ := Nat.exists_eq_add_of_le h5
      have hj : j < 5 := by omega
      match j, hj with
      | 0, _ => exact gate_mk h.g rfl rfl rfl (i4)
      | 1, _ => exact gate_mk h.g rfl rfl rfl (i5)
      | 2, _ => exact gate_mk h.g rfl rfl rfl (i6)
      | 3, _ => exact gate_mk h.g rfl rfl rfl (i7)
      | 4, _ => exact gate_mk h.g rfl rfl rfl (Ints.none _)
  · have hi' : i < 1 := hi
    match i, hi' with
    | 0, _ => exact ⟨by rw [cell_of_row _ _ _ _ _ _ h.r]; rfl, by rw [cell_of_row _ _ _ _ _ _ h.r]; rfl⟩


theorem KnotAt.setT {w : World} {b : Nat} (c : Nat) {R : Array Value} (h : KnotAt w b (knotG b) R) : KnotAt (w.setCell ⟨b + 8, 26, none⟩ (.slice (some ⟨c, 0, none⟩) 1 1)) b (knotT b c) R :=
  ⟨by rw [Below.heap_setCell _ _ _ _ (by simp)]; exact h.a1, by rw [Below.heap_setCell _ _ _ _ (by simp)]; exact h.a2, by rw [Below.heap_setCell _ _ _ _ (by simp)]; exact h.a3, by rw [Below.heap_setCell _ _ _ _ (by simp)]; exact h.a4, by rw [Below.heap_setCell _ _ _ _ (by simp)]; exact h.a5, by rw [Below.heap_setCell _ _ _ _ (by simp)]; exact h.a6, by rw [Below.heap_setCell _ _ _ _ (by simp)]; exact h.a7, by rw [Go.heap_setCell_same w (b + 8) 26 _ _ _ h.g]; rfl, by rw [Below.heap_setCell _ _ _ _ (by simp)]; exact h.r, by rw [Below.heap_setCell _ _ _ _ (by simp)]; exact h.o⟩

set_option maxRecDepth 100000 in
theorem tied_order : orderE knotDT = 0 ∧ orderL knotDT = [0, 1, 2, 3, 4, 5, 6, 9, 8, 7] ∧ lvlE knotDT [0] [1] = 0 ∧ lvlL knotDT [0] [1] = [1, 0, 1, 0, 1, 0, 1, 1, 0, 0] := by decide +kernel
set_option maxRecDepth 100000 in
theorem knot_order : orderE knotD = 5 ∧ lvlE knotD [0] [1] = 5 := by decide +kernel

set_option maxRecDepth 100000 in
set_option maxHeartbeats 4000000 in
theorem levelBegun_any (w : World) :
    Calls Try.prog 22 #[] w fun e w' => e = .returned (.bool true) ∧ Below w.heap.size w w' := by
  have k1 : Hid (orderE knotDT = 0) := tied_order.1
  have k2 : Hid (orderL knotDT = [0, 1, 2, 3, 4, 5, 6, 9, 8, 7]) := tied_order.2.1
  have k3 : Hid (lvlE knotDT [0] [1] = 0) := tied_order.2.2.1
  have k4 : Hid (lvlL knotDT [0] [1] = [1, 0, 1, 0, 1, 0, 1, 1, 0, 0]) := tied_order.2.2.2
  have k5 : Hid (orderE knotD = 5) := knot_order.1
  have k6 : Hid (lvlE knotD [0] [1] = 5) := knot_order.2
  go_enter Try.func22, Try.ntmps22
  go_wp2_with fail
  refine (knot_any _).mono ?_
  rintro e w1 ⟨b1, hb1, rfl, hk, B1⟩
  have hlt := hk.lt
  have c1 : w1.cell? ⟨b1 + 8, 26, none⟩ = some (.slice (some ⟨b1 + 7, 0, none⟩) 2 2) := by rw [cell_of_row _ _ _ _ _ _ hk.g]; rfl
  have c2 : w1.frozen? ⟨b1 + 8, 26, none⟩ = false := frozen_of_row _ _ _ _ _ hk.g
  have hl8 : b1 + 8 < w1.heap.size := by omega
  go_wp2_with fail
  have hs : (w1.setCell ⟨b1 + 8, 26, none⟩ (.slice (some ⟨w1.heap.size + 1, 0, none⟩) 1 1)).heap.size = w1.heap.size := by simp
  have kT := hk.setT (w1.heap.size + 1)
  have S1 : Below w.heap.size w (w1.setCell ⟨b1 + 8, 26, none⟩ (.slice (some ⟨w1.heap.size + 1, 0, none⟩) 1 1)) := B1.setCell (by show w.heap.size ≤ b1 + 8; omega) _
  have al1 := (Below.refl _ (w1.setCell ⟨b1 + 8, 26, none⟩ (.slice (some ⟨w1.heap.size + 1, 0, none⟩) 1 1))).alloc (Nat.le_refl _) (.cells #[.int .i64 1, .slice (some ⟨b1 + 8, 0, none⟩) 10 10, .slice (some ⟨b1 + 9, 0, none⟩) 1 1, .slice (some ⟨b1 + 10, 0, none⟩) 2 2] 26)
  have bx := Boxed.new (w1.setCell ⟨b1 + 8, 26, none⟩ (.slice (some ⟨w1.heap.size + 1, 0, none⟩) 1 1)) 1 (some ⟨b1 + 8, 0, none⟩) (some ⟨b1 + 9, 0, none⟩) (some ⟨b1 + 10, 0, none⟩) 10 10 1 1 2 2 26
  rw [hs] at bx
  have hs2 : ((w1.setCell ⟨b1 + 8, 26, none⟩ (.slice (some ⟨w1.heap.size + 1, 0, none⟩) 1 1)).alloc (.cells #[.int .i64 1, .slice (some ⟨b1 + 8, 0, none⟩) 10 10, .slice (some ⟨b1 + 9, 0, none⟩) 1 1, .slice (some ⟨b1 + 10, 0, none⟩) 2 2] 26)).heap.size = w1.heap.size + 1 := by simp
  have h7 := heap_alloc_new ((w1.setCell ⟨b1 + 8, 26, none⟩ (.slice (some ⟨w1.heap.size + 1, 0, none⟩) 1 1)).alloc (.cells #[.int .i64 1, .slice (some ⟨b1 + 8, 0, none⟩) 10 10, .slice (some ⟨b1 + 9, 0, none⟩) 1 1, .slice (some ⟨b1 + 10, 0, none⟩) 2 2] 26)) (.cells #[.int .i64 9] 3)
  rw [hs2] at h7
  have al2 := (Below.refl _ ((w1.setCell ⟨b1 + 8, 26, none⟩ (.slice (some ⟨w1.heap.size + 1, 0, none⟩) 1 1)).alloc (.cells #[.int .i64 1, .slice (some ⟨b1 + 8, 0, none⟩) 10 10, .slice (some ⟨b1 + 9, 0, none⟩) 1 1, .slice (some ⟨b1 + 10, 0, none⟩) 2 2] 26))).alloc (Nat.le_refl _) (.cells #[.int .i64 9] 3)
  have hN2 := knot_netT ((kT.below al1).below al2) h7
  have bx2 := bx.below al2
  have B2 := bstep (bstep S1 al1) al2
  clear hs kT S1 al1 bx hs2 h7 al2 hk c1 c2 hl8 hlt
  refine (Order_any knotDT _ _ _ _ _ _ _ _ _ _ _ hN2).mono ?_
  rintro e w3 ⟨a3, n3, c3, rfl, hL3, hb⟩
  have B3 := bstep B2 hb
  have hN3 := hN2.below hb
  have bx3 := bx2.below hb
  rw [k2.out] at hL3
  rw [k1.out]
  clear hb B2 hN2 bx2
  go_wp2_with fail
  refine (knot_any _).mono ?_
  rintro e w4 ⟨b4, _, rfl, hk, hb⟩
  have B4 := bstep B3 hb
  have hN4 := hN3.below hb
  have bx4 := bx3.below hb
  have hL4 := hL3.below hb
  clear hb B3 hN3 bx3 hL3
  go_wp2_with fail
  refine (Order_any knotD _ _ _ _ _ _ _ _ _ _ _ (knot_net hk)).mono ?_
  rintro e w5 ⟨a5, n5, c5, rfl, _, hb⟩
  have B5 := bstep B4 hb
  have hN5 := hN4.below hb
  have bx5 := bx4.below hb
  have hL5 := hL4.below hb
  rw [k5.out]
  clear hb B4 hN4 bx4 hL4 hk
  obtain ⟨x0, x1, x2, x3, x4⟩ := bx5
  go_wp2_with fail
  clear x0 x1 x2 x3 x4
  refine (LStep_any knotDT _ _ _ _ _ _ _ _ _ _ _ (by exact (hN5.below ((Below.refl _ _).alloc (Nat.le_refl _) _)).below ((Below.refl _ _).alloc (Nat.le_refl _) _)) [0] [1] _ _ _ _ _ _ (by exact (Ints.new _ _ _ _ [0] rfl rfl (lt_maxLen _ (by decide))).below ((Below.refl _ _).alloc (Nat.le_refl _) _)) (by exact Ints.new' _ _ _ _ _ [1] (by simp) rfl rfl (lt_maxLen _ (by decide)))).mono ?_
  rintro e w6 ⟨a6, n6, c6, rfl, hV6, hb⟩
  have B6 := bstep1 (B5.alloc B5.size _) hb
  have hL6 := ((hL5.below ((Below.refl _ _).alloc (Nat.le_refl _) _)).below ((Below.refl _ _).alloc (Nat.le_refl _) _)).below hb
  rw [k4.out] at hV6
  rw [k3.out]
  clear hb B5 hN5 hL5
  go_wp2_with fail
  refine (knot_any _).mono ?_
  rintro e w7 ⟨b7, _, rfl, hk, hb⟩
  have B7 := bstep B6 hb
  have hL7 := hL6.below hb
  have hV7 := hV6.below hb
  clear hb B6 hL6 hV6
  go_wp2_with fail
  refine (LStep_any knotD _ _ _ _ _ _ _ _ _ _ _ (by exact ((knot_net hk).below ((Below.refl _ _).alloc (Nat.le_refl _) _)).below ((Below.refl _ _).alloc (Nat.le_refl _) _)) [0] [1] _ _ _ _ _ _ (by exact (Ints.new _ _ _ _ [0] rfl rfl (lt_maxLen _ (by decide))).below ((Below.refl _ _).alloc (Nat.le_refl _) _)) (by exact Ints.new' _ _ _ _ _ [1] (by simp) rfl rfl (lt_maxLen _ (by decide)))).mono ?_
  rintro e w8 ⟨a8, n8, c8, rfl, _, hb⟩
  have B8 := bstep1 (B7.alloc B7.size _) hb
  have hL8 := ((hL7.below ((Below.refl _ _).alloc (Nat.le_refl _) _)).below ((Below.refl _ _).alloc (Nat.le_refl _) _)).below hb
  have hV8 := ((hV7.below ((Below.refl _ _).alloc (Nat.le_refl _) _)).below ((Below.refl _ _).alloc (Nat.le_refl _) _)).below hb
  rw [k6.out]
  clear hb B7 hL7 hV7 hk
  go_wp2_with fail
  refine (SameInts_any [0, 1, 2, 3, 4, 5, 6, 9, 8, 7] [0, 1, 2, 3, 4, 5, 6, 9, 8, 7] _ _ _ _ _ _ _ (by exact hL8.below ((Below.refl _ _).alloc (Nat.le_refl _) _)) (by exact Ints.new _ _ _ _ [0, 1, 2, 3, 4, 5, 6, 9, 8, 7] rfl rfl (lt_maxLen _ (by decide)))).mono ?_
  rintro e w9 ⟨rfl, hb⟩
  have B9 := bstep1 B8 hb
  have hV9 := (hV8.below ((Below.refl _ _).alloc (Nat.le_refl _) _)).below hb
  rw [show decide (([0, 1, 2, 3, 4, 5, 6, 9, 8, 7] : List Int) = [0, 1, 2, 3, 4, 5, 6, 9, 8, 7]) = true from rfl]
  clear hb B8 hL8 hV8
  go_wp2_with fail
  refine (SameInts_any [1, 0, 1, 0, 1, 0, 1, 1, 0, 0] [1, 0, 1, 0, 1, 0, 1, 1, 0, 0] _ _ _ _ _ _ _ (by exact hV9.below ((Below.refl _ _).alloc (Nat.le_refl _) _)) (by exact Ints.new _ _ _ _ [1, 0, 1, 0, 1, 0, 1, 1, 0, 0] rfl rfl (lt_maxLen _ (by decide)))).mono ?_
  rintro e w10 ⟨rfl, hb⟩
  have B10 := bstep1 B9 hb
  rw [show decide (([1, 0, 1, 0, 1, 0, 1, 1, 0, 0] : List Int) = [1, 0, 1, 0, 1, 0, 1, 1, 0, 0]) = true from rfl]
  clear hb B9 hV9
  go_wp2_with fail
  go_ret
  exact ⟨rfl, B10⟩

set_option maxRecDepth 100000 in
set_option maxHeartbeats 2000000 in
theorem LevelOrders_any (d : NetD) (ins0 : Int) (ga ra oa : Option Addr) (gn gc rn rc on oc : Nat) (w : World) (h : NetAt w d ins0 ga gn ra rn oa on) :
    Calls Try.prog 6 #[.agg #[.int .i64 ins0, .slice ga gn gc, .slice ra rn rc, .slice oa on oc]] w fun e w' => e = .returned (.bool true) ∧ Below w.heap.size w w' := by
  have hb0 : Below w.heap.size w (w.alloc (.cells #[.int .i64 ins0, .slice ga gn gc, .slice ra rn rc, .slice oa on oc] 26)) := (Below.refl _ _).alloc (Nat.le_refl _) _
  have hbox : Boxed (w.alloc (.cells #[.int .i64 ins0, .slice ga gn gc, .slice ra rn rc, .slice oa on oc] 26)) w.heap.size ins0 ga gn gc ra rn rc oa on oc := Boxed.new _ _ _ _ _ _ _ _ _ _ _ _
  have hN := h.below hb0
  clear h
  go_enter Try.func6, Try.ntmps6
  go_wp2_with fail
  refine (Order_any d _ _ _ _ _ _ _ _ _ _ _ hN).mono ?_
  rintro e w1 ⟨a1, n1, c1, rfl, hA1, hb⟩
  have B1 := bstep hb0 hb
  have hN1 := hN.below hb
  obtain ⟨x0, x1, x2, x3, x4⟩ := hbox.below hb
  clear hb hb0 hN hbox
  go_wp2_with fail
  clear x0 x1 x2 x3 x4
  refine (OrderOf_any d _ _ _ _ _ _ _ _ _ _ _ hN1).mono ?_
  rintro e w2 ⟨a2, n2, c2, rfl, hC2, hb⟩
  have B2 := bstep B1 hb
  have hA2 := hA1.below hb
  clear hb B1 hN1 hA1
  generalize orderE d = E
  generalize orderL d = X at hA2 hC2
  go_wp2_with fail
  refine (levelBegun_any _).mono ?_
  rintro e w3 ⟨rfl, hb⟩
  have B3 := bstep B2 hb
  have hA3 := hA2.below hb
  have hC3 := hC2.below hb
  clear hb B2 hA2 hC2
  go_wp2_with fail
  refine (SameInts_any _ _ _ _ _ _ _ _ _ hA3 hC3).mono ?_
  rintro e w4 ⟨rfl, hb⟩
  have B4 := bstep B3 hb
  rw [show decide (X = X) = true from decide_eq_true rfl]
  clear hb B3 hA3 hC3
  go_wp2_with fail
  go_ret
  exact ⟨rfl, B4⟩
end Go.Proofs.Ytongajonecgdpad
