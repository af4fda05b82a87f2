/- The statements' own look at tick (tickBegun): true, whatever the memory. Over the contracts Do_any and Run_any of the program. -/
import Derived.Test.YtongajonecgdpabTickR
namespace Go.Proofs.Ytongajonecgdpab
open Go.RowKit

theorem lit_rows (w : World) : Rows (allocs w [.cells #[.int .i64 1, .int .i64 0] 3, .cells #[.int .i64 1, .int .i64 1] 3, .cells #[.int .i64 0, .int .i64 1] 3, .cells #[.slice (some ⟨w.heap.size, 0, none⟩) 2 2, .slice (some ⟨w.heap.size + 1, 0, none⟩) 2 2, .slice (some ⟨w.heap.size + 1 + 1, 0, none⟩) 2 2] 24]) (some ⟨w.heap.size + 1 + 1 + 1, 0, none⟩) 3 [[1, 0], [1, 1], [0, 1]] := by
  have hm : ∀ n : Nat, n ≤ 100 → n ≤ maxLen := lt_maxLen
  have a0 := allocs_at [.cells #[.int .i64 1, .int .i64 0] 3, .cells #[.int .i64 1, .int .i64 1] 3, .cells #[.int .i64 0, .int .i64 1] 3, .cells #[.slice (some ⟨w.heap.size, 0, none⟩) 2 2, .slice (some ⟨w.heap.size + 1, 0, none⟩) 2 2, .slice (some ⟨w.heap.size + 1 + 1, 0, none⟩) 2 2] 24] w 0 (by simp)
  have a1 := allocs_at [.cells #[.int .i64 1, .int .i64 0] 3, .cells #[.int .i64 1, .int .i64 1] 3, .cells #[.int .i64 0, .int .i64 1] 3, .cells #[.slice (some ⟨w.heap.size, 0, none⟩) 2 2, .slice (some ⟨w.heap.size + 1, 0, none⟩) 2 2, .slice (some ⟨w.heap.size + 1 + 1, 0, none⟩) 2 2] 24] w 1 (by simp)
  have a2 := allocs_at [.cells #[.int .i64 1, .int .i64 0] 3, .cells #[.int .i64 1, .int .i64 1] 3, .cells #[.int .i64 0, .int .i64 1] 3, .cells #[.slice (some ⟨w.heap.size, 0, none⟩) 2 2, .slice (some ⟨w.heap.size + 1, 0, none⟩) 2 2, .slice (some ⟨w.heap.size + 1 + 1, 0, none⟩) 2 2] 24] w 2 (by simp)
  have a3 := allocs_at [.cells #[.int .i64 1, .int .i64 0] 3, .cells #[.int .i64 1, .int .i64 1] 3, .cells #[.int .i64 0, .int .i64 1] 3, .cells #[.slice (some ⟨w.heap.size, 0, none⟩) 2 2, .slice (some ⟨w.heap.size + 1, 0, none⟩) 2 2, .slice (some ⟨w.heap.size + 1 + 1, 0, none⟩) 2 2] 24] w 3 (by simp)
  generalize allocs w [.cells #[.int .i64 1, .int .i64 0] 3, .cells #[.int .i64 1, .int .i64 1] 3, .cells #[.int .i64 0, .int .i64 1] 3, .cells #[.slice (some ⟨w.heap.size, 0, none⟩) 2 2, .slice (some ⟨w.heap.size + 1, 0, none⟩) 2 2, .slice (some ⟨w.heap.size + 1 + 1, 0, none⟩) 2 2] 24] = W at a0 a1 a2 a3 ⊢
  generalize w.heap.size = b at a0 a1 a2 a3 ⊢
  have i0 : Ints W (some ⟨b, 0, none⟩) 2 [1, 0] := ints_heap [1, 0] a0 rfl (hm _ (by decide))
  have i1 : Ints W (some ⟨b + 1, 0, none⟩) 2 [1, 1] := ints_heap [1, 1] a1 rfl (hm _ (by decide))
  have i2 : Ints W (some ⟨b + 1 + 1, 0, none⟩) 2 [0, 1] := ints_heap [0, 1] a2 rfl (hm _ (by decide))
  have hl : b + 1 + 1 + 1 < W.heap.size := (Array.getElem?_eq_some_iff.1 a3).1
  refine ⟨rfl, hm _ (by decide), Or.inr ⟨b + 1 + 1 + 1, 0, rfl, hl, fun i hi => ?_⟩⟩
  have hi' : i < 3 := hi
  match i, hi' with
  | 0, _ => exact ⟨_, _, _, by rw [cell_of_row _ _ _ _ _ _ a3]; rfl, i0⟩
  | 1, _ => exact ⟨_, _, _, by rw [cell_of_row _ _ _ _ _ _ a3]; rfl, i1⟩
  | 2, _ => exact ⟨_, _, _, by rw [cell_of_row _ _ _ _ _ _ a3]; rfl, i2⟩

set_option maxRecDepth 100000 in
set_option maxHeartbeats 4000000 in
theorem tickBegun_any (w : World) :
    Calls Try.prog 18 #[] w fun e w' => e = .returned (.bool true) ∧ Below w.heap.size w w' := by
  have k1 : Hid (doE knotD [1] [1] = 0) := by show _ = _; decide
  have k1o : Hid (doOuts knotD [1] [1] = [0, 1]) := by show _ = _; decide
  have k1n : Hid (doNext knotD [1] [1] = [0]) := by show _ = _; decide
  have k2 : Hid (doE looseD [] [0] = 6) := by show _ = _; decide
  have k3 : Hid (runE knotD [1, 0, 1] = 0) := by show _ = _; decide
  have k3r : Hid (runRows knotD [1, 0, 1] = [[1, 0], [1, 1], [0, 1]]) := by show _ = _; decide
  have k3s : Hid (runRegs knotD [1, 0, 1] = [0]) := by show _ = _; decide
  have k4 : Hid (runE knotD [2] = 3) := by show _ = _; decide
  have k5 : Hid (runE looseD [1, 0] = 6) := by show _ = _; decide
  go_enter Try.func18, Try.ntmps18
  go_wp2_with fail
  refine (knot_any _).mono ?_
  rintro e w1 ⟨b1, _, rfl, hk, hb⟩
  have B1 := hb
  clear hb
  go_wp2_with fail
  refine (Do_any knotD _ _ _ _ _ _ _ _ _ _ _ (by exact ((knot_net hk).below ((Below.refl _ _).alloc (Nat.le_refl _) _)).below ((Below.refl _ _).alloc (Nat.le_refl _) _)) [1] [1] _ _ _ _ _ _ (by exact (Ints.new _ _ _ _ [1] rfl rfl (lt_maxLen _ (by decide))).below ((Below.refl _ _).alloc (Nat.le_refl _) _)) (by exact Ints.new' _ _ _ _ _ [1] (by simp) rfl rfl (lt_maxLen _ (by decide)))).mono ?_
  rintro e w2 ⟨a1, n1, c1, d1, m1, l1, rfl, hA2, hB2, hb⟩
  have B2 := bstep1 (B1.alloc B1.size _) hb
  rw [k1o.out] at hA2
  rw [k1n.out] at hB2
  rw [k1.out]
  clear hb B1 hk
  go_wp2_with fail
  refine (loose_any _).mono ?_
  rintro e w3 ⟨b3, rfl, hk, hb⟩
  have B3 := bstep B2 hb
  have hA3 := hA2.below hb
  have hB3 := hB2.below hb
  clear hA2 hB2
  clear hb B2
  go_wp2_with fail
  refine (Do_any looseD _ _ _ _ _ _ _ _ _ _ _ (by exact hk.below ((Below.refl _ _).alloc (Nat.le_refl _) _)) [] [0] _ _ _ _ _ _ (by exact Ints.none _) (by exact Ints.new _ _ _ _ [0] rfl rfl (lt_maxLen _ (by decide)))).mono ?_
  rintro e w4 ⟨a2, n2, c2, d2, m2, l2, rfl, _, _, hb⟩
  have B4 := bstep1 B3 hb
  rw [k2.out]
  have hA4 := (hA3.below ((Below.refl _ _).alloc (Nat.le_refl _) _)).below hb
  have hB4 := (hB3.below ((Below.refl _ _).alloc (Nat.le_refl _) _)).below hb
  clear hA3 hB3
  clear hb B3 hk
  go_wp2_with fail
  refine (knot_any _).mono ?_
  rintro e w5 ⟨b5, _, rfl, hk, hb⟩
  have B5 := bstep B4 hb
  have hA5 := hA4.below hb
  have hB5 := hB4.below hb
  clear hA4 hB4
  clear hb B4
  go_wp2_with fail
  refine (Run_any knotD _ _ _ _ _ _ _ _ _ _ _ (by exact (knot_net hk).below ((Below.refl _ _).alloc (Nat.le_refl _) _)) [1, 0, 1] _ _ _ (by exact Ints.new _ _ _ _ [1, 0, 1] rfl rfl (lt_maxLen _ (by decide)))).mono ?_
  rintro e w6 ⟨a3, n3, c3, d3, m3, l3, rfl, hL6, hR6, _, hb⟩
  have B6 := bstep1 B5 hb
  rw [k3r.out] at hL6
  rw [k3s.out] at hR6
  rw [k3.out]
  have hA6 := (hA5.below ((Below.refl _ _).alloc (Nat.le_refl _) _)).below hb
  have hB6 := (hB5.below ((Below.refl _ _).alloc (Nat.le_refl _) _)).below hb
  clear hA5 hB5
  clear hb B5 hk
  go_wp2_with fail
  refine (knot_any _).mono ?_
  rintro e w7 ⟨b7, _, rfl, hk, hb⟩
  have B7 := bstep B6 hb
  have hA7 := hA6.below hb
  have hB7 := hB6.below hb
  have hL7 := hL6.below hb
  have hR7 := hR6.below hb
  clear hA6 hB6 hL6 hR6
  clear hb B6
  go_wp2_with fail
  refine (Run_any knotD _ _ _ _ _ _ _ _ _ _ _ (by exact (knot_net hk).below ((Below.refl _ _).alloc (Nat.le_refl _) _)) [2] _ _ _ (by exact Ints.new _ _ _ _ [2] rfl rfl (lt_maxLen _ (by decide)))).mono ?_
  rintro e w8 ⟨a4, n4, c4, d4, m4, l4, rfl, _, _, _, hb⟩
  have B8 := bstep1 B7 hb
  rw [k4.out]
  have hA8 := (hA7.below ((Below.refl _ _).alloc (Nat.le_refl _) _)).below hb
  have hB8 := (hB7.below ((Below.refl _ _).alloc (Nat.le_refl _) _)).below hb
  have hL8 := (hL7.below ((Below.refl _ _).alloc (Nat.le_refl _) _)).below hb
  have hR8 := (hR7.below ((Below.refl _ _).alloc (Nat.le_refl _) _)).below hb
  clear hA7 hB7 hL7 hR7
  clear hb B7 hk
  go_wp2_with fail
  refine (loose_any _).mono ?_
  rintro e w9 ⟨b9, rfl, hk, hb⟩
  have B9 := bstep B8 hb
  have hA9 := hA8.below hb
  have hB9 := hB8.below hb
  have hL9 := hL8.below hb
  have hR9 := hR8.below hb
  clear hA8 hB8 hL8 hR8
  clear hb B8
  go_wp2_with fail
  refine (Run_any looseD _ _ _ _ _ _ _ _ _ _ _ (by exact hk.below ((Below.refl _ _).alloc (Nat.le_refl _) _)) [1, 0] _ _ _ (by exact Ints.new _ _ _ _ [1, 0] rfl rfl (lt_maxLen _ (by decide)))).mono ?_
  rintro e w10 ⟨a5, n5, c5, d5, m5, l5, rfl, _, _, _, hb⟩
  have B10 := bstep1 B9 hb
  rw [k5.out]
  have hA10 := (hA9.below ((Below.refl _ _).alloc (Nat.le_refl _) _)).below hb
  have hB10 := (hB9.below ((Below.refl _ _).alloc (Nat.le_refl _) _)).below hb
  have hL10 := (hL9.below ((Below.refl _ _).alloc (Nat.le_refl _) _)).below hb
  have hR10 := (hR9.below ((Below.refl _ _).alloc (Nat.le_refl _) _)).below hb
  clear hA9 hB9 hL9 hR9
  clear hb B9 hk
  go_wp2_with fail
  refine (SameInts_any [0, 1] [0, 1] _ _ _ _ _ _ _ (by exact hA10.below ((Below.refl _ _).alloc (Nat.le_refl _) _)) (by exact Ints.new _ _ _ _ [0, 1] rfl rfl (lt_maxLen _ (by decide)))).mono ?_
  rintro e w11 ⟨rfl, hb⟩
  have B11 := bstep1 B10 hb
  rw [show decide (([0, 1] : List Int) = [0, 1]) = true from rfl]
  have hA11 := (hA10.below ((Below.refl _ _).alloc (Nat.le_refl _) _)).below hb
  have hB11 := (hB10.below ((Below.refl _ _).alloc (Nat.le_refl _) _)).below hb
  have hL11 := (hL10.below ((Below.refl _ _).alloc (Nat.le_refl _) _)).below hb
  have hR11 := (hR10.below ((Below.refl _ _).alloc (Nat.le_refl _) _)).below hb
  clear hA10 hB10 hL10 hR10
  clear hb B10
  go_wp2_with fail
  refine (SameInts_any [0] [0] _ _ _ _ _ _ _ (by exact hB11.below ((Below.refl _ _).alloc (Nat.le_refl _) _)) (by exact Ints.new _ _ _ _ [0] rfl rfl (lt_maxLen _ (by decide)))).mono ?_
  rintro e w12 ⟨rfl, hb⟩
  have B12 := bstep1 B11 hb
  rw [show decide (([0] : List Int) = [0]) = true from rfl]
  have hA12 := (hA11.below ((Below.refl _ _).alloc (Nat.le_refl _) _)).below hb
  have hB12 := (hB11.below ((Below.refl _ _).alloc (Nat.le_refl _) _)).below hb
  have hL12 := (hL11.below ((Below.refl _ _).alloc (Nat.le_refl _) _)).below hb
  have hR12 := (hR11.below ((Below.refl _ _).alloc (Nat.le_refl _) _)).below hb
  clear hA11 hB11 hL11 hR11
  clear hb B11
  go_wp2_with fail
  refine (SameRows_any [[1, 0], [1, 1], [0, 1]] [[1, 0], [1, 1], [0, 1]] _ _ _ _ _ _ _ (by exact hL12.below (allocs_below [.cells #[.int .i64 1, .int .i64 0] 3, .cells #[.int .i64 1, .int .i64 1] 3, .cells #[.int .i64 0, .int .i64 1] 3, .cells #[.slice (some ⟨w12.heap.size, 0, none⟩) 2 2, .slice (some ⟨w12.heap.size + 1, 0, none⟩) 2 2, .slice (some ⟨w12.heap.size + 1 + 1, 0, none⟩) 2 2] 24] w12)) (by exact lit_rows w12)).mono ?_
  rintro e w13 ⟨rfl, hb⟩
  have hb' := bstep (allocs_below [.cells #[.int .i64 1, .int .i64 0] 3, .cells #[.int .i64 1, .int .i64 1] 3, .cells #[.int .i64 0, .int .i64 1] 3, .cells #[.slice (some ⟨w12.heap.size, 0, none⟩) 2 2, .slice (some ⟨w12.heap.size + 1, 0, none⟩) 2 2, .slice (some ⟨w12.heap.size + 1 + 1, 0, none⟩) 2 2] 24] w12) hb
  have B13 := bstep B12 hb'
  rw [show decide (([[1, 0], [1, 1], [0, 1]] : List (List Int)) = [[1, 0], [1, 1], [0, 1]]) = true from rfl]
  have hR13 := hR12.below hb'
  clear hb hb' B12 hR12 hA12 hB12 hL12
  go_wp2_with fail
  refine (SameInts_any [0] [0] _ _ _ _ _ _ _ (by exact hR13.below ((Below.refl _ _).alloc (Nat.le_refl _) _)) (by exact Ints.new _ _ _ _ [0] rfl rfl (lt_maxLen _ (by decide)))).mono ?_
  rintro e w14 ⟨rfl, hb⟩
  have B14 := bstep1 B13 hb
  rw [show decide (([0] : List Int) = [0]) = true from rfl]
  clear hb B13 hR13
  go_wp2_with fail
  go_ret
  exact ⟨rfl, B14⟩
end Go.Proofs.Ytongajonecgdpab
