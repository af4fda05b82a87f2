/- The statements' own look at reach (reachBegun): true, whatever the memory. -/
import Derived.Test.YtongajonecgdpacReachW
import Derived.Test.YtongajonecgdpacTickV
namespace Go.Proofs.Ytongajonecgdpac
open Go.RowKit Go.Maps

theorem knot_reach : reachAll knotD = reachTo knotD 2 := reach_done (by decide +kernel) (by decide)
theorem loose_reach : reachAll looseD = reachTo looseD 1 := reachTo_stop (d := looseD) (k := 1) (by decide +kernel) 64 (by decide)
theorem knot_states : statesE knotD = 0 ∧ statesL knotD = [[0], [1]] ∧ badB knotD = false ∧ badE knotD = 0 := by
  unfold statesL badE badB statesE
  rw [knot_reach]
  decide +kernel
theorem loose_states : statesE looseD = 6 ∧ badB looseD = true ∧ badE looseD = 0 ∧ badW looseD = [0] := by
  unfold badW badE badB statesE
  rw [loose_reach]
  decide +kernel

theorem lit_two (w : World) : Rows (allocs w [.cells #[.int .i64 0] 3, .cells #[.int .i64 1] 3, .cells #[.slice (some ⟨w.heap.size, 0, none⟩) 1 1, .slice (some ⟨w.heap.size + 1, 0, none⟩) 1 1] 24]) (some ⟨w.heap.size + 1 + 1, 0, none⟩) 2 [[0], [1]] := by
  have hm : ∀ n : Nat, n ≤ 100 → n ≤ maxLen := lt_maxLen
  have a0 := allocs_at [.cells #[.int .i64 0] 3, .cells #[.int .i64 1] 3, .cells #[.slice (some ⟨w.heap.size, 0, none⟩) 1 1, .slice (some ⟨w.heap.size + 1, 0, none⟩) 1 1] 24] w 0 (by simp)
  have a1 := allocs_at [.cells #[.int .i64 0] 3, .cells #[.int .i64 1] 3, .cells #[.slice (some ⟨w.heap.size, 0, none⟩) 1 1, .slice (some ⟨w.heap.size + 1, 0, none⟩) 1 1] 24] w 1 (by simp)
  have a2 := allocs_at [.cells #[.int .i64 0] 3, .cells #[.int .i64 1] 3, .cells #[.slice (some ⟨w.heap.size, 0, none⟩) 1 1, .slice (some ⟨w.heap.size + 1, 0, none⟩) 1 1] 24] w 2 (by simp)
  generalize allocs w [.cells #[.int .i64 0] 3, .cells #[.int .i64 1] 3, .cells #[.slice (some ⟨w.heap.size, 0, none⟩) 1 1, .slice (some ⟨w.heap.size + 1, 0, none⟩) 1 1] 24] = W at a0 a1 a2 ⊢
  generalize w.heap.size = b at a0 a1 a2 ⊢
  have i0 : Ints W (some ⟨b, 0, none⟩) 1 [0] := ints_heap [0] a0 rfl (hm _ (by decide))
  have i1 : Ints W (some ⟨b + 1, 0, none⟩) 1 [1] := ints_heap [1] a1 rfl (hm _ (by decide))
  have hl : b + 1 + 1 < W.heap.size := (Array.getElem?_eq_some_iff.1 a2).1
  refine ⟨rfl, hm _ (by decide), Or.inr ⟨b + 1 + 1, 0, rfl, hl, fun i hi => ?_⟩⟩
  have hi' : i < 2 := hi
  match i, hi' with
  | 0, _ => exact ⟨_, _, _, by rw [cell_of_row _ _ _ _ _ _ a2]; rfl, i0⟩
  | 1, _ => exact ⟨_, _, _, by rw [cell_of_row _ _ _ _ _ _ a2]; rfl, i1⟩

set_option maxRecDepth 100000 in
set_option maxHeartbeats 4000000 in
theorem reachBegun_any (w : World) :
    Calls Try.prog 16 #[] w fun e w' => e = .returned (.bool true) ∧ Below w.heap.size w w' := by
  have k1 : Hid (statesE knotD = 0) := knot_states.1
  have k2 : Hid (statesL knotD = [[0], [1]]) := knot_states.2.1
  have k3 : Hid (badB knotD = false) := knot_states.2.2.1
  have k4 : Hid (badE knotD = 0) := knot_states.2.2.2
  have l1 : Hid (statesE looseD = 6) := loose_states.1
  have l2 : Hid (badB looseD = true) := loose_states.2.1
  have l3 : Hid (badE looseD = 0) := loose_states.2.2.1
  have l4 : Hid (badW looseD = [0]) := loose_states.2.2.2
  go_enter Try.func16, Try.ntmps16
  go_wp2_with fail
  refine (knot_any _).mono ?_
  rintro e w1 ⟨b1, _, rfl, hk, hb⟩
  have B1 := hb
  clear hb
  go_wp2_with fail
  refine (States_any knotD _ _ _ _ _ _ _ _ _ _ _ (knot_net hk)).mono ?_
  rintro e w2 ⟨a1, n1, c1, rfl, hL2, hb⟩
  have B2 := bstep B1 hb
  rw [k2.out] at hL2
  rw [k1.out]
  clear hb B1 hk
  go_wp2_with fail
  refine (loose_any _).mono ?_
  rintro e w3 ⟨b3, rfl, hk, hb⟩
  have B3 := bstep B2 hb
  have hL3 := hL2.below hb
  clear hL2 hb B2
  go_wp2_with fail
  refine (States_any looseD _ _ _ _ _ _ _ _ _ _ _ hk).mono ?_
  rintro e w4 ⟨a2, n2, c2, rfl, _, hb⟩
  have B4 := bstep B3 hb
  have hL4 := hL3.below hb
  rw [l1.out]
  clear hL3 hb B3 hk
  go_wp2_with fail
  refine (loose_any _).mono ?_
  rintro e w5 ⟨b5, rfl, hk, hb⟩
  have B5 := bstep B4 hb
  have hL5 := hL4.below hb
  clear hL4 hb B4
  go_wp2_with fail
  refine (Bad_any looseD _ _ _ _ _ _ _ _ _ _ _ hk).mono ?_
  rintro e w6 ⟨a3, n3, c3, rfl, hW6, _, hb⟩
  have B6 := bstep B5 hb
  have hL6 := hL5.below hb
  rw [l4.out] at hW6
  rw [l2.out, l3.out]
  clear hL5 hb B5 hk
  go_wp2_with fail
  refine (knot_any _).mono ?_
  rintro e w7 ⟨b7, _, rfl, hk, hb⟩
  have B7 := bstep B6 hb
  have hL7 := hL6.below hb
  have hW7 := hW6.below hb
  clear hL6 hW6 hb B6
  go_wp2_with fail
  refine (Bad_any knotD _ _ _ _ _ _ _ _ _ _ _ (knot_net hk)).mono ?_
  rintro e w8 ⟨a4, n4, c4, rfl, _, _, hb⟩
  have B8 := bstep B7 hb
  have hL8 := hL7.below hb
  have hW8 := hW7.below hb
  rw [k3.out, k4.out]
  clear hL7 hW7 hb B7 hk
  go_wp2_with fail
  refine (SameRows_any [[0], [1]] [[0], [1]] _ _ _ _ _ _ _ (by exact hL8.below (allocs_below [.cells #[.int .i64 0] 3, .cells #[.int .i64 1] 3, .cells #[.slice (some ⟨w8.heap.size, 0, none⟩) 1 1, .slice (some ⟨w8.heap.size + 1, 0, none⟩) 1 1] 24] w8)) (by exact lit_two w8)).mono ?_
  rintro e w9 ⟨rfl, hb⟩
  have hb' := bstep (allocs_below [.cells #[.int .i64 0] 3, .cells #[.int .i64 1] 3, .cells #[.slice (some ⟨w8.heap.size, 0, none⟩) 1 1, .slice (some ⟨w8.heap.size + 1, 0, none⟩) 1 1] 24] w8) hb
  have B9 := bstep B8 hb'
  have hW9 := hW8.below hb'
  rw [show decide (([[0], [1]] : List (List Int)) = [[0], [1]]) = true from rfl]
  clear hL8 hW8 hb hb' B8
  go_wp2_with fail
  refine (SameInts_any [0] [0] _ _ _ _ _ _ _ (by exact hW9.below ((Below.refl _ _).alloc (Nat.le_refl _) _)) (by exact Ints.new _ _ _ _ [0] rfl rfl (lt_maxLen _ (by decide)))).mono ?_
  rintro e w10 ⟨rfl, hb⟩
  have B10 := bstep1 B9 hb
  rw [show decide (([0] : List Int) = [0]) = true from rfl]
  clear hb B9 hW9
  go_wp2_with fail
  go_ret
  exact ⟨rfl, B10⟩

set_option maxRecDepth 100000 in
set_option maxHeartbeats 2000000 in
theorem ReachStates_any (d : NetD) (ins0 : Int) (ga ra oa : Option Addr) (gn gc rn rc on oc : Nat) (w : World) (h : NetAt w d ins0 ga gn ra rn oa on) :
    Calls Try.prog 4 #[.agg #[.int .i64 ins0, .slice ga gn gc, .slice ra rn rc, .slice oa on oc]] w fun e w' => e = .returned (.bool true) ∧ Below w.heap.size w w' := by
  have hb0 : Below w.heap.size w (w.alloc (.cells #[.int .i64 ins0, .slice ga gn gc, .slice ra rn rc, .slice oa on oc] 26)) := (Below.refl _ _).alloc (Nat.le_refl _) _
  have hbox : Boxed (w.alloc (.cells #[.int .i64 ins0, .slice ga gn gc, .slice ra rn rc, .slice oa on oc] 26)) w.heap.size ins0 ga gn gc ra rn rc oa on oc := Boxed.new _ _ _ _ _ _ _ _ _ _ _ _
  have hN := h.below hb0
  clear h
  go_enter Try.func4, Try.ntmps4
  go_wp2_with fail
  refine (States_any d _ _ _ _ _ _ _ _ _ _ _ hN).mono ?_
  rintro e w1 ⟨a1, n1, c1, rfl, hA1, hb⟩
  have B1 := bstep hb0 hb
  have hN1 := hN.below hb
  obtain ⟨x0, x1, x2, x3, x4⟩ := hbox.below hb
  clear hb hb0 hN hbox
  go_wp2_with fail
  clear x0 x1 x2 x3 x4
  refine (StatesOf_any d _ _ _ _ _ _ _ _ _ _ _ hN1).mono ?_
  rintro e w2 ⟨a2, n2, c2, rfl, hC2, hb⟩
  have B2 := bstep B1 hb
  have hA2 := hA1.below hb
  clear hb B1 hN1 hA1
  generalize statesE d = E
  generalize statesL d = X at hA2 hC2
  go_wp2_with fail
  refine (reachBegun_any _).mono ?_
  rintro e w3 ⟨rfl, hb⟩
  have B3 := bstep B2 hb
  have hA3 := hA2.below hb
  have hC3 := hC2.below hb
  clear hb B2 hA2 hC2
  go_wp2_with fail
  refine (SameRows_any _ _ _ _ _ _ _ _ _ hA3 hC3).mono ?_
  rintro e w4 ⟨rfl, hb⟩
  have B4 := bstep B3 hb
  rw [show decide (X = X) = true from decide_eq_true rfl]
  clear hb B3 hA3 hC3
  go_wp2_with fail
  go_ret
  exact ⟨rfl, B4⟩

set_option maxRecDepth 100000 in
set_option maxHeartbeats 2000000 in
theorem ReachBad_any (d : NetD) (ins0 : Int) (ga ra oa : Option Addr) (gn gc rn rc on oc : Nat) (w : World) (h : NetAt w d ins0 ga gn ra rn oa on) :
    Calls Try.prog 5 #[.agg #[.int .i64 ins0, .slice ga gn gc, .slice ra rn rc, .slice oa on oc]] w fun e w' => e = .returned (.bool true) ∧ Below w.heap.size w w' := by
  have hb0 : Below w.heap.size w (w.alloc (.cells #[.int .i64 ins0, .slice ga gn gc, .slice ra rn rc, .slice oa on oc] 26)) := (Below.refl _ _).alloc (Nat.le_refl _) _
  have hbox : Boxed (w.alloc (.cells #[.int .i64 ins0, .slice ga gn gc, .slice ra rn rc, .slice oa on oc] 26)) w.heap.size ins0 ga gn gc ra rn rc oa on oc := Boxed.new _ _ _ _ _ _ _ _ _ _ _ _
  have hN := h.below hb0
  clear h
  go_enter Try.func5, Try.ntmps5
  go_wp2_with fail
  refine (Bad_any d _ _ _ _ _ _ _ _ _ _ _ hN).mono ?_
  rintro e w1 ⟨a1, n1, c1, rfl, hA1, _, hb⟩
  have B1 := bstep hb0 hb
  have hN1 := hN.below hb
  obtain ⟨x0, x1, x2, x3, x4⟩ := hbox.below hb
  clear hb hb0 hN hbox
  go_wp2_with fail
  clear x0 x1 x2 x3 x4
  refine (BadOf_any d _ _ _ _ _ _ _ _ _ _ _ hN1).mono ?_
  rintro e w2 ⟨a2, n2, c2, rfl, hC2, hb⟩
  have B2 := bstep B1 hb
  have hA2 := hA1.below hb
  clear hb B1 hN1 hA1
  generalize badE d = E
  generalize badB d = F
  generalize badW d = X at hA2 hC2
  go_wp2_with fail
  refine (reachBegun_any _).mono ?_
  rintro e w3 ⟨rfl, hb⟩
  have B3 := bstep B2 hb
  have hA3 := hA2.below hb
  have hC3 := hC2.below hb
  clear hb B2 hA2 hC2
  go_wp2_with fail
  refine (SameInts_any _ _ _ _ _ _ _ _ _ hA3 hC3).mono ?_
  rintro e w4 ⟨rfl, hb⟩
  have B4 := bstep B3 hb
  rw [show decide (X = X) = true from decide_eq_true rfl]
  clear hb B3 hA3 hC3
  go_wp2_with fail
  go_ret
  exact ⟨rfl, B4⟩
end Go.Proofs.Ytongajonecgdpac
