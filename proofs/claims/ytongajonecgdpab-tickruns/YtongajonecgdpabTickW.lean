/- The walks of the statements on tick, over the contracts Do_any and Run_any of the program. -/
import Derived.Test.YtongajonecgdpabTickV
namespace Go.Proofs.Ytongajonecgdpab
open Go.RowKit

set_option maxHeartbeats 1000000 in
theorem TickDoes_any (d : NetD) (ins0 : Int) (ga ra oa : Option Addr) (gn gc rn rc on oc : Nat) (w : World) (h : NetAt w d ins0 ga gn ra rn oa on) (regs ins : List Int) (qa ia : Option Addr) (qn qc inn ic : Nat) (hr : Ints w qa qn regs) (hi : Ints w ia inn ins) :
    Calls Try.prog 7 #[.agg #[.int .i64 ins0, .slice ga gn gc, .slice ra rn rc, .slice oa on oc], .slice qa qn qc, .slice ia inn ic] w fun e w' => e = .returned (.bool true) ∧ Below w.heap.size w w' := by
  have hb0 : Below w.heap.size w (w.alloc (.cells #[.int .i64 ins0, .slice ga gn gc, .slice ra rn rc, .slice oa on oc] 26)) := (Below.refl _ _).alloc (Nat.le_refl _) _
  have hbox : Boxed (w.alloc (.cells #[.int .i64 ins0, .slice ga gn gc, .slice ra rn rc, .slice oa on oc] 26)) w.heap.size ins0 ga gn gc ra rn rc oa on oc := Boxed.new _ _ _ _ _ _ _ _ _ _ _ _
  have hN := h.below hb0
  have hr0 := hr.below hb0
  have hi0 := hi.below hb0
  clear h hr hi
  go_enter Try.func7, Try.ntmps7
  go_wp2_with fail
  refine (Do_any d _ _ _ _ _ _ _ _ _ _ _ hN regs ins _ _ _ _ _ _ hr0 hi0).mono ?_
  rintro e w1 ⟨a1, n1, c1, d1, m1, l1, rfl, hA1, hB1, hb⟩
  have B1 := bstep hb0 hb
  have hN1 := hN.below hb
  have hr1 := hr0.below hb
  have hi1 := hi0.below hb
  obtain ⟨x0, x1, x2, x3, x4⟩ := hbox.below hb
  clear hb hb0 hN hbox hr0 hi0
  go_wp2_with fail
  clear x0 x1 x2 x3 x4
  refine (DoOf_any d _ _ _ _ _ _ _ _ _ _ _ hN1 regs ins _ _ _ _ _ _ hr1 hi1).mono ?_
  rintro e w2 ⟨a2, n2, c2, d2, m2, l2, rfl, hC2, hD2, _, _, hb⟩
  have B2 := bstep B1 hb
  have hA2 := hA1.below hb
  have hB2 := hB1.below hb
  clear hb B1 hN1 hr1 hi1 hA1 hB1
  generalize doE d regs ins = E
  generalize doOuts d regs ins = X at hA2 hC2
  generalize doNext d regs ins = Y at hB2 hD2
  go_wp2_with fail
  refine (tickBegun_any _).mono ?_
  rintro e w3 ⟨rfl, hb⟩
  have B3 := bstep B2 hb
  have hA3 := hA2.below hb
  have hB3 := hB2.below hb
  have hC3 := hC2.below hb
  have hD3 := hD2.below hb
  clear hb B2 hA2 hB2 hC2 hD2
  go_wp2_with fail
  refine (SameInts_any _ _ _ _ _ _ _ _ _ hA3 hC3).mono ?_
  rintro e w4 ⟨rfl, hb⟩
  have B4 := bstep B3 hb
  have hB4 := hB3.below hb
  have hD4 := hD3.below hb
  rw [show decide (X = X) = true from decide_eq_true rfl]
  clear hb B3 hA3 hB3 hC3 hD3
  go_wp2_with fail
  refine (SameInts_any _ _ _ _ _ _ _ _ _ hB4 hD4).mono ?_
  rintro e w5 ⟨rfl, hb⟩
  have B5 := bstep B4 hb
  rw [show decide (Y = Y) = true from decide_eq_true rfl]
  clear hb B4 hB4 hD4
  go_wp2_with fail
  go_ret
  exact ⟨rfl, B5⟩

set_option maxHeartbeats 1000000 in
theorem TickRuns_any (d : NetD) (ins0 : Int) (ga ra oa : Option Addr) (gn gc rn rc on oc : Nat) (w : World) (h : NetAt w d ins0 ga gn ra rn oa on) (l : List Int) (la : Option Addr) (ln lc : Nat) (hl : Ints w la ln l) :
    Calls Try.prog 8 #[.agg #[.int .i64 ins0, .slice ga gn gc, .slice ra rn rc, .slice oa on oc], .slice la ln lc] w fun e w' => e = .returned (.bool true) ∧ Below w.heap.size w w' := by
  have hb0 : Below w.heap.size w (w.alloc (.cells #[.int .i64 ins0, .slice ga gn gc, .slice ra rn rc, .slice oa on oc] 26)) := (Below.refl _ _).alloc (Nat.le_refl _) _
  have hbox : Boxed (w.alloc (.cells #[.int .i64 ins0, .slice ga gn gc, .slice ra rn rc, .slice oa on oc] 26)) w.heap.size ins0 ga gn gc ra rn rc oa on oc := Boxed.new _ _ _ _ _ _ _ _ _ _ _ _
  have hN := h.below hb0
  have hl0 := hl.below hb0
  clear h hl
  go_enter Try.func8, Try.ntmps8
  go_wp2_with fail
  refine (Run_any d _ _ _ _ _ _ _ _ _ _ _ hN l _ _ _ hl0).mono ?_
  rintro e w1 ⟨a1, n1, c1, d1, m1, l1, rfl, hA1, hB1, _, hb⟩
  have B1 := bstep hb0 hb
  have hN1 := hN.below hb
  have hl1 := hl0.below hb
  obtain ⟨x0, x1, x2, x3, x4⟩ := hbox.below hb
  clear hb hb0 hN hbox hl0
  go_wp2_with fail
  clear x0 x1 x2 x3 x4
  refine (RunOf_any d _ _ _ _ _ _ _ _ _ _ _ hN1 l _ _ _ hl1).mono ?_
  rintro e w2 ⟨a2, n2, c2, d2, m2, l2, rfl, hC2, hD2, _, hb⟩
  have B2 := bstep B1 hb
  have hA2 := hA1.below hb
  have hB2 := hB1.below hb
  clear hb B1 hN1 hl1 hA1 hB1
  generalize runE d l = E
  generalize runRows d l = X at hA2 hC2
  generalize runRegs d l = Y at hB2 hD2
  go_wp2_with fail
  refine (tickBegun_any _).mono ?_
  rintro e w3 ⟨rfl, hb⟩
  have B3 := bstep B2 hb
  have hA3 := hA2.below hb
  have hB3 := hB2.below hb
  have hC3 := hC2.below hb
  have hD3 := hD2.below hb
  clear hb B2 hA2 hB2 hC2 hD2
  go_wp2_with fail
  refine (SameRows_any _ _ _ _ _ _ _ _ _ hA3 hC3).mono ?_
  rintro e w4 ⟨rfl, hb⟩
  have B4 := bstep B3 hb
  have hB4 := hB3.below hb
  have hD4 := hD3.below hb
  rw [show decide (X = X) = true from decide_eq_true rfl]
  clear hb B3 hA3 hB3 hC3 hD3
  go_wp2_with fail
  refine (SameInts_any _ _ _ _ _ _ _ _ _ hB4 hD4).mono ?_
  rintro e w5 ⟨rfl, hb⟩
  have B5 := bstep B4 hb
  rw [show decide (Y = Y) = true from decide_eq_true rfl]
  clear hb B4 hB4 hD4
  go_wp2_with fail
  go_ret
  exact ⟨rfl, B5⟩
end Go.Proofs.Ytongajonecgdpab
