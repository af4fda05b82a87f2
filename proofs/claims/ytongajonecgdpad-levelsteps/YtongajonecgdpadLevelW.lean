/- The statement LevelSteps. -/
import Derived.Test.YtongajonecgdpadLevelV
namespace Go.Proofs.Ytongajonecgdpad
open Go.RowKit

theorem lvl_ok {d : NetD} {r i : List Int} (h : lvlE d r i = 0) : stepE d r i = 0 ∧ orderE d = 0 := by
  unfold lvlE at h
  by_cases e : stepE d r i = 0
  · rw [if_pos e] at h; exact ⟨e, h⟩
  · rw [if_neg e] at h; exact absurd h e

set_option maxRecDepth 100000 in
set_option maxHeartbeats 2000000 in
theorem LevelSteps_any (d : NetD) (ins0 : Int) (ga ra oa : Option Addr) (gn gc rn rc on oc : Nat) (w : World) (h : NetAt w d ins0 ga gn ra rn oa on) (regs ins : List Int) (qa ia : Option Addr) (qn qc inn ic : Nat) (hr : Ints w qa qn regs) (hi : Ints w ia inn ins) :
    Calls Try.prog 7 #[.agg #[.int .i64 ins0, .slice ga gn gc, .slice ra rn rc, .slice oa on oc], .slice qa qn qc, .slice ia inn ic] w fun e w' => e = .returned (.bool true) ∧ Below w.heap.size w w' := by
  have hb0 : Below w.heap.size w (w.alloc (.cells #[.int .i64 ins0, .slice ga gn gc, .slice ra rn rc, .slice oa on oc] 26)) := (Below.refl _ _).alloc (Nat.le_refl _) _
  have hbox : Boxed (w.alloc (.cells #[.int .i64 ins0, .slice ga gn gc, .slice ra rn rc, .slice oa on oc] 26)) w.heap.size ins0 ga gn gc ra rn rc oa on oc := Boxed.new _ _ _ _ _ _ _ _ _ _ _ _
  have hN := h.below hb0
  have hr0 := hr.below hb0
  have hi0 := hi.below hb0
  clear h hr hi
  go_enter Try.func7, Try.ntmps7
  go_wp2_with fail
  refine (LStep_any d _ _ _ _ _ _ _ _ _ _ _ hN regs ins _ _ _ _ _ _ hr0 hi0).mono ?_
  rintro e w1 ⟨a1, n1, c1, rfl, hA1, hb⟩
  have B1 := bstep hb0 hb
  have hN1 := hN.below hb
  have hr1 := hr0.below hb
  have hi1 := hi0.below hb
  have hx1 := hbox.below hb
  have hx1' := hx1
  obtain ⟨x0, x1, x2, x3, x4⟩ := hx1'
  clear hb hb0 hN hbox hr0 hi0
  go_wp2_with fail
  clear x0 x1 x2 x3 x4
  refine (LevelStep_any d _ _ _ _ _ _ _ _ _ _ _ hN1 regs ins _ _ _ _ _ _ hr1 hi1).mono ?_
  rintro e w2 ⟨a2, n2, c2, rfl, hC2, hb⟩
  have B2 := bstep B1 hb
  have hA2 := hA1.below hb
  have hN2 := hN1.below hb
  have hr2 := hr1.below hb
  have hi2 := hi1.below hb
  have hx2 := hx1.below hb
  clear hb B1 hN1 hr1 hi1 hx1 hA1
  obtain ⟨x0, x1, x2, x3, x4⟩ := hx2
  go_wp2_with fail
  clear x0 x1 x2 x3 x4
  refine (Step_any d _ _ _ _ _ _ _ _ _ _ _ hN2 regs ins _ _ _ _ _ _ hr2 hi2).mono ?_
  rintro e w3 ⟨a3, n3, c3, v3, rfl, hV3, hS3, hb⟩
  have B3 := bstep B2 hb
  have hA3 := hA2.below hb
  have hC3 := hC2.below hb
  clear hb B2 hN2 hr2 hi2 hA2 hC2
  by_cases e0 : lvlE d regs ins = 0
  · have hs := (lvl_ok e0).1
    have hv : v3 = lvlL d regs ins := by
      unfold lvlL; rw [if_pos e0]; exact ((hS3.1 hs).1).is
    rw [e0, hs]
    rw [hv] at hV3
    clear e0 hs hv hS3
    generalize lvlL d regs ins = X at *
    go_wp2_with fail
    refine (levelBegun_any _).mono ?_
    rintro e w4 ⟨rfl, hb⟩
    have B4 := bstep B3 hb
    have hA4 := hA3.below hb
    have hC4 := hC3.below hb
    have hV4 := hV3.below hb
    clear hb B3 hA3 hC3 hV3
    go_wp2_with fail
    refine (SameInts_any _ _ _ _ _ _ _ _ _ hA4 hC4).mono ?_
    rintro e w5 ⟨rfl, hb⟩
    have B5 := bstep B4 hb
    have hA5 := hA4.below hb
    have hV5 := hV4.below hb
    rw [show decide (X = X) = true from decide_eq_true rfl]
    clear hb B4 hA4 hC4 hV4
    go_wp2_with fail
    refine (SameInts_any _ _ _ _ _ _ _ _ _ hA5 hV5).mono ?_
    rintro e w6 ⟨rfl, hb⟩
    have B6 := bstep B5 hb
    rw [show decide (X = X) = true from decide_eq_true rfl]
    clear hb B5 hA5 hV5
    go_wp2_with fail
    go_ret
    exact ⟨rfl, B6⟩
  · generalize stepE d regs ins = F
    obtain ⟨ee, hee⟩ : ∃ ee, lvlE d regs ins = ee := ⟨_, rfl⟩
    rw [hee] at e0
    rw [hee]
    have hq : (ee != 0) = true := by simp only [bne_iff_ne, ne_eq]; exact e0
    clear e0 hee hS3 hV3
    generalize lvlL d regs ins = X at *
    go_wp2_with fail
    refine (levelBegun_any _).mono ?_
    rintro e w4 ⟨rfl, hb⟩
    have B4 := bstep B3 hb
    have hA4 := hA3.below hb
    have hC4 := hC3.below hb
    clear hb B3 hA3 hC3
    go_wp2_with fail
    refine (SameInts_any _ _ _ _ _ _ _ _ _ hA4 hC4).mono ?_
    rintro e w5 ⟨rfl, hb⟩
    have B5 := bstep B4 hb
    rw [show decide (X = X) = true from decide_eq_true rfl]
    clear hb B4 hA4 hC4
    go_wp2_with fail
    go_ret
    exact ⟨rfl, B5⟩
end Go.Proofs.Ytongajonecgdpad
