/- The statement SweepFold. -/
import Derived.Test.YtongajonecgdpadSweepB
import Derived.Test.YtongajonecgdpadSweepA
namespace Go.Proofs.Ytongajonecgdpad
open Go.RowKit

theorem fold_same {d : NetD} {r i v u : List Int} (hck : checkE d = 0) (h : StepAns d r i v) (h' : StepAns (foldD d) r i u) : v = u := by
  by_cases e : stepE d r i = 0
  · have e' : stepE (foldD d) r i = 0 := by rw [fold_step hck]; exact e
    rw [(h.1 e).1.is, (h'.1 e').1.is, fold_lfp]
  · have e' : stepE (foldD d) r i ≠ 0 := by rw [fold_step hck]; exact e
    rw [h.2 e, h'.2 e']

set_option maxRecDepth 100000 in
set_option maxHeartbeats 4000000 in
theorem SweepFold_any (d : NetD) (ins0 : Int) (ga ra oa : Option Addr) (gn gc rn rc on oc : Nat) (w : World) (h : NetAt w d ins0 ga gn ra rn oa on) (regs ins : List Int) (qa ia : Option Addr) (qn qc inn ic : Nat) (hr : Ints w qa qn regs) (hi : Ints w ia inn ins) :
    Calls Try.prog 3 #[.agg #[.int .i64 ins0, .slice ga gn gc, .slice ra rn rc, .slice oa on oc], .slice qa qn qc, .slice ia inn ic] w fun e w' => e = .returned (.bool true) ∧ Below w.heap.size w w' := by
  have hb0 : Below w.heap.size w (w.alloc (.cells #[.int .i64 ins0, .slice ga gn gc, .slice ra rn rc, .slice oa on oc] 26)) := (Below.refl _ _).alloc (Nat.le_refl _) _
  have hbox : Boxed (w.alloc (.cells #[.int .i64 ins0, .slice ga gn gc, .slice ra rn rc, .slice oa on oc] 26)) w.heap.size ins0 ga gn gc ra rn rc oa on oc := Boxed.new _ _ _ _ _ _ _ _ _ _ _ _
  have hN := h.below hb0
  have hr0 := hr.below hb0
  have hi0 := hi.below hb0
  clear h hr hi
  go_enter Try.func3, Try.ntmps3
  go_wp2_with fail
  refine (Fold_any d _ _ _ _ _ _ _ _ _ _ _ hN).mono ?_
  intro e w1 hA
  by_cases e0 : checkE d = 0
  case neg =>
    have hq : (checkE d != 0) = true := by simp [e0]
    obtain ⟨i1, ga1, gn1, gc1, ra1, rn1, rc1, oa1, on1, oc1, rfl, hN1, _, hb⟩ := hA
    have B1 := (bstep hb0 hb).alloc (Nat.le_trans hb0.size hb.size) (.cells #[.int .i64 i1, .slice ga1 gn1 gc1, .slice ra1 rn1 rc1, .slice oa1 on1 oc1] 26)
    clear e0 hb hb0 hN hN1 hr0 hi0 hbox
    go_wp2_with fail
    refine (sweepBegun_any _).mono ?_
    rintro e w2 ⟨rfl, hb⟩
    have R := hide (bstep B1 hb)
    go_wp2_with fail
    go_ret
    exact ⟨rfl, unhide R⟩
  have HCK := hide e0
  rw [show foldA d = foldD d by unfold foldA; rw [if_pos e0], e0] at hA
  have HF0 := hide (fold_ok e0)
  have HFA := hide (show foldA (foldD d) = foldD d by unfold foldA; rw [if_pos (fold_ok e0), fold_twice])
  have HST := hide (fold_step e0 regs ins)
  obtain ⟨i1, ga1, gn1, gc1, ra1, rn1, rc1, oa1, on1, oc1, rfl, hN1, _, hb⟩ := hA
  have hb1 := (Below.refl _ w1).alloc (Nat.le_refl _) (.cells #[.int .i64 i1, .slice ga1 gn1 gc1, .slice ra1 rn1 rc1, .slice oa1 on1 oc1] 26)
  have hx1 := Boxed.new w1 i1 ga1 ra1 oa1 gn1 gc1 rn1 rc1 on1 oc1 26
  have hF2 := hN1.below hb1
  have hN2 := (hN.below hb).below hb1
  have hr2 := (hr0.below hb).below hb1
  have hi2 := (hi0.below hb).below hb1
  have hx0 := (hbox.below hb).below hb1
  have B2 := bstep (bstep hb0 hb) hb1
  clear e0 hb hb0 hb1 hN hN1 hr0 hi0 hbox
  generalize hw2 : w1.alloc (.cells #[.int .i64 i1, .slice ga1 gn1 gc1, .slice ra1 rn1 rc1, .slice oa1 on1 oc1] 26) = w2 at *
  have hx0' := hx0
  obtain ⟨x0, x1, x2, x3, x4⟩ := hx0'
  go_wp2_with fail
  refine (Step_any d _ _ _ _ _ _ _ _ _ _ _ hN2 regs ins _ _ _ _ _ _ hr2 hi2).mono ?_
  rintro e w3 ⟨xa, xn, xc, v, rfl, hV3, hAn, hb⟩
  have hF3 := hF2.below hb
  have hr3 := hr2.below hb
  have hi3 := hi2.below hb
  have hx3 := hx1.below hb
  have B3 := bstep B2 hb
  clear hb hF2 hN2 hr2 hi2 hx0 hx1 B2 x0 x1 x2 x3 x4
  obtain ⟨x0, x1, x2, x3, x4⟩ := hx3
  have hx3 : Boxed w3 _ _ _ _ _ _ _ _ _ _ _ := ⟨x0, x1, x2, x3, x4⟩
  go_wp2_with fail
  refine (Step_any (foldD d) _ _ _ _ _ _ _ _ _ _ _ hF3 regs ins _ _ _ _ _ _ hr3 hi3).mono ?_
  rintro e w4 ⟨ya, yn, yc, u, rfl, hU4, hBn, hb⟩
  rw [unhide HST]
  obtain rfl : v = u := fold_same (unhide HCK) hAn hBn
  have hF4 := hF3.below hb
  have hV4 := hV3.below hb
  have hx4 := hx3.below hb
  have B4 := bstep B3 hb
  clear hb hF3 hr3 hi3 hx3 B3 hV3 hAn hBn x0 x1 x2 x3 x4
  obtain ⟨x0, x1, x2, x3, x4⟩ := hx4
  have hx4 : Boxed w4 _ _ _ _ _ _ _ _ _ _ _ := ⟨x0, x1, x2, x3, x4⟩
  obtain ⟨st, hst⟩ : ∃ st, stepE d regs ins = st := ⟨_, rfl⟩
  rw [hst]
  clear hst HST
  go_wp2_with fail
  refine (Fold_any (foldD d) _ _ _ _ _ _ _ _ _ _ _ hF4).mono ?_
  intro e w5 hA
  rw [unhide HFA, unhide HF0] at hA
  obtain ⟨i5, ga5, gn5, gc5, ra5, rn5, rc5, oa5, on5, oc5, rfl, hN5, _, hb⟩ := hA
  have hb5 := (Below.refl _ w5).alloc (Nat.le_refl _) (.cells #[.int .i64 i5, .slice ga5 gn5 gc5, .slice ra5 rn5 rc5, .slice oa5 on5 oc5] 26)
  have hy6 := Boxed.new w5 i5 ga5 ra5 oa5 gn5 gc5 rn5 rc5 on5 oc5 26
  have hG6 := hN5.below hb5
  have hF6 := (hF4.below hb).below hb5
  have hU6 := (hU4.below hb).below hb5
  have hV6 := (hV4.below hb).below hb5
  have hx6 := (hx4.below hb).below hb5
  have B6 := bstep (bstep B4 hb) hb5
  clear hb hb5 hF4 hU4 hV4 hx4 B4 hN5 x0 x1 x2 x3 x4
  generalize hw6 : w5.alloc (.cells #[.int .i64 i5, .slice ga5 gn5 gc5, .slice ra5 rn5 rc5, .slice oa5 on5 oc5] 26) = w6 at *
  go_wp2_with fail
  refine (sweepBegun_any _).mono ?_
  rintro e w7 ⟨rfl, hb⟩
  have hx7 := hx6.below hb
  have hy7 := hy6.below hb
  have hG7 := hG6.below hb
  have hF7 := hF6.below hb
  have hU7 := hU6.below hb
  have hV7 := hV6.below hb
  have B7 := bstep B6 hb
  clear hb hx6 hy6 hG6 hF6 hU6 hV6 B6
  obtain ⟨x0, x1, x2, x3, x4⟩ := hx7
  have hx7 : Boxed w7 _ _ _ _ _ _ _ _ _ _ _ := ⟨x0, x1, x2, x3, x4⟩
  go_wp2_with fail
  refine (Check_any (foldD d) _ _ _ _ _ _ _ _ _ _ _ hF7).mono ?_
  rintro e w8 ⟨rfl, hb⟩
  rw [unhide HF0]
  have hx8 := hx7.below hb
  have hy8 := hy7.below hb
  have hG8 := hG7.below hb
  have hF8 := hF7.below hb
  have hU8 := hU7.below hb
  have hV8 := hV7.below hb
  have B8 := bstep B7 hb
  clear hb hx7 hy7 hG7 hF7 hU7 hV7 B7 x0 x1 x2 x3 x4
  go_wp2_with fail
  refine (SameInts_any _ _ _ _ _ _ _ _ _ hV8 hU8).mono ?_
  rintro e w9 ⟨rfl, hb⟩
  rw [show decide (v = v) = true from decide_eq_true rfl]
  have hx9 := hx8.below hb
  have hy9 := hy8.below hb
  have hG9 := hG8.below hb
  have hF9 := hF8.below hb
  have B9 := bstep B8 hb
  clear hb hx8 hy8 hG8 hF8 hU8 hV8 B8
  obtain ⟨x0, x1, x2, x3, x4⟩ := hx9
  obtain ⟨y0, y1, y2, y3, y4⟩ := hy9
  go_wp2_with fail
  refine (SameNets_any (foldD d) _ _ _ _ _ _ _ _ _ _ _ _ _ _ _ _ _ _ _ _ _ hF9 hG9).mono ?_
  rintro e w10 ⟨rfl, hb⟩
  have R := hide (bstep B9 hb)
  clear hb B9 hF9 hG9 x0 x1 x2 x3 x4 y0 y1 y2 y3 y4
  go_wp2_with fail
  go_ret
  exact ⟨rfl, unhide R⟩
end Go.Proofs.Ytongajonecgdpad
