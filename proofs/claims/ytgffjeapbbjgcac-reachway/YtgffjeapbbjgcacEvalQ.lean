/- The program's eval.Step and eval.Solves. -/
import Derived.Test.YtgffjeapbbjgcacEvalP
namespace Go.Proofs.Ytgffjeapbbjgcac
open Go.RowKit

set_option maxHeartbeats 1000000 in
theorem echeck_any (d : NetD) (ins0 : Int) (ga ra oa : Option Addr) (gn gc rn rc on oc : Nat) (w : World) (h : NetAt w d ins0 ga gn ra rn oa on) (regs ins : List Int) (qa ia : Option Addr) (qn qc inn ic : Nat) (hr : Ints w qa qn regs) (hi : Ints w ia inn ins) :
    Calls Try.prog 33 #[.agg #[.int .i64 ins0, .slice ga gn gc, .slice ra rn rc, .slice oa on oc], .slice qa qn qc, .slice ia inn ic] w fun e w' => e = .returned (.int .i64 (stepE d regs ins)) ∧ Below w.heap.size w w' := by
  have hb0 : Below w.heap.size w (w.alloc (.cells #[.int .i64 ins0, .slice ga gn gc, .slice ra rn rc, .slice oa on oc] 26)) := (Below.refl _ _).alloc (Nat.le_refl _) _
  have hbox : Boxed (w.alloc (.cells #[.int .i64 ins0, .slice ga gn gc, .slice ra rn rc, .slice oa on oc] 26)) w.heap.size ins0 ga gn gc ra rn rc oa on oc := Boxed.new _ _ _ _ _ _ _ _ _ _ _ _
  have hN := h.below hb0
  have hr0 := hr.below hb0
  have hi0 := hi.below hb0
  have HG : Hid (d.gates.length = gn) := h.gates.1.symm
  have HR : Hid (d.regs.length = rn) := h.regs.1.symm
  have HI : Hid (d.ins = ins0) := h.ins.symm
  have hqn := hr.1
  have hin := hi.1
  by_cases e0 : checkE d = 0
  case neg =>
    have HQ : Hid (stepE d regs ins = checkE d) := by simp [Hid, stepE, e0]
    have hne : (checkE d != 0) = true := by simp [e0]
    clear e0 h hr hi hqn hin
    go_enter Try.func33, Try.ntmps33
    go_wp2_with fail
    refine (Check_any d _ _ _ _ _ _ _ _ _ _ _ hN).mono ?_
    rintro e w1 ⟨rfl, hb⟩
    have B1 := bstep hb0 hb
    have hr1 := hr0.below hb
    have hi1 := hi0.below hb
    have hx1 := hbox.below hb
    clear hb hb0 hN hbox hr0 hi0
    go_wp2_with fail
    go_ret
    exact ⟨ret_int HQ.out.symm, B1⟩
  have HE : Hid (checkE d = 0) := e0
  by_cases e1 : qn = rn
  case neg =>
    have HQ : Hid (stepE d regs ins = 1) := by
      unfold Hid stepE
      rw [if_pos e0, if_neg (fun hh => e1 (by have := hh.1; have := HR.out; omega))]
    have hne : ((qn : Int) != (rn : Int)) = true := by simp only [bne_iff_ne, ne_eq]; omega
    clear e0 e1 h hr hi hqn hin
    go_enter Try.func33, Try.ntmps33
    go_wp2_with fail
    refine (Check_any d _ _ _ _ _ _ _ _ _ _ _ hN).mono ?_
    rintro e w1 ⟨rfl, hb⟩
    have B1 := bstep hb0 hb
    have hr1 := hr0.below hb
    have hi1 := hi0.below hb
    have hx1 := hbox.below hb
    clear hb hb0 hN hbox hr0 hi0
    rw [HE.out]
    obtain ⟨x0, x1, x2, x3, x4⟩ := hx1
    go_wp2_with fail
    go_ret
    exact ⟨ret_int HQ.out.symm, B1⟩
  have hne1 : ((qn : Int) != (rn : Int)) = false := by simp only [bne_eq_false_iff_eq]; omega
  by_cases e2 : (inn : Int) = ins0
  case neg =>
    have HQ : Hid (stepE d regs ins = 1) := by
      unfold Hid stepE
      rw [if_pos e0, if_neg (fun hh => e2 (by have := hh.2; have := HI.out; omega))]
    have hne : ((inn : Int) != ins0) = true := by simp only [bne_iff_ne, ne_eq]; omega
    clear e0 e1 e2 h hr hi hqn hin
    go_enter Try.func33, Try.ntmps33
    go_wp2_with fail
    refine (Check_any d _ _ _ _ _ _ _ _ _ _ _ hN).mono ?_
    rintro e w1 ⟨rfl, hb⟩
    have B1 := bstep hb0 hb
    have hr1 := hr0.below hb
    have hi1 := hi0.below hb
    have hx1 := hbox.below hb
    clear hb hb0 hN hbox hr0 hi0
    rw [HE.out]
    obtain ⟨x0, x1, x2, x3, x4⟩ := hx1
    go_wp2_with fail
    go_ret
    exact ⟨ret_int HQ.out.symm, B1⟩
  have hne2 : ((inn : Int) != ins0) = false := by simp only [bne_eq_false_iff_eq]; omega
  have HQ : Hid (stepE d regs ins = if vals regs && vals ins then 0 else 3) := by
    unfold Hid stepE
    rw [if_pos e0, if_pos ⟨by have := HR.out; omega, by have := HI.out; omega⟩]
  clear e0 e1 e2 h hr hi hqn hin
  go_enter Try.func33, Try.ntmps33
  go_wp2_with fail
  refine (Check_any d _ _ _ _ _ _ _ _ _ _ _ hN).mono ?_
  rintro e w1 ⟨rfl, hb⟩
  have B1 := bstep hb0 hb
  have hr1 := hr0.below hb
  have hi1 := hi0.below hb
  have hx1 := hbox.below hb
  clear hb hb0 hN hbox hr0 hi0
  rw [HE.out]
  obtain ⟨x0, x1, x2, x3, x4⟩ := hx1
  go_wp2_with fail
  refine (check_any _ _ _ _ _ hr1).mono ?_
  rintro e w2 ⟨rfl, hb2⟩
  have B2 := bstep B1 hb2
  have hi2 := hi1.below hb2
  clear hb2 hr1 hi1
  cases ev : vals regs
  · have HT : Hid (stepE d regs ins = 3) := by rw [HQ.out, ev]; rfl
    have HK : Hid (ckE regs = 3) := by unfold Hid ckE; rw [ev]; rfl
    rw [HK.out]
    clear ev
    go_wp2_with fail
    go_ret
    exact ⟨ret_int HT.out.symm, B2⟩
  · have HV : Hid (vals regs = true) := ev
    have HK : Hid (ckE regs = 0) := by unfold Hid ckE; rw [ev]; rfl
    rw [HK.out]
    clear ev
    have HT : Hid (stepE d regs ins = ckE ins) := by rw [HQ.out, HV.out]; unfold ckE; cases vals ins <;> rfl
    go_wp2_with fail
    refine (check_any _ _ _ _ _ hi2).mono ?_
    rintro e w3 ⟨rfl, hb3⟩
    go_wp2_with fail
    go_ret
    exact ⟨ret_int HT.out.symm, bstep B2 hb3⟩

set_option maxHeartbeats 1000000 in
theorem Step_any (d : NetD) (ins0 : Int) (ga ra oa : Option Addr) (gn gc rn rc on oc : Nat) (w : World) (h : NetAt w d ins0 ga gn ra rn oa on) (regs ins : List Int) (qa ia : Option Addr) (qn qc inn ic : Nat) (hr : Ints w qa qn regs) (hi : Ints w ia inn ins) :
    Calls Try.prog 25 #[.agg #[.int .i64 ins0, .slice ga gn gc, .slice ra rn rc, .slice oa on oc], .slice qa qn qc, .slice ia inn ic] w fun e w' => ∃ a n c v, e = .returned (.tuple #[.slice a n c, .int .i64 (stepE d regs ins)]) ∧ Ints w' a n v ∧ StepAns d regs ins v ∧ Below w.heap.size w w' := by
  have hb0 : Below w.heap.size w (w.alloc (.cells #[.int .i64 ins0, .slice ga gn gc, .slice ra rn rc, .slice oa on oc] 26)) := (Below.refl _ _).alloc (Nat.le_refl _) _
  have hbox : Boxed (w.alloc (.cells #[.int .i64 ins0, .slice ga gn gc, .slice ra rn rc, .slice oa on oc] 26)) w.heap.size ins0 ga gn gc ra rn rc oa on oc := Boxed.new _ _ _ _ _ _ _ _ _ _ _ _
  have hN := h.below hb0
  have hr0 := hr.below hb0
  have hi0 := hi.below hb0
  clear h hr hi
  go_enter Try.func25, Try.ntmps25
  go_wp2_with fail
  refine (echeck_any d _ _ _ _ _ _ _ _ _ _ _ hN regs ins _ _ _ _ _ _ hr0 hi0).mono ?_
  rintro e w1 ⟨rfl, hb⟩
  have B1 := bstep hb0 hb
  have hN1 := hN.below hb
  have hr1 := hr0.below hb
  have hi1 := hi0.below hb
  have hx1 := hbox.below hb
  clear hb hb0 hN hbox hr0 hi0
  by_cases e0 : stepE d regs ins = 0
  · have HE : Hid (stepE d regs ins = 0) := e0
    rw [HE.out]
    clear e0
    obtain ⟨x0, x1, x2, x3, x4⟩ := hx1
    go_wp2_with fail
    refine (settle_any d _ _ _ _ hN1.gates regs ins _ _ _ _ _ _ hr1 hi1 HE.out).mono ?_
    rintro e w2 ⟨a2, n2, c2, v2, rfl, hI2, hL2, hv2, hb2⟩
    go_wp2_with fail
    go_ret2
    exact ⟨a2, n2, c2, v2, ret_sl HE.out.symm, hI2, ⟨fun _ => ⟨hL2, hv2⟩, fun hh => absurd HE.out hh⟩, bstep B1 hb2⟩
  · have hne : (stepE d regs ins != 0) = true := by simp [e0]
    have HE := hide e0
    clear e0
    go_wp2_with fail
    go_ret2
    exact ⟨none, 0, 0, [], rfl, Ints.none _, ⟨fun hh => absurd hh (unhide HE), fun _ => rfl⟩, B1⟩

end Go.Proofs.Ytgffjeapbbjgcac
