/- The document's answer: linchpinref.SolvesOf. -/
import Derived.Test.YtongajonecgdpabEvalT
namespace Go.Proofs.Ytongajonecgdpab
open Go.RowKit

def solveE (d : NetD) (regs ins v : List Int) : Int := if stepE d regs ins = 0 then (if v.length = d.gates.length then (if vals v then 0 else 3) else 1) else stepE d regs ins
def solveB (d : NetD) (regs ins v : List Int) : Bool := if solveE d regs ins v = 0 then decide (roundV d regs ins v = v) else false
theorem solveE_ok {d : NetD} {regs ins v : List Int} (h : solveE d regs ins v = 0) : stepE d regs ins = 0 ∧ v.length = d.gates.length ∧ vals v = true := by
  unfold solveE at h
  by_cases e : stepE d regs ins = 0
  · rw [if_pos e] at h
    by_cases e2 : v.length = d.gates.length
    · rw [if_pos e2] at h
      cases e3 : vals v
      · rw [e3] at h; simp at h
      · exact ⟨e, e2, rfl⟩
    · rw [if_neg e2] at h; simp at h
  · rw [if_neg e] at h; exact absurd h e

set_option maxHeartbeats 1000000 in
theorem SolvesOf_any (d : NetD) (ins0 : Int) (ga ra oa : Option Addr) (gn gc rn rc on oc : Nat) (w : World) (h : NetAt w d ins0 ga gn ra rn oa on) (regs ins : List Int) (qa ia : Option Addr) (qn qc inn ic : Nat) (hr : Ints w qa qn regs) (hi : Ints w ia inn ins) (v : List Int) (va : Option Addr) (vn vc : Nat) (hv : Ints w va vn v) :
    Calls Try.prog 14 #[.agg #[.int .i64 ins0, .slice ga gn gc, .slice ra rn rc, .slice oa on oc], .slice qa qn qc, .slice ia inn ic, .slice va vn vc] w fun e w' => e = .returned (.tuple #[.bool (solveB d regs ins v), .int .i64 (solveE d regs ins v)]) ∧ Below w.heap.size w w' := by
  have hb0 : Below w.heap.size w (w.alloc (.cells #[.int .i64 ins0, .slice ga gn gc, .slice ra rn rc, .slice oa on oc] 26)) := (Below.refl _ _).alloc (Nat.le_refl _) _
  have hbox : Boxed (w.alloc (.cells #[.int .i64 ins0, .slice ga gn gc, .slice ra rn rc, .slice oa on oc] 26)) w.heap.size ins0 ga gn gc ra rn rc oa on oc := Boxed.new _ _ _ _ _ _ _ _ _ _ _ _
  have hN := h.below hb0
  have hr0 := hr.below hb0
  have hi0 := hi.below hb0
  have hv0 := hv.below hb0
  have HG : Hid (d.gates.length = gn) := h.gates.1.symm
  have hvn := hv.1
  by_cases e0 : stepE d regs ins = 0
  case neg =>
    have HQ : Hid (solveE d regs ins v = stepE d regs ins) := by simp [Hid, solveE, e0]
    have HB : Hid (solveB d regs ins v = false) := by
      unfold Hid solveB; rw [if_neg (by rw [HQ.out]; exact e0)]
    have hne : (stepE d regs ins != 0) = true := by simp [e0]
    clear e0 h hr hi hv hvn
    go_enter Try.func14, Try.ntmps14
    go_wp2_with fail
    refine (StepError_any d _ _ _ _ _ _ _ _ _ _ _ hN regs ins _ _ _ _ _ _ hr0 hi0).mono ?_
    rintro e w1 ⟨rfl, hb⟩
    have B1 := bstep hb0 hb
    have hN1 := hN.below hb
    have hr1 := hr0.below hb
    have hi1 := hi0.below hb
    have hv1 := hv0.below hb
    have hx1 := hbox.below hb
    clear hb hb0 hN hbox hr0 hi0 hv0
    go_wp2_with fail
    go_ret2
    exact ⟨ret_bpair HB.out.symm HQ.out.symm, B1⟩
  have HE : Hid (stepE d regs ins = 0) := e0
  by_cases e1 : vn = gn
  case neg =>
    have HQ : Hid (solveE d regs ins v = 1) := by
      unfold Hid solveE
      rw [if_pos e0, if_neg (by have := HG.out; omega)]
    have HB : Hid (solveB d regs ins v = false) := by
      unfold Hid solveB; rw [if_neg (by rw [HQ.out]; decide)]
    have hne : ((vn : Int) != (gn : Int)) = true := by simp only [bne_iff_ne, ne_eq]; omega
    clear e0 e1 h hr hi hv hvn
    go_enter Try.func14, Try.ntmps14
    go_wp2_with fail
    refine (StepError_any d _ _ _ _ _ _ _ _ _ _ _ hN regs ins _ _ _ _ _ _ hr0 hi0).mono ?_
    rintro e w1 ⟨rfl, hb⟩
    have B1 := bstep hb0 hb
    have hN1 := hN.below hb
    have hr1 := hr0.below hb
    have hi1 := hi0.below hb
    have hv1 := hv0.below hb
    have hx1 := hbox.below hb
    clear hb hb0 hN hbox hr0 hi0 hv0
    rw [HE.out]
    obtain ⟨x0, x1, x2, x3, x4⟩ := hx1
    go_wp2_with fail
    go_ret2
    exact ⟨ret_bpair HB.out.symm HQ.out.symm, B1⟩
  have hne : ((vn : Int) != (gn : Int)) = false := by simp only [bne_eq_false_iff_eq]; omega
  have HVL : Hid (v.length = d.gates.length) := by have := HG.out; unfold Hid; omega
  cases ev : vals v
  · have HQ : Hid (solveE d regs ins v = 3) := by
      unfold Hid solveE
      rw [if_pos e0, if_pos HVL.out, ev]; rfl
    have HB : Hid (solveB d regs ins v = false) := by
      unfold Hid solveB; rw [if_neg (by rw [HQ.out]; decide)]
    have HV : Hid (vals v = false) := ev
    clear e0 e1 ev h hr hi hv hvn
    go_enter Try.func14, Try.ntmps14
    go_wp2_with fail
    refine (StepError_any d _ _ _ _ _ _ _ _ _ _ _ hN regs ins _ _ _ _ _ _ hr0 hi0).mono ?_
    rintro e w1 ⟨rfl, hb⟩
    have B1 := bstep hb0 hb
    have hN1 := hN.below hb
    have hr1 := hr0.below hb
    have hi1 := hi0.below hb
    have hv1 := hv0.below hb
    have hx1 := hbox.below hb
    clear hb hb0 hN hbox hr0 hi0 hv0
    rw [HE.out]
    obtain ⟨x0, x1, x2, x3, x4⟩ := hx1
    go_wp2_with fail
    refine (values_any _ _ _ _ _ hv1).mono ?_
    rintro e w' ⟨rfl, rfl⟩
    rw [HV.out]
    go_wp2_with fail
    go_ret2
    exact ⟨ret_bpair HB.out.symm HQ.out.symm, B1⟩
  · have HQ : Hid (solveE d regs ins v = 0) := by
      unfold Hid solveE
      rw [if_pos e0, if_pos HVL.out, ev]; rfl
    have HB : Hid (solveB d regs ins v = decide (roundV d regs ins v = v)) := by
      unfold Hid solveB; rw [if_pos HQ.out]
    have HV : Hid (vals v = true) := ev
    clear e0 e1 ev h hr hi hv hvn
    go_enter Try.func14, Try.ntmps14
    go_wp2_with fail
    refine (StepError_any d _ _ _ _ _ _ _ _ _ _ _ hN regs ins _ _ _ _ _ _ hr0 hi0).mono ?_
    rintro e w1 ⟨rfl, hb⟩
    have B1 := bstep hb0 hb
    have hN1 := hN.below hb
    have hr1 := hr0.below hb
    have hi1 := hi0.below hb
    have hv1 := hv0.below hb
    have hx1 := hbox.below hb
    clear hb hb0 hN hbox hr0 hi0 hv0
    rw [HE.out]
    obtain ⟨x0, x1, x2, x3, x4⟩ := hx1
    go_wp2_with fail
    refine (values_any _ _ _ _ _ hv1).mono ?_
    rintro e w' ⟨rfl, rfl⟩
    rw [HV.out]
    go_wp2_with fail
    refine (solves_any d _ _ _ _ _ _ _ _ _ _ _ hN1 regs ins _ _ _ _ _ _ hr1 hi1 v _ _ _ hv1 HE.out HVL.out HV.out).mono ?_
    rintro e w2 ⟨rfl, hb⟩
    rw [← HB.out]
    go_wp2_with fail
    go_ret2
    exact ⟨ret_bpair rfl HQ.out.symm, bstep B1 hb⟩
end Go.Proofs.Ytongajonecgdpab
