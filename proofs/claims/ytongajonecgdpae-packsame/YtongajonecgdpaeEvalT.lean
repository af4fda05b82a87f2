/- The document's answers: linchpinref.StepOf and SolvesOf. -/
import Derived.Test.YtongajonecgdpaeEvalS
import Derived.Test.YtongajonecgdpaeFam
namespace Go.Proofs.Ytongajonecgdpae
open Go.RowKit

/-- What Step answers. -/
def StepAns (d : NetD) (regs ins v : List Int) : Prop := (stepE d regs ins = 0 → Least d regs ins v ∧ vals v = true) ∧ (stepE d regs ins ≠ 0 → v = [])
theorem StepAns.same {d : NetD} {regs ins v u : List Int} (h : StepAns d regs ins v) (h' : StepAns d regs ins u) : v = u := by
  by_cases e : stepE d regs ins = 0
  · exact (h.1 e).1.same (h'.1 e).1
  · rw [h.2 e, h'.2 e]

set_option maxHeartbeats 1000000 in
theorem StepOf_any (d : NetD) (ins0 : Int) (ga ra oa : Option Addr) (gn gc rn rc on oc : Nat) (w : World) (h : NetAt w d ins0 ga gn ra rn oa on) (regs ins : List Int) (qa ia : Option Addr) (qn qc inn ic : Nat) (hr : Ints w qa qn regs) (hi : Ints w ia inn ins) :
    Calls Try.prog 67 #[.agg #[.int .i64 ins0, .slice ga gn gc, .slice ra rn rc, .slice oa on oc], .slice qa qn qc, .slice ia inn ic] w fun e w' => ∃ a n c v, e = .returned (.tuple #[.slice a n c, .int .i64 (stepE d regs ins)]) ∧ Ints w' a n v ∧ StepAns d regs ins v ∧ Below w.heap.size w w' := by
  have hb0 : Below w.heap.size w (w.alloc (.cells #[.int .i64 ins0, .slice ga gn gc, .slice ra rn rc, .slice oa on oc] 26)) := (Below.refl _ _).alloc (Nat.le_refl _) _
  have hbox : Boxed (w.alloc (.cells #[.int .i64 ins0, .slice ga gn gc, .slice ra rn rc, .slice oa on oc] 26)) w.heap.size ins0 ga gn gc ra rn rc oa on oc := Boxed.new _ _ _ _ _ _ _ _ _ _ _ _
  have hN := h.below hb0
  have hr0 := hr.below hb0
  have hi0 := hi.below hb0
  clear h hr hi
  go_enter Try.func67, Try.ntmps67
  go_wp2_with fail
  refine (StepError_any d _ _ _ _ _ _ _ _ _ _ _ hN regs ins _ _ _ _ _ _ hr0 hi0).mono ?_
  rintro e w1 ⟨rfl, hb⟩
  have B1 := bstep hb0 hb
  have hN1 := hN.below hb
  have hr1 := hr0.below hb
  have hi1 := hi0.below hb
  have hx1 := hbox.below hb
  clear hb hb0 hN hbox hr0 hi0
  by_cases e0 : stepE d regs ins = 0
  · have HE : Hid (stepE d regs ins = 0) := e0
    rw [HE.out]
    clear e0
    obtain ⟨x0, x1, x2, x3, x4⟩ := hx1
    go_wp2_with fail
    refine (settled_any d _ _ _ _ _ _ _ _ _ _ _ hN1 regs ins _ _ _ _ _ _ hr1 hi1 HE.out).mono ?_
    rintro e w2 ⟨a2, n2, c2, v2, rfl, hI2, hL2, hv2, hb2⟩
    go_wp2_with fail
    go_ret2
    exact ⟨a2, n2, c2, v2, ret_sl HE.out.symm, hI2, ⟨fun _ => ⟨hL2, hv2⟩, fun hh => absurd HE.out hh⟩, bstep B1 hb2⟩
  · have hne : (stepE d regs ins != 0) = true := by simp [e0]
    have HE := hide e0
    clear e0
    go_wp2_with fail
    go_ret2
    exact ⟨none, 0, 0, [], rfl, Ints.none _, ⟨fun hh => absurd hh (unhide HE), fun _ => rfl⟩, B1⟩

def solvesTo (d : NetD) (regs ins v : List Int) (k : Nat) : Bool := decide (∀ i, i < k → v.getD i 2 = (roundV d regs ins v).getD i 2)
theorem solvesTo_succ (d : NetD) (regs ins v : List Int) (k : Nat) (h : solvesTo d regs ins v k = true) (e : v.getD k 2 = (roundV d regs ins v).getD k 2) : solvesTo d regs ins v (k + 1) = true := by
  unfold solvesTo at h ⊢
  rw [decide_eq_true_iff] at h ⊢
  intro i hi
  by_cases hk : i = k
  · rw [hk]; exact e
  · exact h i (by omega)
theorem solves_all (d : NetD) (regs ins v : List Int) (hl : v.length = d.gates.length) (h : solvesTo d regs ins v v.length = true) : decide (roundV d regs ins v = v) = true := by
  rw [decide_eq_true_iff]
  apply List.ext_getElem (by rw [roundV_len, hl])
  intro i h1 h2
  unfold solvesTo at h
  rw [decide_eq_true_iff] at h
  have := h i h2
  simp only [List.getD_eq_getElem?_getD, List.getElem?_eq_getElem h2, List.getElem?_eq_getElem h1, Option.getD_some] at this
  exact this.symm
theorem solves_not (d : NetD) (regs ins v : List Int) (k : Nat) (e : v.getD k 2 ≠ (roundV d regs ins v).getD k 2) : decide (roundV d regs ins v = v) = false := by
  rw [decide_eq_false_iff_not]
  intro h; exact e (by rw [h])

end Go.Proofs.Ytongajonecgdpae
