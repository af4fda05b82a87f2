/- The program's eval.Step and eval.Solves. -/
import Derived.Test.YtongajonecgdpaeEvalP
namespace Go.Proofs.Ytongajonecgdpae
open Go.RowKit

/-- A whole block of a call's own. -/
def Cells (w : World) (g : Nat) (vs : List Value) (T : TypeId) : Prop := w.heap[g]? = some (.cells vs.toArray T (0, 0))
theorem Cells.cell {w : World} {g : Nat} {vs : List Value} {T : TypeId} (h : Cells w g vs T) (k : Nat) : w.cell? ⟨g, k, none⟩ = vs[k]? := by
  rw [cell_of_row w g k _ _ _ h]
  simp
theorem Cells.frozen {w : World} {g : Nat} {vs : List Value} {T : TypeId} (h : Cells w g vs T) (k : Nat) : w.frozen? ⟨g, k, none⟩ = false := frozen_of_row w g k _ _ h
theorem Cells.set {w : World} {g : Nat} {vs : List Value} {T : TypeId} (h : Cells w g vs T) (k : Nat) (x : Value) : Cells (w.setCell ⟨g, k, none⟩ x) g (vs.set k x) T := by
  unfold Cells
  rw [Go.heap_setCell_same w g k _ _ _ h]
  congr 2
  simp
theorem Cells.lt {w : World} {g : Nat} {vs : List Value} {T : TypeId} (h : Cells w g vs T) : g < w.heap.size := (Array.getElem?_eq_some_iff.1 h).1
theorem Cells.below {B : Nat} {w w' : World} {g : Nat} {vs : List Value} {T : TypeId} (h : Cells w g vs T) (hb : Below B w w') (hg : g < B) : Cells w' g vs T := by
  unfold Cells; rw [hb.block g hg]; exact h
theorem Cells.new (w : World) (vs : List Value) (T : TypeId) : Cells (w.alloc (.cells vs.toArray T)) w.heap.size vs T := (MapKept.heap_alloc w _).1

/-- What hold.Of hands out: the two lists, or nothing. -/
def holdV (e : Int) (qa ia : Option Addr) (qn qc inn ic : Nat) : Value := if e = 0 then .agg #[.slice qa qn qc, .slice ia inn ic] else .agg #[.slice none 0 0, .slice none 0 0]
theorem ret_hold {h h' : Value} {e e' : Int} (h1 : h = h') (h2 : e = e') : Ending.returned (.tuple #[h, .int .i64 e]) = .returned (.tuple #[h', .int .i64 e']) := by rw [h1, h2]
theorem holdV_no {e : Int} (h : e ≠ 0) (qa ia : Option Addr) (qn qc inn ic : Nat) : holdV e qa ia qn qc inn ic = .agg #[.slice none 0 0, .slice none 0 0] := by unfold holdV; rw [if_neg h]
theorem holdV_ok {e : Int} (h : e = 0) (qa ia : Option Addr) (qn qc inn ic : Nat) : holdV e qa ia qn qc inn ic = .agg #[.slice qa qn qc, .slice ia inn ic] := by unfold holdV; rw [if_pos h]

set_option maxHeartbeats 1000000 in
theorem hold_any (d : NetD) (ins0 : Int) (ga ra oa : Option Addr) (gn gc rn rc on oc : Nat) (w : World) (h : NetAt w d ins0 ga gn ra rn oa on) (regs ins : List Int) (qa ia : Option Addr) (qn qc inn ic : Nat) (hr : Ints w qa qn regs) (hi : Ints w ia inn ins) :
    Calls Try.prog 84 #[.agg #[.int .i64 ins0, .slice ga gn gc, .slice ra rn rc, .slice oa on oc], .slice qa qn qc, .slice ia inn ic] w fun e w' => e = .returned (.tuple #[holdV (stepE d regs ins) qa ia qn qc inn ic, .int .i64 (stepE d regs ins)]) ∧ Below w.heap.size w w' := by
  have hb0 : Below w.heap.size w (w.alloc (.cells #[.int .i64 ins0, .slice ga gn gc, .slice ra rn rc, .slice oa on oc] 26)) := (Below.refl _ _).alloc (Nat.le_refl _) _
  have hbox : Boxed (w.alloc (.cells #[.int .i64 ins0, .slice ga gn gc, .slice ra rn rc, .slice oa on oc] 26)) w.heap.size ins0 ga gn gc ra rn rc oa on oc := Boxed.new _ _ _ _ _ _ _ _ _ _ _ _
  have hN := h.below hb0
  have hr0 := hr.below hb0
  have hi0 := hi.below hb0
  have hb1 := (Below.refl _ (w.alloc (.cells #[.int .i64 ins0, .slice ga gn gc, .slice ra rn rc, .slice oa on oc] 26))).alloc (Nat.le_refl _) (.cells #[.slice none 0 0, .slice none 0 0] 116)
  have hbx1 := Cells.new (w.alloc (.cells #[.int .i64 ins0, .slice ga gn gc, .slice ra rn rc, .slice oa on oc] 26)) [.slice none 0 0, .slice none 0 0] 116
  have hsz : (w.alloc (.cells #[.int .i64 ins0, .slice ga gn gc, .slice ra rn rc, .slice oa on oc] 26)).heap.size = w.heap.size + 1 := by simp
  rw [hsz] at hbx1
  have hN2 := hN.below hb1
  have hr2 := hr0.below hb1
  have hi2 := hi0.below hb1
  have hx2 := hbox.below hb1
  have B0 := bstep hb0 hb1
  have HG : Hid (d.gates.length = gn) := h.gates.1.symm
  have HR : Hid (d.regs.length = rn) := h.regs.1.symm
  have HI : Hid (d.ins = ins0) := h.ins.symm
  have hqn := hr.1
  have hin := hi.1
  clear hb0 hb1 hN hr0 hi0 hbox hsz
  by_cases e0 : checkE d = 0
  case neg =>
    have HQ : Hid (stepE d regs ins = checkE d) := by simp [Hid, stepE, e0]
    have HV := hide (holdV_no (show stepE d regs ins ≠ 0 by rw [HQ.out]; exact e0) qa ia qn qc inn ic)
    have hne : (checkE d != 0) = true := by simp [e0]
    clear e0 h hr hi hqn hin
    go_enter Try.func84, Try.ntmps84
    go_wp2_with fail
    refine (Check_any d _ _ _ _ _ _ _ _ _ _ _ hN2).mono ?_
    rintro e w1 ⟨rfl, hb⟩
    have B1 := bstep B0 hb
    have hr1 := hr2.below hb
    have hi1 := hi2.below hb
    have hx1 := hx2.below hb
    have hh1 := hbx1.below hb hbx1.lt
    clear hb B0 hN2 hx2 hr2 hi2 hbx1
    have y1 := hh1.cell 0
    have y2 := hh1.cell 1
    have f1 := hh1.frozen 0
    have f2 := (hh1.set 0 (.slice none 0 0)).frozen 1
    have hh9 := (hh1.set 0 (.slice none 0 0)).set 1 (.slice none 0 0)
    have y3 : ((w1.setCell ⟨w.heap.size + 1, 0, none⟩ (.slice none 0 0)).setCell ⟨w.heap.size + 1, 1, none⟩ (.slice none 0 0)).cell? ⟨w.heap.size + 1, 0, none⟩ = some (.slice none 0 0) := hh9.cell 0
    have y4 : ((w1.setCell ⟨w.heap.size + 1, 0, none⟩ (.slice none 0 0)).setCell ⟨w.heap.size + 1, 1, none⟩ (.slice none 0 0)).cell? ⟨w.heap.size + 1, 1, none⟩ = some (.slice none 0 0) := hh9.cell 1
    have y5 := (hh1.set 0 (.slice none 0 0)).cell 1
    have B9 := (B1.setCell (p := ⟨w.heap.size + 1, 0, none⟩) (Nat.le_succ _) (.slice none 0 0)).setCell (p := ⟨w.heap.size + 1, 1, none⟩) (Nat.le_succ _) (.slice none 0 0)
    clear hh9
    go_wp2_with fail
    exact bodyPost_ret (v := .tuple #[.agg #[.slice none 0 0, .slice none 0 0], .int .i64 (checkE d)]) (by simp [results, Try.results84, go_sem, y3, y4]) rfl ⟨ret_hold (unhide HV).symm HQ.out.symm, B9⟩
  have HE : Hid (checkE d = 0) := e0
  by_cases e1 : qn = rn
  case neg =>
    have HQ : Hid (stepE d regs ins = 1) := by
      unfold Hid stepE
      rw [if_pos e0, if_neg (fun hh => e1 (by have := hh.1; have := HR.out; omega))]
    have HV := hide (holdV_no (show stepE d regs ins ≠ 0 by rw [HQ.out]; decide) qa ia qn qc inn ic)
    have hne : ((qn : Int) != (rn : Int)) = true := by simp only [bne_iff_ne, ne_eq]; omega
    clear e0 e1 h hr hi hqn hin
    go_enter Try.func84, Try.ntmps84
    go_wp2_with fail
    refine (Check_any d _ _ _ _ _ _ _ _ _ _ _ hN2).mono ?_
    rintro e w1 ⟨rfl, hb⟩
    have B1 := bstep B0 hb
    have hr1 := hr2.below hb
    have hi1 := hi2.below hb
    have hx1 := hx2.below hb
    have hh1 := hbx1.below hb hbx1.lt
    clear hb B0 hN2 hx2 hr2 hi2 hbx1
    rw [HE.out]
    obtain ⟨x0, x1, x2, x3, x4⟩ := hx1
    have y1 := hh1.cell 0
    have y2 := hh1.cell 1
    have f1 := hh1.frozen 0
    have f2 := (hh1.set 0 (.slice none 0 0)).frozen 1
    have hh9 := (hh1.set 0 (.slice none 0 0)).set 1 (.slice none 0 0)
    have y3 : ((w1.setCell ⟨w.heap.size + 1, 0, none⟩ (.slice none 0 0)).setCell ⟨w.heap.size + 1, 1, none⟩ (.slice none 0 0)).cell? ⟨w.heap.size + 1, 0, none⟩ = some (.slice none 0 0) := hh9.cell 0
    have y4 : ((w1.setCell ⟨w.heap.size + 1, 0, none⟩ (.slice none 0 0)).setCell ⟨w.heap.size + 1, 1, none⟩ (.slice none 0 0)).cell? ⟨w.heap.size + 1, 1, none⟩ = some (.slice none 0 0) := hh9.cell 1
    have y5 := (hh1.set 0 (.slice none 0 0)).cell 1
    have B9 := (B1.setCell (p := ⟨w.heap.size + 1, 0, none⟩) (Nat.le_succ _) (.slice none 0 0)).setCell (p := ⟨w.heap.size + 1, 1, none⟩) (Nat.le_succ _) (.slice none 0 0)
    clear hh9
    go_wp2_with fail
    exact bodyPost_ret (v := .tuple #[.agg #[.slice none 0 0, .slice none 0 0], .int .i64 1]) (by simp [results, Try.results84, go_sem, y3, y4]) rfl ⟨ret_hold (unhide HV).symm HQ.out.symm, B9⟩
  have hne1 : ((qn : Int) != (rn : Int)) = false := by simp only [bne_eq_false_iff_eq]; omega
  by_cases e2 : (inn : Int) = ins0
  case neg =>
    have HQ : Hid (stepE d regs ins = 1) := by
      unfold Hid stepE
      rw [if_pos e0, if_neg (fun hh => e2 (by have := hh.2; have := HI.out; omega))]
    have HV := hide (holdV_no (show stepE d regs ins ≠ 0 by rw [HQ.out]; decide) qa ia qn qc inn ic)
    have hne : ((inn : Int) != ins0) = true := by simp only [bne_iff_ne, ne_eq]; omega
    clear e0 e1 e2 h hr hi hqn hin
    go_enter Try.func84, Try.ntmps84
    go_wp2_with fail
    refine (Check_any d _ _ _ _ _ _ _ _ _ _ _ hN2).mono ?_
    rintro e w1 ⟨rfl, hb⟩
    have B1 := bstep B0 hb
    have hr1 := hr2.below hb
    have hi1 := hi2.below hb
    have hx1 := hx2.below hb
    have hh1 := hbx1.below hb hbx1.lt
    clear hb B0 hN2 hx2 hr2 hi2 hbx1
    rw [HE.out]
    obtain ⟨x0, x1, x2, x3, x4⟩ := hx1
    have y1 := hh1.cell 0
    have y2 := hh1.cell 1
    have f1 := hh1.frozen 0
    have f2 := (hh1.set 0 (.slice none 0 0)).frozen 1
    have hh9 := (hh1.set 0 (.slice none 0 0)).set 1 (.slice none 0 0)
    have y3 : ((w1.setCell ⟨w.heap.size + 1, 0, none⟩ (.slice none 0 0)).setCell ⟨w.heap.size + 1, 1, none⟩ (.slice none 0 0)).cell? ⟨w.heap.size + 1, 0, none⟩ = some (.slice none 0 0) := hh9.cell 0
    have y4 : ((w1.setCell ⟨w.heap.size + 1, 0, none⟩ (.slice none 0 0)).setCell ⟨w.heap.size + 1, 1, none⟩ (.slice none 0 0)).cell? ⟨w.heap.size + 1, 1, none⟩ = some (.slice none 0 0) := hh9.cell 1
    have y5 := (hh1.set 0 (.slice none 0 0)).cell 1
    have B9 := (B1.setCell (p := ⟨w.heap.size + 1, 0, none⟩) (Nat.le_succ _) (.slice none 0 0)).setCell (p := ⟨w.heap.size + 1, 1, none⟩) (Nat.le_succ _) (.slice none 0 0)
    clear hh9
    go_wp2_with fail
    exact bodyPost_ret (v := .tuple #[.agg #[.slice none 0 0, .slice none 0 0], .int .i64 1]) (by simp [results, Try.results84, go_sem, y3, y4]) rfl ⟨ret_hold (unhide HV).symm HQ.out.symm, B9⟩
  have hne2 : ((inn : Int) != ins0) = false := by simp only [bne_eq_false_iff_eq]; omega
  have HQ : Hid (stepE d regs ins = if vals regs && vals ins then 0 else 3) := by
    unfold Hid stepE
    rw [if_pos e0, if_pos ⟨by have := HR.out; omega, by have := HI.out; omega⟩]
  clear e0 e1 e2 h hr hi hqn hin
  go_enter Try.func84, Try.ntmps84
  go_wp2_with fail
  refine (Check_any d _ _ _ _ _ _ _ _ _ _ _ hN2).mono ?_
  rintro e w1 ⟨rfl, hb⟩
  have B1 := bstep B0 hb
  have hr1 := hr2.below hb
  have hi1 := hi2.below hb
  have hx1 := hx2.below hb
  have hh1 := hbx1.below hb hbx1.lt
  clear hb B0 hN2 hx2 hr2 hi2 hbx1
  rw [HE.out]
  obtain ⟨x0, x1, x2, x3, x4⟩ := hx1
  have y1 := hh1.cell 0
  have y2 := hh1.cell 1
  go_wp2_with fail
  refine (check_any _ _ _ _ _ hr1).mono ?_
  rintro e w2 ⟨rfl, hb2⟩
  have B2 := bstep B1 hb2
  have hi2 := hi1.below hb2
  have hh2 := hh1.below hb2 hh1.lt
  clear hb2 hr1 hi1 hh1 x1 x2 x3 x4 y1 y2 B1
  cases ev : vals regs
  · have HT : Hid (stepE d regs ins = 3) := by rw [HQ.out, ev]; rfl
    have HV := hide (holdV_no (show stepE d regs ins ≠ 0 by rw [HT.out]; decide) qa ia qn qc inn ic)
    have HK : Hid (ckE regs = 3) := by unfold Hid ckE; rw [ev]; rfl
    rw [HK.out]
    clear ev
    have y1 := hh2.cell 0
    have y2 := hh2.cell 1
    have f1 := hh2.frozen 0
    have f2 := (hh2.set 0 (.slice none 0 0)).frozen 1
    have hh9 := (hh2.set 0 (.slice none 0 0)).set 1 (.slice none 0 0)
    have y3 : ((w2.setCell ⟨w.heap.size + 1, 0, none⟩ (.slice none 0 0)).setCell ⟨w.heap.size + 1, 1, none⟩ (.slice none 0 0)).cell? ⟨w.heap.size + 1, 0, none⟩ = some (.slice none 0 0) := hh9.cell 0
    have y4 : ((w2.setCell ⟨w.heap.size + 1, 0, none⟩ (.slice none 0 0)).setCell ⟨w.heap.size + 1, 1, none⟩ (.slice none 0 0)).cell? ⟨w.heap.size + 1, 1, none⟩ = some (.slice none 0 0) := hh9.cell 1
    have y5 := (hh2.set 0 (.slice none 0 0)).cell 1
    have B9 := (B2.setCell (p := ⟨w.heap.size + 1, 0, none⟩) (Nat.le_succ _) (.slice none 0 0)).setCell (p := ⟨w.heap.size + 1, 1, none⟩) (Nat.le_succ _) (.slice none 0 0)
    clear hh9
    go_wp2_with fail
    exact bodyPost_ret (v := .tuple #[.agg #[.slice none 0 0, .slice none 0 0], .int .i64 3]) (by simp [results, Try.results84, go_sem, y3, y4]) rfl ⟨ret_hold (unhide HV).symm HT.out.symm, B9⟩
  · have HVR : Hid (vals regs = true) := ev
    have HK : Hid (ckE regs = 0) := by unfold Hid ckE; rw [ev]; rfl
    rw [HK.out]
    clear ev
    have HT : Hid (stepE d regs ins = ckE ins) := by rw [HQ.out, HVR.out]; unfold ckE; cases vals ins <;> rfl
    have y1 := hh2.cell 0
    have y2 := hh2.cell 1
    go_wp2_with fail
    refine (check_any _ _ _ _ _ hi2).mono ?_
    rintro e w3 ⟨rfl, hb3⟩
    have B3 := bstep B2 hb3
    have hh3 := hh2.below hb3 hh2.lt
    clear hb3 hi2 hh2 y1 y2 B2
    by_cases e9 : ckE ins = 0
    · have HV := hide (holdV_ok (show stepE d regs ins = 0 by rw [HT.out]; exact e9) qa ia qn qc inn ic)
      have HT0 := hide (show stepE d regs ins = 0 by rw [HT.out]; exact e9)
      rw [e9]
      clear e9
      have y1 := hh3.cell 0
      have y2 := hh3.cell 1
      have f1 := hh3.frozen 0
      have f2 := (hh3.set 0 (.slice qa qn qc)).frozen 1
      have hh9 := (hh3.set 0 (.slice qa qn qc)).set 1 (.slice ia inn ic)
      have y3 : ((w3.setCell ⟨w.heap.size + 1, 0, none⟩ (.slice qa qn qc)).setCell ⟨w.heap.size + 1, 1, none⟩ (.slice ia inn ic)).cell? ⟨w.heap.size + 1, 0, none⟩ = some (.slice qa qn qc) := hh9.cell 0
      have y4 : ((w3.setCell ⟨w.heap.size + 1, 0, none⟩ (.slice qa qn qc)).setCell ⟨w.heap.size + 1, 1, none⟩ (.slice ia inn ic)).cell? ⟨w.heap.size + 1, 1, none⟩ = some (.slice ia inn ic) := hh9.cell 1
      have y5 := (hh3.set 0 (.slice qa qn qc)).cell 1
      have B9 := (B3.setCell (p := ⟨w.heap.size + 1, 0, none⟩) (Nat.le_succ _) (.slice qa qn qc)).setCell (p := ⟨w.heap.size + 1, 1, none⟩) (Nat.le_succ _) (.slice ia inn ic)
      clear hh9
      go_wp2_with fail
      exact bodyPost_ret (v := .tuple #[.agg #[.slice qa qn qc, .slice ia inn ic], .int .i64 0]) (by simp [results, Try.results84, go_sem, y3, y4]) rfl ⟨ret_hold (unhide HV).symm (unhide HT0).symm, B9⟩
    · have HV := hide (holdV_no (show stepE d regs ins ≠ 0 by rw [HT.out]; exact e9) qa ia qn qc inn ic)
      have hne : (ckE ins != 0) = true := by simp [e9]
      clear e9
      have y1 := hh3.cell 0
      have y2 := hh3.cell 1
      have f1 := hh3.frozen 0
      have f2 := (hh3.set 0 (.slice none 0 0)).frozen 1
      have hh9 := (hh3.set 0 (.slice none 0 0)).set 1 (.slice none 0 0)
      have y3 : ((w3.setCell ⟨w.heap.size + 1, 0, none⟩ (.slice none 0 0)).setCell ⟨w.heap.size + 1, 1, none⟩ (.slice none 0 0)).cell? ⟨w.heap.size + 1, 0, none⟩ = some (.slice none 0 0) := hh9.cell 0
      have y4 : ((w3.setCell ⟨w.heap.size + 1, 0, none⟩ (.slice none 0 0)).setCell ⟨w.heap.size + 1, 1, none⟩ (.slice none 0 0)).cell? ⟨w.heap.size + 1, 1, none⟩ = some (.slice none 0 0) := hh9.cell 1
      have y5 := (hh3.set 0 (.slice none 0 0)).cell 1
      have B9 := (B3.setCell (p := ⟨w.heap.size + 1, 0, none⟩) (Nat.le_succ _) (.slice none 0 0)).setCell (p := ⟨w.heap.size + 1, 1, none⟩) (Nat.le_succ _) (.slice none 0 0)
      clear hh9
      go_wp2_with fail
      exact bodyPost_ret (v := .tuple #[.agg #[.slice none 0 0, .slice none 0 0], .int .i64 (ckE ins)]) (by simp [results, Try.results84, go_sem, y3, y4]) rfl ⟨ret_hold (unhide HV).symm HT.out.symm, B9⟩

set_option maxHeartbeats 1000000 in
theorem Step_any (d : NetD) (ins0 : Int) (ga ra oa : Option Addr) (gn gc rn rc on oc : Nat) (w : World) (h : NetAt w d ins0 ga gn ra rn oa on) (regs ins : List Int) (qa ia : Option Addr) (qn qc inn ic : Nat) (hr : Ints w qa qn regs) (hi : Ints w ia inn ins) :
    Calls Try.prog 72 #[.agg #[.int .i64 ins0, .slice ga gn gc, .slice ra rn rc, .slice oa on oc], .slice qa qn qc, .slice ia inn ic] w fun e w' => ∃ a n c v, e = .returned (.tuple #[.slice a n c, .int .i64 (stepE d regs ins)]) ∧ Ints w' a n v ∧ StepAns d regs ins v ∧ Below w.heap.size w w' := by
  have hb0 : Below w.heap.size w (w.alloc (.cells #[.int .i64 ins0, .slice ga gn gc, .slice ra rn rc, .slice oa on oc] 26)) := (Below.refl _ _).alloc (Nat.le_refl _) _
  have hbox : Boxed (w.alloc (.cells #[.int .i64 ins0, .slice ga gn gc, .slice ra rn rc, .slice oa on oc] 26)) w.heap.size ins0 ga gn gc ra rn rc oa on oc := Boxed.new _ _ _ _ _ _ _ _ _ _ _ _
  have hN := h.below hb0
  have hr0 := hr.below hb0
  have hi0 := hi.below hb0
  clear h hr hi
  go_enter Try.func72, Try.ntmps72
  go_wp2_with fail
  refine (hold_any d _ _ _ _ _ _ _ _ _ _ _ hN regs ins _ _ _ _ _ _ hr0 hi0).mono ?_
  rintro e w1 ⟨rfl, hb⟩
  have B1 := bstep hb0 hb
  have hN1 := hN.below hb
  have hr1 := hr0.below hb
  have hi1 := hi0.below hb
  have hx1 := hbox.below hb
  clear hb hb0 hN hbox hr0 hi0
  by_cases e0 : stepE d regs ins = 0
  · have HE : Hid (stepE d regs ins = 0) := e0
    rw [holdV_ok e0, HE.out]
    clear e0
    have hal := (Below.refl _ w1).alloc (Nat.le_refl _) (.cells #[.slice qa qn qc, .slice ia inn ic] 116)
    have B2 := bstep B1 hal
    have hG2 := hN1.gates.below hal
    have hr2 := hr1.below hal
    have hi2 := hi1.below hal
    have hx2 := hx1.below hal
    clear hal B1 hN1 hr1 hi1 hx1
    obtain ⟨x0, x1, x2, x3, x4⟩ := hx2
    go_wp2_with fail
    refine (settle_any d _ _ _ _ hG2 regs ins _ _ _ _ _ _ hr2 hi2 HE.out).mono ?_
    rintro e w2 ⟨a2, n2, c2, v2, rfl, hI2, hL2, hv2, hb2⟩
    go_wp2_with fail
    go_ret2
    exact ⟨a2, n2, c2, v2, ret_sl HE.out.symm, hI2, ⟨fun _ => ⟨hL2, hv2⟩, fun hh => absurd HE.out hh⟩, bstep B2 hb2⟩
  · have hne : (stepE d regs ins != 0) = true := by simp [e0]
    have HE := hide e0
    rw [holdV_no e0]
    clear e0
    have hal := (Below.refl _ w1).alloc (Nat.le_refl _) (.cells #[.slice none 0 0, .slice none 0 0] 116)
    have B2 := bstep B1 hal
    go_wp2_with fail
    go_ret2
    exact ⟨none, 0, 0, [], rfl, Ints.none _, ⟨fun hh => absurd hh (unhide HE), fun _ => rfl⟩, B2⟩

end Go.Proofs.Ytongajonecgdpae
