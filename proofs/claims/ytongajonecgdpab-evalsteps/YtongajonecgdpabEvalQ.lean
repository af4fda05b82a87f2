/- The program's eval.Step and eval.Solves. -/
import Derived.Test.YtongajonecgdpabEvalP
namespace Go.Proofs.Ytongajonecgdpab
open Go.RowKit

/-- A whole block of a call's own. -/
def Cells (w : World) (g : Nat) (vs : List Value) (T : TypeId) : Prop := w.heap[g]? = some (.cells vs.toArray T (0, 0))
theorem Cells.cell {w : World} {g : Nat} {vs : List Value} {T : TypeId} (h : Cells w g vs T) (k : Nat) : w.cell? ⟨g, k, none⟩ = vs[k]? := by
  rw [cell_of_row w g k _ _ _ h]
  simp
theorem Cells.frozen {w : World} {g : Nat} {vs : List Value} {T : TypeId} (h : Cells w g vs T) (k : Nat) : w.frozen? ⟨g, k, none⟩ = false := frozen_of_row w g k _ _ h
theorem Cells.set {w : World} {g : Nat} {vs : List Value} {T : TypeId} (h : Cells w g vs T) (k : Nat) (x : Value) : Cells (w.setCell ⟨g, k, none⟩ x) g (vs.set k x) T := by
  unfold Cells
  rw [Go.heap_setCell_same w g k _ _ _ h]
  congr 2
  simp
theorem Cells.lt {w : World} {g : Nat} {vs : List Value} {T : TypeId} (h : Cells w g vs T) : g < w.heap.size := (Array.getElem?_eq_some_iff.1 h).1
theorem Cells.below {B : Nat} {w w' : World} {g : Nat} {vs : List Value} {T : TypeId} (h : Cells w g vs T) (hb : Below B w w') (hg : g < B) : Cells w' g vs T := by
  unfold Cells; rw [hb.block g hg]; exact h
theorem Cells.new (w : World) (vs : List Value) (T : TypeId) : Cells (w.alloc (.cells vs.toArray T)) w.heap.size vs T := (MapKept.heap_alloc w _).1

/-- What hold.Of hands out: the two lists, or nothing. -/
def holdV (e : Int) (qa ia : Option Addr) (qn qc inn ic : Nat) : Value := if e = 0 then .agg #[.slice qa qn qc, .slice ia inn ic] else .agg #[.slice none 0 0, .slice none 0 0]
theorem ret_hold {h h' : Value} {e e' : Int} (h1 : h = h') (h2 : e = e') : Ending.returned (.tuple #[h, .int .i64 e]) = .returned (.tuple #[h', .int .i64 e']) := by rw [h1, h2]
theorem holdV_no {e : Int} (h : e ≠ 0) (qa ia : Option Addr) (qn qc inn ic : Nat) : holdV e qa ia qn qc inn ic = .agg #[.slice none 0 0, .slice none 0 0] := by unfold holdV; rw [if_neg h]
theorem holdV_ok {e : Int} (h : e = 0) (qa ia : Option Addr) (qn qc inn ic : Nat) : holdV e qa ia qn qc inn ic = .agg #[.slice qa qn qc, .slice ia inn ic] := by unfold holdV; rw [if_pos h]

set_option maxHeartbeats 1000000 in
theorem hold_any (d : NetD) (ins0 : Int) (ga ra oa : Option Addr) (gn gc rn rc on oc : Nat) (w : World) (h : NetAt w d ins0 ga gn ra rn oa on) (regs ins : List Int) (qa ia : Option Addr) (qn qc inn ic : Nat) (hr : Ints w qa qn regs) (hi : Ints w ia inn ins) :
    Calls Try.prog 22 #[.agg #[.int .i64 ins0, .slice ga gn gc, .slice ra rn rc, .slice oa on oc], .slice qa qn qc, .slice ia inn ic] w fun e w' => e = .returned (.tuple #[holdV (stepE d regs ins) qa ia qn qc inn ic, .int .i64 (stepE d regs ins)]) ∧ Below w.heap.size w w' := by
  have hb0 : Below w.heap.size w (w.alloc (.cells #[.int .i64 ins0, .slice ga gn gc, .slice ra rn rc, .slice oa on oc] 26)) := (Below.refl _ _).alloc (Nat.le_refl _) _
  have hbox : Boxed (w.alloc (.cells #[.int .i64 ins0, .slice ga gn gc, .slice ra rn rc, .slice oa on oc] 26)) w.heap.size ins0 ga gn gc ra rn rc oa on oc := Boxed.new _ _ _ _ _ _ _ _ _ _ _ _
  have hN := h.below hb0
  have hr0 := hr.below hb0
  have hi0 := hi.below hb0
  have hb1 := (Below.refl _ (w.alloc (.cells #[.int .i64 ins0, .slice ga gn gc, .slice ra rn rc, .slice oa on oc] 26))).alloc (Nat.le_refl _) (.cells #[.slice none 0 0, .slice none 0 0] 46)
  have hbx1 := Cells.new (w.alloc (.cells #[.int .i64 ins0, .slice ga gn gc, .slice ra rn rc, .slice oa on oc] 26)) [.slice none 0 0, .slice none 0 0] 46
  have hsz : (w.alloc (.cells #[.int .i64 ins0, .slice ga gn gc, .slice ra rn rc, .slice oa on oc] 26)).heap.size = w.heap.size + 1 := by simp
  rw [hsz] at hbx1
  have hN2 := hN.below hb1
  have hr2 := hr0.below hb1
  have hi2 := hi0.below hb1
  have hx2 := hbox.below hb1
  have B0 := bstep hb0 hb1
  have HG : Hid (d.gates.length = gn) := h.gates.1.symm
  have HR : Hid (d.regs.length = rn) := h.regs.1.symm
  have HI : Hid (d.ins = ins0) := h.ins.symm
  have hqn := hr.1
  have hin := hi.1
  clear hb0 hb1 hN hr0 hi0 hbox hsz
  by_cases e0 : checkE d = 0
  case neg =>
    have HQ : Hid (stepE d regs ins = checkE d) := by simp [Hid, stepE, e0]
    have HV := hide (holdV_no (show stepE d regs ins ≠ 0 by rw [HQ.out]; exact e0) qa ia qn qc inn ic)
    have hne : (checkE d != 0) = true := by simp [e0]
    clear e0 h hr hi hqn hin
    go_enter Try.func22, Try.ntmps22
    go_wp2_with fail
    refine (Check_any d _ _ _ _ _ _ _ _ _ _ _ hN2).mono ?_
    rintro e w1 ⟨rfl, hb⟩
    have B1 := bstep B0 hb
    have hr1 := hr2.below hb
    have hi1 := hi2.below hb
    have hx1 := hx2.below hb
    have hh1 := hbx1.below hb hbx1.lt
    clear hb B0 hN2 hx2 hr2 hi2 hbx1
    have y1 := hh1.cell 0
    have y2 := hh1.cell 1
    have f1 := hh1.frozen 0
    have f2 := (hh1.set 0 (.slice none 0 0)).frozen 1
    have hh9 := (hh1.set 0 (.slice none 0 0)).set 1 (.slice none 0 0)
    have y3 : ((w1.setCell ⟨w.heap.size + 1, 0, none⟩ (.slice none 0 0)).setCell ⟨w.heap.size + 1, 1, none⟩ (.slice none 0 0)).cell? ⟨w.heap.size + 1, 0, none⟩ = some (.slice none 0 0) := hh9.cell 0
    have y4 : ((w1.setCell ⟨w.heap.size + 1, 0, none⟩ (.slice none 0 0)).setCell ⟨w.heap.size + 1, 1, none⟩ (.slice none 0 0)).cell? ⟨w.heap.size + 1, 1, none⟩ = some (.slice none 0 0) := hh9.cell 1
    have y5 := (hh1.set 0 (.slice none 0 0)).cell 1
    have B9 := (B1.setCell (p := ⟨w.heap.size + 1, 0, none⟩) (Nat.le_succ _) (.slice none 0 0)).setCell (p := ⟨w.heap.size + 1, 1, none⟩) (Nat.le_succ _) (.slice none 0 0)
    clear hh9
    go_wp2_with fail
    exact bodyPost_ret (v := .tuple #[.agg #[.slice none 0 0, .slice none 0 0], .int .i64 (checkE d)]) (by simp [results, Try.results22, go_sem, y3, y4]) rfl ⟨ret_hold (unhide HV).symm HQ.out.symm, B9⟩
  have HE : Hid (checkE d = 0) := e0
  by_cases e1 : qn = rn
  case neg =>
    have HQ : Hid (stepE d regs ins = 1) := by
      unfold Hid stepE
      rw [if_pos e0, if_neg (fun hh => e1 (by have := hh.1; have := HR.out; omega))]
    have HV := hide (holdV_no (show stepE d regs ins ≠ 0 by rw [HQ.out]; decide) qa ia qn qc inn ic)
    have hne : ((qn : Int) != (rn : Int)) = true := by simp only [bne_iff_ne, ne_eq]; omega
    clear e0 e1 h hr hi hqn hin
    go_enter Try.func22, Try.ntmps22
    go_wp2_with fail
    refine (Check_any d _ _ _ _ _ _ _ _ _ _ _ hN2).mono ?_
    rintro e w1 ⟨rfl, hb⟩
    have B1 := bstep B0 hb
    have hr1 := hr2.below hb
    have hi1 := hi2.below hb
    have hx1 := hx2.below hb
    have hh1 := hbx1.below hb hbx1.lt
    clear hb B0 hN2 hx2 hr2 hi2 hbx1
    rw [HE.out]
    obtain ⟨x0, x1, x2, x3, x4⟩ := hx1
    have y1 := hh1.cell 0
    have y2 := hh1.cell 1
    have f1 := hh1.frozen 0
    have f2 := (hh1.set 0 (.slice none 0 0)).frozen 1
    have hh9 := (hh1.set 0 (.slice none 0 0)).set 1 (.slice none 0 0)
    have y3 : ((w1.setCell ⟨w.heap.size + 1, 0, none⟩ (.slice none 0 0)).setCell ⟨w.heap.size + 1, 1, none⟩ (.slice none 0 0)).cell? ⟨w.heap.size + 1, 0, none⟩ = some (.slice none 0 0) := hh9.cell 0
    have y4 : ((w1.setCell ⟨w.heap.size + 1, 0, none⟩ (.slice none 0 0)).setCell ⟨w.heap.size + 1, 1, none⟩ (.slice none 0 0)).cell? ⟨w.heap.size + 1, 1, none⟩ = some (.slice none 0 0) := hh9.cell 1
    have y5 := (hh1.set 0 (.slice none 0 0)).cell 1
    have B9 := (B1.setCell (p := ⟨w.heap.size + 1, 0, none⟩) (Nat.le_succ _) (.slice none 0 0)).setCell (p := ⟨w.heap.size + 1, 1, none⟩) (Nat.le_succ _) (.slice none 0 0)
    clear hh9
    go_wp2_with fail
    exact bodyPost_ret (v := .tuple #[.agg #[.slice none 0 0, .slice none 0 0], .int .i64 1]) (by simp [results, Try.results22, go_sem, y3, y4]) rfl ⟨ret_hold (unhide HV).symm HQ.out.symm, B9⟩
  have hne1 : ((qn : Int) != (rn : Int)) = false := by simp only [bne_eq_false_iff_eq]; omega
  by_cases e2 : (inn : Int) = ins0
  case neg =>
    have HQ : Hid (stepE d regs ins = 1) := by
      unfold Hid stepE
      rw [if_pos e0, if_neg (fun hh => e2 (by have := hh.2; have := HI.out; omega))]
    have HV := hide (holdV_no (show stepE d regs ins ≠ 0 by rw [HQ.out]; decide) qa ia qn qc inn ic)
    have hne : ((inn : Int) != ins0) = true := by simp only [bne_iff_ne, ne_eq]; omega
    clear e0 e1 e2 h hr hi hqn hin
    go_enter Try.func22, Try.ntmps22
    go_wp2_with fail
    refine (Check_any d _ _ _ _ _ _ _ _ _ _ _ hN2).mono ?_
    rintro e w1 ⟨rfl, hb⟩
    have B1 := bstep B0 hb
    have hr1 := hr2.below hb
    have hi1 := hi2.below hb
    have hx1 := hx2.below hb
    have hh1 := hbx1.below hb hbx1.lt
    clear hb B0 hN2 hx2 hr2 hi2 hbx1
    rw [HE.out]
    obtain ⟨x0, x1, x2, x3, x4⟩ := hx1
    have y1 := hh1.cell 0
    have y2 := hh1.cell 1
    have f1 := hh1.frozen 0
    have f2 := (hh1.set 0 (.slice none 0 0)).frozen 1
    have hh9 := (hh1.set 0 (.slice none 0 0)).set 1 (.slice none 0 0)
    have y3 : ((w1.setCell ⟨w.heap.size + 1, 0, none⟩ (.slice none 0 0)).setCell ⟨w.heap.size + 1, 1, none⟩ (.slice none 0 0)).cell? ⟨w.heap.size + 1, 0, none⟩ = some (.slice none 0 0) := hh9.cell 0
    have y4 : ((w1.setCell ⟨w.heap.size + 1, 0, none⟩ (.slice none 0 0)).setCell ⟨w.heap.size + 1, 1, none⟩ (.slice none 0 0)).cell? ⟨w.heap.size + 1, 1, none⟩ = some (.slice none 0 0) := hh9.cell 1
    have y5 := (hh1.set 0 (.slice none 0 0)).cell 1
    have B9 := (B1.setCell (p := ⟨w.heap.size + 1, 0, none⟩) (Nat.le_succ _) (.slice none 0 0)).setCell (p := ⟨w.heap.size + 1, 1, none⟩) (Nat.le_succ _) (.slice none 0 0)
    clear hh9
    go_wp2_with fail
    exact bodyPost_ret (v := .tuple #[.agg #[.slice none 0 0, .slice none 0 0], .int .i64 1]) (by simp [results, Try.results22, go_sem, y3, y4]) rfl ⟨ret_hold (unhide HV).symm HQ.out.symm, B9⟩
  have hne2 : ((inn : Int) != ins0) = false := by simp only [bne_eq_false_iff_eq]; omega
  have HQ : Hid (stepE d regs ins = if vals regs && vals ins then 0 else 3) := by
    unfold Hid stepE
    rw [if_pos e0, if_pos ⟨by have := HR.out; omega, by have := HI.out; omega⟩]
  clear e0 e1 e2 h hr hi hqn hin
  go_enter Try.func22, Try.ntmps22
  go_wp2_with fail
  refine (Check_any d _ _ _ _ _ _ _ _ _ _ _ hN2).mono ?_
  rintro e w1 ⟨rfl, hb⟩
  have B1 := bstep B0 hb
  have hr1 := hr2.below hb
  have hi1 := hi2.below hb
  have hx1 := hx2.below hb
  have hh1 := hbx1.below hb hbx1.lt
  clear hb B0 hN2 hx2 hr2 hi2 hbx1
  rw [HE.out]
  obtain ⟨x0, x1, x2, x3, x4⟩ := hx1
  have y1 := hh1.cell 0
  have y2 := hh1.cell 1
  go_wp2_with fail
  refine (check_any _ _ _ _ _ hr1).mono ?_
  rintro e w2 ⟨rfl, hb2⟩
  have B2 := bstep B1 hb2
  have hi2 := hi1.below hb2
  have hh2 := hh1.below hb2 hh1.lt
  clear hb2 hr1 hi1 hh1 x1 x2 x3 x4 y1 y2 B1
  cases ev : vals regs
  · have HT : Hid (stepE d regs ins = 3) := by rw [HQ.out, ev]; rfl
    have HV := hide (holdV_no (show stepE d regs ins ≠ 0 by rw [HT.out]; decide) qa ia qn qc inn ic)
    have HK : Hid (ckE regs = 3) := by unfold Hid ckE; rw [ev]; rfl
    rw [HK.out]
    clear ev
    have y1 := hh2.cell 0
    have y2 := hh2.cell 1
    have f1 := hh2.frozen 0
    have f2 := (hh2.set 0 (.slice none 0 0)).frozen 1
    have hh9 := (hh2.set 0 (.slice none 0 0)).set 1 (.slice none 0 0)
    have y3 : ((w2.setCell ⟨w.heap.size + 1, 0, none⟩ (.slice none 0 0)).setCell ⟨w.heap.size + 1, 1, none⟩ (.slice none 0 0)).cell? ⟨w.heap.size + 1, 0, none⟩ = some (.slice none 0 0) := hh9.cell 0
    have y4 : ((w2.setCell ⟨w.heap.size + 1, 0, none⟩ (.slice none 0 0)).setCell ⟨w.heap.size + 1, 1, none⟩ (.slice none 0 0)).cell? ⟨w.heap.size + 1, 1, none⟩ = some (.slice none 0 0) := hh9.cell 1
    have y5 := (hh2.set 0 (.slice none 0 0)).cell 1
    have B9 := (B2.setCell (p := ⟨w.heap.size + 1, 0, none⟩) (Nat.le_succ _) (.slice none 0 0)).setCell (p := ⟨w.heap.size + 1, 1, none⟩) (Nat.le_succ _) (.slice none 0 0)
    clear hh9
    go_wp2_with fail
    exact bodyPost_ret (v := .tuple #[.agg #[.slice none 0 0, .slice none 0 0], .int .i64 3]) (by simp [results, Try.results22, go_sem, y3, y4]) rfl ⟨ret_hold (unhide HV).symm HT.out.symm, B9⟩
  · have HVR : Hid (vals regs = true) := ev
    have HK : Hid (ckE regs = 0) := by unfold Hid ckE; rw [ev]; rfl
    rw [HK.out]
    clear ev
    have HT : Hid (stepE d regs ins = ckE ins) := by rw [HQ.out, HVR.out]; unfold ckE; cases vals ins <;> rfl
    have y1 := hh2.cell 0
    have y2 := hh2.cell 1
    go_wp2_with fail
    refine (check_any _ _ _ _ _ hi2).mono ?_
    rintro e w3 ⟨rfl, hb3⟩
    have B3 := bstep B2 hb3
    have hh3 := hh2.below hb3 hh2.lt
    clear hb3 hi2 hh2 y1 y2 B2
    by_cases e9 : ckE ins = 0
    · have HV := hide (holdV_ok (show stepE d regs ins = 0 by rw [HT.out]; exact e9) qa ia qn qc inn ic)
      have HT0 := hide (show stepE d regs ins = 0 by rw [HT.out]; exact e9)
      rw [e9]
      clear e9
      have y1 := hh3.cell 0
      have y2 := hh3.cell 1
      have f1 := hh3.frozen 0
      have f2 := (hh3.set 0 (.slice qa qn qc)).frozen 1
      have hh9 := (hh3.set 0 (.slice qa qn qc)).set 1 (.slice ia inn ic)
      have y3 : ((w3.setCell ⟨w.heap.size + 1, 0, none⟩ (.slice qa qn qc)).setCell ⟨w.heap.size + 1, 1, none⟩ (.slice ia inn ic)).cell? ⟨w.heap.size + 1, 0, none⟩ = some (.slice qa qn qc) := hh9.cell 0
      have y4 : ((w3.setCell ⟨w.heap.size + 1, 0, none⟩ (.slice qa qn qc)).setCell ⟨w.heap.size + 1, 1, none⟩ (.slice ia inn ic)).cell? ⟨w.heap.size + 1, 1, none⟩ = some (.slice ia inn ic) := hh9.cell 1
      have y5 := (hh3.set 0 (.slice qa qn qc)).cell 1
      have B9 := (B3.setCell (p := ⟨w.heap.size + 1, 0, none⟩) (Nat.le_succ _) (.slice qa qn qc)).setCell (p := ⟨w.heap.size + 1, 1, none⟩) (Nat.le_succ _) (.slice ia inn ic)
      clear hh9
      go_wp2_with fail
      exact bodyPost_ret (v := .tuple #[.agg #[.slice qa qn qc, .slice ia inn ic], .int .i64 0]) (by simp [results, Try.results22, go_sem, y3, y4]) rfl ⟨ret_hold (unhide HV).symm (unhide HT0).symm, B9⟩
    · have HV := hide (holdV_no (show stepE d regs ins ≠ 0 by rw [HT.out]; exact e9) qa ia qn qc inn ic)
      have hne : (ckE ins != 0) = true := by simp [e9]
      clear e9
      have y1 := hh3.cell 0
      have y2 := hh3.cell 1
      have f1 := hh3.frozen 0
      have f2 := (hh3.set 0 (.slice none 0 0)).frozen 1
      have hh9 := (hh3.set 0 (.slice none 0 0)).set 1 (.slice none 0 0)
      have y3 : ((w3.setCell ⟨w.heap.size + 1, 0, none⟩ (.slice none 0 0)).setCell ⟨w.heap.size + 1, 1, none⟩ (.slice none 0 0)).cell? ⟨w.heap.size + 1, 0, none⟩ = some (.slice none 0 0) := hh9.cell 0
      have y4 : ((w3.setCell ⟨w.heap.size + 1, 0, none⟩ (.slice none 0 0)).setCell ⟨w.heap.size + 1, 1, none⟩ (.slice none 0 0)).cell? ⟨w.heap.size + 1, 1, none⟩ = some (.slice none 0 0) := hh9.cell 1
      have y5 := (hh3.set 0 (.slice none 0 0)).cell 1
      have B9 := (B3.setCell (p := ⟨w.heap.size + 1, 0, none⟩) (Nat.le_succ _) (.slice none 0 0)).setCell (p := ⟨w.heap.size + 1, 1, none⟩) (Nat.le_succ _) (.slice none 0 0)
      clear hh9
      go_wp2_with fail
      exact bodyPost_ret (v := .tuple #[.agg #[.slice none 0 0, .slice none 0 0], .int .i64 (ckE ins)]) (by simp [results, Try.results22, go_sem, y3, y4]) rfl ⟨ret_hold (unhide HV).symm HT.out.symm, B9⟩

set_option maxHeartbeats 1000000 in
theorem Step_any (d : NetD) (ins0 : Int) (ga ra oa : Option Addr) (gn gc rn rc on oc : Nat) (w : World) (h : NetAt w d ins0 ga gn ra rn oa on) (regs ins : List Int) (qa ia : Option Addr) (qn qc inn ic : Nat) (hr : Ints w qa qn regs) (hi : Ints w ia inn ins) :
    Calls Try.prog 9 #[.agg #[.int .i64 ins0, .slice ga gn gc, .slice ra rn rc, .slice oa on oc], .slice qa qn qc, .slice ia inn ic] w fun e w' => ∃ a n c v, e = .returned (.tuple #[.slice a n c, .int .i64 (stepE d regs ins)]) ∧ Ints w' a n v ∧ StepAns d regs ins v ∧ Below w.heap.size w w' := by
  have hb0 : Below w.heap.size w (w.alloc (.cells #[.int .i64 ins0, .slice ga gn gc, .slice ra rn rc, .slice oa on oc] 26)) := (Below.refl _ _).alloc (Nat.le_refl _) _
  have hbox : Boxed (w.alloc (.cells #[.int .i64 ins0, .slice ga gn gc, .slice ra rn rc, .slice oa on oc] 26)) w.heap.size ins0 ga gn gc ra rn rc oa on oc := Boxed.new _ _ _ _ _ _ _ _ _ _ _ _
  have hN := h.below hb0
  have hr0 := hr.below hb0
  have hi0 := hi.below hb0
  clear h hr hi
  go_enter Try.func9, Try.ntmps9
  go_wp2_with fail
  refine (hold_any d _ _ _ _ _ _ _ _ _ _ _ hN regs ins _ _ _ _ _ _ hr0 hi0).mono ?_
  rintro e w1 ⟨rfl, hb⟩
  have B1 := bstep hb0 hb
  have hN1 := hN.below hb
  have hr1 := hr0.below hb
  have hi1 := hi0.below hb
  have hx1 := hbox.below hb
  clear hb hb0 hN hbox hr0 hi0
  by_cases e0 : stepE d regs ins = 0
  · have HE : Hid (stepE d regs ins = 0) := e0
    rw [holdV_ok e0, HE.out]
    clear e0
    have hal := (Below.refl _ w1).alloc (Nat.le_refl _) (.cells #[.slice qa qn qc, .slice ia inn ic] 46)
    have B2 := bstep B1 hal
    have hG2 := hN1.gates.below hal
    have hr2 := hr1.below hal
    have hi2 := hi1.below hal
    have hx2 := hx1.below hal
    clear hal B1 hN1 hr1 hi1 hx1
    obtain ⟨x0, x1, x2, x3, x4⟩ := hx2
    go_wp2_with fail
    refine (settle_any d _ _ _ _ hG2 regs ins _ _ _ _ _ _ hr2 hi2 HE.out).mono ?_
    rintro e w2 ⟨a2, n2, c2, v2, rfl, hI2, hL2, hv2, hb2⟩
    go_wp2_with fail
    go_ret2
    exact ⟨a2, n2, c2, v2, ret_sl HE.out.symm, hI2, ⟨fun _ => ⟨hL2, hv2⟩, fun hh => absurd HE.out hh⟩, bstep B2 hb2⟩
  · have hne : (stepE d regs ins != 0) = true := by simp [e0]
    have HE := hide e0
    rw [holdV_no e0]
    clear e0
    have hal := (Below.refl _ w1).alloc (Nat.le_refl _) (.cells #[.slice none 0 0, .slice none 0 0] 46)
    have B2 := bstep B1 hal
    go_wp2_with fail
    go_ret2
    exact ⟨none, 0, 0, [], rfl, Ints.none _, ⟨fun hh => absurd hh (unhide HE), fun _ => rfl⟩, B2⟩

set_option maxHeartbeats 1000000 in
theorem Solves_any (d : NetD) (ins0 : Int) (ga ra oa : Option Addr) (gn gc rn rc on oc : Nat) (w : World) (h : NetAt w d ins0 ga gn ra rn oa on) (regs ins : List Int) (qa ia : Option Addr) (qn qc inn ic : Nat) (hr : Ints w qa qn regs) (hi : Ints w ia inn ins) (v : List Int) (va : Option Addr) (vn vc : Nat) (hv : Ints w va vn v) :
    Calls Try.prog 13 #[.agg #[.int .i64 ins0, .slice ga gn gc, .slice ra rn rc, .slice oa on oc], .slice qa qn qc, .slice ia inn ic, .slice va vn vc] w fun e w' => e = .returned (.tuple #[.bool (solveB d regs ins v), .int .i64 (solveE d regs ins v)]) ∧ Below w.heap.size w w' := by
  have hb0 : Below w.heap.size w (w.alloc (.cells #[.int .i64 ins0, .slice ga gn gc, .slice ra rn rc, .slice oa on oc] 26)) := (Below.refl _ _).alloc (Nat.le_refl _) _
  have hbox : Boxed (w.alloc (.cells #[.int .i64 ins0, .slice ga gn gc, .slice ra rn rc, .slice oa on oc] 26)) w.heap.size ins0 ga gn gc ra rn rc oa on oc := Boxed.new _ _ _ _ _ _ _ _ _ _ _ _
  have hN := h.below hb0
  have hr0 := hr.below hb0
  have hi0 := hi.below hb0
  have hv0 := hv.below hb0
  have HG : Hid (d.gates.length = gn) := h.gates.1.symm
  have hvn := hv.1
  by_cases e0 : stepE d regs ins = 0
  case neg =>
    have HQ : Hid (solveE d regs ins v = stepE d regs ins) := by simp [Hid, solveE, e0]
    have HB : Hid (solveB d regs ins v = false) := by
      unfold Hid solveB; rw [if_neg (by rw [HQ.out]; exact e0)]
    have hne : (stepE d regs ins != 0) = true := by simp [e0]
    have HNZ := hide e0
    clear e0 h hr hi hv hvn
    go_enter Try.func13, Try.ntmps13
    go_wp2_with fail
    refine (hold_any d _ _ _ _ _ _ _ _ _ _ _ hN regs ins _ _ _ _ _ _ hr0 hi0).mono ?_
    rintro e w0 ⟨rfl, hb9⟩
    rw [holdV_no (unhide HNZ)]
    have hb := bstep hb9 ((Below.refl _ w0).alloc (Nat.le_refl _) (.cells #[.slice none 0 0, .slice none 0 0] 46))
    clear hb9
    have B1 := bstep hb0 hb
    have hN1 := hN.below hb
    have hr1 := hr0.below hb
    have hi1 := hi0.below hb
    have hv1 := hv0.below hb
    have hx1 := hbox.below hb
    clear hb hb0 hN hbox hr0 hi0 hv0
    go_wp2_with fail
    go_ret2
    exact ⟨ret_bpair HB.out.symm HQ.out.symm, B1⟩
  have HE : Hid (stepE d regs ins = 0) := e0
  by_cases e1 : vn = gn
  case neg =>
    have HQ : Hid (solveE d regs ins v = 1) := by
      unfold Hid solveE
      rw [if_pos e0, if_neg (by have := HG.out; omega)]
    have HB : Hid (solveB d regs ins v = false) := by
      unfold Hid solveB; rw [if_neg (by rw [HQ.out]; decide)]
    have hne : ((vn : Int) != (gn : Int)) = true := by simp only [bne_iff_ne, ne_eq]; omega
    clear e0 e1 h hr hi hv hvn
    go_enter Try.func13, Try.ntmps13
    go_wp2_with fail
    refine (hold_any d _ _ _ _ _ _ _ _ _ _ _ hN regs ins _ _ _ _ _ _ hr0 hi0).mono ?_
    rintro e w0 ⟨rfl, hb9⟩
    rw [holdV_ok HE.out]
    have hb := bstep hb9 ((Below.refl _ w0).alloc (Nat.le_refl _) (.cells #[.slice qa qn qc, .slice ia inn ic] 46))
    clear hb9
    have B1 := bstep hb0 hb
    have hN1 := hN.below hb
    have hr1 := hr0.below hb
    have hi1 := hi0.below hb
    have hv1 := hv0.below hb
    have hx1 := hbox.below hb
    clear hb hb0 hN hbox hr0 hi0 hv0
    rw [HE.out]
    obtain ⟨x0, x1, x2, x3, x4⟩ := hx1
    go_wp2_with fail
    go_ret2
    exact ⟨ret_bpair HB.out.symm HQ.out.symm, B1⟩
  have hne : ((vn : Int) != (gn : Int)) = false := by simp only [bne_eq_false_iff_eq]; omega
  have HVL : Hid (v.length = d.gates.length) := by have := HG.out; unfold Hid; omega
  cases ev : vals v
  · have HQ : Hid (solveE d regs ins v = 3) := by
      unfold Hid solveE
      rw [if_pos e0, if_pos HVL.out, ev]; rfl
    have HB : Hid (solveB d regs ins v = false) := by
      unfold Hid solveB; rw [if_neg (by rw [HQ.out]; decide)]
    have HV : Hid (vals v = false) := ev
    clear e0 e1 ev h hr hi hv hvn
    go_enter Try.func13, Try.ntmps13
    go_wp2_with fail
    refine (hold_any d _ _ _ _ _ _ _ _ _ _ _ hN regs ins _ _ _ _ _ _ hr0 hi0).mono ?_
    rintro e w0 ⟨rfl, hb9⟩
    rw [holdV_ok HE.out]
    have hb := bstep hb9 ((Below.refl _ w0).alloc (Nat.le_refl _) (.cells #[.slice qa qn qc, .slice ia inn ic] 46))
    clear hb9
    have B1 := bstep hb0 hb
    have hN1 := hN.below hb
    have hr1 := hr0.below hb
    have hi1 := hi0.below hb
    have hv1 := hv0.below hb
    have hx1 := hbox.below hb
    clear hb hb0 hN hbox hr0 hi0 hv0
    rw [HE.out]
    obtain ⟨x0, x1, x2, x3, x4⟩ := hx1
    go_wp2_with fail
    refine (check_any _ _ _ _ _ hv1).mono ?_
    rintro e w2 ⟨rfl, hb2⟩
    have HK : Hid (ckE v = 3) := by unfold Hid ckE; rw [HV.out]; rfl
    rw [HK.out]
    go_wp2_with fail
    go_ret2
    exact ⟨ret_bpair HB.out.symm HQ.out.symm, bstep B1 hb2⟩
  · have HQ : Hid (solveE d regs ins v = 0) := by
      unfold Hid solveE
      rw [if_pos e0, if_pos HVL.out, ev]; rfl
    have HB : Hid (solveB d regs ins v = decide (roundV d regs ins v = v)) := by
      unfold Hid solveB; rw [if_pos HQ.out]
    have HV : Hid (vals v = true) := ev
    clear e0 e1 ev h hr hi hv hvn
    go_enter Try.func13, Try.ntmps13
    go_wp2_with fail
    refine (hold_any d _ _ _ _ _ _ _ _ _ _ _ hN regs ins _ _ _ _ _ _ hr0 hi0).mono ?_
    rintro e w0 ⟨rfl, hb9⟩
    rw [holdV_ok HE.out]
    have hb := bstep hb9 ((Below.refl _ w0).alloc (Nat.le_refl _) (.cells #[.slice qa qn qc, .slice ia inn ic] 46))
    clear hb9
    have hxH := HBox.new w0 qa ia qn qc inn ic 46
    have B1 := bstep hb0 hb
    have hN1 := hN.below hb
    have hr1 := hr0.below hb
    have hi1 := hi0.below hb
    have hv1 := hv0.below hb
    have hx1 := hbox.below hb
    clear hb hb0 hN hbox hr0 hi0 hv0
    rw [HE.out]
    have hx0 := hx1
    obtain ⟨x0, x1, x2, x3, x4⟩ := hx1
    go_wp2_with fail
    refine (check_any _ _ _ _ _ hv1).mono ?_
    rintro e w2 ⟨rfl, hb2⟩
    have HK : Hid (ckE v = 0) := by unfold Hid ckE; rw [HV.out]; rfl
    rw [HK.out]
    have B2 := bstep B1 hb2
    have hN2 := hN1.below hb2
    have hr2 := hr1.below hb2
    have hi2 := hi1.below hb2
    have hv2 := hv1.below hb2
    have hx2 := hx0.below hb2
    obtain ⟨hck, hrl, hil, _, _⟩ := stepE_ok HE.out
    have hvg : vn = gn := by have h1 := hv2.1; have h2 := HG.out; have h3 := HVL.out; omega
    have hgn : vn ≤ 200 := by have := (counts_gates (check_ok hck).1).2.1; have := HG.out; omega
    have HRT : Hid (∀ k (hk : k < d.gates.length), Right d.gates[k] qn inn vn) := by
      intro k hk
      have := right_of hck k hk
      have e1 : d.regs.length = qn := by have := hr2.1; omega
      have e2 : d.ins.toNat = inn := by have := hi2.1; omega
      rw [e1, e2, HG.out] at this
      rw [hvg]; exact this
    have hxH2 := hxH.below hb2
    clear hb2 B1 hN1 hr1 hi1 hv1 hx0 x1 x2 x3 x4 hck hrl hil hxH
    have B3 := B2
    have hG3 := hN2.gates
    have hr3 := hr2
    have hi3 := hi2
    have hv3 := hv2
    have HVG := hide hvg
    obtain ⟨x0, x1, x2, x3, x4⟩ := hx2
    clear B2 hN2 hr2 hi2 hv2 hvg
    go_wp2_with fail
    clear x0 x1 x2 x3 x4
    generalize w0.heap.size = h2 at *
    have hxH := hxH2
    clear hxH2
    generalize hw3 : w2 = w3 at *
    clear hw3
    go_loopw [39] (fun i wr => ∃ k : Nat, k ≤ gn ∧ i = .int .i64 k ∧ solvesTo d regs ins v k = true ∧ Below w3.heap.size w3 wr) (fun i _ => gn - (intOf i).toNat)
    case atStart => exact ⟨0, Nat.zero_le _, rfl, by simp [solvesTo], Below.refl _ _⟩
    case round =>
      obtain ⟨k, hk, rfl, hno, hbel⟩ := hrel
      by_cases hlt : k < gn
      · have hltg : k < d.gates.length := by have := HG.out; omega
        have hltv : k < v.length := by have := HVL.out; omega
        have hki : (k : Int) < (gn : Int) := by omega
        have hkv : (k : Int) < (vn : Int) := by have := unhide HVG; omega
        obtain ⟨b, off, aa, an, ac, rfl, hbb, c1, c2, c3, hI⟩ := (hG3.below hbel).at' hltg
        have hal := (Below.refl _ wr).alloc (Nat.le_refl _) (.cells #[.int .i64 d.gates[k].kind, .int .i64 d.gates[k].n, .slice aa an ac] 55)
        have hgb := GBox.new wr d.gates[k].kind d.gates[k].n aa an ac 55
        have bA := bstep hbel hal
        have hV1 := hv3.below bA
        have hR1 := hr3.below bA
        have hI1 := hi3.below bA
        have hIA := hI.below hal
        have hxA := hxH.below bA
        obtain ⟨b2, off2, rfl, hbb2, c4⟩ := hV1.at hltv
        have HRK := hide (HRT.out k hltg)
        have HV1 := hide hV1
        have HR1 := hide hR1
        have HI1 := hide hI1
        have HIA := hide hIA
        have HNX := hide hno
        have HBA := hide bA
        clear hno hI hV1 hR1 hI1 hIA bA hal
        go_wp2_with fail
        clear c1 c2 c3
        generalize hW0 : wr.alloc (.cells #[.int .i64 d.gates[k].kind, .int .i64 d.gates[k].n, .slice aa an ac] 55) = w5 at *
        clear hW0
        obtain ⟨y0, y1, y2, y3⟩ := hgb
        obtain ⟨u0, u1, u2⟩ := hxA
        have z1 := fam_cell (p := ⟨wr.heap.size, 0, none⟩) y0 y1
        have z2 := fam_cell (p := ⟨wr.heap.size, 1, none⟩) y0 y2
        have z3 := fam_cell (p := ⟨wr.heap.size, 2, none⟩) y0 y3
        have z4 := fam_cell (p := ⟨b2, off2 + k, none⟩) hbb2 c4
        have z5 := fam_cell (p := ⟨h2, 0, none⟩) u0 u1
        have z6 := fam_cell (p := ⟨h2, 1, none⟩) u0 u2
        have ne := fam_some w5
        clear y1 y2 y3 u1 u2 c4
        refine region_fam (by kernel_rfl) (by kernel_rfl) ?_
        repeat (go_big_quiet_step (first
          | (go_at_call 29; exact calls_fam _ (value_any d.gates[k] aa an ac regs ins v qa ia (some ⟨b2, off2, none⟩) qn qc inn ic vn vc _ ((unhide HIA).below (fam_below _)) ((unhide HR1).below (fam_below _)) ((unhide HI1).below (fam_below _)) ((unhide HV1).below (fam_below _)) (unhide HRK) HV.out))))
        refine wpQuiet_nil ?_
        intro W hW
        obtain ⟨n, hn⟩ := hW
        subst hn
        clear z1 z2 z3 z4 z5 z6
        have b9 := bstep (unhide HBA) (fam_below n)
        by_cases e : worthV d.gates[k] regs ins v = v[k]
        · have hq : (worthV d.gates[k] regs ins v != v[k]) = false := by simp only [bne_eq_false_iff_eq]; exact e
          have HT := hide (solvesTo_succ d regs ins v k (unhide HNX) (by rw [roundV_at d regs ins v k hltg, e]; simp [List.getD_eq_getElem?_getD, hltv]))
          clear e
          go_wp2_with fail
          exact ⟨⟨k + 1, by omega, by go_num, unhide HT, b9⟩, by simp [intOf]; omega⟩
        · have hq : (worthV d.gates[k] regs ins v != v[k]) = true := by simp only [bne_iff_ne, ne_eq]; exact e
          have HT := hide (solves_not d regs ins v k (by rw [roundV_at d regs ins v k hltg]; intro h; apply e; rw [← h]; simp [List.getD_eq_getElem?_getD, hltv]))
          clear e
          go_wp2_with fail
          go_ret2
          exact ⟨ret_bpair (by rw [HB.out]; exact (unhide HT).symm) HQ.out.symm, bstep B3 b9⟩
      · have HT := hide (solves_all d regs ins v HVL.out (by rw [← hno]; exact congrArg (solvesTo d regs ins v) (by have := HVL.out; have := HG.out; omega)))
        clear hno
        go_wp2_with fail
        go_ret2
        exact ⟨ret_bpair (by rw [HB.out]; exact (unhide HT).symm) HQ.out.symm, bstep B3 hbel⟩
end Go.Proofs.Ytongajonecgdpab
