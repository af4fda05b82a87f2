/- The document's FreshOf and SameRests. -/
import Derived.Test.YtopacgdfafhfhafWalkK
import Derived.Test.YtopacgdfafhfhafEvalQ
namespace Go.Proofs.Ytopacgdfafhfhaf
open Go.RowKit

def falsesL (n : Nat) : List Bool := List.replicate n false
theorem run_madeB (n : Nat) (h : n ≤ 200) : ∀ W : World, (Instr.makeSlice 23 (.int .i64 (n : Int)) (.int .i64 (n : Int))).run Try.prog W = .ok (.slice (some ⟨W.heap.size, 0, none⟩) n n) (W.alloc (.cells (bs (falsesL n)) 4)) := by
  obtain ⟨i0, hi, hz0, hz1, hz2⟩ := info_parts Try.infoBool
  intro W
  have hr := run_make (P := Try.prog) W 23 4 i0 (.bool false) Try.underlying23 hi hz0 .i64 .i64 n n (by omega) (Int.le_refl _) (by rw [hz2]; omega) (by omega)
  simp only [Int.toNat_natCast, hz1, Nat.mul_one] at hr
  have e1 : madeCells (Value.bool false).cells n = bs (falsesL n) := by
    apply Array.ext'
    have := toList_madeCells_one (Value.bool false) n
    rw [show (Value.bool false).cells = #[Value.bool false] from rfl, this]
    simp [bs, falsesL]
  rw [e1] at hr
  exact hr
theorem row_new (W : World) (ys : List Bool) : BoolRow (W.alloc (.cells (bs ys) 4)) W.heap.size ys := heap_alloc_new W _
/-- What FreshOf answers: rows of its own. -/
def FreshRet (n : Nat) (w w' : World) (e : Ending) : Prop := ∃ gW gO, e = .returned (.agg #[.bool true, .slice (some ⟨gW, 0, none⟩) n n, .slice (some ⟨gO, 0, none⟩) 3 3]) ∧ gW ≠ gO ∧ w.heap.size ≤ gW ∧ w.heap.size ≤ gO ∧ BoolRow w' gW (falsesL n) ∧ BoolRow w' gO (falsesL 3) ∧ Below w.heap.size w w'
theorem kept3m {W : World} {bm : Nat} {G : List Nat} (hm : bm ∈ G) (u0 u1 u2 : Value) : KeptG G W (((W.setCell ⟨bm, 0, none⟩ u0).setCell ⟨bm, 1, none⟩ u1).setCell ⟨bm, 2, none⟩ u2) :=
  ((KeptG.set (k := 0) u0 hm).trans (KeptG.set (k := 1) u1 hm)).trans (KeptG.set (k := 2) u2 hm)
theorem BoolRow.kept {w w' : World} {G : List Nat} {g : Nat} {ys : List Bool} (h : BoolRow w g ys) (hk : KeptG G w w') (hg : g ∉ G) : BoolRow w' g ys := (hk.2 g h.lt hg).trans h
def Cells3 (w : World) (g : Nat) : Prop := w.heap[g]? = some (.cells #[.bool false, .slice none 0 0, .slice none 0 0] 25 (0, 0))
theorem Cells3.on {w w' : World} {g : Nat} (h : Cells3 w g) (hl : g < w.heap.size) (hb : Below w.heap.size w w') : w'.cell? ⟨g, 0, none⟩ = some (.bool false) ∧ w'.cell? ⟨g, 1, none⟩ = some (.slice none 0 0) ∧ w'.cell? ⟨g, 2, none⟩ = some (.slice none 0 0) ∧ w'.frozen? ⟨g, 0, none⟩ = false ∧ w'.frozen? ⟨g, 1, none⟩ = false ∧ w'.frozen? ⟨g, 2, none⟩ = false := by
  have h9 := (hb.block g hl).trans h
  exact ⟨by rw [cell_of_row _ _ _ _ _ _ h9]; rfl, by rw [cell_of_row _ _ _ _ _ _ h9]; rfl, by rw [cell_of_row _ _ _ _ _ _ h9]; rfl, frozen_of_row _ _ _ _ _ h9, frozen_of_row _ _ _ _ _ h9, frozen_of_row _ _ _ _ _ h9⟩
theorem fresh_rows {w W3 : World} (hs : W3.heap.size = w.heap.size + 1) (hB : Below w.heap.size w W3) (xs ys : List Bool) : BoolRow ((W3.alloc (.cells (bs xs) 4)).alloc (.cells (bs ys) 4)).drew (w.heap.size + 1) xs ∧ BoolRow ((W3.alloc (.cells (bs xs) 4)).alloc (.cells (bs ys) 4)).drew (w.heap.size + 1 + 1) ys ∧ Below W3.heap.size W3 ((W3.alloc (.cells (bs xs) 4)).alloc (.cells (bs ys) 4)).drew ∧ Below w.heap.size w ((W3.alloc (.cells (bs xs) 4)).alloc (.cells (bs ys) 4)).drew := by
  have h1 := (Below.refl _ W3).alloc (Nat.le_refl _) (.cells (bs xs) 4)
  have h2 := (Below.refl _ (W3.alloc (.cells (bs xs) 4))).alloc (Nat.le_refl _) (.cells (bs ys) 4)
  have h3 := (Below.refl ((W3.alloc (.cells (bs xs) 4)).alloc (.cells (bs ys) 4)).heap.size ((W3.alloc (.cells (bs xs) 4)).alloc (.cells (bs ys) 4))).drew
  have r1 := ((row_new W3 xs).on h2).on h3
  have r2 := (row_new (W3.alloc (.cells (bs xs) 4)) ys).on h3
  have e : (W3.alloc (.cells (bs xs) 4)).heap.size = w.heap.size + 1 + 1 := by simp [hs]
  rw [hs] at r1
  rw [e] at r2
  have h4 := bstep (bstep h1 h2) h3
  exact ⟨r1, r2, h4, bstep hB h4⟩
set_option maxRecDepth 100000 in
set_option maxHeartbeats 2000000 in
theorem FreshOf_any (a : Option Addr) (n c : Nat) (w : World) (hn : n ≤ 14) :
    Calls Try.prog 17 #[.slice a n c] w fun e w' => FreshRet n w w' e := by
  have hm1 := run_madeB n (by omega)
  have hm2 : ∀ W : World, (Instr.makeSlice 23 (.int .i64 3) (.int .i64 3)).run Try.prog W = .ok (.slice (some ⟨W.heap.size, 0, none⟩) 3 3) (W.alloc (.cells (bs (falsesL 3)) 4)) := run_madeB 3 (by omega)
  have hb0 : Below w.heap.size w (w.alloc (.cells #[.bool false, .slice none 0 0, .slice none 0 0] 25)) := (Below.refl _ _).alloc (Nat.le_refl _) _
  have hc0 : Cells3 (w.alloc (.cells #[.bool false, .slice none 0 0, .slice none 0 0] 25)) w.heap.size := heap_alloc_new w _
  have hsz : (w.alloc (.cells #[.bool false, .slice none 0 0, .slice none 0 0] 25)).heap.size = w.heap.size + 1 := by simp
  have hn0 : (0 : Int) ≤ (n : Int) := by omega
  go_enter Try.func17, Try.ntmps17
  go_wp2_with fail
  generalize hw1 : w.alloc (.cells #[.bool false, .slice none 0 0, .slice none 0 0] 25) = w1 at *
  clear hw1
  have hl1 : w.heap.size < w1.heap.size := by omega
  obtain ⟨a0, a1, a2, a3, a4, a5⟩ := hc0.on hl1 (Below.refl _ _)
  have HC := hide hc0
  clear hc0
  go_region
  all_goals go_wp2_with fail
  all_goals
    have hc1 : Cells w1 w.heap.size [.bool false, .slice none 0 0, .slice none 0 0] 25 := unhide HC
  · have hc9 := ((hc1.set 0 (.bool true)).set 1 (.slice (some ⟨w.heap.size + 1, 0, none⟩) n n)).set 2 (.slice (some ⟨w.heap.size + 1 + 1, 0, none⟩) 3 3)
    have hB9 : Below w.heap.size w _ := ((hb0.setCell (p := ⟨w.heap.size, 0, none⟩) (Nat.le_refl _) (.bool true)).setCell (p := ⟨w.heap.size, 1, none⟩) (Nat.le_refl _) (.slice (some ⟨w.heap.size + 1, 0, none⟩) n n)).setCell (p := ⟨w.heap.size, 2, none⟩) (Nat.le_refl _) (.slice (some ⟨w.heap.size + 1 + 1, 0, none⟩) 3 3)
    obtain ⟨g1, g2, g3, g4⟩ := fresh_rows (by simp [hsz]) hB9 (falsesL n) (falsesL 3)
    have hl9 := hc9.lt
    have y0 := (g3.cell (p := ⟨w.heap.size, 0, none⟩) hl9).trans (hc9.cell 0)
    have y1 := (g3.cell (p := ⟨w.heap.size, 1, none⟩) hl9).trans (hc9.cell 1)
    have y2 := (g3.cell (p := ⟨w.heap.size, 2, none⟩) hl9).trans (hc9.cell 2)
    generalize ((((((w1.setCell ⟨w.heap.size, 0, none⟩ (.bool true)).setCell ⟨w.heap.size, 1, none⟩ (.slice (some ⟨w.heap.size + 1, 0, none⟩) n n)).setCell ⟨w.heap.size, 2, none⟩ (.slice (some ⟨w.heap.size + 1 + 1, 0, none⟩) 3 3)).alloc (.cells (bs (falsesL n)) 4)).alloc (.cells (bs (falsesL 3)) 4)).drew) = w9 at *
    exact bodyPost_ret (v := .agg #[.bool true, .slice (some ⟨w.heap.size + 1, 0, none⟩) n n, .slice (some ⟨w.heap.size + 1 + 1, 0, none⟩) 3 3]) (by simp [results, Try.results17, go_sem, y0, y1, y2]) rfl ⟨_, _, rfl, by omega, by omega, by omega, g1, g2, g4⟩
  · have hc9 := ((hc1.set 0 (.bool true)).set 1 (.slice (some ⟨w.heap.size + 1 + 1, 0, none⟩) n n)).set 2 (.slice (some ⟨w.heap.size + 1, 0, none⟩) 3 3)
    have hB9 : Below w.heap.size w _ := ((hb0.setCell (p := ⟨w.heap.size, 0, none⟩) (Nat.le_refl _) (.bool true)).setCell (p := ⟨w.heap.size, 1, none⟩) (Nat.le_refl _) (.slice (some ⟨w.heap.size + 1 + 1, 0, none⟩) n n)).setCell (p := ⟨w.heap.size, 2, none⟩) (Nat.le_refl _) (.slice (some ⟨w.heap.size + 1, 0, none⟩) 3 3)
    obtain ⟨g1, g2, g3, g4⟩ := fresh_rows (by simp [hsz]) hB9 (falsesL 3) (falsesL n)
    have hl9 := hc9.lt
    have y0 := (g3.cell (p := ⟨w.heap.size, 0, none⟩) hl9).trans (hc9.cell 0)
    have y1 := (g3.cell (p := ⟨w.heap.size, 1, none⟩) hl9).trans (hc9.cell 1)
    have y2 := (g3.cell (p := ⟨w.heap.size, 2, none⟩) hl9).trans (hc9.cell 2)
    generalize ((((((w1.setCell ⟨w.heap.size, 0, none⟩ (.bool true)).setCell ⟨w.heap.size, 1, none⟩ (.slice (some ⟨w.heap.size + 1 + 1, 0, none⟩) n n)).setCell ⟨w.heap.size, 2, none⟩ (.slice (some ⟨w.heap.size + 1, 0, none⟩) 3 3)).alloc (.cells (bs (falsesL 3)) 4)).alloc (.cells (bs (falsesL n)) 4)).drew) = w9 at *
    exact bodyPost_ret (v := .agg #[.bool true, .slice (some ⟨w.heap.size + 1 + 1, 0, none⟩) n n, .slice (some ⟨w.heap.size + 1, 0, none⟩) 3 3]) (by simp [results, Try.results17, go_sem, y0, y1, y2]) rfl ⟨_, _, rfl, by omega, by omega, by omega, g2, g1, g4⟩

set_option maxHeartbeats 2000000 in
theorem SameRests_any (r q : RestD) (f f' : Bool) (wa oa wa' oa' : Option Addr) (wn wc on oc wn' wc' on' oc' : Nat) (w : World) (h : RestAt w r f wa wn oa on) (h' : RestAt w q f' wa' wn' oa' on') :
    Calls Try.prog 8 #[.agg #[.bool f, .slice wa wn wc, .slice oa on oc], .agg #[.bool f', .slice wa' wn' wc', .slice oa' on' oc']] w fun e w' => e = .returned (.bool (decide (r.fresh = q.fresh) && (decide (r.waits = q.waits) && decide (r.outs = q.outs)))) ∧ Below w.heap.size w w' := by
  have hb0 := (Below.refl _ w).alloc (Nat.le_refl _) (.cells #[.bool f, .slice wa wn wc, .slice oa on oc] 25)
  have hb1 := (Below.refl _ (w.alloc (.cells #[.bool f, .slice wa wn wc, .slice oa on oc] 25))).alloc (Nat.le_refl _) (.cells #[.bool f', .slice wa' wn' wc', .slice oa' on' oc'] 25)
  have hx := (RBox.new w f wa wn wc oa on oc 25).below hb1
  have hy := RBox.new (w.alloc (.cells #[.bool f, .slice wa wn wc, .slice oa on oc] 25)) f' wa' wn' wc' oa' on' oc' 25
  have hsz : (w.alloc (.cells #[.bool f, .slice wa wn wc, .slice oa on oc] 25)).heap.size = w.heap.size + 1 := by simp
  rw [hsz] at hy
  have hR := (h.below hb0).below hb1
  have hQ := (h'.below hb0).below hb1
  have B := bstep hb0 hb1
  have hf := h.fresh
  have hf' := h'.fresh
  rw [← hf, ← hf']
  clear h h' hb0 hb1 hsz hf hf'
  go_enter Try.func8, Try.ntmps8
  go_upto_region 1 with fail
  generalize (w.alloc (.cells #[.bool f, .slice wa wn wc, .slice oa on oc] 25)).alloc (.cells #[.bool f', .slice wa' wn' wc', .slice oa' on' oc'] 25) = w2 at *
  have hx0 := hx
  have hy0 := hy
  obtain ⟨x0, x1, x2, x3⟩ := hx
  obtain ⟨y0, y1, y2, y3⟩ := hy
  by_cases e0 : f = f'
  case neg =>
    have R := hide (show (decide (f = f') && (decide (r.waits = q.waits) && decide (r.outs = q.outs))) = false by simp [e0])
    have hq : (f == f') = false := by simp [e0]
    clear e0
    cases f <;> cases f'
    · simp at hq
    · go_wp2_with fail
      go_ret
      exact ⟨ret_bool (unhide R).symm, B⟩
    · go_wp2_with fail
      go_ret
      exact ⟨ret_bool (unhide R).symm, B⟩
    · simp at hq
  subst e0
  go_wp2_with fail
  refine (SameBools_any _ _ _ _ _ _ _ _ _ hR.waits hQ.waits).mono ?_
  rintro e w3 ⟨rfl, hb⟩
  have B3 := bstep B hb
  have hx3 := hx0.below hb
  have hy3 := hy0.below hb
  have hR3 := hR.below hb
  have hQ3 := hQ.below hb
  clear hb B hx0 hy0 hR hQ x0 x1 x2 x3 y0 y1 y2 y3
  obtain ⟨x0, x1, x2, x3⟩ := hx3
  obtain ⟨y0, y1, y2, y3⟩ := hy3
  cases ew : decide (r.waits = q.waits)
  · go_wp2_with fail
    go_ret
    exact ⟨ret_bool (by simp), B3⟩
  · go_wp2_with fail
    refine (SameBools_any _ _ _ _ _ _ _ _ _ hR3.outs hQ3.outs).mono ?_
    rintro e w4 ⟨rfl, hb⟩
    have B4 := bstep B3 hb
    clear hb B3
    obtain ⟨d2, hd2⟩ : ∃ d2, decide (r.outs = q.outs) = d2 := ⟨_, rfl⟩
    rw [hd2]
    go_wp2_with fail
    go_ret
    exact ⟨ret_bool (by simp), B4⟩
end Go.Proofs.Ytopacgdfafhfhaf
