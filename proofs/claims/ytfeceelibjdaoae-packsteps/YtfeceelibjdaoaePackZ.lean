/- The statements' own look at pack (packBegun): true, whatever the memory. PackSteps, PackRuns. -/
import Derived.Test.YtfeceelibjdaoaePackW
import Derived.Test.YtfeceelibjdaoaePackY
namespace Go.Proofs.Ytfeceelibjdaoae
open Go.RowKit

theorem KnotAt.keep {w w' : World} {b g : Nat} {G R : Array Value} (h : KnotAt w b G R) (hg : g < b) (hk : ∀ k, k ≠ g → w'.heap[k]? = w.heap[k]?) : KnotAt w' b G R := by
  obtain ⟨h1, h2, h3, h4, h5, h6, h7, h8, h9, h10⟩ := h
  refine ⟨?_, ?_, ?_, ?_, ?_, ?_, ?_, ?_, ?_, ?_⟩ <;> (rw [hk _ (by omega)]; assumption)

set_option maxRecDepth 100000 in
set_option maxHeartbeats 2000000 in
theorem tied_any (w : World) :
    Calls Try.prog 19 #[] w fun e w' => ∃ ga ra oa, e = .returned (.agg #[.int .i64 1, .slice ga 10 10, .slice ra 1 1, .slice oa 2 2]) ∧ NetAt w' knotDT 1 ga 10 ra 1 oa 2 ∧ Below w.heap.size w w' := by
  have hal := (Below.refl _ w).alloc (Nat.le_refl _) (.cells #[.int .i64 0, .slice none 0 0, .slice none 0 0, .slice none 0 0] 26)
  have hz0 := Cells.new w [.int .i64 0, .slice none 0 0, .slice none 0 0, .slice none 0 0] 26
  go_enter Try.func19, Try.ntmps19
  go_wp2_with fail
  refine (knot_any _).mono ?_
  rintro e w1 ⟨b1, hb1, rfl, hk, B1⟩
  have hb1' : w.heap.size < b1 := by simp at hb1; omega
  have hlt := hk.lt
  have c1 : w1.cell? ⟨b1 + 8, 26, none⟩ = some (.slice (some ⟨b1 + 7, 0, none⟩) 2 2) := by rw [cell_of_row _ _ _ _ _ _ hk.g]; rfl
  have c2 : w1.frozen? ⟨b1 + 8, 26, none⟩ = false := frozen_of_row _ _ _ _ _ hk.g
  have hl8 : b1 + 8 < w1.heap.size := by omega
  have hz1 := hz0.below B1 hz0.lt
  have hwl : w.heap.size < w1.heap.size := by omega
  have hne8 : ¬ w.heap.size = b1 + 8 := by omega
  have y0 := hz1.cell 0
  have y1 := hz1.cell 1
  have y2 := hz1.cell 2
  have y3 := hz1.cell 3
  have f0 := hz1.frozen 0
  have f1 := hz1.frozen 1
  have f2 := hz1.frozen 2
  have f3 := hz1.frozen 3
  go_wp2_with fail
  have hA : Cells (w1.setCell ⟨b1 + 8, 26, none⟩ (.slice (some ⟨w1.heap.size + 1, 0, none⟩) 1 1)) w.heap.size [.int .i64 0, .slice none 0 0, .slice none 0 0, .slice none 0 0] 26 := by
    unfold Cells; rw [set_block (by omega)]; exact hz1
  have hC := (((hA.set 0 (.int .i64 1)).set 1 (.slice (some ⟨b1 + 8, 0, none⟩) 10 10)).set 2 (.slice (some ⟨b1 + 9, 0, none⟩) 1 1)).set 3 (.slice (some ⟨b1 + 10, 0, none⟩) 2 2)
  have kW := (hk.setT (w1.heap.size + 1)).keep (w' := ((((w1.setCell ⟨b1 + 8, 26, none⟩ (.slice (some ⟨w1.heap.size + 1, 0, none⟩) 1 1)).setCell ⟨w.heap.size, 0, none⟩ (.int .i64 1)).setCell ⟨w.heap.size, 1, none⟩ (.slice (some ⟨b1 + 8, 0, none⟩) 10 10)).setCell ⟨w.heap.size, 2, none⟩ (.slice (some ⟨b1 + 9, 0, none⟩) 1 1)).setCell ⟨w.heap.size, 3, none⟩ (.slice (some ⟨b1 + 10, 0, none⟩) 2 2)) hb1' (fun k hk => (set_block hk).trans ((set_block hk).trans ((set_block hk).trans (set_block hk))))
  have BW : Below w.heap.size w (((((w1.setCell ⟨b1 + 8, 26, none⟩ (.slice (some ⟨w1.heap.size + 1, 0, none⟩) 1 1)).setCell ⟨w.heap.size, 0, none⟩ (.int .i64 1)).setCell ⟨w.heap.size, 1, none⟩ (.slice (some ⟨b1 + 8, 0, none⟩) 10 10)).setCell ⟨w.heap.size, 2, none⟩ (.slice (some ⟨b1 + 9, 0, none⟩) 1 1)).setCell ⟨w.heap.size, 3, none⟩ (.slice (some ⟨b1 + 10, 0, none⟩) 2 2)) := (((((bstep hal B1).setCell (p := ⟨b1 + 8, 26, none⟩) (by show w.heap.size ≤ b1 + 8; omega) _).setCell (p := ⟨w.heap.size, 0, none⟩) (Nat.le_refl _) _).setCell (p := ⟨w.heap.size, 1, none⟩) (Nat.le_refl _) _).setCell (p := ⟨w.heap.size, 2, none⟩) (Nat.le_refl _) _).setCell (p := ⟨w.heap.size, 3, none⟩) (Nat.le_refl _) _
  have hs5 : (((((w1.setCell ⟨b1 + 8, 26, none⟩ (.slice (some ⟨w1.heap.size + 1, 0, none⟩) 1 1)).setCell ⟨w.heap.size, 0, none⟩ (.int .i64 1)).setCell ⟨w.heap.size, 1, none⟩ (.slice (some ⟨b1 + 8, 0, none⟩) 10 10)).setCell ⟨w.heap.size, 2, none⟩ (.slice (some ⟨b1 + 9, 0, none⟩) 1 1)).setCell ⟨w.heap.size, 3, none⟩ (.slice (some ⟨b1 + 10, 0, none⟩) 2 2)).heap.size = w1.heap.size := by simp
  clear hA hz1 hk c1 c2 y0 y1 y2 y3 f0 f1 f2 f3 hz0 B1 hal
  generalize ((((w1.setCell ⟨b1 + 8, 26, none⟩ (.slice (some ⟨w1.heap.size + 1, 0, none⟩) 1 1)).setCell ⟨w.heap.size, 0, none⟩ (.int .i64 1)).setCell ⟨w.heap.size, 1, none⟩ (.slice (some ⟨b1 + 8, 0, none⟩) 10 10)).setCell ⟨w.heap.size, 2, none⟩ (.slice (some ⟨b1 + 9, 0, none⟩) 1 1)).setCell ⟨w.heap.size, 3, none⟩ (.slice (some ⟨b1 + 10, 0, none⟩) 2 2) = W5 at *
  have al1 := (Below.refl _ W5).alloc (Nat.le_refl _) (.cells #[.int .i64 1, .slice (some ⟨b1 + 8, 0, none⟩) 10 10, .slice (some ⟨b1 + 9, 0, none⟩) 1 1, .slice (some ⟨b1 + 10, 0, none⟩) 2 2] 26)
  have al2 := (Below.refl _ (W5.alloc (.cells #[.int .i64 1, .slice (some ⟨b1 + 8, 0, none⟩) 10 10, .slice (some ⟨b1 + 9, 0, none⟩) 1 1, .slice (some ⟨b1 + 10, 0, none⟩) 2 2] 26))).alloc (Nat.le_refl _) (.cells #[.int .i64 9] 3)
  have h7 := heap_alloc_new (W5.alloc (.cells #[.int .i64 1, .slice (some ⟨b1 + 8, 0, none⟩) 10 10, .slice (some ⟨b1 + 9, 0, none⟩) 1 1, .slice (some ⟨b1 + 10, 0, none⟩) 2 2] 26)) (.cells #[.int .i64 9] 3)
  rw [show (W5.alloc (.cells #[.int .i64 1, .slice (some ⟨b1 + 8, 0, none⟩) 10 10, .slice (some ⟨b1 + 9, 0, none⟩) 1 1, .slice (some ⟨b1 + 10, 0, none⟩) 2 2] 26)).heap.size = w1.heap.size + 1 by simp [hs5]] at h7
  have hNet := knot_netT ((kW.below al1).below al2) h7
  have hC2 := (hC.below al1 hC.lt).below al2 (by have := hC.lt; simp; omega)
  have y0 := hC2.cell 0
  have y1 := hC2.cell 1
  have y2 := hC2.cell 2
  have y3 := hC2.cell 3
  exact bodyPost_ret (v := .agg #[.int .i64 1, .slice (some ⟨b1 + 8, 0, none⟩) 10 10, .slice (some ⟨b1 + 9, 0, none⟩) 1 1, .slice (some ⟨b1 + 10, 0, none⟩) 2 2]) (by simp [results, Try.results19, go_sem, y0, y1, y2, y3]) rfl ⟨_, _, _, rfl, hNet, bstep (bstep BW al1) al2⟩
end Go.Proofs.Ytfeceelibjdaoae
