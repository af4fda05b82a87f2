/- The tied knot, sixty-four at once: what comes (plain). -/
import Derived.Test.YtongajonecgdpaePackP
import Derived.Test.YtongajonecgdpaeLevelV
import Derived.Test.YtongajonecgdpaePackV
namespace Go.Proofs.Ytongajonecgdpae
open Go.RowKit

set_option maxRecDepth 100000 in
theorem tied_step : pstepE knotDT [6] [5] = 0 ∧ pstepO knotDT [6] [5] = [3, 6] ∧ pstepN knotDT [6] [5] = [3] ∧ pstepE knotDT [] [5] = 1 := by decide +kernel
set_option maxRecDepth 100000 in
theorem tied_run : prunE knotDT [[5], [1]] = 0 ∧ prunL knotDT [[5], [1]] = [packRow knotDT [[5], [1]] 0, [4, 5]] ∧ prunE knotD [] = 5 := by decide +kernel

theorem KnotAt.keep {w w' : World} {b g : Nat} {G R : Array Value} (h : KnotAt w b G R) (hg : g < b) (hk : ∀ k, k ≠ g → w'.heap[k]? = w.heap[k]?) : KnotAt w' b G R := by
  obtain ⟨h1, h2, h3, h4, h5, h6, h7, h8, h9, h10⟩ := h
  refine ⟨?_, ?_, ?_, ?_, ?_, ?_, ?_, ?_, ?_, ?_⟩ <;> (rw [hk _ (by omega)]; assumption)

set_option maxRecDepth 100000 in
set_option maxHeartbeats 2000000 in
theorem tied_any (w : World) :
    Calls Try.prog 36 #[] w fun e w' => ∃ ga ra oa, e = .returned (.agg #[.int .i64 1, .slice ga 10 10, .slice ra 1 1, .slice oa 2 2]) ∧ NetAt w' knotDT 1 ga 10 ra 1 oa 2 ∧ Below w.heap.size w w' := by
  have hal := (Below.refl _ w).alloc (Nat.le_refl _) (.cells #[.int .i64 0, .slice none 0 0, .slice none 0 0, .slice none 0 0] 26)
  have hz0 := Cells.new w [.int .i64 0, .slice none 0 0, .slice none 0 0, .slice none 0 0] 26
  go_enter Try.func36, Try.ntmps36
  go_wp2_with fail
  refine (knot_any _).mono ?_
  rintro e w1 ⟨b1, hb1, rfl, hk, B1⟩
  have hb1' : w.heap.size < b1 := by simp at hb1; omega
  have hlt := hk.lt
  have c1 : w1.cell? ⟨b1 + 8, 26, none⟩ = some (.slice (some ⟨b1 + 7, 0, none⟩) 2 2) := by rw [cell_of_row _ _ _ _ _ _ hk.g]; rfl
  have c2 : w1.frozen? ⟨b1 + 8, 26, none⟩ = false := frozen_of_row _ _ _ _ _ hk.g
  have hl8 : b1 + 8 < w1.heap.size := by omega
  have hz1 := hz0.below B1 hz0.lt
  have hwl : w.heap.size < w1.heap.size := by omega
  have hne8 : ¬ w.heap.size = b1 + 8 := by omega
  have y0 := hz1.cell 0
  have y1 := hz1.cell 1
  have y2 := hz1.cell 2
  have y3 := hz1.cell 3
  have f0 := hz1.frozen 0
  have f1 := hz1.frozen 1
  have f2 := hz1.frozen 2
  have f3 := hz1.frozen 3
  go_wp2_with fail
  have hA : Cells (w1.setCell ⟨b1 + 8, 26, none⟩ (.slice (some ⟨w1.heap.size + 1, 0, none⟩) 1 1)) w.heap.size [.int .i64 0, .slice none 0 0, .slice none 0 0, .slice none 0 0] 26 := by
    unfold Cells; rw [set_block (by omega)]; exact hz1
  have hC := (((hA.set 0 (.int .i64 1)).set 1 (.slice (some ⟨b1 + 8, 0, none⟩) 10 10)).set 2 (.slice (some ⟨b1 + 9, 0, none⟩) 1 1)).set 3 (.slice (some ⟨b1 + 10, 0, none⟩) 2 2)
  have kW := (hk.setT (w1.heap.size + 1)).keep (w' := ((((w1.setCell ⟨b1 + 8, 26, none⟩ (.slice (some ⟨w1.heap.size + 1, 0, none⟩) 1 1)).setCell ⟨w.heap.size, 0, none⟩ (.int .i64 1)).setCell ⟨w.heap.size, 1, none⟩ (.slice (some ⟨b1 + 8, 0, none⟩) 10 10)).setCell ⟨w.heap.size, 2, none⟩ (.slice (some ⟨b1 + 9, 0, none⟩) 1 1)).setCell ⟨w.heap.size, 3, none⟩ (.slice (some ⟨b1 + 10, 0, none⟩) 2 2)) hb1' (fun k hk => (set_block hk).trans ((set_block hk).trans ((set_block hk).trans (set_block hk))))
  have BW : Below w.heap.size w (((((w1.setCell ⟨b1 + 8, 26, none⟩ (.slice (some ⟨w1.heap.size + 1, 0, none⟩) 1 1)).setCell ⟨w.heap.size, 0, none⟩ (.int .i64 1)).setCell ⟨w.heap.size, 1, none⟩ (.slice (some ⟨b1 + 8, 0, none⟩) 10 10)).setCell ⟨w.heap.size, 2, none⟩ (.slice (some ⟨b1 + 9, 0, none⟩) 1 1)).setCell ⟨w.heap.size, 3, none⟩ (.slice (some ⟨b1 + 10, 0, none⟩) 2 2)) := (((((bstep hal B1).setCell (p := ⟨b1 + 8, 26, none⟩) (by show w.heap.size ≤ b1 + 8; omega) _).setCell (p := ⟨w.heap.size, 0, none⟩) (Nat.le_refl _) _).setCell (p := ⟨w.heap.size, 1, none⟩) (Nat.le_refl _) _).setCell (p := ⟨w.heap.size, 2, none⟩) (Nat.le_refl _) _).setCell (p := ⟨w.heap.size, 3, none⟩) (Nat.le_refl _) _
  have hs5 : (((((w1.setCell ⟨b1 + 8, 26, none⟩ (.slice (some ⟨w1.heap.size + 1, 0, none⟩) 1 1)).setCell ⟨w.heap.size, 0, none⟩ (.int .i64 1)).setCell ⟨w.heap.size, 1, none⟩ (.slice (some ⟨b1 + 8, 0, none⟩) 10 10)).setCell ⟨w.heap.size, 2, none⟩ (.slice (some ⟨b1 + 9, 0, none⟩) 1 1)).setCell ⟨w.heap.size, 3, none⟩ (.slice (some ⟨b1 + 10, 0, none⟩) 2 2)).heap.size = w1.heap.size := by simp
  clear hA hz1 hk c1 c2 y0 y1 y2 y3 f0 f1 f2 f3 hz0 B1 hal
  generalize ((((w1.setCell ⟨b1 + 8, 26, none⟩ (.slice (some ⟨w1.heap.size + 1, 0, none⟩) 1 1)).setCell ⟨w.heap.size, 0, none⟩ (.int .i64 1)).setCell ⟨w.heap.size, 1, none⟩ (.slice (some ⟨b1 + 8, 0, none⟩) 10 10)).setCell ⟨w.heap.size, 2, none⟩ (.slice (some ⟨b1 + 9, 0, none⟩) 1 1)).setCell ⟨w.heap.size, 3, none⟩ (.slice (some ⟨b1 + 10, 0, none⟩) 2 2) = W5 at *
  have al1 := (Below.refl _ W5).alloc (Nat.le_refl _) (.cells #[.int .i64 1, .slice (some ⟨b1 + 8, 0, none⟩) 10 10, .slice (some ⟨b1 + 9, 0, none⟩) 1 1, .slice (some ⟨b1 + 10, 0, none⟩) 2 2] 26)
  have al2 := (Below.refl _ (W5.alloc (.cells #[.int .i64 1, .slice (some ⟨b1 + 8, 0, none⟩) 10 10, .slice (some ⟨b1 + 9, 0, none⟩) 1 1, .slice (some ⟨b1 + 10, 0, none⟩) 2 2] 26))).alloc (Nat.le_refl _) (.cells #[.int .i64 9] 3)
  have h7 := heap_alloc_new (W5.alloc (.cells #[.int .i64 1, .slice (some ⟨b1 + 8, 0, none⟩) 10 10, .slice (some ⟨b1 + 9, 0, none⟩) 1 1, .slice (some ⟨b1 + 10, 0, none⟩) 2 2] 26)) (.cells #[.int .i64 9] 3)
  rw [show (W5.alloc (.cells #[.int .i64 1, .slice (some ⟨b1 + 8, 0, none⟩) 10 10, .slice (some ⟨b1 + 9, 0, none⟩) 1 1, .slice (some ⟨b1 + 10, 0, none⟩) 2 2] 26)).heap.size = w1.heap.size + 1 by simp [hs5]] at h7
  have hNet := knot_netT ((kW.below al1).below al2) h7
  have hC2 := (hC.below al1 hC.lt).below al2 (by have := hC.lt; simp; omega)
  have y0 := hC2.cell 0
  have y1 := hC2.cell 1
  have y2 := hC2.cell 2
  have y3 := hC2.cell 3
  exact bodyPost_ret (v := .agg #[.int .i64 1, .slice (some ⟨b1 + 8, 0, none⟩) 10 10, .slice (some ⟨b1 + 9, 0, none⟩) 1 1, .slice (some ⟨b1 + 10, 0, none⟩) 2 2]) (by simp [results, Try.results36, go_sem, y0, y1, y2, y3]) rfl ⟨_, _, _, rfl, hNet, bstep (bstep BW al1) al2⟩

theorem Words.new (w : World) (C : Array Value) (T : TypeId) (n : Nat) (xs : List Int) (hC : C = (xs.map (fun x => Value.int .u64 x)).toArray) (hn : n = xs.length) (hm : xs.length ≤ maxLen) :
    Words (w.alloc (.cells C T)) (some ⟨w.heap.size, 0, Option.none⟩) n xs := by
  subst hC
  exact (Cells.new w (wordsV xs) T).words hn hm
theorem Words.new' (w : World) (C : Array Value) (T : TypeId) (g n : Nat) (xs : List Int) (hg : g = w.heap.size) (hC : C = (xs.map (fun x => Value.int .u64 x)).toArray) (hn : n = xs.length) (hm : xs.length ≤ maxLen) :
    Words (w.alloc (.cells C T)) (some ⟨g, 0, Option.none⟩) n xs := by
  subst hg; exact Words.new w C T n xs hC hn hm
theorem SameWords_all (xs : List Int) (a b : Option Addr) (n n' c c' : Nat) (w : World) (hx : Words w a n xs) (hy : Words w b n' xs) :
    Calls Try.prog 12 #[.slice a n c, .slice b n' c'] w fun e w' => e = .returned (.bool true) ∧ Below w.heap.size w w' := by
  obtain rfl : n = n' := by rw [hx.1, hy.1]
  exact SameWords_any xs a b n c c' w hx hy
theorem two_rows {w : World} {a b : Nat} {T : TypeId} {x y : List Int} (h1 : Words w (some ⟨a, 0, none⟩) 1 x) (h2 : Words w (some ⟨b, 0, none⟩) 1 y) :
    WRows (w.alloc (.cells #[.slice (some ⟨a, 0, none⟩) 1 1, .slice (some ⟨b, 0, none⟩) 1 1] T)) (some ⟨w.heap.size, 0, none⟩) 2 [x, y] := by
  have hal := (Below.refl _ w).alloc (Nat.le_refl _) (.cells #[.slice (some ⟨a, 0, none⟩) 1 1, .slice (some ⟨b, 0, none⟩) 1 1] T)
  have hC := Cells.new w [.slice (some ⟨a, 0, none⟩) 1 1, .slice (some ⟨b, 0, none⟩) 1 1] T
  refine ⟨rfl, lt_maxLen _ (by simp), Or.inr ⟨w.heap.size, 0, rfl, hC.lt, fun i hi => ?_⟩⟩
  have hi' : i < 2 := hi
  match i, hi' with
  | 0, _ => exact ⟨_, _, _, hC.cell 0, h1.below hal⟩
  | 1, _ => exact ⟨_, _, _, hC.cell 1, h2.below hal⟩
theorem isW_small {x : Int} (h0 : 0 ≤ x) (h1 : x ≤ 1000) : isW x := by
  have e : (2 : Int) ^ 64 = 18446744073709551616 := by decide
  refine ⟨h0, ?_⟩
  omega
theorem isW_one {x : Int} (h0 : 0 ≤ x) (h1 : x ≤ 1000) : ∀ y ∈ [x], isW y := by intro y hy; rw [List.mem_singleton.1 hy]; exact isW_small h0 h1

set_option maxRecDepth 100000 in
set_option maxHeartbeats 4000000 in
theorem packBegun_any (w : World) :
    Calls Try.prog 11 #[] w fun e w' => e = .returned (.bool true) ∧ Below w.heap.size w w' := by
  have k1 : Hid (pstepE knotDT [6] [5] = 0) := tied_step.1
  have k2 : Hid (pstepO knotDT [6] [5] = [3, 6]) := tied_step.2.1
  have k3 : Hid (pstepN knotDT [6] [5] = [3]) := tied_step.2.2.1
  have k4 : Hid (pstepE knotDT [] [5] = 1) := tied_step.2.2.2
  have k5 : Hid (prunE knotDT [[5], [1]] = 0) := tied_run.1
  have k6 : Hid (prunL knotDT [[5], [1]] = [packRow knotDT [[5], [1]] 0, [4, 5]]) := tied_run.2.1
  have k7 : Hid (prunE knotD [] = 5) := tied_run.2.2
  go_enter Try.func11, Try.ntmps11
  go_wp2_with fail
  refine (tied_any _).mono ?_
  rintro e w1 ⟨ga, ra, oa, rfl, hN1, B1⟩
  go_wp2_with fail
  refine (PStep_any knotDT _ _ _ _ _ _ _ _ _ _ _ (by exact (hN1.below ((Below.refl _ _).alloc (Nat.le_refl _) _)).below ((Below.refl _ _).alloc (Nat.le_refl _) _)) [6] [5] _ _ _ _ _ _ (by exact (Words.new _ _ _ _ [6] rfl rfl (lt_maxLen _ (by decide))).below ((Below.refl _ _).alloc (Nat.le_refl _) _)) (by exact Words.new' _ _ _ _ _ [5] (by simp) rfl rfl (lt_maxLen _ (by decide))) (isW_one (by decide) (by decide)) (isW_one (by decide) (by decide))).mono ?_
  rintro e w2 ⟨a2, n2, c2, b2, m2, d2, rfl, hA2, hB2, hb⟩
  have B2 := bstep1 (B1.alloc B1.size _) hb
  rw [k2.out] at hA2
  rw [k3.out] at hB2
  rw [k1.out]
  clear hb B1 hN1
  go_wp2_with fail
  refine (tied_any _).mono ?_
  rintro e w3 ⟨ga3, ra3, oa3, rfl, hN3, hb⟩
  have B3 := bstep B2 hb
  have hA3 := hA2.below hb
  have hB3 := hB2.below hb
  clear hb B2 hA2 hB2
  go_wp2_with fail
  have al1 := (Below.refl _ w3).alloc (Nat.le_refl _) (.cells #[.int .u64 5] 39)
  have wd1 := Words.new w3 #[.int .u64 5] 39 1 [5] rfl rfl (lt_maxLen _ (by decide))
  have al2 := (Below.refl _ (w3.alloc (.cells #[.int .u64 5] 39))).alloc (Nat.le_refl _) (.cells #[.int .u64 1] 39)
  have wd2 := Words.new' (w3.alloc (.cells #[.int .u64 5] 39)) #[.int .u64 1] 39 (w3.heap.size + 1) 1 [1] (by simp) rfl rfl (lt_maxLen _ (by decide))
  have wd1' := wd1.below al2
  have hN3' := (hN3.below al1).below al2
  have hA3' := (hA3.below al1).below al2
  have hB3' := (hB3.below al1).below al2
  have B3' := bstep (bstep B3 al1) al2
  have hs3 : ((w3.alloc (.cells #[.int .u64 5] 39)).alloc (.cells #[.int .u64 1] 39)).heap.size = w3.heap.size + 1 + 1 := by simp
  clear al1 al2 wd1 hN3 hA3 hB3 B3
  generalize (w3.alloc (.cells #[.int .u64 5] 39)).alloc (.cells #[.int .u64 1] 39) = w3' at *
  have hWR := two_rows (T := 27) wd1' wd2
  rw [hs3] at hWR
  refine (PRun_any knotDT _ _ _ _ _ _ _ _ _ _ _ (by exact hN3'.below ((Below.refl _ _).alloc (Nat.le_refl _) _)) [[5], [1]] _ _ _ hWR (by intro r hr; rcases List.mem_cons.1 hr with rfl | hr; exact isW_one (by decide) (by decide); rw [List.mem_singleton.1 hr]; exact isW_one (by decide) (by decide))).mono ?_
  rintro e w4 ⟨a4, n4, c4, rfl, hL4, hb⟩
  have B4 := bstep1 B3' hb
  have hA4 := (hA3'.below ((Below.refl _ _).alloc (Nat.le_refl _) _)).below hb
  have hB4 := (hB3'.below ((Below.refl _ _).alloc (Nat.le_refl _) _)).below hb
  rw [k6.out] at hL4
  rw [k5.out]
  clear hb B3' hA3' hB3' hWR wd1' wd2 hN3' hs3
  go_wp2_with fail
  refine (tied_any _).mono ?_
  rintro e w5 ⟨ga5, ra5, oa5, rfl, hN5, hb⟩
  have B5 := bstep B4 hb
  have hA5 := hA4.below hb
  have hB5 := hB4.below hb
  have hL5 := hL4.below hb
  clear hb B4 hA4 hB4 hL4
  go_wp2_with fail
  refine (PStep_any knotDT _ _ _ _ _ _ _ _ _ _ _ (by exact hN5.below ((Below.refl _ _).alloc (Nat.le_refl _) _)) [] [5] _ _ _ _ _ _ (by exact Words.none _) (by exact Words.new _ _ _ _ [5] rfl rfl (lt_maxLen _ (by decide))) (by intro y hy; simp at hy) (isW_one (by decide) (by decide))).mono ?_
  rintro e w6 ⟨a6, n6, c6, b6, m6, d6, rfl, _, _, hb⟩
  have B6 := bstep1 B5 hb
  have hA6 := (hA5.below ((Below.refl _ _).alloc (Nat.le_refl _) _)).below hb
  have hB6 := (hB5.below ((Below.refl _ _).alloc (Nat.le_refl _) _)).below hb
  have hL6 := (hL5.below ((Below.refl _ _).alloc (Nat.le_refl _) _)).below hb
  rw [k4.out]
  clear hb B5 hA5 hB5 hL5 hN5
  go_wp2_with fail
  refine (knot_any _).mono ?_
  rintro e w7 ⟨b7, _, rfl, hk, hb⟩
  have B7 := bstep B6 hb
  have hA7 := hA6.below hb
  have hB7 := hB6.below hb
  have hL7 := hL6.below hb
  clear hb B6 hA6 hB6 hL6
  go_wp2_with fail
  refine (PRun_any knotD _ _ _ _ _ _ _ _ _ _ _ (by exact knot_net hk) [] _ _ _ (by exact WRows.none _) (by intro r hr; simp at hr)).mono ?_
  rintro e w8 ⟨a8, n8, c8, rfl, _, hb⟩
  have B8 := bstep B7 hb
  have hA8 := hA7.below hb
  have hB8 := hB7.below hb
  have hL8 := hL7.below hb
  rw [k7.out]
  clear hb B7 hA7 hB7 hL7 hk
  have hn4 : n4 = 2 := hL8.1
  subst hn4
  go_wp2_with fail
  refine (SameWords_all [3, 6] _ _ _ _ _ _ _ (by exact hA8.below ((Below.refl _ _).alloc (Nat.le_refl _) _)) (by exact Words.new _ _ _ _ [3, 6] rfl rfl (lt_maxLen _ (by decide)))).mono ?_
  rintro e w9 ⟨rfl, hb⟩
  have B9 := bstep1 B8 hb
  have hB9 := (hB8.below ((Below.refl _ _).alloc (Nat.le_refl _) _)).below hb
  have hL9 := (hL8.below ((Below.refl _ _).alloc (Nat.le_refl _) _)).below hb
  clear hb B8 hA8 hB8 hL8
  go_wp2_with fail
  refine (SameWords_all [3] _ _ _ _ _ _ _ (by exact hB9.below ((Below.refl _ _).alloc (Nat.le_refl _) _)) (by exact Words.new _ _ _ _ [3] rfl rfl (lt_maxLen _ (by decide)))).mono ?_
  rintro e w10 ⟨rfl, hb⟩
  have B10 := bstep1 B9 hb
  have hL10 := (hL9.below ((Below.refl _ _).alloc (Nat.le_refl _) _)).below hb
  clear hb B9 hB9 hL9
  obtain ⟨b, off, a', n', c', rfl, hbb, cL, hW⟩ := hL10.at (k := 1) (by simp)
  go_wp2_with fail
  refine (SameWords_all [4, 5] _ _ _ _ _ _ _ (by exact hW.below ((Below.refl _ _).alloc (Nat.le_refl _) _)) (by exact Words.new _ _ _ _ [4, 5] rfl rfl (lt_maxLen _ (by decide)))).mono ?_
  rintro e w11 ⟨rfl, hb⟩
  have B11 := bstep1 B10 hb
  clear hb B10 cL hW
  go_wp2_with fail
  go_ret
  exact ⟨rfl, B11⟩

set_option maxHeartbeats 2000000 in
theorem PackSteps_any (d : NetD) (ins0 : Int) (ga ra oa : Option Addr) (gn gc rn rc on oc : Nat) (w : World) (h : NetAt w d ins0 ga gn ra rn oa on) (regs ins : List Int) (qa ia : Option Addr) (qn qc inn ic : Nat) (hr : Words w qa qn regs) (hi : Words w ia inn ins) (hwr : ∀ x ∈ regs, isW x) (hwi : ∀ x ∈ ins, isW x) :
    Calls Try.prog 3 #[.agg #[.int .i64 ins0, .slice ga gn gc, .slice ra rn rc, .slice oa on oc], .slice qa qn qc, .slice ia inn ic] w fun e w' => e = .returned (.bool true) ∧ Below w.heap.size w w' := by
  have hb0 : Below w.heap.size w (w.alloc (.cells #[.int .i64 ins0, .slice ga gn gc, .slice ra rn rc, .slice oa on oc] 26)) := (Below.refl _ _).alloc (Nat.le_refl _) _
  have hbox : Boxed (w.alloc (.cells #[.int .i64 ins0, .slice ga gn gc, .slice ra rn rc, .slice oa on oc] 26)) w.heap.size ins0 ga gn gc ra rn rc oa on oc := Boxed.new _ _ _ _ _ _ _ _ _ _ _ _
  have hN := h.below hb0
  have hr0 := hr.below hb0
  have hi0 := hi.below hb0
  have HWR := hide hwr
  have HWI := hide hwi
  clear h hr hi hwr hwi
  obtain ⟨E, hE⟩ : ∃ E, pstepE d regs ins = E := ⟨_, rfl⟩
  have HE := hide hE
  clear hE
  go_enter Try.func3, Try.ntmps3
  go_wp2_with fail
  refine (PStep_any d _ _ _ _ _ _ _ _ _ _ _ hN regs ins _ _ _ _ _ _ hr0 hi0 (unhide HWR) (unhide HWI)).mono ?_
  rintro e w1 ⟨a1, n1, c1, b1, m1, d1, rfl, hA1, hB1, hb⟩
  rw [unhide HE]
  have B1 := bstep hb0 hb
  have hN1 := hN.below hb
  have hr1 := hr0.below hb
  have hi1 := hi0.below hb
  have hx1 := hbox.below hb
  clear hb hb0 hN hbox hr0 hi0
  obtain ⟨x0, x1, x2, x3, x4⟩ := hx1
  go_wp2_with fail
  clear x0 x1 x2 x3 x4
  refine (PackStep_any d _ _ _ _ _ _ _ _ _ _ _ hN1 regs ins _ _ _ _ _ _ hr1 hi1 (unhide HWR) (unhide HWI)).mono ?_
  rintro e w2 ⟨a2, n2, c2, b2, m2, d2, rfl, hA2, hB2, _, _, hb⟩
  rw [unhide HE]
  have B2 := bstep B1 hb
  have hA1' := hA1.below hb
  have hB1' := hB1.below hb
  clear hb B1 hN1 hr1 hi1 hA1 hB1
  go_wp2_with fail
  refine (packBegun_any _).mono ?_
  rintro e w3 ⟨rfl, hb⟩
  have B3 := bstep B2 hb
  have hA3 := hA1'.below hb
  have hB3 := hB1'.below hb
  have hA4 := hA2.below hb
  have hB4 := hB2.below hb
  clear hb B2 hA1' hB1' hA2 hB2
  go_wp2_with fail
  refine (SameWords_all (pstepO d regs ins) _ _ _ _ _ _ _ hA3 hA4).mono ?_
  rintro e w4 ⟨rfl, hb⟩
  have B4 := bstep B3 hb
  have hB5 := hB3.below hb
  have hB6 := hB4.below hb
  clear hb B3 hA3 hA4 hB3 hB4
  go_wp2_with fail
  refine (SameWords_all (pstepN d regs ins) _ _ _ _ _ _ _ hB5 hB6).mono ?_
  rintro e w5 ⟨rfl, hb⟩
  have B5 := bstep B4 hb
  clear hb B4 hB5 hB6
  go_wp2_with fail
  go_ret
  exact ⟨rfl, B5⟩

set_option maxHeartbeats 2000000 in
theorem PackRuns_any (d : NetD) (ins0 : Int) (ga ra oa : Option Addr) (gn gc rn rc on oc : Nat) (w : World) (h : NetAt w d ins0 ga gn ra rn oa on) (l : List (List Int)) (la : Option Addr) (ln lc : Nat) (hl : WRows w la ln l) (hwl : ∀ r ∈ l, ∀ x ∈ r, isW x) :
    Calls Try.prog 4 #[.agg #[.int .i64 ins0, .slice ga gn gc, .slice ra rn rc, .slice oa on oc], .slice la ln lc] w fun e w' => e = .returned (.bool true) ∧ Below w.heap.size w w' := by
  have hb0 : Below w.heap.size w (w.alloc (.cells #[.int .i64 ins0, .slice ga gn gc, .slice ra rn rc, .slice oa on oc] 26)) := (Below.refl _ _).alloc (Nat.le_refl _) _
  have hbox : Boxed (w.alloc (.cells #[.int .i64 ins0, .slice ga gn gc, .slice ra rn rc, .slice oa on oc] 26)) w.heap.size ins0 ga gn gc ra rn rc oa on oc := Boxed.new _ _ _ _ _ _ _ _ _ _ _ _
  have hN := h.below hb0
  have hl0 := hl.below hb0
  have HWL := hide hwl
  clear h hl hwl
  obtain ⟨E, hE⟩ : ∃ E, prunE d l = E := ⟨_, rfl⟩
  have HE := hide hE
  clear hE
  have hee : (E != E) = false := by simp
  go_enter Try.func4, Try.ntmps4
  go_wp2_with fail
  refine (PRun_any d _ _ _ _ _ _ _ _ _ _ _ hN l _ _ _ hl0 (unhide HWL)).mono ?_
  rintro e w1 ⟨a1, n1, c1, rfl, hA1, hb⟩
  rw [unhide HE]
  have B1 := bstep hb0 hb
  have hN1 := hN.below hb
  have hl1 := hl0.below hb
  have hx1 := hbox.below hb
  clear hb hb0 hN hbox hl0
  obtain ⟨x0, x1, x2, x3, x4⟩ := hx1
  go_wp2_with fail
  clear x0 x1 x2 x3 x4
  refine (PackRun_any d _ _ _ _ _ _ _ _ _ _ _ hN1 l _ _ _ hl1 (unhide HWL)).mono ?_
  rintro e w2 ⟨a2, n2, c2, rfl, hA2, hb⟩
  rw [unhide HE]
  have B2 := bstep B1 hb
  have hA1' := hA1.below hb
  clear hb B1 hN1 hl1 hA1
  obtain rfl : n1 = n2 := by rw [hA1'.1, hA2.1]
  have HNL := hide hA2.1
  have hm : n1 ≤ maxLen := by rw [hA2.1]; exact hA2.2.1
  unfold maxLen at hm
  have hnn : ((n1 : Int) != (n1 : Int)) = false := by simp
  go_wp2_with fail
  go_loopw [9] (fun i wr => ∃ k : Nat, k ≤ n1 ∧ i = .int .i64 k ∧ Below w2.heap.size w2 wr) (fun i _ => n1 - (intOf i).toNat)
  case atStart => exact ⟨0, Nat.zero_le _, rfl, Below.refl _ _⟩
  case round =>
    obtain ⟨k, hk, rfl, hbel⟩ := hrel
    by_cases hlt : k < n1
    · have hki : (k : Int) < (n1 : Int) := by omega
      have hkl : k < (prunL d l).length := by have := unhide HNL; omega
      obtain ⟨b, off, a', n', c', rfl, hbb, cA, hW⟩ := (hA1'.below hbel).at hkl
      obtain ⟨b', off', a'', n'', c'', rfl, hbb', cB, hW'⟩ := (hA2.below hbel).at hkl
      have hbd := (Below.refl wr.heap.size wr).drew
      go_wp2_with fail
      go_region_held3 (fun W => Below wr.heap.size wr W ∧ W.cell? ⟨b, off + k, none⟩ = some (.slice a' n' c') ∧ W.cell? ⟨b', off' + k, none⟩ = some (.slice a'' n'' c''))
        ((first | exact ⟨(Below.refl _ _).drew, cA, cB⟩ | exact ⟨hSB, (hSB.cell (p := ⟨b, off + k, none⟩) hbb).trans cA, (hSB.cell (p := ⟨b', off' + k, none⟩) hbb').trans cB⟩))
        ((first
          | (go_at_call 12; refine (SameWords_all (prunL d l)[k] a' a'' n' n'' c' c'' _ (hW.below hbd) (hW'.below hbd)).mono ?_; rintro e wB ⟨rfl, hbB⟩; have hSB := bstep hbd hbB)))
      all_goals have R := hide (bstep hbel hSB)
      all_goals clear hSB hbB hbd cA cB hW hW'
      all_goals go_wp2_with fail
      all_goals exact ⟨⟨k + 1, by omega, by go_num, unhide R⟩, by simp [intOf]; omega⟩
    · go_wp2_with fail
      refine (packBegun_any _).mono ?_
      rintro e w3 ⟨rfl, hb⟩
      have B3 := bstep (bstep B2 hbel) hb
      clear hb hbel
      go_wp2_with fail
      go_ret
      exact ⟨rfl, B3⟩
end Go.Proofs.Ytongajonecgdpae
