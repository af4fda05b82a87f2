/- The statements' own look at sweep (sweepBegun): true, whatever the memory. -/
import Derived.Test.YtongajonecgdpagDropP
import Derived.Test.YtongajonecgdpagNetO
namespace Go.Proofs.Ytongajonecgdpag
open Go.RowKit Go.Maps

def knotF : NetD := { ins := 1, gates := [⟨2, 0, []⟩, ⟨3, 0, []⟩, ⟨6, 0, [1]⟩, ⟨6, 0, [0]⟩, ⟨4, 0, [0, 2]⟩, ⟨4, 0, [3, 1]⟩, ⟨5, 0, [4, 5]⟩, ⟨5, 0, [6, 8]⟩, ⟨0, 0, []⟩, ⟨0, 0, []⟩], regs := [(false, 6)], outs := [7, 1] }
def knotB : List Bool := [true, true, true, true, true, true, true, true, true, false]
def knotZ : NetD := { ins := 1, gates := [⟨2, 0, []⟩, ⟨3, 0, []⟩, ⟨6, 0, [1]⟩, ⟨6, 0, [0]⟩, ⟨4, 0, [0, 2]⟩, ⟨4, 0, [3, 1]⟩, ⟨5, 0, [4, 5]⟩, ⟨5, 0, [6, 8]⟩, ⟨0, 0, []⟩], regs := [(false, 6)], outs := [7, 1] }
theorem knot_foldV : foldV knotD = [2, 2, 2, 2, 2, 2, 2, 2, 0, 0] := by decide +kernel
theorem knot_fold : foldA knotD = knotF := by
  have h : checkE knotD = 0 := by decide +kernel
  unfold foldA
  rw [if_pos h]
  unfold foldD
  rw [knot_foldV]
  rfl
theorem knotF_ok : checkE knotF = 0 := by decide +kernel
theorem knotF_marks : Marks knotF.gates (needL knotF) knotB := by
  have n7 : Need knotF.gates (needL knotF) 7 := Need.mem (gs := knotF.gates) (l := needL knotF) (x := 7) (by simp [needL, knotF])
  have n6 : Need knotF.gates (needL knotF) 6 := Need.arg (j := 7) (by decide) n7 (x := 6) (by simp [knotF])
  have n8 : Need knotF.gates (needL knotF) 8 := Need.arg (j := 7) (by decide) n7 (x := 8) (by simp [knotF])
  have n4 : Need knotF.gates (needL knotF) 4 := Need.arg (j := 6) (by decide) n6 (x := 4) (by simp [knotF])
  have n5 : Need knotF.gates (needL knotF) 5 := Need.arg (j := 6) (by decide) n6 (x := 5) (by simp [knotF])
  have n0 : Need knotF.gates (needL knotF) 0 := Need.arg (j := 4) (by decide) n4 (x := 0) (by simp [knotF])
  have n2 : Need knotF.gates (needL knotF) 2 := Need.arg (j := 4) (by decide) n4 (x := 2) (by simp [knotF])
  have n3 : Need knotF.gates (needL knotF) 3 := Need.arg (j := 5) (by decide) n5 (x := 3) (by simp [knotF])
  have n1 : Need knotF.gates (needL knotF) 1 := Need.arg (j := 5) (by decide) n5 (x := 1) (by simp [knotF])
  refine Fair.marks ⟨rfl, fun x hx => ?_, fun k hk => ?_⟩ ?_
  · simp [needL, nextsV, knotF] at hx; rcases hx with rfl | rfl | rfl <;> rfl
  · by_cases h : k < 10
    · have : k = 0 ∨ k = 1 ∨ k = 2 ∨ k = 3 ∨ k = 4 ∨ k = 5 ∨ k = 6 ∨ k = 7 ∨ k = 8 ∨ k = 9 := by omega
      rcases this with rfl | rfl | rfl | rfl | rfl | rfl | rfl | rfl | rfl | rfl
      · exact n0
      · exact n1
      · exact n2
      · exact n3
      · exact n4
      · exact n5
      · exact n6
      · exact n7
      · exact n8
      · simp [knotB] at hk
    · rw [List.getD_eq_getElem?_getD, List.getElem?_eq_none (by simp [knotB]; omega)] at hk
      simp at hk
  · intro k hk h x hx
    have hk' : k < 10 := hk
    have : k = 0 ∨ k = 1 ∨ k = 2 ∨ k = 3 ∨ k = 4 ∨ k = 5 ∨ k = 6 ∨ k = 7 ∨ k = 8 ∨ k = 9 := by omega
    rcases this with rfl | rfl | rfl | rfl | rfl | rfl | rfl | rfl | rfl | rfl
    all_goals (simp [knotF] at hx; try (rcases hx with rfl | rfl <;> rfl))
    all_goals (subst hx; rfl)
theorem knot_drop : dropA knotF knotB = knotZ := by
  unfold dropA
  rw [if_pos knotF_ok]
  rfl
set_option maxRecDepth 100000 in
set_option maxHeartbeats 4000000 in
theorem sweepBegun_any (w : World) :
    Calls Try.prog 14 #[] w fun e w' => e = .returned (.bool true) ∧ Below w.heap.size w w' := by
  have k0 : Hid (checkE knotD = 0) := by show _ = _; decide
  go_enter Try.func14, Try.ntmps14
  go_wp2_with fail
  refine (knot_any _).mono ?_
  rintro e w1 ⟨b1, _, rfl, hk, B1⟩
  go_wp2_with fail
  refine (Fold_any knotD _ _ _ _ _ _ _ _ _ _ _ (knot_net hk)).mono ?_
  intro e w2 hA
  rw [knot_fold, k0.out] at hA
  obtain ⟨i1, ga, gn, gc, ra, rn, rc, oa, on, oc, rfl, hN, hO, hb⟩ := hA
  obtain rfl : gn = 10 := hN.gates.1
  obtain rfl : rn = 1 := hN.regs.1
  obtain rfl : on = 2 := hN.outs.1
  have B2 := bstep B1 hb
  have hb2 := (Below.refl _ w2).alloc (Nat.le_refl _) (.cells #[.int .i64 i1, .slice ga 10 gc, .slice ra 1 rc, .slice oa 2 oc] 39)
  have hx2 := Boxed.new w2 i1 ga ra oa 10 gc 1 rc 2 oc 39
  have HO := hide hO.out
  have hN2 := hN.below hb2
  have B3 := bstep B2 hb2
  clear hb B1 hk hO B2 hN hb2
  go_wp2_with fail
  refine (Drop_any knotF _ _ _ _ _ _ _ _ _ _ _ hN2 (unhide HO) (by omega)).mono ?_
  intro e w3 hD
  obtain ⟨bs, hM, hA⟩ := hD
  obtain rfl : bs = knotB := (hM knotF_ok).same knotF_marks
  rw [knot_drop, knotF_ok] at hA
  obtain ⟨i4, ga4, gn4, gc4, ra4, rn4, rc4, oa4, on4, oc4, rfl, hN4, _, hb⟩ := hA
  obtain rfl : gn4 = 9 := hN4.gates.1
  obtain rfl : rn4 = 1 := hN4.regs.1
  obtain rfl : on4 = 2 := hN4.outs.1
  have hb4 := (Below.refl _ w3).alloc (Nat.le_refl _) (.cells #[.int .i64 i4, .slice ga4 9 gc4, .slice ra4 1 rc4, .slice oa4 2 oc4] 39)
  have hx4 := Boxed.new w3 i4 ga4 ra4 oa4 9 gc4 1 rc4 2 oc4 39
  have hN5 := hN4.below hb4
  have hN3 := (hN2.below hb).below hb4
  have hx3 := (hx2.below hb).below hb4
  have B5 := bstep (bstep B3 hb) hb4
  clear hb B3 hN2 hx2 hN4 hb4 hM HO
  generalize hw5 : w3.alloc (.cells #[.int .i64 i4, .slice ga4 9 gc4, .slice ra4 1 rc4, .slice oa4 2 oc4] 39) = w5 at *
  obtain ⟨b, off, aa, an, ac, rfl, hbb, c1, c2, c3, hI⟩ := hN3.gates.at' (k := 8) (by decide)
  obtain ⟨b', off', aa', an', ac', he', hbb', d1, d2, d3, hI'⟩ := hN3.gates.at' (k := 7) (by decide)
  obtain ⟨b2, off2, rfl, hbb2, g1, g2⟩ := hN5.regs.at (k := 0) (by decide)
  injection he' with he'
  injection he' with he1 he2
  subst he1
  subst he2
  obtain ⟨x0, x1, x2, x3, x4⟩ := hx3
  obtain ⟨y0, y1, y2, y3, y4⟩ := hx4
  have k8 : knotF.gates[8].kind = 0 := rfl
  have k7 : knotF.gates[7].kind = 5 := rfl
  have k6 : knotZ.regs[0].2 = 6 := rfl
  rw [k8] at c1
  rw [k7] at d1
  rw [k6] at g2
  have hO5 := hN5.outs
  clear c2 c3 d2 d3 g1 hI hI' hN3 hN5
  go_wp2_with fail
  have hb6 := (Below.refl _ w5).alloc (Nat.le_refl _) (.cells #[.int .i64 7, .int .i64 1] 3)
  have hI6 : Ints (w5.alloc (.cells #[.int .i64 7, .int .i64 1] 3)) (some ⟨w5.heap.size, 0, none⟩) 2 [7, 1] := Ints.new w5 _ _ _ [7, 1] rfl rfl (lt_maxLen _ (by decide))
  refine (SameInts_any _ _ _ _ _ _ _ _ _ (hO5.below hb6) hI6).mono ?_
  rintro e w7 ⟨rfl, hb⟩
  have hb7 := bstep hb6 hb
  rw [show decide (knotZ.outs = [7, 1]) = true from decide_eq_true rfl]
  have y3' := (hb7.cell (p := ⟨w3.heap.size, 2, none⟩) y0).trans y3
  have g2' := (hb7.cell (p := ⟨b2, off2 + 0 * 2 + 1, none⟩) hbb2).trans g2
  have R := hide (bstep B5 hb7)
  clear hb6 hI6 hb hO5 x0 x1 x2 x3 x4 y0 y1 y2 y3 y4 g2 c1 d1 B5
  go_wp2_with fail
  go_ret
  exact ⟨rfl, unhide R⟩
end Go.Proofs.Ytongajonecgdpag
