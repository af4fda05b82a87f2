/- The statements' own look at net (netBegun): true, whatever the memory. -/
import Derived.Test.YtongajonecgdpaaNetK
namespace Go.Proofs.Ytongajonecgdpaa
open Go.RowKit

def emptyD : NetD := { ins := 0, gates := [], regs := [], outs := [] }
theorem empty_net (w : World) : NetAt w emptyD 0 none 0 none 0 none 0 := ⟨rfl, ⟨rfl, Nat.zero_le _, Or.inl rfl⟩, ⟨rfl, Nat.zero_le _, Or.inl rfl⟩, Ints.none _⟩

def knotY4 : List Bool := [true, true, true, false, true, false, false, false, false, false]
theorem knot_marks : Marks knotD.gates [4] knotY4 := by
  have n4 : Need knotD.gates [4] 4 := Need.mem (gs := knotD.gates) (l := [4]) (x := 4) (by simp)
  have n0 : Need knotD.gates [4] 0 := Need.arg (j := 4) (by decide) n4 (x := 0) (by simp [knotD])
  have n2 : Need knotD.gates [4] 2 := Need.arg (j := 4) (by decide) n4 (x := 2) (by simp [knotD])
  have n1 : Need knotD.gates [4] 1 := Need.arg (j := 2) (by decide) n2 (x := 1) (by simp [knotD])
  refine Fair.marks ⟨rfl, fun x hx => by simp at hx; subst hx; rfl, fun k hk => ?_⟩ ?_
  · by_cases h : k < 10
    · have : k = 0 ∨ k = 1 ∨ k = 2 ∨ k = 3 ∨ k = 4 ∨ k = 5 ∨ k = 6 ∨ k = 7 ∨ k = 8 ∨ k = 9 := by omega
      rcases this with rfl | rfl | rfl | rfl | rfl | rfl | rfl | rfl | rfl | rfl
      · exact n0
      · exact n1
      · exact n2
      · simp [knotY4] at hk
      · exact n4
      all_goals simp [knotY4] at hk
    · rw [List.getD_eq_getElem?_getD, List.getElem?_eq_none (by simp [knotY4]; omega)] at hk
      simp at hk
  · intro k hk h x hx
    have hk' : k < 10 := hk
    have : k = 0 ∨ k = 1 ∨ k = 2 ∨ k = 3 ∨ k = 4 ∨ k = 5 ∨ k = 6 ∨ k = 7 ∨ k = 8 ∨ k = 9 := by omega
    rcases this with rfl | rfl | rfl | rfl | rfl | rfl | rfl | rfl | rfl | rfl
    · simp [knotD] at hx
    · simp [knotD] at hx
    · simp [knotD] at hx; subst hx; rfl
    · simp [knotY4] at h
    · simp [knotD] at hx; rcases hx with rfl | rfl <;> rfl
    all_goals simp [knotY4] at h

theorem knotG_gate (b : Nat) : (knotG b)[8]? = some (.slice (some ⟨b + 1, 0, none⟩) 1 1) := rfl

set_option maxRecDepth 100000 in
set_option maxHeartbeats 4000000 in
theorem netBegun_any (w : World) :
    Calls Try.prog 23 #[] w fun e w' => e = .returned (.bool true) ∧ Below w.heap.size w w' := by
  have k0 : Hid (checkE knotD = 0) := by show _ = _; decide
  have k1 : Hid (begAns knotD = [0]) := by show _ = _; decide
  have k2 : Hid (needE knotD [4] = 0) := by show _ = _; decide
  have k3 : Hid (needE knotD [10] = 3) := by show _ = _; decide
  have k4 : Hid (checkE emptyD = 0) := by show _ = _; decide
  have k5 : Hid (checkE knotDX = 1) := by show _ = _; decide
  have k6 : Hid (checkE knotDY = 3) := by show _ = _; decide
  go_enter Try.func23, Try.ntmps23
  go_wp2_with fail
  refine (knot_any _).mono ?_
  rintro e w1 ⟨b1, _, rfl, hk, B1⟩
  go_wp2_with fail
  refine (Begin_any knotD _ _ _ _ _ _ _ _ _ _ _ (knot_net hk)).mono ?_
  rintro e w2 ⟨ba, bn, bc, rfl, hbeg, hb⟩
  have B2 := bstep B1 hb
  rw [k0.out]
  rw [k1.out] at hbeg
  clear hb B1 hk
  go_wp2_with fail
  refine (knot_any _).mono ?_
  rintro e w3 ⟨b3, _, rfl, hk, hb⟩
  have B3 := bstep B2 hb
  have hbeg3 := hbeg.below hb
  clear hb B2 hbeg
  go_wp2_with fail
  refine (Needs_any knotD _ _ _ _ _ _ _ _ _ _ _ (by exact (knot_net hk).below ((Below.refl _ _).alloc (Nat.le_refl _) _)) [4] _ _ _ (by exact Ints.new _ _ _ _ [4] rfl rfl (lt_maxLen _ (by decide)))).mono ?_
  rintro e w4 ⟨ya, yn, yc, ys, rfl, hys, hans, hb⟩
  have B4 := bstep1 B3 hb
  have hbeg4 := (hbeg3.below ((Below.refl _ _).alloc (Nat.le_refl _) _)).below hb
  have hY := (hans.1 k2.out).same knot_marks
  rw [hY] at hys
  rw [k2.out]
  clear hb B3 hbeg3 hk hans hY
  go_wp2_with fail
  refine (knot_any _).mono ?_
  rintro e w5 ⟨b5, _, rfl, hk, hb⟩
  have B5 := bstep B4 hb
  have hbeg5 := hbeg4.below hb
  have hys5 := hys.below hb
  clear hb B4 hbeg4 hys
  go_wp2_with fail
  refine (Needs_any knotD _ _ _ _ _ _ _ _ _ _ _ (by exact (knot_net hk).below ((Below.refl _ _).alloc (Nat.le_refl _) _)) [10] _ _ _ (by exact Ints.new _ _ _ _ [10] rfl rfl (lt_maxLen _ (by decide)))).mono ?_
  rintro e w6 ⟨za, zn, zc, zs, rfl, hzs, hans, hb⟩
  have B6 := bstep1 B5 hb
  have hbeg6 := (hbeg5.below ((Below.refl _ _).alloc (Nat.le_refl _) _)).below hb
  have hys6 := (hys5.below ((Below.refl _ _).alloc (Nat.le_refl _) _)).below hb
  rw [k3.out]
  clear hb B5 hbeg5 hys5 hk hans hzs
  go_wp2_with fail
  refine (knot_any _).mono ?_
  rintro e w7 ⟨b7, h67, rfl, hk, hb⟩
  have c7 : w7.cell? ⟨b7 + 8, 8, none⟩ = some (.slice (some ⟨b7 + 1, 0, none⟩) 1 1) := by rw [cell_of_row _ _ _ _ _ _ hk.g]; rfl
  have f7 : w7.frozen? ⟨b7 + 8, 8, none⟩ = false := frozen_of_row _ _ _ _ _ hk.g
  have l7 : b7 + 8 < w7.heap.size := by have := hk.lt; omega
  have s7 : (w7.setCell ⟨b7 + 8, 8, none⟩ (.slice none 0 0)).heap.size = w7.heap.size := by simp [World.setCell]
  have hx : Below w6.heap.size w6 ((w7.setCell ⟨b7 + 8, 8, none⟩ (.slice none 0 0)).alloc (.cells #[.int .i64 1, .slice (some ⟨b7 + 8, 0, none⟩) 10 10, .slice (some ⟨b7 + 9, 0, none⟩) 1 1, .slice (some ⟨b7 + 10, 0, none⟩) 2 2] 37)) := (hb.setCell (p := ⟨b7 + 8, 8, none⟩) (by show w6.heap.size ≤ b7 + 8; omega) _).alloc (by rw [s7]; exact hb.size) _
  have B8 := bstep B6 hx
  have hbeg8 := hbeg6.below hx
  have hys8 := hys6.below hx
  have hkx := hk.setX.below ((Below.refl _ _).alloc (Nat.le_refl _) (.cells #[.int .i64 1, .slice (some ⟨b7 + 8, 0, none⟩) 10 10, .slice (some ⟨b7 + 9, 0, none⟩) 1 1, .slice (some ⟨b7 + 10, 0, none⟩) 2 2] 37))
  have hbx : Boxed ((w7.setCell ⟨b7 + 8, 8, none⟩ (.slice none 0 0)).alloc (.cells #[.int .i64 1, .slice (some ⟨b7 + 8, 0, none⟩) 10 10, .slice (some ⟨b7 + 9, 0, none⟩) 1 1, .slice (some ⟨b7 + 10, 0, none⟩) 2 2] 37)) w7.heap.size 1 (some ⟨b7 + 8, 0, none⟩) 10 10 (some ⟨b7 + 9, 0, none⟩) 1 1 (some ⟨b7 + 10, 0, none⟩) 2 2 := by
    have := Boxed.new (w7.setCell ⟨b7 + 8, 8, none⟩ (.slice none 0 0)) 1 (some ⟨b7 + 8, 0, none⟩) (some ⟨b7 + 9, 0, none⟩) (some ⟨b7 + 10, 0, none⟩) 10 10 1 1 2 2 37
    rw [s7] at this; exact this
  have HS7 := s7
  clear hb B6 hbeg6 hys6 hx hk s7
  go_wp2_with fail
  clear c7 f7
  refine (knot_any _).mono ?_
  rintro e w9 ⟨b9, h89, rfl, hk, hb⟩
  have c9 : w9.cell? ⟨b9 + 9, 1, none⟩ = some (.int .i64 6) := by rw [cell_of_row _ _ _ _ _ _ hk.r]; rfl
  have f9 : w9.frozen? ⟨b9 + 9, 1, none⟩ = false := frozen_of_row _ _ _ _ _ hk.r
  have l9 : b9 + 9 < w9.heap.size := by have := hk.lt; omega
  have s9 : (w9.setCell ⟨b9 + 9, 1, none⟩ (.int .i64 10)).heap.size = w9.heap.size := by simp [World.setCell]
  have hx := (hb.setCell (p := ⟨b9 + 9, 1, none⟩) (by show _ ≤ b9 + 9; omega) (.int .i64 10)).alloc (by rw [s9]; exact hb.size) (.cells #[.int .i64 1, .slice (some ⟨b9 + 8, 0, none⟩) 10 10, .slice (some ⟨b9 + 9, 0, none⟩) 1 1, .slice (some ⟨b9 + 10, 0, none⟩) 2 2] 37)
  have B10 := bstep B8 hx
  have hbeg10 := hbeg8.below hx
  have hys10 := hys8.below hx
  have hkx10 := hkx.below hx
  have hbx10 := hbx.below hx
  have hky := hk.setY.below ((Below.refl _ _).alloc (Nat.le_refl _) (.cells #[.int .i64 1, .slice (some ⟨b9 + 8, 0, none⟩) 10 10, .slice (some ⟨b9 + 9, 0, none⟩) 1 1, .slice (some ⟨b9 + 10, 0, none⟩) 2 2] 37))
  have hby : Boxed ((w9.setCell ⟨b9 + 9, 1, none⟩ (.int .i64 10)).alloc (.cells #[.int .i64 1, .slice (some ⟨b9 + 8, 0, none⟩) 10 10, .slice (some ⟨b9 + 9, 0, none⟩) 1 1, .slice (some ⟨b9 + 10, 0, none⟩) 2 2] 37)) w9.heap.size 1 (some ⟨b9 + 8, 0, none⟩) 10 10 (some ⟨b9 + 9, 0, none⟩) 1 1 (some ⟨b9 + 10, 0, none⟩) 2 2 := by
    have := Boxed.new (w9.setCell ⟨b9 + 9, 1, none⟩ (.int .i64 10)) 1 (some ⟨b9 + 8, 0, none⟩) (some ⟨b9 + 9, 0, none⟩) (some ⟨b9 + 10, 0, none⟩) 10 10 1 1 2 2 37
    rw [s9] at this; exact this
  clear hb B8 hbeg8 hys8 hx hk s9 hkx hbx HS7 l7 h67
  go_wp2_with fail
  clear c9 f9
  refine (knot_any _).mono ?_
  rintro e w11 ⟨b11, _, rfl, hk, hb⟩
  have B11 := bstep B10 hb
  have hbeg11 := hbeg10.below hb
  have hys11 := hys10.below hb
  have hkx11 := hkx10.below hb
  have hbx11 := hbx10.below hb
  have hky11 := hky.below hb
  have hby11 := hby.below hb
  clear hb B10 hbeg10 hys10 hkx10 hbx10 hky hby l9 h89
  go_wp2_with fail
  refine (Check_any knotD _ _ _ _ _ _ _ _ _ _ _ (knot_net hk)).mono ?_
  rintro e w12 ⟨rfl, hb⟩
  rw [k0.out]
  have B12 := bstep B11 hb
  have hbeg12 := hbeg11.below hb
  have hys12 := hys11.below hb
  have hkx12 := hkx11.below hb
  have hbx12 := hbx11.below hb
  have hky12 := hky11.below hb
  have hby12 := hby11.below hb
  clear hb B11 hbeg11 hys11 hkx11 hbx11 hky11 hby11 hk
  go_wp2_with fail
  refine (Check_any emptyD _ _ _ _ _ _ _ _ _ _ _ (empty_net _)).mono ?_
  rintro e w13 ⟨rfl, hb⟩
  rw [k4.out]
  have B13 := bstep B12 hb
  have hbeg13 := hbeg12.below hb
  have hys13 := hys12.below hb
  have hkx13 := hkx12.below hb
  obtain ⟨x0, x1, x2, x3, x4⟩ := hbx12.below hb
  have hky13 := hky12.below hb
  have hby13 := hby12.below hb
  clear hb B12 hbeg12 hys12 hkx12 hbx12 hky12 hby12
  go_wp2_with fail
  refine (Check_any knotDX _ _ _ _ _ _ _ _ _ _ _ (knot_netX hkx13)).mono ?_
  rintro e w14 ⟨rfl, hb⟩
  rw [k5.out]
  have B14 := bstep B13 hb
  have hbeg14 := hbeg13.below hb
  have hys14 := hys13.below hb
  have hky14 := hky13.below hb
  clear x0 x1 x2 x3 x4
  obtain ⟨x0, x1, x2, x3, x4⟩ := hby13.below hb
  clear hb B13 hbeg13 hys13 hkx13 hky13 hby13
  go_wp2_with fail
  refine (Check_any knotDY _ _ _ _ _ _ _ _ _ _ _ (knot_netY hky14)).mono ?_
  rintro e w15 ⟨rfl, hb⟩
  rw [k6.out]
  have B15 := bstep B14 hb
  have hbeg15 := hbeg14.below hb
  have hys15 := hys14.below hb
  clear hb B14 hbeg14 hys14 hky14 x0 x1 x2 x3 x4
  go_wp2_with fail
  refine (SameInts_any [0] [0] _ _ _ _ _ _ _ (by exact hbeg15.below ((Below.refl _ _).alloc (Nat.le_refl _) _)) (by exact Ints.new _ _ _ _ [0] rfl rfl (lt_maxLen _ (by decide)))).mono ?_
  rintro e w16 ⟨rfl, hb⟩
  have B16 := bstep1 B15 hb
  have hys16 := (hys15.below ((Below.refl _ _).alloc (Nat.le_refl _) _)).below hb
  clear hb B15 hbeg15 hys15
  rw [show decide (([0] : List Int) = [0]) = true from rfl]
  go_wp2_with fail
  refine (SameBools_any knotY4 knotY4 _ _ _ _ _ _ _ (by exact hys16.below ((Below.refl _ _).alloc (Nat.le_refl _) _)) (by exact Bools.new' _ _ _ _ _ knotY4 rfl rfl rfl (lt_maxLen _ (by decide)))).mono ?_
  rintro e w17 ⟨rfl, hb⟩
  have B17 := bstep1 B16 hb
  rw [show decide (knotY4 = knotY4) = true from rfl]
  clear hb B16 hys16
  go_wp2_with fail
  go_ret
  exact ⟨rfl, B17⟩
end Go.Proofs.Ytongajonecgdpaa
