/- The statements' own look at forge (forgeBegun): true, whatever the memory; ForgeSame. -/
import Derived.Test.YtongajonecgdpafSmithI
import Derived.Test.YtongajonecgdpafProgL
import Derived.Test.YtongajonecgdpafTickB
import Derived.Test.YtongajonecgdpafNetE
import Derived.Test.YtongajonecgdpafForgeM
import Derived.Test.YtongajonecgdpafProgP
namespace Go.Proofs.Ytongajonecgdpaf
open Go.RowKit

theorem lit_rows4 (w : World) : Rows (allocs w [.cells #[.int .i64 0, .int .i64 0, .int .i64 0] 3, .cells #[.int .i64 1, .int .i64 1, .int .i64 0] 3, .cells #[.int .i64 0, .int .i64 0, .int .i64 1] 3, .cells #[.int .i64 0, .int .i64 0, .int .i64 0] 3, .cells #[.slice (some ⟨w.heap.size, 0, none⟩) 3 3, .slice (some ⟨w.heap.size + 1, 0, none⟩) 3 3, .slice (some ⟨w.heap.size + 1 + 1, 0, none⟩) 3 3, .slice (some ⟨w.heap.size + 1 + 1 + 1, 0, none⟩) 3 3] 35]) (some ⟨w.heap.size + 1 + 1 + 1 + 1, 0, none⟩) 4 [[0, 0, 0], [1, 1, 0], [0, 0, 1], [0, 0, 0]] := by
  have hm : ∀ n : Nat, n ≤ 100 → n ≤ maxLen := lt_maxLen
  have a0 := allocs_at [.cells #[.int .i64 0, .int .i64 0, .int .i64 0] 3, .cells #[.int .i64 1, .int .i64 1, .int .i64 0] 3, .cells #[.int .i64 0, .int .i64 0, .int .i64 1] 3, .cells #[.int .i64 0, .int .i64 0, .int .i64 0] 3, .cells #[.slice (some ⟨w.heap.size, 0, none⟩) 3 3, .slice (some ⟨w.heap.size + 1, 0, none⟩) 3 3, .slice (some ⟨w.heap.size + 1 + 1, 0, none⟩) 3 3, .slice (some ⟨w.heap.size + 1 + 1 + 1, 0, none⟩) 3 3] 35] w 0 (by simp)
  have a1 := allocs_at [.cells #[.int .i64 0, .int .i64 0, .int .i64 0] 3, .cells #[.int .i64 1, .int .i64 1, .int .i64 0] 3, .cells #[.int .i64 0, .int .i64 0, .int .i64 1] 3, .cells #[.int .i64 0, .int .i64 0, .int .i64 0] 3, .cells #[.slice (some ⟨w.heap.size, 0, none⟩) 3 3, .slice (some ⟨w.heap.size + 1, 0, none⟩) 3 3, .slice (some ⟨w.heap.size + 1 + 1, 0, none⟩) 3 3, .slice (some ⟨w.heap.size + 1 + 1 + 1, 0, none⟩) 3 3] 35] w 1 (by simp)
  have a2 := allocs_at [.cells #[.int .i64 0, .int .i64 0, .int .i64 0] 3, .cells #[.int .i64 1, .int .i64 1, .int .i64 0] 3, .cells #[.int .i64 0, .int .i64 0, .int .i64 1] 3, .cells #[.int .i64 0, .int .i64 0, .int .i64 0] 3, .cells #[.slice (some ⟨w.heap.size, 0, none⟩) 3 3, .slice (some ⟨w.heap.size + 1, 0, none⟩) 3 3, .slice (some ⟨w.heap.size + 1 + 1, 0, none⟩) 3 3, .slice (some ⟨w.heap.size + 1 + 1 + 1, 0, none⟩) 3 3] 35] w 2 (by simp)
  have a3 := allocs_at [.cells #[.int .i64 0, .int .i64 0, .int .i64 0] 3, .cells #[.int .i64 1, .int .i64 1, .int .i64 0] 3, .cells #[.int .i64 0, .int .i64 0, .int .i64 1] 3, .cells #[.int .i64 0, .int .i64 0, .int .i64 0] 3, .cells #[.slice (some ⟨w.heap.size, 0, none⟩) 3 3, .slice (some ⟨w.heap.size + 1, 0, none⟩) 3 3, .slice (some ⟨w.heap.size + 1 + 1, 0, none⟩) 3 3, .slice (some ⟨w.heap.size + 1 + 1 + 1, 0, none⟩) 3 3] 35] w 3 (by simp)
  have a4 := allocs_at [.cells #[.int .i64 0, .int .i64 0, .int .i64 0] 3, .cells #[.int .i64 1, .int .i64 1, .int .i64 0] 3, .cells #[.int .i64 0, .int .i64 0, .int .i64 1] 3, .cells #[.int .i64 0, .int .i64 0, .int .i64 0] 3, .cells #[.slice (some ⟨w.heap.size, 0, none⟩) 3 3, .slice (some ⟨w.heap.size + 1, 0, none⟩) 3 3, .slice (some ⟨w.heap.size + 1 + 1, 0, none⟩) 3 3, .slice (some ⟨w.heap.size + 1 + 1 + 1, 0, none⟩) 3 3] 35] w 4 (by simp)
  generalize allocs w [.cells #[.int .i64 0, .int .i64 0, .int .i64 0] 3, .cells #[.int .i64 1, .int .i64 1, .int .i64 0] 3, .cells #[.int .i64 0, .int .i64 0, .int .i64 1] 3, .cells #[.int .i64 0, .int .i64 0, .int .i64 0] 3, .cells #[.slice (some ⟨w.heap.size, 0, none⟩) 3 3, .slice (some ⟨w.heap.size + 1, 0, none⟩) 3 3, .slice (some ⟨w.heap.size + 1 + 1, 0, none⟩) 3 3, .slice (some ⟨w.heap.size + 1 + 1 + 1, 0, none⟩) 3 3] 35] = W at a0 a1 a2 a3 a4 ⊢
  generalize w.heap.size = b at a0 a1 a2 a3 a4 ⊢
  have i0 : Ints W (some ⟨b, 0, none⟩) 3 [0, 0, 0] := ints_heap [0, 0, 0] a0 rfl (hm _ (by decide))
  have i1 : Ints W (some ⟨b + 1, 0, none⟩) 3 [1, 1, 0] := ints_heap [1, 1, 0] a1 rfl (hm _ (by decide))
  have i2 : Ints W (some ⟨b + 1 + 1, 0, none⟩) 3 [0, 0, 1] := ints_heap [0, 0, 1] a2 rfl (hm _ (by decide))
  have i3 : Ints W (some ⟨b + 1 + 1 + 1, 0, none⟩) 3 [0, 0, 0] := ints_heap [0, 0, 0] a3 rfl (hm _ (by decide))
  have hl : b + 1 + 1 + 1 + 1 < W.heap.size := (Array.getElem?_eq_some_iff.1 a4).1
  refine ⟨rfl, hm _ (by decide), Or.inr ⟨b + 1 + 1 + 1 + 1, 0, rfl, hl, fun i hi => ?_⟩⟩
  have hi' : i < 4 := hi
  match i, hi' with
  | 0, _ => exact ⟨_, _, _, by rw [cell_of_row _ _ _ _ _ _ a4]; rfl, i0⟩
  | 1, _ => exact ⟨_, _, _, by rw [cell_of_row _ _ _ _ _ _ a4]; rfl, i1⟩
  | 2, _ => exact ⟨_, _, _, by rw [cell_of_row _ _ _ _ _ _ a4]; rfl, i2⟩
  | 3, _ => exact ⟨_, _, _, by rw [cell_of_row _ _ _ _ _ _ a4]; rfl, i3⟩
theorem play_run : playE playD [0, 1, 0, 7] = 0 ∧ playRows playD [0, 1, 0, 7] = [[0, 0, 0], [1, 1, 0], [0, 0, 1], [0, 0, 0]] := by decide +kernel
theorem play_8 : playE playD [8] = 3 := by decide +kernel
theorem play_size : waitN playD = 4 ∧ sizeN playD = 13 := by decide +kernel
theorem forge_outs (p : List NodeD) : (forgeD p).outs.length = 3 := rfl

set_option maxRecDepth 100000 in
set_option maxHeartbeats 8000000 in
theorem forgeBegun_any (w : World) :
    Calls Try.prog 20 #[] w fun e w' => e = .returned (.bool true) ∧ Below w.heap.size w w' := by
  have hok := pok_of play_check
  have HRUN := hide (forge_run hok [0, 1, 0, 7])
  go_enter Try.func20, Try.ntmps20
  go_wp2_with fail
  refine (play_any _).mono ?_
  rintro e w1 ⟨g1, rfl, hc1, _, hb⟩
  have B1 := hb
  clear hb
  go_wp2_with fail
  refine (FNet_any playD _ _ _ _ (hc1.nodes rfl (by decide)) (by decide)).mono ?_
  rintro e w2 ⟨i, ga, gn, gc, ra, rn, rc, oa, on, oc, rfl, hA, hb⟩
  have B2 := bstep B1 hb
  have hA2 := hA play_check
  rw [play_check]
  have hi3 : i = 3 := hA2.ins
  have hon : on = 3 := by rw [hA2.outs.1]; exact forge_outs playD
  subst hi3
  subst hon
  have hal := (Below.refl w2.heap.size w2).alloc (Nat.le_refl _) (.cells #[.int .i64 3, .slice ga gn gc, .slice ra rn rc, .slice oa 3 oc] 48)
  have hbox : Boxed (w2.alloc (.cells #[.int .i64 3, .slice ga gn gc, .slice ra rn rc, .slice oa 3 oc] 48)) w2.heap.size 3 ga gn gc ra rn rc oa 3 oc := Boxed.new _ _ _ _ _ _ _ _ _ _ _ _
  have hA3 := hA2.below hal
  have B3 := bstep B2 hal
  clear hA hA2 hb B1 B2 hc1 hal
  go_upto_region 2 with fail
  generalize hw3 : w2.alloc (.cells #[.int .i64 3, .slice ga gn gc, .slice ra rn rc, .slice oa 3 oc] 48) = w3 at *
  clear hw3
  go_wp2_with fail
  refine (play_any _).mono ?_
  rintro e w4 ⟨g4, rfl, hc4, _, hb⟩
  have B4 := bstep B3 hb
  have hA4 := hA3.below hb
  have hx4 := hbox.below hb
  clear hb B3 hA3 hbox
  go_wp2_with fail
  refine (FRun_any playD _ _ _ [0, 1, 0, 7] _ _ _ _ ((hc4.below ((Below.refl _ _).alloc (Nat.le_refl _) _) hc4.lt).nodes rfl (by decide)) (by decide) (Ints.new _ _ _ _ [0, 1, 0, 7] rfl rfl (lt_maxLen _ (by decide)))).mono ?_
  rintro e w5 ⟨a5, n5, c5, rfl, hL5, hb⟩
  have B5 := bstep1 B4 hb
  have hA5 := (hA4.below ((Below.refl _ _).alloc (Nat.le_refl _) _)).below hb
  have hx5 := (hx4.below ((Below.refl _ _).alloc (Nat.le_refl _) _)).below hb
  rw [play_run.2] at hL5
  rw [play_run.1]
  clear hb B4 hA4 hx4 hc4
  have hx5' := hx5
  obtain ⟨x0, x1, x2, x3, x4⟩ := hx5'
  go_wp2_with fail
  refine (Run_any (forgeD playD) _ _ _ _ _ _ _ _ _ _ _ (hA5.below ((Below.refl _ _).alloc (Nat.le_refl _) _)) [0, 1, 0, 7] _ _ _ (Ints.new _ _ _ _ [0, 1, 0, 7] rfl rfl (lt_maxLen _ (by decide)))).mono ?_
  rintro e w6 ⟨a6, n6, c6, b6, m6, k6, rfl, hM6, _, _, hb⟩
  have B6 := bstep1 B5 hb
  have hA6 := (hA5.below ((Below.refl _ _).alloc (Nat.le_refl _) _)).below hb
  have hx6 := (hx5.below ((Below.refl _ _).alloc (Nat.le_refl _) _)).below hb
  have hL6 := (hL5.below ((Below.refl _ _).alloc (Nat.le_refl _) _)).below hb
  rw [(unhide HRUN).2, play_run.2] at hM6
  rw [(unhide HRUN).1, play_run.1]
  clear hb B5 hA5 hx5 hL5 x0 x1 x2 x3 x4
  go_wp2_with fail
  refine (play_any _).mono ?_
  rintro e w7 ⟨g7, rfl, hc7, _, hb⟩
  have B7 := bstep B6 hb
  have hA7 := hA6.below hb
  have hx7 := hx6.below hb
  have hL7 := hL6.below hb
  have hM7 := hM6.below hb
  clear hb B6 hA6 hx6 hL6 hM6
  go_wp2_with fail
  refine (FSize_any playD _ _ _ _ (hc7.nodes rfl (by decide))).mono ?_
  rintro e w8 ⟨rfl, hb⟩
  rw [play_size.1, play_size.2, play_check]
  have B8 := bstep B7 hb
  have hA8 := hA7.below hb
  have hx8 := hx7.below hb
  have hL8 := hL7.below hb
  have hM8 := hM7.below hb
  clear hb B7 hA7 hx7 hL7 hM7 hc7
  go_wp2_with fail
  refine (play_any _).mono ?_
  rintro e w9 ⟨g9, rfl, hc9, _, hb⟩
  have B9 := bstep B8 hb
  have hA9 := hA8.below hb
  have hx9 := hx8.below hb
  have hL9 := hL8.below hb
  have hM9 := hM8.below hb
  clear hb B8 hA8 hx8 hL8 hM8
  go_wp2_with fail
  refine (FRun_any playD _ _ _ [8] _ _ _ _ ((hc9.below ((Below.refl _ _).alloc (Nat.le_refl _) _) hc9.lt).nodes rfl (by decide)) (by decide) (Ints.new _ _ _ _ [8] rfl rfl (lt_maxLen _ (by decide)))).mono ?_
  rintro e w10 ⟨aT, nT, cT, rfl, _, hb⟩
  rw [play_8]
  have B10 := bstep1 B9 hb
  have hA10 := (hA9.below ((Below.refl _ _).alloc (Nat.le_refl _) _)).below hb
  have hx10 := (hx9.below ((Below.refl _ _).alloc (Nat.le_refl _) _)).below hb
  have hL10 := (hL9.below ((Below.refl _ _).alloc (Nat.le_refl _) _)).below hb
  have hM10 := (hM9.below ((Below.refl _ _).alloc (Nat.le_refl _) _)).below hb
  clear hb B9 hA9 hx9 hL9 hM9 hc9
  have hx10' := hx10
  obtain ⟨x0, x1, x2, x3, x4⟩ := hx10'
  go_wp2_with fail
  refine (Check_any (forgeD playD) _ _ _ _ _ _ _ _ _ _ _ hA10).mono ?_
  rintro e w11 ⟨rfl, hb⟩
  rw [forge_check hok]
  have B11 := bstep B10 hb
  have hx11 := hx10.below hb
  have hL11 := hL10.below hb
  have hM11 := hM10.below hb
  clear hb B10 hA10 hx10 hL10 hM10 x0 x1 x2 x3 x4
  obtain ⟨x0, x1, x2, x3, x4⟩ := hx11
  go_wp2_with fail
  refine (SameRows_any _ _ _ _ _ _ _ _ _ (by exact ((((hL11.below ((Below.refl _ _).alloc (Nat.le_refl _) _)).below ((Below.refl _ _).alloc (Nat.le_refl _) _)).below ((Below.refl _ _).alloc (Nat.le_refl _) _)).below ((Below.refl _ _).alloc (Nat.le_refl _) _)).below ((Below.refl _ _).alloc (Nat.le_refl _) _)) (by exact lit_rows4 w11)).mono ?_
  rintro e w12 ⟨rfl, hb⟩
  rw [decide_eq_true rfl]
  have B12 : Below w.heap.size w w12 := bstep (bstep (bstep (bstep (bstep (bstep B11 ((Below.refl _ _).alloc (Nat.le_refl _) _)) ((Below.refl _ _).alloc (Nat.le_refl _) _)) ((Below.refl _ _).alloc (Nat.le_refl _) _)) ((Below.refl _ _).alloc (Nat.le_refl _) _)) ((Below.refl _ _).alloc (Nat.le_refl _) _)) hb
  have hL12 := (((((hL11.below ((Below.refl _ _).alloc (Nat.le_refl _) _)).below ((Below.refl _ _).alloc (Nat.le_refl _) _)).below ((Below.refl _ _).alloc (Nat.le_refl _) _)).below ((Below.refl _ _).alloc (Nat.le_refl _) _)).below ((Below.refl _ _).alloc (Nat.le_refl _) _)).below hb
  have hM12 := (((((hM11.below ((Below.refl _ _).alloc (Nat.le_refl _) _)).below ((Below.refl _ _).alloc (Nat.le_refl _) _)).below ((Below.refl _ _).alloc (Nat.le_refl _) _)).below ((Below.refl _ _).alloc (Nat.le_refl _) _)).below ((Below.refl _ _).alloc (Nat.le_refl _) _)).below hb
  clear hb B11 hL11 hM11
  go_wp2_with fail
  refine (SameRows_any _ _ _ _ _ _ _ _ _ hL12 hM12).mono ?_
  rintro e w13 ⟨rfl, hb⟩
  rw [decide_eq_true rfl]
  have B13 := bstep B12 hb
  clear hb B12 hL12 hM12
  go_wp2_with fail
  go_ret
  exact ⟨rfl, B13⟩

set_option maxRecDepth 100000 in
set_option maxHeartbeats 8000000 in
theorem ForgeSame_any (p : List NodeD) (pa : Option Addr) (pn pc : Nat) (l : List Int) (la : Option Addr) (ln lc : Nat) (w : World) (hN : Nodes w pa pn p) (hc : pn ≤ pc) (hl : Ints w la ln l) :
    Calls Try.prog 6 #[.slice pa pn pc, .slice la ln lc] w fun e w' => e = .returned (.bool true) ∧ Below w.heap.size w w' := by
  go_enter Try.func6, Try.ntmps6
  go_wp2_with fail
  refine (FNet_any p pa pn pc w hN hc).mono ?_
  rintro e w1 ⟨i, ga, gn, gc, ra, rn, rc, oa, on, oc, rfl, hA, B1⟩
  have hN1 := hN.below B1
  have hl1 := hl.below B1
  clear hN hl
  have hal := (Below.refl w1.heap.size w1).alloc (Nat.le_refl _) (.cells #[.int .i64 i, .slice ga gn gc, .slice ra rn rc, .slice oa on oc] 48)
  have hbox : Boxed (w1.alloc (.cells #[.int .i64 i, .slice ga gn gc, .slice ra rn rc, .slice oa on oc] 48)) w1.heap.size i ga gn gc ra rn rc oa on oc := Boxed.new _ _ _ _ _ _ _ _ _ _ _ _
  have B2 := bstep B1 hal
  have hN2 := hN1.below hal
  have hl2 := hl1.below hal
  have hA2 := fun h => (hA h).below hal
  clear hal hA B1 hN1 hl1
  go_upto_region 2 with fail
  generalize hw2 : w1.alloc (.cells #[.int .i64 i, .slice ga gn gc, .slice ra rn rc, .slice oa on oc] 48) = w2 at *
  generalize w1.heap.size = nb at *
  clear hw2
  by_cases he : checkP p = 0
  · have hok := pok_of he
    have hA3 := hA2 he
    have HRUN := hide (forge_run hok l)
    have HCK := hide he
    have HNC := hide (forge_check hok)
    rw [he]
    clear hA2 he hok
    generalize hck : checkP p = ck at *
    have hbox' := hbox
    obtain ⟨x0, x1, x2, x3, x4⟩ := hbox'
    go_wp2_with fail
    clear x0 x1 x2 x3 x4
    refine (FRun_any p pa pn pc l la ln lc w2 hN2 hc hl2).mono ?_
    rintro e w5 ⟨a5, n5, c5, rfl, hL5, hb⟩
    have B5 := bstep B2 hb
    have hA5 := hA3.below hb
    have hx5 := hbox.below hb
    have hN5 := hN2.below hb
    have hl5 := hl2.below hb
    clear hb B2 hA3 hbox hN2 hl2
    have hx5' := hx5
    obtain ⟨x0, x1, x2, x3, x4⟩ := hx5'
    go_wp2_with fail
    clear x0 x1 x2 x3 x4
    refine (Run_any (forgeD p) _ _ _ _ _ _ _ _ _ _ _ hA5 l _ _ _ hl5).mono ?_
    rintro e w6 ⟨a6, n6, c6, b6, m6, k6, rfl, hM6, _, _, hb⟩
    have B6 := bstep B5 hb
    have hA6 := hA5.below hb
    have hx6 := hx5.below hb
    have hL6 := hL5.below hb
    have hN6 := hN5.below hb
    rw [(unhide HRUN).2] at hM6
    rw [(unhide HRUN).1]
    clear hb B5 hA5 hx5 hL5 hN5 hl5
    generalize playE p l = E
    generalize playRows p l = X at hL6 hM6
    go_wp2_with fail
    refine (forgeBegun_any _).mono ?_
    rintro e w7 ⟨rfl, hb⟩
    have B7 := bstep B6 hb
    have hA7 := hA6.below hb
    have hx7 := hx6.below hb
    have hL7 := hL6.below hb
    have hM7 := hM6.below hb
    have hN7 := hN6.below hb
    clear hb B6 hA6 hx6 hL6 hM6 hN6
    go_wp2_with fail
    refine (PCheck_any p _ _ _ _ hN7).mono ?_
    rintro e w8 ⟨rfl, hb⟩
    rw [hck, unhide HCK]
    have B8 := bstep B7 hb
    have hA8 := hA7.below hb
    have hx8 := hx7.below hb
    have hL8 := hL7.below hb
    have hM8 := hM7.below hb
    clear hb B7 hA7 hx7 hL7 hM7 hN7
    obtain ⟨x0, x1, x2, x3, x4⟩ := hx8
    go_wp2_with fail
    clear x0 x1 x2 x3 x4
    refine (Check_any (forgeD p) _ _ _ _ _ _ _ _ _ _ _ hA8).mono ?_
    rintro e w9 ⟨rfl, hb⟩
    rw [unhide HNC]
    have B9 := bstep B8 hb
    have hL9 := hL8.below hb
    have hM9 := hM8.below hb
    clear hb B8 hA8 hL8 hM8
    go_wp2_with fail
    refine (SameRows_any _ _ _ _ _ _ _ _ _ hL9 hM9).mono ?_
    rintro e w10 ⟨rfl, hb⟩
    have B10 := bstep B9 hb
    rw [show decide (X = X) = true from decide_eq_true rfl]
    clear hb B9 hL9 hM9
    go_wp2_with fail
    go_ret
    exact ⟨rfl, B10⟩
  · clear hA2
    generalize hck : checkP p = ck at *
    have hq : (ck == 0) = false := by simp [he]
    have HE := hide he
    clear he
    go_wp2_with fail
    refine (forgeBegun_any _).mono ?_
    rintro e w3 ⟨rfl, hb⟩
    have B3 := bstep B2 hb
    have hN3 := hN2.below hb
    clear B2 hN2 hb
    go_wp2_with fail
    refine (PCheck_any p _ _ _ _ hN3).mono ?_
    rintro e w4 ⟨rfl, hb⟩
    rw [hck]
    have B4 := bstep B3 hb
    go_wp2_with fail
    go_ret
    exact ⟨rfl, B4⟩
end Go.Proofs.Ytongajonecgdpaf
