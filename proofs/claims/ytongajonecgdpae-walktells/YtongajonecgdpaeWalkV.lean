/- The walk of WalkTells. -/
import Derived.Test.YtongajonecgdpaeWalkL
namespace Go.Proofs.Ytongajonecgdpae
open Go.RowKit

set_option maxRecDepth 100000 in
set_option maxHeartbeats 4000000 in
theorem WalkTells_any (p : List NodeD) (a : Option Addr) (n c : Nat) (r : RestD) (f : Bool) (wa oa : Option Addr) (wn wc on oc : Nat) (w : World) (h : Nodes w a n p) (hr : RestAt w r f wa wn oa on) :
    Calls Try.prog 8 #[.slice a n c, .agg #[.bool f, .slice wa wn wc, .slice oa on oc]] w fun e w' => e = .returned (.bool true) ∧ Below w.heap.size w w' := by
  have hb0 : Below w.heap.size w (w.alloc (.cells #[.bool f, .slice wa wn wc, .slice oa on oc] 55)) := (Below.refl _ _).alloc (Nat.le_refl _) _
  have rB0 := RBox.new w f wa wn wc oa on oc 55
  have hP := h.below hb0
  have hR := hr.below hb0
  have HN := hide h.1
  obtain ⟨re, hre⟩ : ∃ re, restE p r = re := ⟨_, rfl⟩
  have HRE := hide hre
  clear h hr hre
  go_enter Try.func8, Try.ntmps8
  go_wp2_with fail
  generalize w.alloc (.cells #[.bool f, .slice wa wn wc, .slice oa on oc] 55) = w1 at *
  refine (WBegin_any p _ _ _ _ hP).mono ?_
  rintro e w2 ⟨bF, bwa, bwn, bwc, boa, bon, boc, he, hbR, _, hb2⟩
  obtain ⟨ck, hck⟩ : ∃ ck, checkP p = ck := ⟨_, rfl⟩
  rw [hck] at he
  have HCK := hide hck
  subst he
  clear hck
  have hb3 := (Below.refl _ w2).alloc (Nat.le_refl _) (.cells #[.bool bF, .slice bwa bwn bwc, .slice boa bon boc] 55)
  have bB3 := RBox.new w2 bF bwa bwn bwc boa bon boc 55
  have hb23 := bstep hb2 hb3
  have rB3 := rB0.below hb23
  have hP3 := hP.below hb23
  have hR3 := hR.below hb23
  have hb3R := hbR.below hb3
  have B3 := bstep hb0 hb23
  clear hb2 hb3 hb23 rB0 hP hR hbR hb0
  go_wp2_with fail
  generalize w2.alloc (.cells #[.bool bF, .slice bwa bwn bwc, .slice boa bon boc] 55) = w3 at *
  generalize w2.heap.size = bg at *
  refine (CheckProg_any p _ _ _ _ hP3).mono ?_
  rintro e w' ⟨rfl, rfl⟩
  rw [unhide HCK]
  rename World => w3
  have hb4 := (Below.refl _ w3).alloc (Nat.le_refl _) (.cells #[.bool false, .slice none 0 0, .slice none 0 0] 55)
  have cQ4 := Cells.new w3 [.bool false, .slice none 0 0, .slice none 0 0] 55
  have B4 := bstep B3 hb4
  by_cases e0 : ck = 0
  · subst e0
    have hn14 : n ≤ 14 := by have := (pok_of (unhide HCK)).few; have := unhide HN; omega
    have HBR := hide (show beginR p = ⟨true, falsesL n, falsesL 3⟩ by unfold beginR; rw [if_pos (unhide HCK), ← unhide HN])
    go_wp2_with fail
    generalize hw4 : w3.alloc (.cells #[.bool false, .slice none 0 0, .slice none 0 0] 55) = w4 at *
    clear hw4
    refine (FreshOf_any a n c _ hn14).mono ?_
    rintro e w5 ⟨gW, gO, rfl, hne, hgW, hgO, hrW, hrO, hb5⟩
    have cQ5 := cQ4.onB hb5
    have lq := cQ4.lt
    have z0 := cQ5.cell 0
    have z1 := cQ5.cell 1
    have z2 := cQ5.cell 2
    have f0 := cQ5.frozen 0
    have f1 := cQ5.frozen 1
    have f2 := cQ5.frozen 2
    have hb45 : Below w3.heap.size w3 w5 := bstep hb4 hb5
    have hb46 := below3 hb45 (Nat.le_refl w3.heap.size) (.bool true) (.slice (some ⟨gW, 0, none⟩) n n) (.slice (some ⟨gO, 0, none⟩) 3 3)
    have qB := RBox.of (cells3 cQ5 (.bool true) (.slice (some ⟨gW, 0, none⟩) n n) (.slice (some ⟨gO, 0, none⟩) 3 3))
    have hnW : gW ≠ w3.heap.size := by omega
    have hnO : gO ≠ w3.heap.size := by omega
    have rW9 := ((hrW.far (k := 0) (v := .bool true) hnW).far (k := 1) (v := .slice (some ⟨gW, 0, none⟩) n n) hnW).far (k := 2) (v := .slice (some ⟨gO, 0, none⟩) 3 3) hnW
    have rO9 := ((hrO.far (k := 0) (v := .bool true) hnO).far (k := 1) (v := .slice (some ⟨gW, 0, none⟩) n n) hnO).far (k := 2) (v := .slice (some ⟨gO, 0, none⟩) 3 3) hnO
    go_upto_region 6 with fail
    generalize ((w5.setCell ⟨w3.heap.size, 0, none⟩ (.bool true)).setCell ⟨w3.heap.size, 1, none⟩ (.slice (some ⟨gW, 0, none⟩) n n)).setCell ⟨w3.heap.size, 2, none⟩ (.slice (some ⟨gO, 0, none⟩) 3 3) = w6 at *
    have hq6 : RestAt w6 (beginR p) true (some ⟨gW, 0, none⟩) n (some ⟨gO, 0, none⟩) 3 := by rw [unhide HBR]; exact ⟨rfl, rW9.boolsN (by simp [falsesL]) hn14, rO9.boolsN (by simp [falsesL]) (by omega)⟩
    have rB := rB3.below hb46
    have bB := bB3.below hb46
    have hN6 := hP3.below hb46
    have hR6 := hR3.below hb46
    have hb6 := hb3R.below hb46
    have B6 := bstep B3 hb46
    clear hrW hrO rW9 rO9 cQ5 cQ4 z0 z1 z2 f0 f1 f2 hb45 hb46 hb4 hb5 B4 rB3 bB3 hP3 hR3 hb3R B3
    generalize w3.heap.size = qg at *
    have HS : ∀ W : World, Below w6.heap.size w6 W → Below w6.heap.size w6 W ∧ W.cell? ⟨w.heap.size, 0, none⟩ = some (.bool f) ∧ W.cell? ⟨w.heap.size, 1, none⟩ = some (.slice wa wn wc) ∧ W.cell? ⟨w.heap.size, 2, none⟩ = some (.slice oa on oc) ∧ W.cell? ⟨bg, 0, none⟩ = some (.bool bF) ∧ W.cell? ⟨bg, 1, none⟩ = some (.slice bwa bwn bwc) ∧ W.cell? ⟨bg, 2, none⟩ = some (.slice boa bon boc) ∧ W.cell? ⟨qg, 0, none⟩ = some (.bool true) ∧ W.cell? ⟨qg, 1, none⟩ = some (.slice (some ⟨gW, 0, none⟩) n n) ∧ W.cell? ⟨qg, 2, none⟩ = some (.slice (some ⟨gO, 0, none⟩) 3 3) := fun W hW => ⟨hW, (rB.below hW).2.1, (rB.below hW).2.2.1, (rB.below hW).2.2.2, (bB.below hW).2.1, (bB.below hW).2.2.1, (bB.below hW).2.2.2, (qB.below hW).2.1, (qB.below hW).2.2.1, (qB.below hW).2.2.2⟩
    have hb00 := Below.refl w6.heap.size w6
    have hB := (Below.refl w6.heap.size w6).drew
    have l1 := rB.1
    have l2 := bB.1
    have l3 := qB.1
    have C1 : ∀ W : World, Below w6.heap.size w6 W → Calls Try.prog 28 #[.slice a n c, .agg #[.bool f, .slice wa wn wc, .slice oa on oc]] W fun e w' => e = .returned (.int .i64 re) ∧ Below W.heap.size W w' := fun W hW => by
      have := WCheck_any p a n c r f wa oa wn wc on oc W (hN6.below hW) (hR6.below hW)
      rwa [unhide HRE] at this
    have C2 : ∀ W : World, Below w6.heap.size w6 W → Calls Try.prog 29 #[.slice a n c, .agg #[.bool f, .slice wa wn wc, .slice oa on oc]] W fun e w' => e = .returned (.int .i64 re) ∧ Below W.heap.size W w' := fun W hW => by
      have := CheckRest_any p a n c r f wa oa wn wc on oc W (hN6.below hW) (hR6.below hW)
      rwa [unhide HRE] at this
    have C3 : ∀ W : World, Below w6.heap.size w6 W → Calls Try.prog 30 #[.agg #[.bool bF, .slice bwa bwn bwc, .slice boa bon boc], .agg #[.bool true, .slice (some ⟨gW, 0, none⟩) n n, .slice (some ⟨gO, 0, none⟩) 3 3]] W fun e w' => e = .returned (.bool true) ∧ Below W.heap.size W w' := fun W hW => by
      have := SameRests_any (beginR p) (beginR p) bF true bwa boa (some ⟨gW, 0, none⟩) (some ⟨gO, 0, none⟩) bwn bwc bon boc n n 3 3 W (hb6.below hW) (hq6.below hW)
      simpa using this
    clear hN6 hR6 hb6 hq6 rB bB qB
    go_wp2_with fail
    go_region_held3 (fun W => Below w6.heap.size w6 W ∧ W.cell? ⟨w.heap.size, 0, none⟩ = some (.bool f) ∧ W.cell? ⟨w.heap.size, 1, none⟩ = some (.slice wa wn wc) ∧ W.cell? ⟨w.heap.size, 2, none⟩ = some (.slice oa on oc) ∧ W.cell? ⟨bg, 0, none⟩ = some (.bool bF) ∧ W.cell? ⟨bg, 1, none⟩ = some (.slice bwa bwn bwc) ∧ W.cell? ⟨bg, 2, none⟩ = some (.slice boa bon boc) ∧ W.cell? ⟨qg, 0, none⟩ = some (.bool true) ∧ W.cell? ⟨qg, 1, none⟩ = some (.slice (some ⟨gW, 0, none⟩) n n) ∧ W.cell? ⟨qg, 2, none⟩ = some (.slice (some ⟨gO, 0, none⟩) 3 3))
      ((first | with_reducible exact HS _ hb00 | with_reducible exact HS _ hB))
      ((first
        | (go_at_call 27
           refine (walkBegun_any _).mono ?_
           rintro e wA ⟨rfl, bA⟩
           have hB := bstep hB bA)
        | (go_at_call 28
           refine (C1 _ hB).mono ?_
           rintro e wA ⟨rfl, bA⟩
           have hB := bstep hB bA)
        | (go_at_call 29
           refine (C2 _ hB).mono ?_
           rintro e wA ⟨rfl, bA⟩
           have hB := bstep hB bA)
        | (go_at_call 30
           refine (C3 _ hB).mono ?_
           rintro e wA ⟨rfl, bA⟩
           have hB := bstep hB bA)))
    all_goals go_wp2_with fail
    all_goals go_ret
    all_goals exact ⟨rfl, bstep B6 hB⟩

  · have hq : (ck == 0) = false := by simp [e0]
    have HBR := hide (show beginR p = ⟨false, [], []⟩ by unfold beginR; rw [if_neg (by rw [unhide HCK]; exact e0)])
    clear e0
    have qB := RBox.of cQ4
    have rB := rB3.below hb4
    have bB := bB3.below hb4
    have hN6 := hP3.below hb4
    have hR6 := hR3.below hb4
    have hb6 := hb3R.below hb4
    have B6 := B4
    go_upto_region 6 with fail
    generalize hw4 : w3.alloc (.cells #[.bool false, .slice none 0 0, .slice none 0 0] 55) = w6 at *
    have hq6 : RestAt w6 (beginR p) false none 0 none 0 := by rw [unhide HBR]; exact ⟨rfl, ⟨rfl, Nat.zero_le _, Or.inl rfl⟩, ⟨rfl, Nat.zero_le _, Or.inl rfl⟩⟩
    clear hw4 cQ4 hb4 B4 rB3 bB3 hP3 hR3 hb3R B3
    generalize w3.heap.size = qg at *
    have HS : ∀ W : World, Below w6.heap.size w6 W → Below w6.heap.size w6 W ∧ W.cell? ⟨w.heap.size, 0, none⟩ = some (.bool f) ∧ W.cell? ⟨w.heap.size, 1, none⟩ = some (.slice wa wn wc) ∧ W.cell? ⟨w.heap.size, 2, none⟩ = some (.slice oa on oc) ∧ W.cell? ⟨bg, 0, none⟩ = some (.bool bF) ∧ W.cell? ⟨bg, 1, none⟩ = some (.slice bwa bwn bwc) ∧ W.cell? ⟨bg, 2, none⟩ = some (.slice boa bon boc) ∧ W.cell? ⟨qg, 0, none⟩ = some (.bool false) ∧ W.cell? ⟨qg, 1, none⟩ = some (.slice none 0 0) ∧ W.cell? ⟨qg, 2, none⟩ = some (.slice none 0 0) := fun W hW => ⟨hW, (rB.below hW).2.1, (rB.below hW).2.2.1, (rB.below hW).2.2.2, (bB.below hW).2.1, (bB.below hW).2.2.1, (bB.below hW).2.2.2, (qB.below hW).2.1, (qB.below hW).2.2.1, (qB.below hW).2.2.2⟩
    have hb00 := Below.refl w6.heap.size w6
    have hB := (Below.refl w6.heap.size w6).drew
    have l1 := rB.1
    have l2 := bB.1
    have l3 := qB.1
    have C1 : ∀ W : World, Below w6.heap.size w6 W → Calls Try.prog 28 #[.slice a n c, .agg #[.bool f, .slice wa wn wc, .slice oa on oc]] W fun e w' => e = .returned (.int .i64 re) ∧ Below W.heap.size W w' := fun W hW => by
      have := WCheck_any p a n c r f wa oa wn wc on oc W (hN6.below hW) (hR6.below hW)
      rwa [unhide HRE] at this
    have C2 : ∀ W : World, Below w6.heap.size w6 W → Calls Try.prog 29 #[.slice a n c, .agg #[.bool f, .slice wa wn wc, .slice oa on oc]] W fun e w' => e = .returned (.int .i64 re) ∧ Below W.heap.size W w' := fun W hW => by
      have := CheckRest_any p a n c r f wa oa wn wc on oc W (hN6.below hW) (hR6.below hW)
      rwa [unhide HRE] at this
    have C3 : ∀ W : World, Below w6.heap.size w6 W → Calls Try.prog 30 #[.agg #[.bool bF, .slice bwa bwn bwc, .slice boa bon boc], .agg #[.bool false, .slice none 0 0, .slice none 0 0]] W fun e w' => e = .returned (.bool true) ∧ Below W.heap.size W w' := fun W hW => by
      have := SameRests_any (beginR p) (beginR p) bF false bwa boa none none bwn bwc bon boc 0 0 0 0 W (hb6.below hW) (hq6.below hW)
      simpa using this
    clear hN6 hR6 hb6 hq6 rB bB qB
    go_wp2_with fail
    go_region_held3 (fun W => Below w6.heap.size w6 W ∧ W.cell? ⟨w.heap.size, 0, none⟩ = some (.bool f) ∧ W.cell? ⟨w.heap.size, 1, none⟩ = some (.slice wa wn wc) ∧ W.cell? ⟨w.heap.size, 2, none⟩ = some (.slice oa on oc) ∧ W.cell? ⟨bg, 0, none⟩ = some (.bool bF) ∧ W.cell? ⟨bg, 1, none⟩ = some (.slice bwa bwn bwc) ∧ W.cell? ⟨bg, 2, none⟩ = some (.slice boa bon boc) ∧ W.cell? ⟨qg, 0, none⟩ = some (.bool false) ∧ W.cell? ⟨qg, 1, none⟩ = some (.slice none 0 0) ∧ W.cell? ⟨qg, 2, none⟩ = some (.slice none 0 0))
      ((first | with_reducible exact HS _ hb00 | with_reducible exact HS _ hB))
      ((first
        | (go_at_call 27
           refine (walkBegun_any _).mono ?_
           rintro e wA ⟨rfl, bA⟩
           have hB := bstep hB bA)
        | (go_at_call 28
           refine (C1 _ hB).mono ?_
           rintro e wA ⟨rfl, bA⟩
           have hB := bstep hB bA)
        | (go_at_call 29
           refine (C2 _ hB).mono ?_
           rintro e wA ⟨rfl, bA⟩
           have hB := bstep hB bA)
        | (go_at_call 30
           refine (C3 _ hB).mono ?_
           rintro e wA ⟨rfl, bA⟩
           have hB := bstep hB bA)))
    all_goals go_wp2_with fail
    all_goals go_ret
    all_goals exact ⟨rfl, bstep B6 hB⟩

end Go.Proofs.Ytongajonecgdpae
