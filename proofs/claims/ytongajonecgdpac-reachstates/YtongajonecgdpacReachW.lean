/- The document's StatesOf and BadOf. -/
import Derived.Test.YtongajonecgdpacReachV
namespace Go.Proofs.Ytongajonecgdpac
open Go.RowKit Go.Maps

set_option maxRecDepth 100000 in
set_option maxHeartbeats 2000000 in
theorem StatesOf_any (d : NetD) (ins0 : Int) (ga ra oa : Option Addr) (gn gc rn rc on oc : Nat) (w : World) (h : NetAt w d ins0 ga gn ra rn oa on) :
    Calls Try.prog 15 #[.agg #[.int .i64 ins0, .slice ga gn gc, .slice ra rn rc, .slice oa on oc]] w fun e w' => ∃ a n c, e = .returned (.tuple #[.slice a n c, .int .i64 (statesE d)]) ∧ Rows w' a n (statesL d) ∧ Below w.heap.size w w' := by
  have hb0 : Below w.heap.size w (w.alloc (.cells #[.int .i64 ins0, .slice ga gn gc, .slice ra rn rc, .slice oa on oc] 26)) := (Below.refl _ _).alloc (Nat.le_refl _) _
  have hbox : Boxed (w.alloc (.cells #[.int .i64 ins0, .slice ga gn gc, .slice ra rn rc, .slice oa on oc] 26)) w.heap.size ins0 ga gn gc ra rn rc oa on oc := Boxed.new _ _ _ _ _ _ _ _ _ _ _ _
  have hN := h.below hb0
  clear h
  go_enter Try.func15, Try.ntmps15
  go_wp2_with fail
  refine (CheckNet_any d _ _ _ _ _ _ _ _ _ _ _ hN).mono ?_
  rintro e w1 ⟨rfl, hb⟩
  have B1 := bstep hb0 hb
  have hN1 := hN.below hb
  have hx1 := hbox.below hb
  clear hb hb0 hN hbox
  by_cases e0 : checkE d = 0
  · have HCK := hide e0
    rw [e0]
    clear e0
    obtain ⟨x0, x1, x2, x3, x4⟩ := hx1
    go_wp2_with fail
    refine (reachRef_any d _ _ _ _ _ _ _ _ _ _ _ hN1 (unhide HCK)).mono ?_
    rintro e w2 ⟨a, n, c, a', n', c', rfl, hR, hI, hb2⟩
    have HE := hide (show statesE d = (reachAll d).err by unfold statesE; rw [if_pos (unhide HCK)])
    have HL := hide (show statesL d = (if (reachAll d).err = 0 then (reachAll d).sts else []) by unfold statesL; rw [unhide HE])
    rw [← unhide HL] at hR
    have HR := hide hR
    rw [← unhide HE]
    clear hR hI x1 x2 x3 x4
    go_wp2_with fail
    go_ret2
    exact ⟨a, n, c, rfl, unhide HR, bstep B1 hb2⟩
  · have HE := hide (show statesE d = checkE d by unfold statesE; rw [if_neg e0])
    have HL := hide (show statesL d = [] by unfold statesL; rw [if_neg (by rw [unhide HE]; exact e0)])
    have hq : (checkE d != 0) = true := by simp [e0]
    clear e0
    go_wp2_with fail
    go_ret2
    exact ⟨none, 0, 0, ret_sl (unhide HE).symm, by rw [unhide HL]; exact Rows.nil0 _, B1⟩

set_option maxRecDepth 100000 in
set_option maxHeartbeats 2000000 in
theorem BadOf_any (d : NetD) (ins0 : Int) (ga ra oa : Option Addr) (gn gc rn rc on oc : Nat) (w : World) (h : NetAt w d ins0 ga gn ra rn oa on) :
    Calls Try.prog 18 #[.agg #[.int .i64 ins0, .slice ga gn gc, .slice ra rn rc, .slice oa on oc]] w fun e w' => ∃ a n c, e = .returned (.tuple #[.slice a n c, .bool (badB d), .int .i64 (badE d)]) ∧ Ints w' a n (badW d) ∧ Below w.heap.size w w' := by
  have hb0 : Below w.heap.size w (w.alloc (.cells #[.int .i64 ins0, .slice ga gn gc, .slice ra rn rc, .slice oa on oc] 26)) := (Below.refl _ _).alloc (Nat.le_refl _) _
  have hbox : Boxed (w.alloc (.cells #[.int .i64 ins0, .slice ga gn gc, .slice ra rn rc, .slice oa on oc] 26)) w.heap.size ins0 ga gn gc ra rn rc oa on oc := Boxed.new _ _ _ _ _ _ _ _ _ _ _ _
  have hN := h.below hb0
  clear h
  go_enter Try.func18, Try.ntmps18
  go_wp2_with fail
  refine (CheckNet_any d _ _ _ _ _ _ _ _ _ _ _ hN).mono ?_
  rintro e w1 ⟨rfl, hb⟩
  have B1 := bstep hb0 hb
  have hN1 := hN.below hb
  have hx1 := hbox.below hb
  clear hb hb0 hN hbox
  by_cases e0 : checkE d = 0
  · have HCK := hide e0
    rw [e0]
    clear e0
    obtain ⟨x0, x1, x2, x3, x4⟩ := hx1
    go_wp2_with fail
    refine (reachRef_any d _ _ _ _ _ _ _ _ _ _ _ hN1 (unhide HCK)).mono ?_
    rintro e w2 ⟨a, n, c, a', n', c', rfl, hR, hI, hb2⟩
    have HS := hide (show statesE d = (reachAll d).err by unfold statesE; rw [if_pos (unhide HCK)])
    have HI := hide hI
    clear hR hI x1 x2 x3 x4
    by_cases e6 : (reachAll d).err = 6
    · have HB := hide (show badB d = true by unfold badB; simp [unhide HCK, e6])
      have HE := hide (show badE d = 0 by unfold badE; rw [unhide HB]; rfl)
      have HV := hide (show badW d = (reachAll d).way by unfold badW; rw [unhide HB]; rfl)
      rw [e6]
      clear e6
      go_wp2_with fail
      go_ret3
      exact ⟨a', n', c', ret_bad (unhide HB).symm (unhide HE).symm, by rw [unhide HV]; exact unhide HI, bstep B1 hb2⟩
    · have HB := hide (show badB d = false by unfold badB; simp [e6])
      have HE := hide (show badE d = (reachAll d).err by unfold badE; rw [unhide HB]; exact unhide HS)
      have HV := hide (show badW d = [] by unfold badW; rw [unhide HB]; rfl)
      obtain ⟨ee, hee⟩ : ∃ ee, (reachAll d).err = ee := ⟨_, rfl⟩
      rw [hee] at e6
      have HEE := hide hee
      rw [hee]
      have hq : (ee == 6) = false := by simp only [beq_eq_false_iff_ne, ne_eq]; exact e6
      clear e6 hee
      go_wp2_with fail
      go_ret3
      exact ⟨none, 0, 0, ret_bad (unhide HB).symm (by rw [unhide HE, unhide HEE]), by rw [unhide HV]; exact Ints.none _, bstep B1 hb2⟩
  · have HB := hide (show badB d = false by unfold badB; simp [e0])
    have HE := hide (show badE d = checkE d by unfold badE; rw [unhide HB]; unfold statesE; simp [e0])
    have HV := hide (show badW d = [] by unfold badW; rw [unhide HB]; rfl)
    have hq : (checkE d != 0) = true := by simp [e0]
    clear e0
    go_wp2_with fail
    go_ret3
    exact ⟨none, 0, 0, ret_bad (unhide HB).symm (unhide HE).symm, by rw [unhide HV]; exact Ints.none _, B1⟩
end Go.Proofs.Ytongajonecgdpac
