/- The walks of the four statements on eval, over the contracts Step_any and Solves_any of the program. -/
import Derived.Test.YtongajonecgdpabEvalV
namespace Go.Proofs.Ytongajonecgdpab
open Go.RowKit

set_option maxHeartbeats 1000000 in
theorem EvalSteps_any (d : NetD) (ins0 : Int) (ga ra oa : Option Addr) (gn gc rn rc on oc : Nat) (w : World) (h : NetAt w d ins0 ga gn ra rn oa on) (regs ins : List Int) (qa ia : Option Addr) (qn qc inn ic : Nat) (hr : Ints w qa qn regs) (hi : Ints w ia inn ins) :
    Calls Try.prog 3 #[.agg #[.int .i64 ins0, .slice ga gn gc, .slice ra rn rc, .slice oa on oc], .slice qa qn qc, .slice ia inn ic] w fun e w' => e = .returned (.bool true) ∧ Below w.heap.size w w' := by
  have hb0 : Below w.heap.size w (w.alloc (.cells #[.int .i64 ins0, .slice ga gn gc, .slice ra rn rc, .slice oa on oc] 26)) := (Below.refl _ _).alloc (Nat.le_refl _) _
  have hbox : Boxed (w.alloc (.cells #[.int .i64 ins0, .slice ga gn gc, .slice ra rn rc, .slice oa on oc] 26)) w.heap.size ins0 ga gn gc ra rn rc oa on oc := Boxed.new _ _ _ _ _ _ _ _ _ _ _ _
  have hN := h.below hb0
  have hr0 := hr.below hb0
  have hi0 := hi.below hb0
  clear h hr hi
  go_enter Try.func3, Try.ntmps3
  go_wp2_with fail
  refine (Step_any d _ _ _ _ _ _ _ _ _ _ _ hN regs ins _ _ _ _ _ _ hr0 hi0).mono ?_
  rintro e w1 ⟨a1, n1, c1, v1, rfl, hV1, hA1, hb⟩
  have B1 := bstep hb0 hb
  have hN1 := hN.below hb
  have hr1 := hr0.below hb
  have hi1 := hi0.below hb
  obtain ⟨x0, x1, x2, x3, x4⟩ := hbox.below hb
  clear hb hb0 hN hbox hr0 hi0
  go_wp2_with fail
  clear x0 x1 x2 x3 x4
  refine (StepOf_any d _ _ _ _ _ _ _ _ _ _ _ hN1 regs ins _ _ _ _ _ _ hr1 hi1).mono ?_
  rintro e w2 ⟨a2, n2, c2, v2, rfl, hV2, hA2, hb⟩
  have B2 := bstep B1 hb
  have hV12 := hV1.below hb
  have HS : Hid (decide (v1 = v2) = true) := decide_eq_true (hA1.same hA2)
  clear hb B1 hN1 hr1 hi1 hV1 hA1 hA2
  go_wp2_with fail
  refine (evalBegun_any _).mono ?_
  rintro e w3 ⟨rfl, hb⟩
  have B3 := bstep B2 hb
  have hV13 := hV12.below hb
  have hV23 := hV2.below hb
  clear hb B2 hV12 hV2
  go_wp2_with fail
  refine (SameInts_any _ _ _ _ _ _ _ _ _ hV13 hV23).mono ?_
  rintro e w4 ⟨rfl, hb⟩
  have B4 := bstep B3 hb
  rw [HS.out]
  clear hb B3 hV13 hV23
  go_wp2_with fail
  go_ret
  exact ⟨rfl, B4⟩

set_option maxHeartbeats 1000000 in
theorem EvalSolves_any (d : NetD) (ins0 : Int) (ga ra oa : Option Addr) (gn gc rn rc on oc : Nat) (w : World) (h : NetAt w d ins0 ga gn ra rn oa on) (regs ins : List Int) (qa ia : Option Addr) (qn qc inn ic : Nat) (hr : Ints w qa qn regs) (hi : Ints w ia inn ins) (v : List Int) (va : Option Addr) (vn vc : Nat) (hv : Ints w va vn v) :
    Calls Try.prog 4 #[.agg #[.int .i64 ins0, .slice ga gn gc, .slice ra rn rc, .slice oa on oc], .slice qa qn qc, .slice ia inn ic, .slice va vn vc] w fun e w' => e = .returned (.bool true) ∧ Below w.heap.size w w' := by
  have hb0 : Below w.heap.size w (w.alloc (.cells #[.int .i64 ins0, .slice ga gn gc, .slice ra rn rc, .slice oa on oc] 26)) := (Below.refl _ _).alloc (Nat.le_refl _) _
  have hbox : Boxed (w.alloc (.cells #[.int .i64 ins0, .slice ga gn gc, .slice ra rn rc, .slice oa on oc] 26)) w.heap.size ins0 ga gn gc ra rn rc oa on oc := Boxed.new _ _ _ _ _ _ _ _ _ _ _ _
  have hN := h.below hb0
  have hr0 := hr.below hb0
  have hi0 := hi.below hb0
  have hv0 := hv.below hb0
  clear h hr hi hv
  go_enter Try.func4, Try.ntmps4
  go_wp2_with fail
  refine (Solves_any d _ _ _ _ _ _ _ _ _ _ _ hN regs ins _ _ _ _ _ _ hr0 hi0 v _ _ _ hv0).mono ?_
  rintro e w1 ⟨rfl, hb⟩
  have B1 := bstep hb0 hb
  have hN1 := hN.below hb
  have hr1 := hr0.below hb
  have hi1 := hi0.below hb
  have hv1 := hv0.below hb
  obtain ⟨x0, x1, x2, x3, x4⟩ := hbox.below hb
  clear hb hb0 hN hbox hr0 hi0 hv0
  go_wp2_with fail
  clear x0 x1 x2 x3 x4
  refine (SolvesOf_any d _ _ _ _ _ _ _ _ _ _ _ hN1 regs ins _ _ _ _ _ _ hr1 hi1 v _ _ _ hv1).mono ?_
  rintro e w2 ⟨rfl, hb⟩
  have B2 := bstep B1 hb
  clear hb B1 hN1 hr1 hi1 hv1
  go_wp2_with fail
  refine (evalBegun_any _).mono ?_
  rintro e w3 ⟨rfl, hb⟩
  have B3 := bstep B2 hb
  clear hb B2
  go_wp2_with fail
  go_ret
  exact ⟨rfl, B3⟩

theorem le_leqV {xs ys : List Int} (hl : xs.length = ys.length) (h : Le xs ys) : leqV xs ys = true := by
  simp only [leqV, leqTo, List.all_eq_true, List.mem_range, Bool.or_eq_true, beq_iff_eq]
  intro i hi
  have h2 : i < ys.length := by omega
  have := h i
  simp only [List.getD_eq_getElem?_getD, List.getElem?_eq_getElem hi, List.getElem?_eq_getElem h2, Option.getD_some] at this ⊢
  exact this
theorem leqV_le {xs ys : List Int} (hl : xs.length = ys.length) (h : leqV xs ys = true) : Le xs ys := by
  intro k
  by_cases hk : k < xs.length
  · have h2 : k < ys.length := by omega
    have := leqV_at xs ys h k hk h2
    simpa [List.getD_eq_getElem?_getD, hk, h2] using this
  · left; rw [List.getD_eq_getElem?_getD, List.getElem?_eq_none (by omega)]; rfl

/-- Is one of the first k open? -/
def openTo (x : List Int) (k : Nat) : Bool := (x.take k).any (fun y => y == 2)
theorem openTo_succ (x : List Int) (k : Nat) (h : k < x.length) : openTo x (k + 1) = (openTo x k || (x[k] == 2)) := by
  unfold openTo; rw [List.take_succ_eq_append_getElem h, List.any_append]; simp
theorem openTo_none {x v : List Int} (hl : x.length = v.length) (h : Le x v) (ho : openTo x x.length = false) : x = v := by
  apply List.ext_getElem hl
  intro i h1 h2
  unfold openTo at ho
  rw [List.take_length, List.any_eq_false] at ho
  have h3 := ho x[i] (List.getElem_mem h1)
  have h4 := h i
  simp only [List.getD_eq_getElem?_getD, List.getElem?_eq_getElem h1, List.getElem?_eq_getElem h2, Option.getD_some] at h4
  rcases h4 with h4 | h4
  · exact absurd h4 (by simpa using h3)
  · exact h4

set_option maxRecDepth 100000 in
set_option maxHeartbeats 2000000 in
theorem EvalTrue_any (d : NetD) (ins0 : Int) (ga ra oa : Option Addr) (gn gc rn rc on oc : Nat) (w : World) (h : NetAt w d ins0 ga gn ra rn oa on) (regs ins : List Int) (qa ia : Option Addr) (qn qc inn ic : Nat) (hr : Ints w qa qn regs) (hi : Ints w ia inn ins) (v : List Int) (va : Option Addr) (vn vc : Nat) (hv : Ints w va vn v) :
    Calls Try.prog 5 #[.agg #[.int .i64 ins0, .slice ga gn gc, .slice ra rn rc, .slice oa on oc], .slice qa qn qc, .slice ia inn ic, .slice va vn vc] w fun e w' => e = .returned (.bool true) ∧ Below w.heap.size w w' := by
  have hb0 : Below w.heap.size w (w.alloc (.cells #[.int .i64 ins0, .slice ga gn gc, .slice ra rn rc, .slice oa on oc] 26)) := (Below.refl _ _).alloc (Nat.le_refl _) _
  have hbox : Boxed (w.alloc (.cells #[.int .i64 ins0, .slice ga gn gc, .slice ra rn rc, .slice oa on oc] 26)) w.heap.size ins0 ga gn gc ra rn rc oa on oc := Boxed.new _ _ _ _ _ _ _ _ _ _ _ _
  have hN := h.below hb0
  have hr0 := hr.below hb0
  have hi0 := hi.below hb0
  have hv0 := hv.below hb0
  clear h hr hi hv
  go_enter Try.func5, Try.ntmps5
  go_wp2_with fail
  refine (Step_any d _ _ _ _ _ _ _ _ _ _ _ hN regs ins _ _ _ _ _ _ hr0 hi0).mono ?_
  rintro e w1 ⟨a1, n1, c1, x, rfl, hV1, hA1, hb⟩
  have B1 := bstep hb0 hb
  have hN1 := hN.below hb
  have hr1 := hr0.below hb
  have hi1 := hi0.below hb
  have hv1 := hv0.below hb
  have hx1 := hbox.below hb
  clear hb hb0 hN hbox hr0 hi0 hv0
  by_cases e0 : stepE d regs ins = 0
  case neg =>
    have hne : (stepE d regs ins != 0) = true := by simp [e0]
    clear e0
    go_wp2_with fail
    refine (evalBegun_any _).mono ?_
    rintro e w2 ⟨rfl, hb⟩
    go_wp2_with fail
    go_ret
    exact ⟨rfl, bstep B1 hb⟩
  have HE : Hid (stepE d regs ins = 0) := e0
  obtain ⟨hL, hvx⟩ := hA1.1 e0
  have HL := hide hL
  have HVX := hide hvx
  have S1 : Hid (solveE d regs ins x = 0) := by
    unfold Hid solveE; rw [if_pos e0, if_pos hL.len, hvx]; rfl
  have S2 : Hid (solveB d regs ins x = true) := by
    unfold Hid solveB; rw [if_pos S1.out, hL.fix]; simp
  rw [HE.out]
  clear e0 hL hvx hA1
  have hxx := hx1
  obtain ⟨x0, x1, x2, x3, x4⟩ := hxx
  go_wp2_with fail
  clear x0 x1 x2 x3 x4
  refine (Solves_any d _ _ _ _ _ _ _ _ _ _ _ hN1 regs ins _ _ _ _ _ _ hr1 hi1 x _ _ _ hV1).mono ?_
  rintro e w2 ⟨rfl, hb⟩
  have B2 := bstep B1 hb
  have hN2 := hN1.below hb
  have hr2 := hr1.below hb
  have hi2 := hi1.below hb
  have hv2 := hv1.below hb
  have hx2 := hx1.below hb
  have hV2 := hV1.below hb
  rw [S1.out, S2.out]
  clear hb B1 hN1 hr1 hi1 hv1 hx1 hV1 S1 S2
  obtain ⟨x0, x1, x2, x3, x4⟩ := hx2
  go_wp2_with fail
  clear x0 x1 x2 x3 x4
  refine (Solves_any d _ _ _ _ _ _ _ _ _ _ _ hN2 regs ins _ _ _ _ _ _ hr2 hi2 v _ _ _ hv2).mono ?_
  rintro e w3 ⟨rfl, hb⟩
  have B3 := bstep B2 hb
  have hv3 := hv2.below hb
  have hV3 := hV2.below hb
  clear hb B2 hN2 hr2 hi2 hv2 hV2
  by_cases e1 : solveE d regs ins v = 0
  case neg =>
    have hne : (solveE d regs ins v != 0) = true := by simp [e1]
    clear e1
    go_wp2_with fail
    refine (evalBegun_any _).mono ?_
    rintro e w4 ⟨rfl, hb⟩
    go_wp2_with fail
    go_ret
    exact ⟨rfl, bstep B3 hb⟩
  have HE1 : Hid (solveE d regs ins v = 0) := e1
  obtain ⟨_, hvl, hvv⟩ := solveE_ok e1
  rw [HE1.out]
  cases e2 : solveB d regs ins v
  · clear e2 e1 hvl hvv
    go_wp2_with fail
    refine (evalBegun_any _).mono ?_
    rintro e w4 ⟨rfl, hb⟩
    go_wp2_with fail
    go_ret
    exact ⟨rfl, bstep B3 hb⟩
  have hfix : roundV d regs ins v = v := by
    unfold solveB at e2
    rw [if_pos e1] at e2
    simpa using e2
  have hle : Le x v := (unhide HL).least v hvl hfix
  have hlen : x.length = v.length := by rw [(unhide HL).len, hvl]
  have L1 : Hid (leqB x v = true) := by
    unfold Hid leqB; rw [unhide HVX, hvv, Bool.and_self, if_pos rfl, if_pos hlen]; exact le_leqV hlen hle
  have L2 : Hid (leqE x v = 0) := by
    unfold Hid leqE; rw [unhide HVX, hvv, Bool.and_self, if_pos rfl, if_pos hlen]
  have HLE := hide hle
  have HLN := hide hlen
  clear e1 e2 hvl hvv hfix hle hlen
  go_wp2_with fail
  refine (Leq_any _ _ _ _ _ _ _ _ _ hV3 hv3).mono ?_
  rintro e w4 ⟨rfl, hb⟩
  have B4 := bstep B3 hb
  have hv4 := hv3.below hb
  have hV4 := hV3.below hb
  rw [L1.out, L2.out]
  have hn1 : n1 ≤ x.length := by have := hV4.1; omega
  have hn1' : x.length ≤ n1 := by have := hV4.1; omega
  have hn1m : n1 ≤ maxLen := by have h1 := hV4.1; have h2 := hV4.2.1; omega
  unfold maxLen at hn1m
  clear hb B3 hv3 hV3 L1 L2
  go_wp2_with fail
  go_loop [17, 18] (fun o i => ∃ k : Nat, k ≤ n1 ∧ i = .int .i64 k ∧ o = .bool (openTo x k)) (fun _ i => n1 - (intOf i).toNat)
  case atStart => exact ⟨0, Nat.zero_le _, rfl, rfl⟩
  case round =>
    obtain ⟨k, hk, rfl, rfl⟩ := hrel
    by_cases hlt : k < n1
    · have hltx : k < x.length := by omega
      have hki : (k : Int) < (n1 : Int) := by omega
      obtain ⟨b, off, rfl, hbb, c5⟩ := hV4.at hltx
      have HS := hide (openTo_succ x k hltx)
      cases eo : openTo x k
      · have HO := hide eo
        cases ex : (x[k] == 2)
        · have HT : Hid (openTo x (k + 1) = false) := by rw [unhide HS, unhide HO, ex]; rfl
          clear eo
          go_wp2_with fail
          exact ⟨⟨k + 1, by omega, by go_num, by rw [HT.out]⟩, by simp [intOf]; omega⟩
        · have HT : Hid (openTo x (k + 1) = true) := by rw [unhide HS, ex, Bool.or_true]; exact rfl
          clear eo
          go_wp2_with fail
          exact ⟨⟨k + 1, by omega, by go_num, by rw [HT.out]⟩, by simp [intOf]; omega⟩
      · have HT : Hid (openTo x (k + 1) = true) := by rw [unhide HS, eo]; exact rfl
        clear eo
        go_wp2_with fail
        exact ⟨⟨k + 1, by omega, by go_num, by rw [HT.out]⟩, by simp [intOf]; omega⟩
    have hkx : k = x.length := by omega
    cases eo : openTo x k
    · have HS : Hid (decide (x = v) = true) := by
        rw [hkx] at eo
        exact decide_eq_true (openTo_none (unhide HLN) (unhide HLE) eo)
      clear eo hkx
      go_wp2_with fail
      refine (evalBegun_any _).mono ?_
      rintro e w5 ⟨rfl, hb⟩
      have B5 := bstep B4 hb
      have hv5 := hv4.below hb
      have hV5 := hV4.below hb
      clear hb B4 hv4 hV4
      go_wp2_with fail
      refine (SameInts_any _ _ _ _ _ _ _ _ _ hV5 hv5).mono ?_
      rintro e w6 ⟨rfl, hb⟩
      rw [HS.out]
      have B6 := bstep B5 hb
      clear hb B5 hv5 hV5
      go_wp2_with fail
      go_ret
      exact ⟨rfl, B6⟩
    · clear eo hkx
      go_wp2_with fail
      refine (evalBegun_any _).mono ?_
      rintro e w5 ⟨rfl, hb⟩
      have B5 := bstep B4 hb
      clear hb B4 hv4 hV4
      go_wp2_with fail
      go_ret
      exact ⟨rfl, B5⟩

theorem leqB_le {xs ys : List Int} (h : leqB xs ys = true) : Le xs ys := by
  obtain ⟨_, _, h3, h4⟩ := leqB_true h
  exact leqV_le h3 h4

set_option maxRecDepth 100000 in
set_option maxHeartbeats 2000000 in
theorem EvalMore_any (d : NetD) (ins0 : Int) (ga ra oa : Option Addr) (gn gc rn rc on oc : Nat) (w : World) (h : NetAt w d ins0 ga gn ra rn oa on) (regs ins : List Int) (qa ia : Option Addr) (qn qc inn ic : Nat) (hr : Ints w qa qn regs) (hi : Ints w ia inn ins) (more there : List Int) (ma ta : Option Addr) (mn mc tn tc : Nat) (hm : Ints w ma mn more) (ht : Ints w ta tn there) :
    Calls Try.prog 6 #[.agg #[.int .i64 ins0, .slice ga gn gc, .slice ra rn rc, .slice oa on oc], .slice qa qn qc, .slice ia inn ic, .slice ma mn mc, .slice ta tn tc] w fun e w' => e = .returned (.bool true) ∧ Below w.heap.size w w' := by
  have hb0 : Below w.heap.size w (w.alloc (.cells #[.int .i64 ins0, .slice ga gn gc, .slice ra rn rc, .slice oa on oc] 26)) := (Below.refl _ _).alloc (Nat.le_refl _) _
  have hbox : Boxed (w.alloc (.cells #[.int .i64 ins0, .slice ga gn gc, .slice ra rn rc, .slice oa on oc] 26)) w.heap.size ins0 ga gn gc ra rn rc oa on oc := Boxed.new _ _ _ _ _ _ _ _ _ _ _ _
  have hN := h.below hb0
  have hr0 := hr.below hb0
  have hi0 := hi.below hb0
  have hm0 := hm.below hb0
  have ht0 := ht.below hb0
  clear h hr hi hm ht
  go_enter Try.func6, Try.ntmps6
  go_wp2_with fail
  refine (Step_any d _ _ _ _ _ _ _ _ _ _ _ hN regs ins _ _ _ _ _ _ hr0 hi0).mono ?_
  rintro e w1 ⟨a1, n1, c1, x, rfl, hV1, hA1, hb⟩
  have B1 := bstep hb0 hb
  have hN1 := hN.below hb
  have hr1 := hr0.below hb
  have hi1 := hi0.below hb
  have hm1 := hm0.below hb
  have ht1 := ht0.below hb
  have hx1 := hbox.below hb
  clear hb hb0 hN hbox hr0 hi0 hm0 ht0
  obtain ⟨x0, x1, x2, x3, x4⟩ := hx1
  go_wp2_with fail
  clear x0 x1 x2 x3 x4
  refine (Step_any d _ _ _ _ _ _ _ _ _ _ _ hN1 more there _ _ _ _ _ _ hm1 ht1).mono ?_
  rintro e w2 ⟨a2, n2, c2, y, rfl, hV2, hA2, hb⟩
  have B2 := bstep B1 hb
  have hr2 := hr1.below hb
  have hi2 := hi1.below hb
  have hm2 := hm1.below hb
  have ht2 := ht1.below hb
  have hX2 := hV1.below hb
  clear hb B1 hN1 hr1 hi1 hm1 ht1 hV1
  by_cases e0 : stepE d regs ins = 0
  case neg =>
    have hne : (stepE d regs ins != 0) = true := by simp [e0]
    clear e0 hA1 hA2
    go_wp2_with fail
    refine (evalBegun_any _).mono ?_
    rintro e w3 ⟨rfl, hb⟩
    go_wp2_with fail
    go_ret
    exact ⟨rfl, bstep B2 hb⟩
  have HE : Hid (stepE d regs ins = 0) := e0
  rw [HE.out]
  by_cases e1 : stepE d more there = 0
  case neg =>
    have hne : (stepE d more there != 0) = true := by simp [e1]
    clear e0 e1 hA1 hA2
    go_wp2_with fail
    refine (evalBegun_any _).mono ?_
    rintro e w3 ⟨rfl, hb⟩
    go_wp2_with fail
    go_ret
    exact ⟨rfl, bstep B2 hb⟩
  have HE1 : Hid (stepE d more there = 0) := e1
  rw [HE1.out]
  obtain ⟨hL1, hvx⟩ := hA1.1 e0
  obtain ⟨hL2, hvy⟩ := hA2.1 e1
  obtain ⟨_, hrl, hil, hvr, hvi⟩ := stepE_ok e0
  obtain ⟨_, hml, htl, hvm, hvt⟩ := stepE_ok e1
  have E1 : Hid (leqE regs more = 0) := by unfold Hid leqE; rw [hvr, hvm, Bool.and_self, if_pos rfl, if_pos (by omega)]
  have E2 : Hid (leqE ins there = 0) := by unfold Hid leqE; rw [hvi, hvt, Bool.and_self, if_pos rfl, if_pos (by omega)]
  have hxy : x.length = y.length := by rw [hL1.len, hL2.len]
  have E3 : Hid (leqE x y = 0) := by unfold Hid leqE; rw [hvx, hvy, Bool.and_self, if_pos rfl, if_pos hxy]
  have E4 : Hid (leqB regs more = true → leqB ins there = true → leqB x y = true) := by
    intro h1 h2
    unfold leqB
    rw [hvx, hvy, Bool.and_self, if_pos rfl, if_pos hxy]
    exact le_leqV hxy (hL1.more (leqB_le h1) (leqB_le h2) hL2)
  clear e0 e1 hA1 hA2 hL1 hL2 hvx hvy hrl hil hvr hvi hml htl hvm hvt hxy
  go_wp2_with fail
  refine (Leq_any _ _ _ _ _ _ _ _ _ hr2 hm2).mono ?_
  rintro e w3 ⟨rfl, hb⟩
  have B3 := bstep B2 hb
  have hi3 := hi2.below hb
  have ht3 := ht2.below hb
  have hX3 := hX2.below hb
  have hY3 := hV2.below hb
  rw [E1.out]
  clear hb B2 hr2 hm2 hi2 ht2 hX2 hV2
  go_wp2_with fail
  refine (Leq_any _ _ _ _ _ _ _ _ _ hi3 ht3).mono ?_
  rintro e w4 ⟨rfl, hb⟩
  have B4 := bstep B3 hb
  have hX4 := hX3.below hb
  have hY4 := hY3.below hb
  rw [E2.out]
  clear hb B3 hi3 ht3 hX3 hY3
  go_wp2_with fail
  refine (Leq_any _ _ _ _ _ _ _ _ _ hX4 hY4).mono ?_
  rintro e w5 ⟨rfl, hb⟩
  have B5 := bstep B4 hb
  rw [E3.out]
  clear hb B4 hX4 hY4
  go_wp2_with fail
  refine (evalBegun_any _).mono ?_
  rintro e w6 ⟨rfl, hb⟩
  have B6 := bstep B5 hb
  clear hb B5
  cases q1 : leqB regs more
  · clear q1 E4
    go_wp2_with fail
    go_ret
    exact ⟨rfl, B6⟩
  · cases q2 : leqB ins there
    · clear q1 q2 E4
      go_wp2_with fail
      go_ret
      exact ⟨rfl, B6⟩
    · have q3 := E4.out q1 q2
      rw [q3]
      clear q1 q2 q3 E4
      go_wp2_with fail
      go_ret
      exact ⟨rfl, B6⟩
end Go.Proofs.Ytongajonecgdpab
