
/- The choice of one of n things; the statements ReachTrue and ReachWay. -/
import Derived.Test.YtongajonecgdpacFrameNet
import Derived.Test.YtongajonecgdpacReachX
namespace Go.Proofs.Ytongajonecgdpac
open Go.ChangeShapes Go.WideShapes Go.ChangeAt Go.RowKit

/-- Which of n things a number speaks of. -/
def chosen (c : Int) (n : Nat) : Nat := ((if c < 0 then -(c + 1) else c) % (n : Int)).toNat
theorem chosen_lt (c : Int) (n : Nat) (h : 0 < n) : chosen c n < n := by
  unfold chosen
  have h1 := Int.emod_nonneg (if c < 0 then -(c + 1) else c) (b := (n : Int)) (by omega)
  have h2 := Int.emod_lt_of_pos (if c < 0 then -(c + 1) else c) (b := (n : Int)) (by omega)
  omega

set_option maxHeartbeats 400000 in
theorem choose_any (c : Int) (n : Nat) (w : World) (h : 0 < n) (hn : n ≤ 200) (hc : (Lit.int .i64 c).wf = true) :
    Calls Try.prog 19 #[.int .i64 c, .int .i64 (n : Int)] w fun e w' => e = .returned (.int .i64 (chosen c n : Nat)) ∧ w' = w := by
  have hb := bounds_i64 hc
  have hz : ¬ (n : Int) = 0 := by omega
  have hnn : (0 : Int) < (n : Int) := by omega
  by_cases e : c < 0
  · have HQ : Hid (((chosen c n : Nat) : Int) = -(c + 1).tmod (n : Int)) := by
      unfold Hid chosen
      rw [if_pos e, Int.toNat_of_nonneg (Int.emod_nonneg _ (by omega)), ← Int.tmod_eq_emod_of_nonneg (by omega), Int.neg_tmod]
    go_enter Try.func19, Try.ntmps19
    go_wp2
    go_ret
    exact ⟨ret_int HQ.out.symm, rfl⟩
  · have HQ : Hid (((chosen c n : Nat) : Int) = c % (n : Int)) := by
      unfold Hid chosen
      rw [if_neg e, Int.toNat_of_nonneg (Int.emod_nonneg _ (by omega))]
    go_enter Try.func19, Try.ntmps19
    go_wp2
    go_ret
    exact ⟨ret_int HQ.out.symm, rfl⟩
/-- No run has ErrOpen, where States has no error. -/
theorem states_ok {d : NetD} (h : statesE d = 0) : checkE d = 0 ∧ (reachAll d).err = 0 := by
  unfold statesE at h
  by_cases e : checkE d = 0
  · rw [if_pos e] at h; exact ⟨e, h⟩
  · rw [if_neg e] at h; exact absurd h e
theorem pow_in {l : List Int} {n : Nat} (h : timesE l n = 0) : ∀ k (hk : k < l.length), 0 ≤ l[k] ∧ l[k] < 2 ^ n := by
  intro k hk
  have h7 := (times_ok h).2
  unfold inPow at h7
  rw [List.all_eq_true] at h7
  have h8 := h7 _ (List.getElem_mem hk)
  simp only [wth, decide_eq_true_iff] at h8
  omega
theorem times_ne6 (l : List Int) (n : Nat) : timesE l n ≠ 6 := by
  unfold timesE; split
  · decide
  · split <;> decide
theorem run_ne6 {d : NetD} (h : statesE d = 0) (l : List Int) : runE d l ≠ 6 := by
  obtain ⟨hc, he⟩ := states_ok h
  unfold runE
  rw [if_pos hc]
  by_cases t : timesE l d.ins.toNat = 0
  · rw [if_pos t, (reach_all he l (pow_in t) l.length (Nat.le_refl _)).1]; decide
  · rw [if_neg t]; exact times_ne6 _ _
theorem run_in {d : NetD} (h : statesE d = 0) {l : List Int} (hr : runE d l = 0) : runRegs d l ∈ (reachAll d).sts := by
  obtain ⟨hc, he⟩ := states_ok h
  have hr' : runRegs d l = stateAt d l l.length := by unfold runRegs; rw [if_pos hr]
  rw [hr']
  exact (reach_all he l (pow_in (runE_ok hr).2.1) l.length (Nat.le_refl _)).2
theorem ins_pos {d : NetD} (h : checkE d = 0) : 0 ≤ d.ins := by
  have := (check_ok h).2.1; simp only [numbersB, Bool.and_eq_true, decide_eq_true_iff] at this; exact this.1.1.1
theorem nodup_same {l : List (List Int)} (h : l.Nodup) {a b : Nat} (ha : a < l.length) (hb : b < l.length) : decide (l[a] = l[b]) = decide (a = b) := by
  by_cases e : a = b
  · subst e; simp
  · have hp := List.pairwise_iff_getElem.1 h
    have : l[a] ≠ l[b] := by
      rcases Nat.lt_or_gt_of_ne e with h1 | h1
      · exact hp a b ha hb h1
      · exact fun hh => hp b a hb ha h1 hh.symm
    simp [e, this]
/-- By the inputs that Bad tells, ErrOpen is met: at the last, and not sooner. -/
theorem bad_way {d : NetD} (h : badB d = true) : ∃ l, ∃ x : Int, badW d = l ++ [x] ∧ (l.length + 1 ≤ 60 → runE d (l ++ [x]) = 6 ∧ runE d l = 0) := by
  have hh : checkE d = 0 ∧ (reachAll d).err = 6 := by unfold badB at h; simpa using h
  have hi := inv_reachTo hh.1 (ins_pos hh.1) 64
  obtain ⟨l, st, x, hw, hx, hg, h6⟩ := hi.way hh.2
  have hW : badW d = l ++ [(x : Int)] := by
    show (if badB d then (reachAll d).way else []) = _
    rw [h]; exact hw
  refine ⟨l, (x : Int), hW, fun hl => ?_⟩
  obtain ⟨g1, g2, g3⟩ := hg
  have hx' : (x : Int) < 2 ^ d.ins.toNat := by
    have h6 : ((2 ^ d.ins.toNat : Nat) : Int) = 2 ^ d.ins.toNat := by rw [Int.natCast_pow]; rfl
    omega
  have t1 : timesE l d.ins.toNat = 0 := by
    unfold timesE inPow
    rw [if_neg (by omega), if_pos]
    rw [List.all_eq_true]
    intro y hy
    have := g1 y hy
    simp only [wth, decide_eq_true_iff]; omega
  have t2 : timesE (l ++ [(x : Int)]) d.ins.toNat = 0 := by
    unfold timesE inPow
    rw [if_neg (by simp; omega), if_pos]
    rw [List.all_eq_true]
    intro y hy
    rcases List.mem_append.1 hy with hy | hy
    · have := g1 y hy
      simp only [wth, decide_eq_true_iff]; omega
    · have : y = (x : Int) := by simpa using hy
      simp only [wth, decide_eq_true_iff]; omega
  constructor
  · unfold runE
    rw [if_pos hh.1, if_pos t2]
    have hln : (l ++ [(x : Int)]).length = l.length + 1 := by simp
    rw [hln]
    show (if errTo d (l ++ [(x : Int)]) l.length = 0 then errAt d (l ++ [(x : Int)]) l.length else errTo d (l ++ [(x : Int)]) l.length) = 6
    rw [errTo_snoc d l x l.length (Nat.le_refl _), if_pos g2]
    unfold errAt
    rw [stateAt_snoc d l x l.length (Nat.le_refl _), g3, getD_last]
    exact h6
  · unfold runE
    rw [if_pos hh.1, if_pos t1]
    exact g2
theorem Ints.init {w : World} {a : Option Addr} {l : List Int} {x : Int} (h : Ints w a (l.length + 1) (l ++ [x])) : Ints w a l.length l := by
  obtain ⟨h1, h2, h3⟩ := h
  refine ⟨rfl, by simp at h2; omega, ?_⟩
  rcases h3 with h3 | ⟨b, off, ha, hl, hc⟩
  · simp at h3
  · refine Or.inr ⟨b, off, ha, hl, fun i hi => ?_⟩
    have := hc i (by simp; omega)
    rw [this, List.getElem_append_left hi]

theorem heldp_of {w0 W : World} {p q : Addr} {u v : Value} (hp : p.block < w0.heap.size) (hu : w0.cell? p = some u) (hq : q.block < w0.heap.size) (hv : w0.cell? q = some v) (h : Below w0.heap.size w0 W) :
    Below w0.heap.size w0 W ∧ W.cell? p = some u ∧ W.cell? q = some v := ⟨h, (h.cell hp).trans hu, (h.cell hq).trans hv⟩
theorem heldn_of {w0 W : World} {b : Nat} {ins0 : Int} {ga ra oa : Option Addr} {gn gc rn rc on oc : Nat} (hx : Boxed w0 b ins0 ga gn gc ra rn rc oa on oc) (h : Below w0.heap.size w0 W) :
    Below w0.heap.size w0 W ∧ W.cell? ⟨b, 0, none⟩ = some (.int .i64 ins0) ∧ W.cell? ⟨b, 1, none⟩ = some (.slice ga gn gc) ∧ W.cell? ⟨b, 2, none⟩ = some (.slice ra rn rc) ∧ W.cell? ⟨b, 3, none⟩ = some (.slice oa on oc) := held_of hx h

set_option maxRecDepth 100000 in
set_option maxHeartbeats 4000000 in
theorem ReachTrue_any (d : NetD) (ins0 : Int) (ga ra oa : Option Addr) (gn gc rn rc on oc : Nat) (w : World) (h : NetAt w d ins0 ga gn ra rn oa on) (l : List Int) (la : Option Addr) (ln lc : Nat) (hl : Ints w la ln l) (ci cj : Int) (hci : (Lit.int .i64 ci).wf = true) (hcj : (Lit.int .i64 cj).wf = true) :
    Calls Try.prog 6 #[.agg #[.int .i64 ins0, .slice ga gn gc, .slice ra rn rc, .slice oa on oc], .slice la ln lc, .int .i64 ci, .int .i64 cj] w fun e w' => e = .returned (.bool true) ∧ Below w.heap.size w w' := by
  have hb0 : Below w.heap.size w (w.alloc (.cells #[.int .i64 ins0, .slice ga gn gc, .slice ra rn rc, .slice oa on oc] 26)) := (Below.refl _ _).alloc (Nat.le_refl _) _
  have hbox : Boxed (w.alloc (.cells #[.int .i64 ins0, .slice ga gn gc, .slice ra rn rc, .slice oa on oc] 26)) w.heap.size ins0 ga gn gc ra rn rc oa on oc := Boxed.new _ _ _ _ _ _ _ _ _ _ _ _
  have hN := h.below hb0
  have hl0 := hl.below hb0
  have HCI := hide hci
  have HCJ := hide hcj
  clear h hl hci hcj
  go_enter Try.func6, Try.ntmps6
  go_wp2_with fail
  refine (States_any d _ _ _ _ _ _ _ _ _ _ _ hN).mono ?_
  rintro e w1 ⟨a1, n1, c1, rfl, hA1, hb⟩
  have B1 := bstep hb0 hb
  have hN1 := hN.below hb
  have hl1 := hl0.below hb
  obtain ⟨x0, x1, x2, x3, x4⟩ := hbox.below hb
  clear hb hb0 hN hbox hl0
  go_wp2_with fail
  clear x0 x1 x2 x3 x4
  refine (Run_any d _ _ _ _ _ _ _ _ _ _ _ hN1 l _ _ _ hl1).mono ?_
  rintro e w2 ⟨a2, n2, c2, d2, m2, l2, rfl, _, hD2, _, hb⟩
  have B2 := bstep B1 hb
  have hA2 := hA1.below hb
  clear hb B1 hN1 hl1 hA1
  by_cases e0 : statesE d = 0
  · have HS := hide e0
    rw [e0]
    by_cases e1 : runE d l = 0
    · have HR := hide e1
      rw [e1]
      have HL := hide (show statesL d = (reachAll d).sts by unfold statesL; rw [if_pos e0])
      rw [unhide HL] at hA2
      have HIN := hide (run_in e0 e1)
      have hck := (states_ok e0).1
      have HND := hide (inv_reachTo hck (ins_pos hck) 64).nodup
      have hl64 : (reachTo d 64).sts.length ≤ 64 := reachTo_len d 64
      have hpos : 0 < (reachTo d 64).sts.length := by obtain ⟨t, u, h1, _⟩ := reachTo_more d 64; rw [h1]; simp
      obtain ⟨sts, hsts⟩ : ∃ sts, (reachTo d 64).sts = sts := ⟨_, rfl⟩
      have hA2' : Rows w2 a1 n1 sts := by rw [← hsts]; exact hA2
      have HIN' := hide (show runRegs d l ∈ sts by rw [← hsts]; exact unhide HIN)
      rw [hsts] at HND hl64 hpos
      clear hA2 HIN hck hsts e0 e1 HL
      generalize runRegs d l = r at *
      have hn1 : n1 = sts.length := hA2'.1
      have HN1 := hide hn1
      have hn64 : n1 ≤ 64 := by omega
      have hnp : 0 < n1 := by omega
      have q0 : ((n1 : Int) == 0) = false := by simp only [beq_eq_false_iff_ne, ne_eq]; omega
      have q1 : ¬ (64 : Int) < (n1 : Int) := by omega
      clear hl64 hpos hn1
      go_wp2_with fail
      go_loopw [14, 15] (fun f i' wz => ∃ (j : Nat), j ≤ n1 ∧ i' = .int .i64 j ∧ f = .bool (memTo sts r j) ∧ Below w2.heap.size w2 wz) (fun _ i' _ => n1 - (intOf i').toNat)
      case atStart => exact ⟨0, Nat.zero_le _, rfl, by simp [memTo], Below.refl _ _⟩
      case round =>
        obtain ⟨j, hjl, rfl, rfl, hbz⟩ := hrel
        by_cases hj2 : j < n1
        · have hji : (j : Int) < (n1 : Int) := by omega
          have hjs : j < sts.length := by have := unhide HN1; omega
          have HM := hide (memTo_succ sts r j hjs)
          obtain ⟨g', off', ja, jn, jc, hve, hg', cj', hJ⟩ := (hA2'.below hbz).at hjs
          subst hve
          have hNz := hD2.below hbz
          cases hb : memTo sts r j
          · rw [hb] at HM
            clear hb
            go_wp2_with fail
            refine (SameInts_any _ _ _ _ _ _ _ _ _ hJ hNz).mono ?_
            rintro e w8 ⟨rfl, hb8⟩
            have hM := unhide HM
            rw [Bool.false_or] at hM
            rw [← hM]
            have hbz8 := bstep hbz hb8
            clear hM HM hJ hNz hb8
            go_wp2_with fail
            exact ⟨⟨j + 1, by omega, by go_num, rfl, hbz8⟩, by simp [intOf]; omega⟩
          · rw [hb] at HM
            clear hb
            have HM2 := hide (show memTo sts r (j + 1) = true by rw [unhide HM]; rfl)
            clear HM hJ hNz
            go_wp2_with fail
            exact ⟨⟨j + 1, by omega, by go_num, by rw [unhide HM2], hbz⟩, by simp [intOf]; omega⟩
        · have HM := hide (show memTo sts r j = true by rw [memTo_full sts r j (by have := unhide HN1; omega)]; simpa using unhide HIN')
          rw [unhide HM]
          go_wp2_with fail
          refine (choose_any ci n1 _ hnp (by omega) (unhide HCI)).mono ?_
          rintro e w5 ⟨rfl, rfl⟩
          go_wp2_with fail
          refine (choose_any cj n1 _ hnp (by omega) (unhide HCJ)).mono ?_
          rintro e w6 ⟨rfl, rfl⟩
          have hca := chosen_lt ci n1 hnp
          have hcb := chosen_lt cj n1 hnp
          generalize chosen ci n1 = ka at *
          generalize chosen cj n1 = kb at *
          have hka : ka < sts.length := by have := unhide HN1; omega
          have hkb : kb < sts.length := by have := unhide HN1; omega
          obtain ⟨g1, o1, pa, pn, pc, hve, hg1, cp, hPa⟩ := (hA2'.below hbz).at hka
          subst hve
          obtain ⟨g2, o2, ra', rn', rc', hve2, hg2, cr, hPb⟩ := (hA2'.below hbz).at hkb
          obtain ⟨rfl, rfl⟩ : g1 = g2 ∧ o1 = o2 := by injection hve2 with h1; injection h1 with h1 h2; exact ⟨h1, h2⟩
          have hia : (ka : Int) < (n1 : Int) := by omega
          have hib : (kb : Int) < (n1 : Int) := by omega
          have ha0 : (0 : Int) ≤ (ka : Int) := by omega
          have hb0' : (0 : Int) ≤ (kb : Int) := by omega
          have HSAME := hide (nodup_same (unhide HND) hka hkb)
          have hBz := bstep B2 hbz
          have hbd := (Below.refl w6.heap.size w6).drew
          have hq : ((ka : Int) == (kb : Int)) = decide (ka = kb) := by
            by_cases e : ka = kb
            · simp [e]
            · have h9 : ((ka : Int) == (kb : Int)) = false := by simp only [beq_eq_false_iff_ne, ne_eq]; omega
              rw [h9]; simp [e]
          clear hve2
          go_wp2_with fail
          go_region_held3 (fun W => Below w6.heap.size w6 W ∧ W.cell? ⟨g1, o1 + ka, none⟩ = some (.slice pa pn pc) ∧ W.cell? ⟨g1, o1 + kb, none⟩ = some (.slice ra' rn' rc'))
            ((first | exact heldp_of hg1 cp hg1 cr hbd | exact heldp_of hg1 cp hg1 cr hSB | exact heldp_of hg1 cp hg1 cr hSC))
            ((first
              | (go_at_call 16; refine (reachBegun_any _).mono ?_; rintro e wB ⟨rfl, hbB⟩; have hSB := bstep hbd hbB)
              | (go_at_call 13; refine (SameInts_any _ _ _ _ _ _ _ _ _ (hPa.below hSB) (hPb.below hSB)).mono ?_; rintro e wC ⟨rfl, hbC⟩; have hSC := bstep hSB hbC; rw [unhide HSAME])))
          all_goals (go_wp2_with fail; go_ret)
          all_goals exact ⟨rfl, bstep hBz hSC⟩
    · have h6 := run_ne6 e0 l
      obtain ⟨ee, hee⟩ : ∃ ee, runE d l = ee := ⟨_, rfl⟩
      rw [hee] at h6 e1
      rw [hee]
      have hq1 : (ee != 0) = true := by simp only [bne_iff_ne, ne_eq]; exact e1
      have hq2 : (ee != 6) = true := by simp only [bne_iff_ne, ne_eq]; exact h6
      clear h6 e1 hee e0 hA2 hD2
      go_wp2_with fail
      refine (reachBegun_any _).mono ?_
      rintro e w3 ⟨rfl, hb⟩
      have B3 := bstep B2 hb
      clear hb B2
      go_wp2_with fail
      go_ret
      exact ⟨rfl, B3⟩
  · obtain ⟨ee, hee⟩ : ∃ ee, statesE d = ee := ⟨_, rfl⟩
    rw [hee] at e0
    rw [hee]
    have hq1 : (ee != 0) = true := by simp only [bne_iff_ne, ne_eq]; exact e0
    clear e0 hee hA2 hD2
    generalize runE d l = ef
    go_wp2_with fail
    refine (reachBegun_any _).mono ?_
    rintro e w3 ⟨rfl, hb⟩
    have B3 := bstep B2 hb
    clear hb B2
    go_wp2_with fail
    go_ret
    exact ⟨rfl, B3⟩

set_option maxRecDepth 100000 in
set_option maxHeartbeats 4000000 in
theorem ReachWay_any (d : NetD) (ins0 : Int) (ga ra oa : Option Addr) (gn gc rn rc on oc : Nat) (w : World) (h : NetAt w d ins0 ga gn ra rn oa on) (l : List Int) (la : Option Addr) (ln lc : Nat) (hl : Ints w la ln l) :
    Calls Try.prog 7 #[.agg #[.int .i64 ins0, .slice ga gn gc, .slice ra rn rc, .slice oa on oc], .slice la ln lc] w fun e w' => e = .returned (.bool true) ∧ Below w.heap.size w w' := by
  have hb0 : Below w.heap.size w (w.alloc (.cells #[.int .i64 ins0, .slice ga gn gc, .slice ra rn rc, .slice oa on oc] 26)) := (Below.refl _ _).alloc (Nat.le_refl _) _
  have hbox : Boxed (w.alloc (.cells #[.int .i64 ins0, .slice ga gn gc, .slice ra rn rc, .slice oa on oc] 26)) w.heap.size ins0 ga gn gc ra rn rc oa on oc := Boxed.new _ _ _ _ _ _ _ _ _ _ _ _
  have hN := h.below hb0
  have hl0 := hl.below hb0
  clear h hl
  go_enter Try.func7, Try.ntmps7
  go_wp2_with fail
  refine (Bad_any d _ _ _ _ _ _ _ _ _ _ _ hN).mono ?_
  rintro e w1 ⟨a1, n1, c1, rfl, hA1, hnc, hb⟩
  have B1 := bstep hb0 hb
  have hN1 := hN.below hb
  have hl1 := hl0.below hb
  have hx1 := hbox.below hb
  have hx0 := hx1
  obtain ⟨x0, x1, x2, x3, x4⟩ := hx1
  clear hb hb0 hN hbox hl0
  go_wp2_with fail
  clear x0 x1 x2 x3 x4
  refine (Run_any d _ _ _ _ _ _ _ _ _ _ _ hN1 l _ _ _ hl1).mono ?_
  rintro e w2 ⟨a2, n2, c2, d2, m2, l2, rfl, _, _, _, hb⟩
  have B2 := bstep B1 hb
  have hA2 := hA1.below hb
  have hN2 := hN1.below hb
  have hx2 := hx0.below hb
  clear hb B1 hN1 hl1 hA1 hx0
  by_cases e0 : badE d = 0
  · rw [e0]
    cases eb : badB d
    · have hs : statesE d = 0 := by unfold badE at e0; rw [eb] at e0; exact e0
      have h6 := run_ne6 hs l
      obtain ⟨ee, hee⟩ : ∃ ee, runE d l = ee := ⟨_, rfl⟩
      rw [hee] at h6
      rw [hee]
      have hq2 : (ee != 6) = true := by simp only [bne_iff_ne, ne_eq]; exact h6
      clear h6 hee hs e0 eb hA2 hx2 hN2
      go_wp2_with fail
      refine (reachBegun_any _).mono ?_
      rintro e w3 ⟨rfl, hb⟩
      have B3 := bstep B2 hb
      clear hb B2
      go_wp2_with fail
      go_ret
      exact ⟨rfl, B3⟩
    · obtain ⟨l0, x, hw, hrun⟩ := bad_way eb
      rw [hw] at hA2
      have hn1 : n1 = l0.length + 1 := by have := hA2.1; simpa using this
      subst hn1
      generalize runE d l = ef
      have HRUN := hide hrun
      have HA2 := hide hA2
      clear hw hrun eb e0 hA2
      have q0 : (((l0.length + 1 : Nat) : Int) == 0) = false := by simp only [beq_eq_false_iff_ne, ne_eq]; omega
      have q0' : (((l0.length : Int) + 1) == 0) = false := by simp only [beq_eq_false_iff_ne, ne_eq]; omega
      by_cases e60 : l0.length + 1 ≤ 60
      · have q1 : ¬ (60 : Int) < (l0.length : Int) + 1 := by omega
        obtain ⟨h6, hz⟩ := (unhide HRUN) e60
        have H6 := hide h6
        have HZ := hide hz
        clear h6 hz
        obtain ⟨hl0', hl1', hl2', hl3'⟩ := len_facts l0.length (by omega)
        have hx3 := hx2
        obtain ⟨x0, x1, x2, x3, x4⟩ := hx3
        go_wp2_with fail
        clear x0 x1 x2 x3 x4
        refine (Run_any d _ _ _ _ _ _ _ _ _ _ _ hN2 (l0 ++ [x]) _ _ _ (unhide HA2)).mono ?_
        rintro e w3 ⟨a3, n3, c3, d3, m3, l3, rfl, _, _, _, hb⟩
        rw [unhide H6]
        have B3 := bstep B2 hb
        have hA3 := (unhide HA2).below hb
        have hN3 := hN2.below hb
        have hx3 := hx2.below hb
        have hA4 := hA3.init
        have hsome : ∃ ad, a1 = some ad := by
          rcases hA3.2.2 with h | ⟨b, off, ha, _⟩
          · simp at h
          · exact ⟨_, ha⟩
        obtain ⟨ad, rfl⟩ := hsome
        have hci : (l0.length : Int) ≤ (c1 : Int) := by omega
        have hbd := (Below.refl w3.heap.size w3).drew
        clear hb B2 hN2 hx2 HA2
        go_wp2_with fail
        go_region_held3 (fun W => Below w3.heap.size w3 W ∧ W.cell? ⟨w.heap.size, 0, none⟩ = some (.int .i64 ins0) ∧ W.cell? ⟨w.heap.size, 1, none⟩ = some (.slice ga gn gc) ∧ W.cell? ⟨w.heap.size, 2, none⟩ = some (.slice ra rn rc) ∧ W.cell? ⟨w.heap.size, 3, none⟩ = some (.slice oa on oc))
          ((first | exact heldn_of hx3 hbd | exact heldn_of hx3 hSB))
          ((first
            | (go_at_call 9; refine (Run_any d _ _ _ _ _ _ _ _ _ _ _ (hN3.below hbd) l0 _ _ _ (hA4.below hbd)).mono ?_; rintro e wB ⟨a5, n5, c5, d5, m5, l5, rfl, _, _, _, hbB⟩; have hSB := bstep hbd hbB; rw [unhide HZ])))
        clear hbd hx3 hN3 hA3 hA4 hbB
        go_wp2_with fail
        refine (reachBegun_any _).mono ?_
        rintro e w7 ⟨rfl, hb7⟩
        have B7 := bstep (bstep B3 hSB) hb7
        clear hb7 B3 hSB
        go_wp2_with fail
        go_ret
        exact ⟨rfl, B7⟩
      · have q1 : (60 : Int) < (l0.length : Int) + 1 := by omega
        have q2 : (0 : Int) < (l0.length : Int) + 1 := by omega
        clear HRUN HA2 hx2 hN2 e60
        go_wp2_with fail
        refine (reachBegun_any _).mono ?_
        rintro e w3 ⟨rfl, hb⟩
        have B3 := bstep B2 hb
        clear hb B2
        go_wp2_with fail
        go_ret
        exact ⟨rfl, B3⟩
  · obtain ⟨ee, hee⟩ : ∃ ee, badE d = ee := ⟨_, rfl⟩
    rw [hee] at e0
    rw [hee]
    have hq1 : (ee != 0) = true := by simp only [bne_iff_ne, ne_eq]; exact e0
    clear e0 hee hA2 hx2 hN2
    generalize runE d l = ef
    generalize badB d = fb
    go_wp2_with fail
    refine (reachBegun_any _).mono ?_
    rintro e w3 ⟨rfl, hb⟩
    have B3 := bstep B2 hb
    clear hb B2
    go_wp2_with fail
    go_ret
    exact ⟨rfl, B3⟩
end Go.Proofs.Ytongajonecgdpac
