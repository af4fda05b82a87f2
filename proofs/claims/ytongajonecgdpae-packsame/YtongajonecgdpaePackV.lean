/- The document's PackStep. -/
import Derived.Test.YtongajonecgdpaePackP
import Derived.Test.YtongajonecgdpaeLevelA
namespace Go.Proofs.Ytongajonecgdpae
open Go.RowKit

/-- The first k lanes, as words. -/
def lanesTo (f : Nat → List Int) (n k : Nat) : List Int := (List.range n).map (fun i => wordTo f i k)
def mixW (f : Nat → List Int) (n k j : Nat) : List Int := (List.range n).map (fun i => if i < j then wordTo f i (k + 1) else wordTo f i k)
theorem mixW_len (f : Nat → List Int) (n k j : Nat) : (mixW f n k j).length = n := by simp [mixW]
theorem mixW_zero (f : Nat → List Int) (n k : Nat) : mixW f n k 0 = lanesTo f n k := by simp [mixW, lanesTo]
theorem mixW_full (f : Nat → List Int) (n k j : Nat) (h : n ≤ j) : mixW f n k j = lanesTo f n (k + 1) := by
  unfold mixW lanesTo
  apply List.map_congr_left
  intro i hi
  rw [if_pos (by have := List.mem_range.1 hi; omega)]
theorem mixW_at (f : Nat → List Int) (n k j : Nat) (h' : j < (mixW f n k j).length) : (mixW f n k j)[j] = wordTo f j k := by simp [mixW]
theorem mixW_set (f : Nat → List Int) (n k j : Nat) : (mixW f n k j).set j (wordTo f j (k + 1)) = mixW f n k (j + 1) := by
  apply List.ext_getElem (by simp [mixW])
  intro i h1 h2
  rw [List.getElem_set]
  by_cases e : j = i
  · subst e; simp [mixW]
  · rw [if_neg e]
    simp only [mixW, List.getElem_map, List.getElem_range]
    by_cases e2 : i < j
    · rw [if_pos e2, if_pos (by omega)]
    · rw [if_neg e2, if_neg (by omega)]
theorem lanesTo_zero (f : Nat → List Int) (n : Nat) : lanesTo f n 0 = List.replicate n 0 := by
  apply List.ext_getElem (by simp [lanesTo])
  intro i h1 h2; simp [lanesTo, wordTo]
theorem lane_or {f : Nat → List Int} {j k : Nat} (h : ∀ k, (f k).getD j 0 = 0 ∨ (f k).getD j 0 = 1) (hk : k < 64) : bits .or .u64 (wordTo f j k) (IntKind.u64.wrap (IntKind.u64.wrap ((f k).getD j 0) * 2 ^ k)) = wordTo f j (k + 1) := by
  have hl := wordTo_lt h k
  have hlt : (2 : Nat) ^ k < 2 ^ 64 := Nat.pow_lt_pow_right (by decide) hk
  have hlt' : (2 : Int) ^ k < 2 ^ 64 := by exact_mod_cast hlt
  have hp : (0 : Int) < 2 ^ k := Int.pow_pos (by decide)
  have hb : 0 ≤ (f k).getD j 0 * 2 ^ k ∧ (f k).getD j 0 * 2 ^ k < 2 ^ 64 := by rcases h k with e | e <;> rw [e] <;> omega
  have h0 : IntKind.u64.wrap ((f k).getD j 0) = (f k).getD j 0 := wraps_u64' _ (by rcases h k with e | e <;> rw [e] <;> decide) (by rcases h k with e | e <;> rw [e] <;> decide)
  rw [h0, wraps_u64' _ hb.1 hb.2, or_word hk hl.1 hl.2 (h k)]
  rfl
theorem isW_num {x : Int} (h : isW x) : 0 ≤ x ∧ x < 18446744073709551616 := ⟨h.1, by have h1 := h.2; have e : (2 : Int) ^ 64 = 18446744073709551616 := by decide
                                                                                     omega⟩
theorem out01 (d : NetD) (r i : List Int) (j k : Nat) : (laneOuts d r i k).getD j 0 = 0 ∨ (laneOuts d r i k).getD j 0 = 1 := by
  by_cases hj : j < (laneOuts d r i k).length
  · rw [show (laneOuts d r i k).getD j 0 = (laneOuts d r i k)[j] by simp [List.getD_eq_getElem?_getD, hj]]
    have hm := List.getElem_mem hj
    by_cases e : doE d (laneV r k) (laneV i k) = 0
    · obtain ⟨hs, ho⟩ := doE_ok e
      obtain ⟨_, _, _, hr, hi⟩ := stepE_ok hs
      unfold laneOuts doOuts at hm
      simp only [if_pos e] at hm
      unfold pickV at hm
      obtain ⟨z, _, hz⟩ := List.mem_map.1 hm
      have hz2 : (laneOuts d r i k)[j] = (lfp d (laneV r k) (laneV i k)).getD z.toNat 0 := by rw [hz]; simp only [laneOuts, doOuts, if_pos e]; rfl
      rw [hz2]
      exact settled_vals (iter_vals d hr hi _) ho _
    · unfold laneOuts doOuts at hj
      rw [if_neg e] at hj
      simp at hj
  · left; simp [List.getD_eq_getElem?_getD, List.getElem?_eq_none (show (laneOuts d r i k).length ≤ j by omega)]
theorem Ints.other {w w' : World} {a : Option Addr} {n : Nat} {xs : List Int} {g B : Nat} (h : Ints w a n xs) (hF : Fresh B a n) (hg : g < B) (hs : w.heap.size ≤ w'.heap.size) (hk : ∀ k, k ≠ g → w'.heap[k]? = w.heap[k]?) : Ints w' a n xs := by
  obtain ⟨h1, h2, h3⟩ := h
  refine ⟨h1, h2, ?_⟩
  rcases h3 with h3 | ⟨b, off, ha, hlt, hc⟩
  · exact Or.inl h3
  · rcases hF with hF | ⟨b', off', ha', hB⟩
    · left; exact List.length_eq_zero_iff.1 (by omega)
    · rw [ha] at ha'
      injection ha' with ha'
      injection ha' with e1 e2 _
      subst e1
      refine Or.inr ⟨b, off, ha, Nat.lt_of_lt_of_le hlt hs, fun i hi => ?_⟩
      rw [World.cell?_of_block (a := ⟨b, off + i, Option.none⟩) (hk b (by omega))]
      exact hc i hi
theorem run_madeU (W : World) (n : Nat) (h : n ≤ 200) : (Instr.makeSlice 27 (.int .i64 (n : Int)) (.int .i64 (n : Int))).run Try.prog W = .ok (.slice (some ⟨W.heap.size, 0, none⟩) n n) (W.alloc (.cells (wordsV (List.replicate n 0)).toArray 39)) := by
  obtain ⟨i0, hi, hz0, hz1, hz2⟩ := info_parts Try.infoU
  have hr := run_make (P := Try.prog) W 27 39 i0 (.int .u64 0) Try.underlying27 hi hz0 .i64 .i64 n n (by omega) (Int.le_refl _) (by rw [hz2]; omega) (by omega)
  simp only [Int.toNat_natCast] at hr
  have e : madeCells (Value.int .u64 0).cells (n * i0.size) = (wordsV (List.replicate n 0)).toArray := by
    rw [hz1, Nat.mul_one]
    apply Array.ext'
    rw [show (madeCells (Value.int .u64 0).cells n).toList = List.replicate n (.int .u64 0) from toList_madeCells_one _ n]
    simp [wordsV]
  rw [e] at hr
  exact hr
theorem two_made (w : World) (A B : List Value) (T : TypeId) : Cells ((w.alloc (.cells A.toArray T)).alloc (.cells B.toArray T)).drew w.heap.size A T ∧ Cells ((w.alloc (.cells A.toArray T)).alloc (.cells B.toArray T)).drew (w.heap.size + 1) B T ∧ Below w.heap.size w ((w.alloc (.cells A.toArray T)).alloc (.cells B.toArray T)).drew := by
  have c1 := (Cells.new w A T).below ((Below.refl _ (w.alloc (.cells A.toArray T))).alloc (Nat.le_refl _) (.cells B.toArray T)) (Cells.new w A T).lt
  have c2 := Cells.new (w.alloc (.cells A.toArray T)) B T
  rw [show (w.alloc (.cells A.toArray T)).heap.size = w.heap.size + 1 by simp] at c2
  exact ⟨c1, c2, (((Below.refl _ _).alloc (Nat.le_refl _) _).alloc (by simp) _).drew⟩
/-- The two rows, whichever was made first. -/
def Made2 (w W : World) (gO gN on rn : Nat) : Prop := Cells W gO (wordsV (List.replicate on 0)) 39 ∧ Cells W gN (wordsV (List.replicate rn 0)) 39 ∧ Below w.heap.size w W ∧ w.heap.size ≤ gO ∧ w.heap.size ≤ gN ∧ gO ≠ gN
theorem made_A (w : World) (on rn : Nat) : ∃ gO gN W, w.heap.size = gO ∧ w.heap.size + 1 = gN ∧ ((w.alloc (Obj.cells (wordsV (List.replicate on 0)).toArray 39)).alloc (Obj.cells (wordsV (List.replicate rn 0)).toArray 39)).drew = W ∧ Made2 w W gO gN on rn := by
  obtain ⟨h1, h2, h3⟩ := two_made w (wordsV (List.replicate on 0)) (wordsV (List.replicate rn 0)) 39
  exact ⟨_, _, _, rfl, rfl, rfl, h1, h2, h3, by omega, by omega, by omega⟩
theorem made_B (w : World) (on rn : Nat) : ∃ gO gN W, w.heap.size + 1 = gO ∧ w.heap.size = gN ∧ ((w.alloc (Obj.cells (wordsV (List.replicate rn 0)).toArray 39)).alloc (Obj.cells (wordsV (List.replicate on 0)).toArray 39)).drew = W ∧ Made2 w W gO gN on rn := by
  obtain ⟨h1, h2, h3⟩ := two_made w (wordsV (List.replicate rn 0)) (wordsV (List.replicate on 0)) 39
  exact ⟨_, _, _, rfl, rfl, rfl, h2, h1, h3, by omega, by omega, by omega⟩
theorem held_mk {w0 W : World} {b : Nat} {u v : Value} {R : Prop} {o : Obj} (hb : b < w0.heap.size) (h1 : w0.cell? ⟨b, 3, none⟩ = some u) (h2 : w0.cell? ⟨b, 2, none⟩ = some v) (h : Below w0.heap.size w0 W ∧ R) :
    Below w0.heap.size w0 (W.alloc o) ∧ (W.alloc o).cell? ⟨b, 3, none⟩ = some u ∧ (W.alloc o).cell? ⟨b, 2, none⟩ = some v := by
  have hB := h.1.alloc h.1.size o
  exact ⟨hB, (hB.cell (p := ⟨b, 3, none⟩) hb).trans h1, (hB.cell (p := ⟨b, 2, none⟩) hb).trans h2⟩

set_option maxRecDepth 100000 in
set_option maxHeartbeats 1000000 in
theorem PackStep_any (d : NetD) (ins0 : Int) (ga ra oa : Option Addr) (gn gc rn rc on oc : Nat) (w : World) (h : NetAt w d ins0 ga gn ra rn oa on) (regs ins : List Int) (qa ia : Option Addr) (qn qc inn ic : Nat) (hr : Words w qa qn regs) (hi : Words w ia inn ins) (hwr : ∀ x ∈ regs, isW x) (hwi : ∀ x ∈ ins, isW x) :
    Calls Try.prog 10 #[.agg #[.int .i64 ins0, .slice ga gn gc, .slice ra rn rc, .slice oa on oc], .slice qa qn qc, .slice ia inn ic] w fun e w' => ∃ a n c b m k, e = .returned (.tuple #[.slice a n c, .slice b m k, .int .i64 (pstepE d regs ins)]) ∧ Words w' a n (pstepO d regs ins) ∧ Words w' b m (pstepN d regs ins) ∧ Fresh w.heap.size a n ∧ Fresh w.heap.size b m ∧ Below w.heap.size w w' := by
  have hb0 : Below w.heap.size w (w.alloc (.cells #[.int .i64 ins0, .slice ga gn gc, .slice ra rn rc, .slice oa on oc] 26)) := (Below.refl _ _).alloc (Nat.le_refl _) _
  have hbox : Boxed (w.alloc (.cells #[.int .i64 ins0, .slice ga gn gc, .slice ra rn rc, .slice oa on oc] 26)) w.heap.size ins0 ga gn gc ra rn rc oa on oc := Boxed.new _ _ _ _ _ _ _ _ _ _ _ _
  have hN := h.below hb0
  have hr0 := hr.below hb0
  have hi0 := hi.below hb0
  have HWR := hide hwr
  have HWI := hide hwi
  clear h hr hi hwr hwi
  go_enter Try.func10, Try.ntmps10
  go_wp2_with fail
  refine (OrderOf_any d _ _ _ _ _ _ _ _ _ _ _ hN).mono ?_
  rintro e w1 ⟨la, ln, lc, rfl, hO, hb⟩
  have B1 := bstep hb0 hb
  have hN1 := hN.below hb
  have hr1 := hr0.below hb
  have hi1 := hi0.below hb
  have hx1 := hbox.below hb
  have HRN := hide hr1.1
  have HIN := hide hi1.1
  have HDR := hide hN1.regs.1
  have HDI := hide hN1.ins
  clear hb hb0 hN hbox hr0 hi0 hO
  by_cases e0 : orderE d = 0
  case neg =>
    have HE := hide (show pstepE d regs ins = orderE d by unfold pstepE; rw [if_neg e0])
    have HO := hide (show pstepO d regs ins = [] by unfold pstepO; rw [if_neg (by rw [unhide HE]; exact e0)])
    have HX := hide (show pstepN d regs ins = [] by unfold pstepN; rw [if_neg (by rw [unhide HE]; exact e0)])
    obtain ⟨ee, hee⟩ : ∃ ee, orderE d = ee := ⟨_, rfl⟩
    rw [hee] at e0
    rw [hee]
    have HEE := hide hee
    have hq : (ee != 0) = true := by simp only [bne_iff_ne, ne_eq]; exact e0
    clear e0 hee hx1
    go_wp2_with fail
    go_ret3
    exact ⟨none, 0, 0, none, 0, 0, ret_sl2 (by rw [unhide HE, unhide HEE]), by rw [unhide HO]; exact Words.none _, by rw [unhide HX]; exact Words.none _, Or.inl rfl, Or.inl rfl, B1⟩
  have HOE := hide e0
  have HCK := hide (orderE_ok e0).1
  rw [e0]
  clear e0
  have hx0 := hx1
  obtain ⟨x0, x1, x2, x3, x4⟩ := hx1
  by_cases e1 : qn = rn
  case neg =>
    have HE := hide (show pstepE d regs ins = 1 by
      unfold pstepE
      rw [if_pos (unhide HOE), if_neg (fun hh => e1 (by have h1 := hh.1; have h2 := unhide HRN; have h3 := unhide HDR; omega))])
    have HO := hide (show pstepO d regs ins = [] by unfold pstepO; rw [if_neg (by rw [unhide HE]; decide)])
    have HX := hide (show pstepN d regs ins = [] by unfold pstepN; rw [if_neg (by rw [unhide HE]; decide)])
    have hne : ((qn : Int) != (rn : Int)) = true := by simp only [bne_iff_ne, ne_eq]; omega
    clear e1
    go_wp2_with fail
    go_ret3
    exact ⟨none, 0, 0, none, 0, 0, ret_sl2 (unhide HE).symm, by rw [unhide HO]; exact Words.none _, by rw [unhide HX]; exact Words.none _, Or.inl rfl, Or.inl rfl, B1⟩
  have hne1 : ((qn : Int) != (rn : Int)) = false := by simp only [bne_eq_false_iff_eq]; omega
  by_cases e2 : (inn : Int) = ins0
  case neg =>
    have HE := hide (show pstepE d regs ins = 1 by
      unfold pstepE
      rw [if_pos (unhide HOE), if_neg (fun hh => e2 (by have h1 := hh.2; have h2 := unhide HIN; have h3 := unhide HDI; omega))])
    have HO := hide (show pstepO d regs ins = [] by unfold pstepO; rw [if_neg (by rw [unhide HE]; decide)])
    have HX := hide (show pstepN d regs ins = [] by unfold pstepN; rw [if_neg (by rw [unhide HE]; decide)])
    have hne : ((inn : Int) != ins0) = true := by simp only [bne_iff_ne, ne_eq]; omega
    clear e1 e2
    go_wp2_with fail
    go_ret3
    exact ⟨none, 0, 0, none, 0, 0, ret_sl2 (unhide HE).symm, by rw [unhide HO]; exact Words.none _, by rw [unhide HX]; exact Words.none _, Or.inl rfl, Or.inl rfl, B1⟩
  have hne2 : ((inn : Int) != ins0) = false := by simp only [bne_eq_false_iff_eq]; omega
  have HL1 := hide (show regs.length = d.regs.length by have h2 := unhide HRN; have h3 := unhide HDR; omega)
  have HL2 := hide (show (ins.length : Int) = d.ins by have h2 := unhide HIN; have h3 := unhide HDI; omega)
  have HE := hide (show pstepE d regs ins = 0 by unfold pstepE; rw [if_pos (unhide HOE), if_pos ⟨unhide HL1, unhide HL2⟩])
  have HO := hide (show pstepO d regs ins = packOuts d regs ins by unfold pstepO; rw [if_pos (unhide HE)])
  have HX := hide (show pstepN d regs ins = packNext d regs ins by unfold pstepN; rw [if_pos (unhide HE)])
  clear e1 e2
  have hcs := counts_gates (check_ok (unhide HCK)).1
  have hon : on ≤ 3 := by have := hN1.outs.1; omega
  have hrn : rn ≤ 20 := by have := hN1.regs.1; omega
  have hon2 : (0 : Int) ≤ (on : Int) := by omega
  have hrn2 : (0 : Int) ≤ (rn : Int) := by omega
  clear hcs
  have hmk1 := fun W : World => run_madeU W on (by omega)
  have hmk2 := fun W : World => run_madeU W rn (by omega)
  go_wp2_with fail
  go_region_held3 (fun W => Below w1.heap.size w1 W ∧ W.cell? ⟨w.heap.size, 3, none⟩ = some (.slice oa on oc) ∧ W.cell? ⟨w.heap.size, 2, none⟩ = some (.slice ra rn rc))
    ((first | exact ⟨(Below.refl _ _).drew, x4, x3⟩ | exact held_mk x0 x4 x3 (by assumption)))
    (fail)
  all_goals first
    | (obtain ⟨gO, gN, W, hgO, hgN, hW, hM⟩ := made_A w1 on rn; rw [hW, hgN, hgO])
    | (obtain ⟨gO, gN, W, hgO, hgN, hW, hM⟩ := made_B w1 on rn; rw [hW, hgO, hgN])
  all_goals clear hW hgO hgN x0 x1 x2 x3 x4 hmk1 hmk2 hne1 hne2
  all_goals obtain ⟨hcO, hcN, hB, hlO, hlN, hON⟩ := hM
  all_goals have HON := hide hON
  all_goals clear hON
  all_goals
    go_wp2_with fail
    go_loopw [13] (fun i wr => ∃ k : Nat, k ≤ 64 ∧ i = .int .i64 k ∧ Cells wr gO (wordsV (lanesTo (laneOuts d regs ins) on k)) 39 ∧ Cells wr gN (wordsV (lanesTo (laneNext d regs ins) rn k)) 39 ∧ Below w1.heap.size w1 wr) (fun i _ => 64 - (intOf i).toNat)
    case atStart => exact ⟨0, by omega, rfl, by rw [lanesTo_zero]; exact hcO, by rw [lanesTo_zero]; exact hcN, hB⟩
    case round =>
      clear hcO hcN hB
      obtain ⟨k, hk, rfl, hcO, hcN, hbel⟩ := hrel
      have hxr := hx0.below hbel
      have hNr := hN1.below hbel
      have hrr := hr1.below hbel
      have hir := hi1.below hbel
      by_cases hlt : k < 64
      · have hki : (k : Int) < 64 := by omega
        have hqn20 : qn ≤ 20 := by have h1 := unhide HRN; have h2 := unhide HL1; have h3 := unhide HDR; omega
        have hin20 : inn ≤ 20 := by have h1 := unhide HIN; have h2 := unhide HL2; have h3 := (ok_of (unhide HCK)).ins.2; omega
        have HNR := hide (show ∀ x ∈ regs, 0 ≤ x ∧ x < 18446744073709551616 from fun x hx => isW_num (unhide HWR x hx))
        have HNI := hide (show ∀ x ∈ ins, 0 ≤ x ∧ x < 18446744073709551616 from fun x hx => isW_num (unhide HWI x hx))
        have HDO := hide (lane_do (unhide HOE) (unhide HL1) (unhide HL2) k)
        have hgO := hcO.lt
        have hgN := hcN.lt
        have hbd := (Below.refl wr.heap.size wr).drew
        obtain ⟨x0, x1, x2, x3, x4⟩ := hxr
        have hxr := hx0.below hbel
        go_wp2_with fail
        go_region_held3 (fun W => Below wr.heap.size wr W ∧ W.cell? ⟨w.heap.size, 0, none⟩ = some (.int .i64 ins0) ∧ W.cell? ⟨w.heap.size, 1, none⟩ = some (.slice ga gn gc) ∧ W.cell? ⟨w.heap.size, 2, none⟩ = some (.slice ra rn rc) ∧ W.cell? ⟨w.heap.size, 3, none⟩ = some (.slice oa on oc))
          ((first | exact held_start hxr | exact held_of hxr hSA | exact held_of hxr hSB | exact held_of hxr hSD))
          ((first
            | (go_at_call_of 35 (Value.slice qa qn qc); refine (lane_any regs k qa qn qc _ (hrr.below hbd) hlt hqn20 (unhide HNR)).mono ?_; rintro e wA ⟨aA, nA, cA, rfl, hIA, hbA⟩; have hSA := bstep hbd hbA)
            | (go_at_call_of 35 (Value.slice ia inn ic); refine (lane_any ins k ia inn ic _ (hir.below hSA) hlt hin20 (unhide HNI)).mono ?_; rintro e wB ⟨aB, nB, cB, rfl, hIB, hbB⟩; have hSB := bstep hSA hbB)
            | (go_at_call 34; refine (DoOf_any d ins0 ga ra oa gn gc rn rc on oc _ (hNr.below hSB) (laneV regs k) (laneV ins k) aA aB nA cA nB cB (hIA.below hbB) hIB).mono ?_; rintro e wD ⟨uo, un, uc, na, nn, nc, rfl, hIO, hIN, hFO, hFN, hbD⟩; have hSD := bstep hSB hbD; have hGO := hFO.down hSB.size; have hGN := hFN.down hSB.size)))
        have hun : on = un := by
          have h1 := hIO.1
          unfold doOuts at h1
          rw [if_pos (unhide HDO), pickV_len] at h1
          have h2 := hN1.outs.1
          omega
        have hnn : rn = nn := by
          have h1 := hIN.1
          unfold doNext at h1
          rw [if_pos (unhide HDO), pickV_len, nextsV_len] at h1
          have h2 := hN1.regs.1
          omega
        subst hun
        subst hnn
        rw [unhide HDO]
        have hcOD := hcO.below hSD hgO
        have hcND := hcN.below hSD hgN
        have BD := bstep hbel hSD
        have HIO := hide (show Ints wD uo on (laneOuts d regs ins k) from hIO)
        have HIN2 := hide (show Ints wD na rn (laneNext d regs ins k) from hIN)
        have HGO := hide hGO
        have HGN := hide hGN
        have HSD := hide hSD
        clear hIO hIN hGO hGN hFO hFN hIA hIB hbA hbB hbD hSA hSB hSD hcO hcN x0 x1 x2 x3 x4 hxr hNr hrr hir hbd
        go_wp2_with fail
        go_loopw [17] (fun i wz => ∃ j : Nat, j ≤ on ∧ i = .int .i64 j ∧ Cells wz gO (wordsV (mixW (laneOuts d regs ins) on k j)) 39 ∧ (wz.heap.size = wD.heap.size ∧ ∀ q, q ≠ gO → wz.heap[q]? = wD.heap[q]?) ∧ Below w1.heap.size w1 wz) (fun i _ => on - (intOf i).toNat)
        case atStart => exact ⟨0, Nat.zero_le _, rfl, by rw [mixW_zero]; exact hcOD, ⟨rfl, fun _ _ => rfl⟩, BD⟩
        case round =>
          clear hcOD BD
          obtain ⟨j, hj, rfl, hcz, ⟨hsz, hoth⟩, hbz⟩ := hrel
          by_cases hjt : j < on
          · have hji : (j : Int) < (on : Int) := by omega
            have hI := (unhide HIO).other (unhide HGO) hgO (Nat.le_of_eq hsz.symm) hoth
            have hjl : j < (laneOuts d regs ins k).length := by have := hI.1; omega
            obtain ⟨b, off, rfl, hbb, c1⟩ := hI.at hjl
            have c2 := wcell hcz j (by rw [mixW_len]; exact hjt)
            rw [mixW_at] at c2
            have f2 := hcz.frozen j
            have hg0 : (laneOuts d regs ins k)[j] = (laneOuts d regs ins k).getD j 0 := by simp [List.getD_eq_getElem?_getD, hjl]
            rw [hg0] at c1
            have HV := hide (lane_or (out01 d regs ins j) hlt)
            generalize (laneOuts d regs ins k).getD j 0 = bv at *
            have R1 := wset hcz j (wordTo (laneOuts d regs ins) j (k + 1))
            rw [mixW_set] at R1
            have R2 : Below w1.heap.size w1 (wr.setCell ⟨gO, j, none⟩ (.int .u64 (wordTo (laneOuts d regs ins) j (k + 1)))).drew := (hbz.setCell hlO _).drew
            have R3 : ∀ q, q ≠ gO → (wr.setCell ⟨gO, j, none⟩ (.int .u64 (wordTo (laneOuts d regs ins) j (k + 1)))).heap[q]? = wD.heap[q]? := fun q hq => (set_block hq).trans (hoth q hq)
            have R4 : (wr.setCell ⟨gO, j, none⟩ (.int .u64 (wordTo (laneOuts d regs ins) j (k + 1)))).heap.size = wD.heap.size := by simpa using hsz
            have R := hide (And.intro R1 (And.intro R2 (And.intro R3 R4)))
            clear hI hjl hg0 R1 R2 R3 R4 hcz hoth hbz hsz
            go_wp2_with fail
            go_region
            all_goals rw [unhide HV]
            all_goals clear c1 c2 f2
            all_goals go_wp2_with fail
            all_goals exact ⟨⟨j + 1, by omega, by go_num, (unhide R).1, ⟨(unhide R).2.2.2, (unhide R).2.2.1⟩, (unhide R).2.1⟩, by simp [intOf]; omega⟩
          · rw [mixW_full _ _ _ _ (by omega)] at hcz
            have hcN2 : Cells wr gN (wordsV (lanesTo (laneNext d regs ins) rn k)) 39 := by
              unfold Cells; rw [hoth gN (fun e => unhide HON e.symm)]; exact hcND
            have HI2 := hide ((unhide HIN2).other (unhide HGN) hgO (Nat.le_of_eq hsz.symm) hoth)
            obtain ⟨wE, rfl⟩ : ∃ wE, wE = wr := ⟨_, rfl⟩
            clear hoth hcND HIN2 HIO HGO
            go_wp2_with fail
            go_loopw [18] (fun i wz => ∃ j : Nat, j ≤ rn ∧ i = .int .i64 j ∧ Cells wz gN (wordsV (mixW (laneNext d regs ins) rn k j)) 39 ∧ (wz.heap.size = wE.heap.size ∧ ∀ q, q ≠ gN → wz.heap[q]? = wE.heap[q]?) ∧ Below w1.heap.size w1 wz) (fun i _ => rn - (intOf i).toNat)
            case atStart => exact ⟨0, Nat.zero_le _, rfl, by rw [mixW_zero]; exact hcN2, ⟨rfl, fun _ _ => rfl⟩, hbz⟩
            case round =>
              clear hcN2 hbz
              obtain ⟨j, hj, rfl, hcy, ⟨hsy, hoth⟩, hby⟩ := hrel
              by_cases hjt : j < rn
              · have hji : (j : Int) < (rn : Int) := by omega
                have hI := (unhide HI2).other (unhide HGN) hgN (Nat.le_of_eq hsy.symm) hoth
                have hjl : j < (laneNext d regs ins k).length := by have := hI.1; omega
                obtain ⟨b, off, rfl, hbb, c1⟩ := hI.at hjl
                have c2 := wcell hcy j (by rw [mixW_len]; exact hjt)
                rw [mixW_at] at c2
                have f2 := hcy.frozen j
                have hg0 : (laneNext d regs ins k)[j] = (laneNext d regs ins k).getD j 0 := by simp [List.getD_eq_getElem?_getD, hjl]
                rw [hg0] at c1
                have HV := hide (lane_or (next01 d regs ins j) hlt)
                generalize (laneNext d regs ins k).getD j 0 = bv at *
                have R1 := wset hcy j (wordTo (laneNext d regs ins) j (k + 1))
                rw [mixW_set] at R1
                have R2 : Below w1.heap.size w1 (wr.setCell ⟨gN, j, none⟩ (.int .u64 (wordTo (laneNext d regs ins) j (k + 1)))).drew := (hby.setCell hlN _).drew
                have R3 : ∀ q, q ≠ gN → (wr.setCell ⟨gN, j, none⟩ (.int .u64 (wordTo (laneNext d regs ins) j (k + 1)))).heap[q]? = wE.heap[q]? := fun q hq => (set_block hq).trans (hoth q hq)
                have R4 : (wr.setCell ⟨gN, j, none⟩ (.int .u64 (wordTo (laneNext d regs ins) j (k + 1)))).heap.size = wE.heap.size := by simpa using hsy
                have R := hide (And.intro R1 (And.intro R2 (And.intro R3 R4)))
                clear hI hjl hg0 R1 R2 R3 R4 hcy hoth hby hsy
                go_wp2_with fail
                go_region
                all_goals rw [unhide HV]
                all_goals clear c1 c2 f2
                all_goals go_wp2_with fail
                all_goals exact ⟨⟨j + 1, by omega, by go_num, (unhide R).1, ⟨(unhide R).2.2.2, (unhide R).2.2.1⟩, (unhide R).2.1⟩, by simp [intOf]; omega⟩
              · rw [mixW_full _ _ _ _ (by omega)] at hcy
                have R1 : Cells wr gO (wordsV (lanesTo (laneOuts d regs ins) on (k + 1))) 39 := by
                  unfold Cells; rw [hoth gO (unhide HON)]; exact hcz
                have R := hide (And.intro R1 (And.intro hcy hby))
                clear R1 hcy hby hoth hcz
                go_wp2_with fail
                exact ⟨⟨k + 1, by omega, by go_num, (unhide R).1, (unhide R).2.1, (unhide R).2.2⟩, by simp [intOf]; omega⟩
      · have hk64 : k = 64 := by omega
        subst hk64
        have W1 := hcO.words (n := on) (by simp [lanesTo]) (by simp [lanesTo]; unfold maxLen; omega)
        have W2 := hcN.words (n := rn) (by simp [lanesTo]) (by simp [lanesTo]; unfold maxLen; omega)
        have HQ1 := hide (show lanesTo (laneOuts d regs ins) on 64 = pstepO d regs ins by rw [unhide HO, hN1.outs.1]; rfl)
        have HQ2 := hide (show lanesTo (laneNext d regs ins) rn 64 = pstepN d regs ins by rw [unhide HX, hN1.regs.1]; rfl)
        rw [unhide HQ1] at W1
        rw [unhide HQ2] at W2
        have hsz1 := B1.size
        have B9 : Below w.heap.size w wr := bstep B1 hbel
        clear hcO hcN hbel
        go_wp2_with fail
        go_ret3
        exact ⟨_, _, _, _, _, _, ret_sl2 (unhide HE).symm, W1, W2, Or.inr ⟨gO, 0, rfl, by omega⟩, Or.inr ⟨gN, 0, rfl, by omega⟩, B9⟩

/-- Words that lie in memory, and not in block g. -/
def WordsOff (w : World) (g : Option Nat) (a : Option Addr) (n : Nat) (xs : List Int) : Prop := Words w a n xs ∧ (n = 0 ∨ ∃ b off, a = some ⟨b, off, none⟩ ∧ b < w.heap.size ∧ g ≠ some b)
theorem WordsOff.below {w w' : World} {g : Option Nat} {a : Option Addr} {n : Nat} {xs : List Int} (h : WordsOff w g a n xs) (hb : Below w.heap.size w w') : WordsOff w' g a n xs := by
  refine ⟨h.1.below hb, ?_⟩
  rcases h.2 with h | ⟨b, off, ha, hl, hg⟩
  · exact Or.inl h
  · exact Or.inr ⟨b, off, ha, Nat.lt_of_lt_of_le hl hb.size, hg⟩
theorem WordsOff.grown {w w' : World} {g g' : Option Nat} {a : Option Addr} {n : Nat} {xs : List Int} (h : WordsOff w g a n xs) (hg : w.grownBy w' g) (hg' : g' = g ∨ g' = some w.heap.size) : WordsOff w' g' a n xs := by
  obtain ⟨⟨h1, h2, h3⟩, h4⟩ := h
  rcases h4 with h4 | ⟨b, off, ha, hl, hne⟩
  · exact ⟨⟨h1, h2, Or.inl (List.length_eq_zero_iff.1 (by omega))⟩, Or.inl h4⟩
  · refine ⟨⟨h1, h2, ?_⟩, Or.inr ⟨b, off, ha, Nat.lt_of_lt_of_le hl hg.size, ?_⟩⟩
    · rcases h3 with h3 | ⟨b', off', ha', hl', hc⟩
      · exact Or.inl h3
      · rw [ha] at ha'
        injection ha' with ha'
        injection ha' with e1 e2 _
        subst e1; subst e2
        exact Or.inr ⟨b, off, ha, Nat.lt_of_lt_of_le hl hg.size, fun i hi => hg.cell (hc i hi) (fun e => hne e.symm)⟩
    · rcases hg' with e | e
      · rw [e]; exact hne
      · rw [e]; intro hh; injection hh with hh; omega
theorem WordsOff.fresh {w : World} {base : Nat} {g : Option Nat} {a : Option Addr} {n : Nat} {xs : List Int} (h : Words w a n xs) (hF : Fresh base a n) (hg : ∀ k, g = some k → k < base) : WordsOff w g a n xs := by
  refine ⟨h, ?_⟩
  rcases hF with hF | ⟨b, off, ha, hb⟩
  · exact Or.inl hF
  · rcases h.2.2 with h3 | ⟨b', off', ha', hl', hc⟩
    · exact Or.inl (by rw [h.1, h3]; rfl)
    · rw [ha] at ha'
      injection ha' with ha'
      injection ha' with e1 e2 _
      exact Or.inr ⟨b, off, ha, by omega, fun e => by have := hg b e; omega⟩

/-- Rows of words: the values vs lead to them. -/
def WRowsOff (w : World) (g : Option Nat) (vs : List Value) (xss : List (List Int)) : Prop :=
  vs.length = xss.length ∧ ∀ i (hi : i < xss.length), ∃ a n c, vs[i]? = some (.slice a n c) ∧ WordsOff w g a n xss[i]
theorem WRowsOff.nil (w : World) (g : Option Nat) : WRowsOff w g [] [] := ⟨rfl, fun i hi => absurd hi (by simp)⟩
theorem WRowsOff.below {w w' : World} {g : Option Nat} {vs : List Value} {xss : List (List Int)} (h : WRowsOff w g vs xss) (hb : Below w.heap.size w w') : WRowsOff w' g vs xss :=
  ⟨h.1, fun i hi => by obtain ⟨a, n, c, e, hI⟩ := h.2 i hi; exact ⟨a, n, c, e, hI.below hb⟩⟩
theorem WRowsOff.grown {w w' : World} {g g' : Option Nat} {vs : List Value} {xss : List (List Int)} (h : WRowsOff w g vs xss) (hg : w.grownBy w' g) (hg' : g' = g ∨ g' = some w.heap.size) : WRowsOff w' g' vs xss :=
  ⟨h.1, fun i hi => by obtain ⟨a, n, c, e, hI⟩ := h.2 i hi; exact ⟨a, n, c, e, hI.grown hg hg'⟩⟩
theorem WRowsOff.snoc {w : World} {g : Option Nat} {vs : List Value} {xss : List (List Int)} {a : Option Addr} {n c : Nat} {xs : List Int} (h : WRowsOff w g vs xss) (h' : WordsOff w g a n xs) : WRowsOff w g (vs ++ [.slice a n c]) (xss ++ [xs]) := by
  refine ⟨by simp [h.1], fun i hi => ?_⟩
  by_cases hlt : i < xss.length
  · obtain ⟨a', n', c', e, hI⟩ := h.2 i hlt
    refine ⟨a', n', c', ?_, ?_⟩
    · rw [List.getElem?_append_left (by rw [h.1]; exact hlt)]; exact e
    · rw [List.getElem_append_left hlt]; exact hI
  · have hi' : i = xss.length := by simp at hi; omega
    subst hi'
    refine ⟨a, n, c, ?_, ?_⟩
    · rw [List.getElem?_append_right (by rw [h.1]; exact Nat.le_refl _), h.1]; simp
    · simpa using h'

theorem WordsOff.start {w : World} {a : Option Addr} {n : Nat} {xs : List Int} (h : Words w a n xs) : WordsOff w Option.none a n xs := by
  refine ⟨h, ?_⟩
  rcases h.2.2 with h3 | ⟨b, off, ha, hl, hc⟩
  · exact Or.inl (by rw [h.1, h3]; rfl)
  · exact Or.inr ⟨b, off, ha, hl, by simp⟩
theorem own_wrows {w : World} {base : Nat} {e : TypeId} {v : Value} {n : Nat} {vs : List Value} {xss : List (List Int)} (h : w.ownsRow base e 1 v n vs) (hm : n ≤ maxLen) (hR : WRowsOff w v.ownBlock vs xss) :
    ∃ a cap, v = .slice a n cap ∧ WRows w a n xss ∧ n ≤ cap := by
  have hn : n = xss.length := by have := h.1; have := hR.1; omega
  rcases h.2 with ⟨h1, h2⟩ | ⟨g, cap, cur, hv, hg, hh, r⟩
  · subst h2
    have : xss = [] := List.length_eq_zero_iff.1 hn.symm
    subst this
    exact ⟨_, _, h1, WRows.none _, Nat.le_refl _⟩
  · refine ⟨_, _, hv, ⟨hn, by omega, Or.inr ⟨g, 0, rfl, (Array.getElem?_eq_some_iff.1 hh).1, fun i hi => ?_⟩⟩, r.1⟩
    obtain ⟨a', n', c', e', hI⟩ := hR.2 i hi
    refine ⟨a', n', c', ?_, hI.1⟩
    have := h.cells (g := g) (by rw [hv]; rfl) i _ e'
    have hadd : (⟨g, 0, none⟩ : Addr).add i = ⟨g, 0 + i, none⟩ := by unfold Addr.add; split <;> simp_all
    rw [hadd] at this
    exact this
theorem own_words {w : World} {base : Nat} {e : TypeId} {v : Value} {n : Nat} {ys : List Int} (h : w.ownsRow base e 1 v n (wordsV ys)) (hm : n ≤ maxLen) :
    ∃ a cap, v = .slice a n cap ∧ Words w a n ys := by
  unfold wordsV at h
  have hn : n = ys.length := by have := h.1; simpa using this.symm
  rcases h.2 with ⟨h1, h2⟩ | ⟨g, cap, cur, hv, hg, hh, r⟩
  · subst h2
    have : ys = [] := List.eq_nil_of_length_eq_zero hn.symm
    exact ⟨_, _, h1, hn, by omega, Or.inl this⟩
  · refine ⟨_, cap, hv, hn, by omega, Or.inr ⟨g, 0, rfl, (Array.getElem?_eq_some_iff.1 hh).1, fun i hi => ?_⟩⟩
    rw [hv] at h
    rw [Nat.zero_add, h.cellAt i (by omega)]
    simp [hi]
theorem wordsV_succ (l : List Int) (k : Nat) (h : k < l.length) : wordsV (l.take (k + 1)) = wordsV (l.take k) ++ [.int .u64 l[k]] := by
  unfold wordsV
  rw [List.take_succ_eq_append_getElem h, List.map_append]
  rfl
theorem xor_zero : bits .xor .u64 IntKind.u64.max 0 = fullW := by rw [xor_not zero_bit.1]; unfold notW; omega
theorem prun_ok {d : NetD} {l : List (List Int)} {k : Nat} (ho : orderE d = 0) (hr : rowsOk d l l.length = true) (hk : k < l.length) : pstepE d (packAt d l k) l[k] = 0 := by
  unfold pstepE
  rw [if_pos ho, if_pos ⟨packAt_len d l k, rowsOk_at hr k hk⟩]

set_option maxRecDepth 100000 in
set_option maxHeartbeats 2000000 in
theorem PackRun_any (d : NetD) (ins0 : Int) (ga ra oa : Option Addr) (gn gc rn rc on oc : Nat) (w : World) (h : NetAt w d ins0 ga gn ra rn oa on) (l : List (List Int)) (la : Option Addr) (ln lc : Nat) (hl : WRows w la ln l) (hwl : ∀ r ∈ l, ∀ x ∈ r, isW x) :
    Calls Try.prog 14 #[.agg #[.int .i64 ins0, .slice ga gn gc, .slice ra rn rc, .slice oa on oc], .slice la ln lc] w fun e w' => ∃ a n c, e = .returned (.tuple #[.slice a n c, .int .i64 (prunE d l)]) ∧ WRows w' a n (prunL d l) ∧ Below w.heap.size w w' := by
  have hb0 : Below w.heap.size w (w.alloc (.cells #[.int .i64 ins0, .slice ga gn gc, .slice ra rn rc, .slice oa on oc] 26)) := (Below.refl _ _).alloc (Nat.le_refl _) _
  have hbox : Boxed (w.alloc (.cells #[.int .i64 ins0, .slice ga gn gc, .slice ra rn rc, .slice oa on oc] 26)) w.heap.size ins0 ga gn gc ra rn rc oa on oc := Boxed.new _ _ _ _ _ _ _ _ _ _ _ _
  have hN := h.below hb0
  have hl0 := hl.below hb0
  have HWL := hide hwl
  have HLL := hide hl.1
  have hlm : ln ≤ maxLen := by rw [hl.1]; exact hl.2.1
  unfold maxLen at hlm
  clear h hl hwl
  obtain ⟨i0, hi, hz0, hz1, hz2⟩ := info_parts Try.infoSU
  obtain ⟨j0, hj, hy0, hy1, hy2⟩ := info_parts Try.infoU
  go_enter Try.func14, Try.ntmps14
  go_wp2_with fail
  refine (OrderOf_any d _ _ _ _ _ _ _ _ _ _ _ hN).mono ?_
  rintro e w1 ⟨ka, kn, kc, rfl, _, hb⟩
  have B1 := bstep hb0 hb
  have hN1 := hN.below hb
  have hl1 := hl0.below hb
  have hx1 := hbox.below hb
  clear hb hb0 hN hbox hl0
  by_cases e0 : orderE d = 0
  case neg =>
    have HE := hide (show prunE d l = orderE d by unfold prunE; rw [if_neg e0])
    have HO := hide (show prunL d l = [] by unfold prunL; rw [if_neg (by rw [unhide HE]; exact e0)])
    obtain ⟨ee, hee⟩ : ∃ ee, orderE d = ee := ⟨_, rfl⟩
    rw [hee] at e0
    rw [hee]
    have HEE := hide hee
    have hq : (ee != 0) = true := by simp only [bne_iff_ne, ne_eq]; exact e0
    clear e0 hee hx1
    go_wp2_with fail
    go_ret2
    exact ⟨none, 0, 0, ret_sl (by rw [unhide HE, unhide HEE]), by rw [unhide HO]; exact WRows.none _, B1⟩
  have HOE := hide e0
  have HCK := hide (orderE_ok e0).1
  rw [e0]
  clear e0
  by_cases e6 : 60 < ln
  · have HE := hide (show prunE d l = 2 by unfold prunE; rw [if_pos (unhide HOE), if_pos (by have := unhide HLL; omega)])
    have HO := hide (show prunL d l = [] by unfold prunL; rw [if_neg (by rw [unhide HE]; decide)])
    have hgt : (60 : Int) < (ln : Int) := by omega
    clear e6
    go_wp2_with fail
    go_ret2
    exact ⟨none, 0, 0, ret_sl (unhide HE).symm, by rw [unhide HO]; exact WRows.none _, B1⟩
  have hgt : ¬ (60 : Int) < (ln : Int) := by omega
  have HE1 := hide (show prunE d l = if rowsOk d l l.length then 0 else 1 by unfold prunE; rw [if_pos (unhide HOE), if_neg (by have := unhide HLL; omega)])
  have HDI := hide hN1.ins
  have hrn : rn ≤ 20 := by have := (counts_gates (check_ok (unhide HCK)).1); have := hN1.regs.1; omega
  go_wp2_with fail
  go_loopw [8] (fun i wr => ∃ k : Nat, k ≤ ln ∧ i = .int .i64 k ∧ rowsOk d l k = true ∧ Below w1.heap.size w1 wr) (fun i _ => ln - (intOf i).toNat)
  case atStart => exact ⟨0, Nat.zero_le _, rfl, rfl, Below.refl _ _⟩
  case round =>
    obtain ⟨k, hk, rfl, hno, hbel⟩ := hrel
    have hx2 := hx1.below hbel
    obtain ⟨x0, x1, x2, x3, x4⟩ := hx2
    by_cases hlt : k < ln
    · have hki : (k : Int) < (ln : Int) := by omega
      have hkl : k < l.length := by have := unhide HLL; omega
      obtain ⟨b, off, a', n', c', rfl, hbb, c1, hW⟩ := (hl1.below hbel).at hkl
      have hn' := hW.1
      have HS := hide (rowsOk_succ d l k hkl)
      have RB := hide hbel.drew
      by_cases e : (n' : Int) = ins0
      · have HT := hide (show rowsOk d l (k + 1) = true by rw [unhide HS, hno]; simp; have := unhide HDI; omega)
        have hne : ((n' : Int) != ins0) = false := by simp only [bne_eq_false_iff_eq]; exact e
        clear hno e hn' HS hW hbel
        go_wp2_with fail
        go_region_held3 (fun W => W.cell? ⟨w.heap.size, 0, none⟩ = some (.int .i64 ins0) ∧ W.cell? ⟨b, off + k, none⟩ = some (.slice a' n' c'))
          ((exact ⟨x1, c1⟩))
          (fail)
        all_goals clear x1 c1 x2 x3 x4
        all_goals go_wp2_with fail
        all_goals exact ⟨⟨k + 1, by omega, by go_num, unhide HT, unhide RB⟩, by simp [intOf]; omega⟩
      · have HT := hide (show prunE d l = 1 by rw [unhide HE1, rowsOk_no hkl (by have := unhide HDI; omega)]; rfl)
        have HO := hide (show prunL d l = [] by unfold prunL; rw [if_neg (by rw [unhide HT]; decide)])
        have hne : ((n' : Int) != ins0) = true := by simp only [bne_iff_ne, ne_eq]; exact e
        clear hno e hn' HS hW hbel
        go_wp2_with fail
        go_region_held3 (fun W => W.cell? ⟨w.heap.size, 0, none⟩ = some (.int .i64 ins0) ∧ W.cell? ⟨b, off + k, none⟩ = some (.slice a' n' c'))
          ((exact ⟨x1, c1⟩))
          (fail)
        all_goals clear x1 c1 x2 x3 x4
        all_goals go_wp2_with fail
        all_goals go_ret2
        all_goals exact ⟨none, 0, 0, ret_sl (unhide HT).symm, by rw [unhide HO]; exact WRows.none _, bstep B1 (unhide RB)⟩
    · have HRO := hide (show rowsOk d l l.length = true by rw [← hno]; exact congrArg _ (by have := unhide HLL; omega))
      have HE := hide (show prunE d l = 0 by rw [unhide HE1, unhide HRO]; rfl)
      have HPL := hide (show prunL d l = packRows d l l.length by unfold prunL; rw [if_pos (unhide HE)])
      have B2 := bstep B1 hbel
      have hN2 := hN1.below hbel
      have hl2 := hl1.below hbel
      have hx2 := hx1.below hbel
      have HRL := hide hN2.regs.1
      obtain ⟨w2, rfl⟩ : ∃ w2, w2 = wr := ⟨_, rfl⟩
      clear hno hbel x0 x1 x2 x3 x4 hN1 hl1 hx1 B1
      go_wp2_with fail
      go_loopw [9, 10] (fun v i wr => ∃ k : Nat, k ≤ rn ∧ i = .int .i64 k ∧ wr.ownsRow w2.heap.size 39 1 v k (wordsV ((alikeV (begins d)).take k)) ∧ Below w2.heap.size w2 wr) (fun _ i _ => rn - (intOf i).toNat)
      case atStart => exact ⟨0, Nat.zero_le _, rfl, World.ownsRow_nil _ _ _ _, Below.refl _ _⟩
      case round =>
        obtain ⟨k, hk, rfl, hown, hbel⟩ := hrel
        have hx3 := hx2.below hbel
        obtain ⟨x0, x1, x2, x3, x4⟩ := hx3
        by_cases hlt : k < rn
        · have hki : (k : Int) < (rn : Int) := by omega
          have hkl : k < d.regs.length := by have := unhide HRL; omega
          obtain ⟨b, off, rfl, hbb, c1, c2⟩ := (hN2.regs.below hbel).at hkl
          have hal : k < (alikeV (begins d)).length := by simp [alikeV, begins]; exact hkl
          have HS := hide (wordsV_succ (alikeV (begins d)) k hal)
          cases er : d.regs[k].1
          · have HV := hide (show (alikeV (begins d))[k] = 0 by simp [alikeV, begins, er])
            rw [er] at c1
            clear er
            go_wp2_with (at_builtin; refine wpList_append_own _ rfl _ _ 27 rfl (w2.heap.size) 39 j0 (.int .u64 0) 1 8 Try.underlying27 hj hy0 hy1 hy2 rfl (by decide) _ _ _ rfl (hown.alloc _) ⟨wr.heap.size, 0, none⟩ 1 1 [.int .u64 0] rfl rfl ?c1 ?c2 ?c3 ?c4 ?c5 ?_)
            case c1 =>
              intro j u hj
              match j, hj with
              | 0, hj => simp at hj; subst hj; simp [Addr.add]
            case c2 => intro u hu; simp at hu; subst hu; rfl
            case c3 => unfold maxLen; omega
            case c4 => omega
            case c5 => have := hbel.size; simp; omega
            intro v' w3 hown' hgrow _
            have hown2 : w3.ownsRow w2.heap.size 39 1 v' (k + 1) (wordsV ((alikeV (begins d)).take (k + 1))) := by rw [unhide HS, unhide HV]; exact hown'
            have hb3 : Below w2.heap.size w2 w3 := hbel.trans (((Below.refl _ wr).alloc (hbel.size) _).grown hgrow (by have := hbel.size; simp; omega) (fun k hk => (hown.lt k hk).1))
            have R := hide (And.intro hown2 hb3)
            clear hown hown' hgrow hown2 hb3 x1 x2 x3 x4 c1 c2
            go_wp2_with fail
            exact ⟨⟨k + 1, by omega, by go_num, (unhide R).1, (unhide R).2⟩, by simp [intOf]; omega⟩
          · have HV := hide (show (alikeV (begins d))[k] = bits .xor .u64 IntKind.u64.max 0 by rw [xor_zero]; simp [alikeV, begins, er])
            rw [er] at c1
            clear er
            have hsg : IntKind.u64.signed = false := rfl
            go_wp2_with (at_builtin; refine wpList_append_own _ rfl _ _ 27 rfl (w2.heap.size) 39 j0 (.int .u64 0) 1 8 Try.underlying27 hj hy0 hy1 hy2 rfl (by decide) _ _ _ rfl (hown.alloc _) ⟨wr.heap.size, 0, none⟩ 1 1 [.int .u64 (bits .xor .u64 IntKind.u64.max 0)] rfl rfl ?c1 ?c2 ?c3 ?c4 ?c5 ?_)
            case c1 =>
              intro j u hj
              match j, hj with
              | 0, hj => simp at hj; subst hj; simp [Addr.add]
            case c2 => intro u hu; simp at hu; subst hu; rfl
            case c3 => unfold maxLen; omega
            case c4 => omega
            case c5 => have := hbel.size; simp; omega
            intro v' w3 hown' hgrow _
            have hown2 : w3.ownsRow w2.heap.size 39 1 v' (k + 1) (wordsV ((alikeV (begins d)).take (k + 1))) := by rw [unhide HS, unhide HV]; exact hown'
            have hb3 : Below w2.heap.size w2 w3 := hbel.trans (((Below.refl _ wr).alloc (hbel.size) _).grown hgrow (by have := hbel.size; simp; omega) (fun k hk => (hown.lt k hk).1))
            have R := hide (And.intro hown2 hb3)
            clear hown hown' hgrow hown2 hb3 x1 x2 x3 x4 c1 c2
            go_wp2_with fail
            exact ⟨⟨k + 1, by omega, by go_num, (unhide R).1, (unhide R).2⟩, by simp [intOf]; omega⟩
        · rw [List.take_of_length_le (by simp [alikeV, begins]; have := unhide HRL; omega)] at hown
          obtain ⟨qa, qc, hv', hQ⟩ := own_words hown (by unfold maxLen; omega)
          rw [hv']
          have B3 := bstep B2 hbel
          have hN3 := hN2.below hbel
          have hl3 := hl2.below hbel
          have hx3 := hx2.below hbel
          obtain ⟨w3, rfl⟩ : ∃ w3, w3 = wr := ⟨_, rfl⟩
          clear hown hv' hbel hN2 hl2 hx2 B2
          go_wp2_with fail
          clear x0 x1 x2 x3 x4
          go_loopw [9, 12, 13] (fun q v i wr => ∃ (k : Nat) (qa : Option Addr) (qn qc : Nat) (vs : List Value), k ≤ ln ∧ i = .int .i64 k ∧ q = .slice qa qn qc ∧ wr.ownsRow w3.heap.size 27 1 v k vs ∧ WRowsOff wr v.ownBlock vs (packRows d l k) ∧ WordsOff wr v.ownBlock qa qn (packAt d l k) ∧ Below w3.heap.size w3 wr) (fun _ _ i _ => ln - (intOf i).toNat)
          case atStart => exact ⟨0, _, _, _, [], Nat.zero_le _, rfl, rfl, World.ownsRow_nil _ _ _ _, WRowsOff.nil _ _, WordsOff.start hQ, Below.refl _ _⟩
          case round =>
            clear hQ
            obtain ⟨k, qa, qn, qc, vs, hk, rfl, rfl, hown, hRO, hQr, hbel⟩ := hrel
            by_cases hlt : k < ln
            · have hki : (k : Int) < (ln : Int) := by omega
              have hkl : k < l.length := by have := unhide HLL; omega
              obtain ⟨b, off, a', n', c', rfl, hbb, c1, hW⟩ := (hl3.below hbel).at hkl
              have hNr := hN3.below hbel
              have hxr := hx3.below hbel
              have hget : l.getD k [] = l[k] := by simp [List.getD_eq_getElem?_getD, hkl]
              have HSE := hide (prun_ok (unhide HOE) (unhide HRO) hkl)
              have HKN := hide (show packAt d l (k + 1) = pstepN d (packAt d l k) l[k] by unfold pstepN; rw [if_pos (unhide HSE)]; show packNext d (packAt d l k) (l.getD k []) = _; rw [hget])
              have HKO := hide (show packRow d l k = pstepO d (packAt d l k) l[k] by unfold pstepO packRow; rw [if_pos (unhide HSE), hget])
              have HLT := hide hown.lt
              have HOWN := hide hown
              have HRO2 := hide hRO
              have hbd := (Below.refl wr.heap.size wr).drew
              clear hget hown hRO
              go_wp2_with fail
              go_region_held3 (fun W => Below wr.heap.size wr W ∧ W.cell? ⟨w.heap.size, 0, none⟩ = some (.int .i64 ins0) ∧ W.cell? ⟨w.heap.size, 1, none⟩ = some (.slice ga gn gc) ∧ W.cell? ⟨w.heap.size, 2, none⟩ = some (.slice ra rn rc) ∧ W.cell? ⟨w.heap.size, 3, none⟩ = some (.slice oa on oc) ∧ W.cell? ⟨b, off + k, none⟩ = some (.slice a' n' c'))
                ((first | exact heldl_of hxr hbb c1 (Below.refl _ _).drew | exact heldl_of hxr hbb c1 hSD))
                ((first
                  | (go_at_call 10; refine (PackStep_any d ins0 ga ra oa gn gc rn rc on oc _ (hNr.below hbd) (packAt d l k) l[k] qa a' qn qc n' c' (hQr.1.below hbd) (hW.below hbd) (packAt_isW d l k) (unhide HWL _ (List.getElem_mem hkl))).mono ?_; rintro e wD ⟨uo, un, uc, na, nn, nc, rfl, hIO, hIN, hFO, hFN, hbD⟩; have hSD := bstep hbd hbD; have hGO := hFO.down hbd.size; have hGN := hFN.down hbd.size)))
              have hIO1 := WordsOff.fresh hIO hGO (fun g hg => (unhide HLT g hg).2)
              rw [← unhide HKO] at hIO1
              have hIN1 := WordsOff.fresh hIN hGN (fun g hg => (unhide HLT g hg).2)
              rw [← unhide HKN] at hIN1
              have HOW2 := hide (ownsRow_below (unhide HOWN) hSD)
              have HRO3 := hide (WRowsOff.snoc (c := uc) ((unhide HRO2).below hSD) hIO1)
              have BD := bstep hbel hSD
              rw [unhide HSE]
              clear hIO hIN hGO hGN hFO hFN hbD hSD hbd hW hNr hxr c1 hQr
              go_wp2_with (at_builtin; refine wpList_append_own_at _ rfl _ _ 34 rfl w3.heap.size 27 i0 (.slice none 0 0) 1 24 Try.underlying34 hi hz0 hz1 hz2 rfl (by decide) _ _ _ rfl ((unhide HOW2).alloc _) ⟨wD.heap.size, 0, none⟩ 1 1 [.slice uo un uc] rfl rfl ?c1 ?c2 ?c3 ?c4 ?c5 ?_)
              case c1 =>
                intro j u hj
                match j, hj with
                | 0, hj => simp at hj; subst hj; simp [Addr.add]
              case c2 => intro u hu; simp at hu; subst hu; rfl
              case c3 => unfold maxLen; omega
              case c4 => omega
              case c5 => have := BD.size; simp; omega
              intro v' w4 hown' hgrow _ hat
              rw [show wD.heap.size + 1 = (wD.alloc (.cells #[.slice uo un uc] 27)).heap.size by simp] at hat
              have al : Below wD.heap.size wD (wD.alloc (.cells #[.slice uo un uc] 27)) := (Below.refl _ _).alloc (Nat.le_refl _) _
              have R2 := ((unhide HRO3).below al).grown hgrow hat
              rw [← packRows_succ] at R2
              have R3 := (hIN1.below al).grown hgrow hat
              have R4 : Below w3.heap.size w3 w4 := (BD.alloc BD.size _).grown hgrow (by have := BD.size; simp; omega) (fun g hg => (unhide HLT g hg).1)
              have R := hide (And.intro hown' (And.intro R2 (And.intro R3 R4)))
              clear hown' hgrow hat al R2 R3 R4 hIO1 hIN1 BD
              go_wp2_with fail
              exact ⟨⟨k + 1, na, nn, nc, vs ++ [.slice uo un uc], by omega, by go_num, rfl, (unhide R).1, (unhide R).2.1, (unhide R).2.2.1, (unhide R).2.2.2⟩, by simp [intOf]; omega⟩
            · obtain ⟨a2, c2, hv', hRW, hnc⟩ := own_wrows hown (by unfold maxLen; omega) hRO
              rw [hv']
              have HRW := hide (show WRows wr a2 k (prunL d l) by rw [unhide HPL, ← unhide HLL, show ln = k by omega]; exact hRW)
              have B9 := bstep B3 hbel
              clear hv' hown hRO hQr hRW hbel
              go_wp2_with fail
              go_ret2
              exact ⟨_, _, _, ret_sl (unhide HE).symm, unhide HRW, B9⟩

set_option maxRecDepth 100000 in
theorem tied_step : pstepE knotDT [6] [5] = 0 ∧ pstepO knotDT [6] [5] = [3, 6] ∧ pstepN knotDT [6] [5] = [3] ∧ pstepE knotDT [] [5] = 1 := by decide +kernel
set_option maxRecDepth 100000 in
theorem tied_run : prunE knotDT [[5], [1]] = 0 ∧ prunL knotDT [[5], [1]] = [packRow knotDT [[5], [1]] 0, [4, 5]] ∧ prunE knotD [] = 5 := by decide +kernel

theorem KnotAt.keep {w w' : World} {b g : Nat} {G R : Array Value} (h : KnotAt w b G R) (hg : g < b) (hk : ∀ k, k ≠ g → w'.heap[k]? = w.heap[k]?) : KnotAt w' b G R := by
  obtain ⟨h1, h2, h3, h4, h5, h6, h7, h8, h9, h10⟩ := h
  refine ⟨?_, ?_, ?_, ?_, ?_, ?_, ?_, ?_, ?_, ?_⟩ <;> (rw [hk _ (by omega)]; assumption)

set_option maxRecDepth 100000 in
set_option maxHeartbeats 2000000 in
theorem tied_any (w : World) :
    Calls Try.prog 36 #[] w fun e w' => ∃ ga ra oa, e = .returned (.agg #[.int .i64 1, .slice ga 10 10, .slice ra 1 1, .slice oa 2 2]) ∧ NetAt w' knotDT 1 ga 10 ra 1 oa 2 ∧ Below w.heap.size w w' := by
  have hal := (Below.refl _ w).alloc (Nat.le_refl _) (.cells #[.int .i64 0, .slice none 0 0, .slice none 0 0, .slice none 0 0] 26)
  have hz0 := Cells.new w [.int .i64 0, .slice none 0 0, .slice none 0 0, .slice none 0 0] 26
  go_enter Try.func36, Try.ntmps36
  go_wp2_with fail
  refine (knot_any _).mono ?_
  rintro e w1 ⟨b1, hb1, rfl, hk, B1⟩
  have hb1' : w.heap.size < b1 := by simp at hb1; omega
  have hlt := hk.lt
  have c1 : w1.cell? ⟨b1 + 8, 26, none⟩ = some (.slice (some ⟨b1 + 7, 0, none⟩) 2 2) := by rw [cell_of_row _ _ _ _ _ _ hk.g]; rfl
  have c2 : w1.frozen? ⟨b1 + 8, 26, none⟩ = false := frozen_of_row _ _ _ _ _ hk.g
  have hl8 : b1 + 8 < w1.heap.size := by omega
  have hz1 := hz0.below B1 hz0.lt
  have hwl : w.heap.size < w1.heap.size := by omega
  have hne8 : ¬ w.heap.size = b1 + 8 := by omega
  have y0 := hz1.cell 0
  have y1 := hz1.cell 1
  have y2 := hz1.cell 2
  have y3 := hz1.cell 3
  have f0 := hz1.frozen 0
  have f1 := hz1.frozen 1
  have f2 := hz1.frozen 2
  have f3 := hz1.frozen 3
  go_wp2_with fail
  have hA : Cells (w1.setCell ⟨b1 + 8, 26, none⟩ (.slice (some ⟨w1.heap.size + 1, 0, none⟩) 1 1)) w.heap.size [.int .i64 0, .slice none 0 0, .slice none 0 0, .slice none 0 0] 26 := by
    unfold Cells; rw [set_block (by omega)]; exact hz1
  have hC := (((hA.set 0 (.int .i64 1)).set 1 (.slice (some ⟨b1 + 8, 0, none⟩) 10 10)).set 2 (.slice (some ⟨b1 + 9, 0, none⟩) 1 1)).set 3 (.slice (some ⟨b1 + 10, 0, none⟩) 2 2)
  have kW := (hk.setT (w1.heap.size + 1)).keep (w' := ((((w1.setCell ⟨b1 + 8, 26, none⟩ (.slice (some ⟨w1.heap.size + 1, 0, none⟩) 1 1)).setCell ⟨w.heap.size, 0, none⟩ (.int .i64 1)).setCell ⟨w.heap.size, 1, none⟩ (.slice (some ⟨b1 + 8, 0, none⟩) 10 10)).setCell ⟨w.heap.size, 2, none⟩ (.slice (some ⟨b1 + 9, 0, none⟩) 1 1)).setCell ⟨w.heap.size, 3, none⟩ (.slice (some ⟨b1 + 10, 0, none⟩) 2 2)) hb1' (fun k hk => (set_block hk).trans ((set_block hk).trans ((set_block hk).trans (set_block hk))))
  have BW : Below w.heap.size w (((((w1.setCell ⟨b1 + 8, 26, none⟩ (.slice (some ⟨w1.heap.size + 1, 0, none⟩) 1 1)).setCell ⟨w.heap.size, 0, none⟩ (.int .i64 1)).setCell ⟨w.heap.size, 1, none⟩ (.slice (some ⟨b1 + 8, 0, none⟩) 10 10)).setCell ⟨w.heap.size, 2, none⟩ (.slice (some ⟨b1 + 9, 0, none⟩) 1 1)).setCell ⟨w.heap.size, 3, none⟩ (.slice (some ⟨b1 + 10, 0, none⟩) 2 2)) := (((((bstep hal B1).setCell (p := ⟨b1 + 8, 26, none⟩) (by show w.heap.size ≤ b1 + 8; omega) _).setCell (p := ⟨w.heap.size, 0, none⟩) (Nat.le_refl _) _).setCell (p := ⟨w.heap.size, 1, none⟩) (Nat.le_refl _) _).setCell (p := ⟨w.heap.size, 2, none⟩) (Nat.le_refl _) _).setCell (p := ⟨w.heap.size, 3, none⟩) (Nat.le_refl _) _
  have hs5 : (((((w1.setCell ⟨b1 + 8, 26, none⟩ (.slice (some ⟨w1.heap.size + 1, 0, none⟩) 1 1)).setCell ⟨w.heap.size, 0, none⟩ (.int .i64 1)).setCell ⟨w.heap.size, 1, none⟩ (.slice (some ⟨b1 + 8, 0, none⟩) 10 10)).setCell ⟨w.heap.size, 2, none⟩ (.slice (some ⟨b1 + 9, 0, none⟩) 1 1)).setCell ⟨w.heap.size, 3, none⟩ (.slice (some ⟨b1 + 10, 0, none⟩) 2 2)).heap.size = w1.heap.size := by simp
  clear hA hz1 hk c1 c2 y0 y1 y2 y3 f0 f1 f2 f3 hz0 B1 hal
  generalize ((((w1.setCell ⟨b1 + 8, 26, none⟩ (.slice (some ⟨w1.heap.size + 1, 0, none⟩) 1 1)).setCell ⟨w.heap.size, 0, none⟩ (.int .i64 1)).setCell ⟨w.heap.size, 1, none⟩ (.slice (some ⟨b1 + 8, 0, none⟩) 10 10)).setCell ⟨w.heap.size, 2, none⟩ (.slice (some ⟨b1 + 9, 0, none⟩) 1 1)).setCell ⟨w.heap.size, 3, none⟩ (.slice (some ⟨b1 + 10, 0, none⟩) 2 2) = W5 at *
  have al1 := (Below.refl _ W5).alloc (Nat.le_refl _) (.cells #[.int .i64 1, .slice (some ⟨b1 + 8, 0, none⟩) 10 10, .slice (some ⟨b1 + 9, 0, none⟩) 1 1, .slice (some ⟨b1 + 10, 0, none⟩) 2 2] 26)
  have al2 := (Below.refl _ (W5.alloc (.cells #[.int .i64 1, .slice (some ⟨b1 + 8, 0, none⟩) 10 10, .slice (some ⟨b1 + 9, 0, none⟩) 1 1, .slice (some ⟨b1 + 10, 0, none⟩) 2 2] 26))).alloc (Nat.le_refl _) (.cells #[.int .i64 9] 3)
  have h7 := heap_alloc_new (W5.alloc (.cells #[.int .i64 1, .slice (some ⟨b1 + 8, 0, none⟩) 10 10, .slice (some ⟨b1 + 9, 0, none⟩) 1 1, .slice (some ⟨b1 + 10, 0, none⟩) 2 2] 26)) (.cells #[.int .i64 9] 3)
  rw [show (W5.alloc (.cells #[.int .i64 1, .slice (some ⟨b1 + 8, 0, none⟩) 10 10, .slice (some ⟨b1 + 9, 0, none⟩) 1 1, .slice (some ⟨b1 + 10, 0, none⟩) 2 2] 26)).heap.size = w1.heap.size + 1 by simp [hs5]] at h7
  have hNet := knot_netT ((kW.below al1).below al2) h7
  have hC2 := (hC.below al1 hC.lt).below al2 (by have := hC.lt; simp; omega)
  have y0 := hC2.cell 0
  have y1 := hC2.cell 1
  have y2 := hC2.cell 2
  have y3 := hC2.cell 3
  exact bodyPost_ret (v := .agg #[.int .i64 1, .slice (some ⟨b1 + 8, 0, none⟩) 10 10, .slice (some ⟨b1 + 9, 0, none⟩) 1 1, .slice (some ⟨b1 + 10, 0, none⟩) 2 2]) (by simp [results, Try.results36, go_sem, y0, y1, y2, y3]) rfl ⟨_, _, _, rfl, hNet, bstep (bstep BW al1) al2⟩

theorem Words.new (w : World) (C : Array Value) (T : TypeId) (n : Nat) (xs : List Int) (hC : C = (xs.map (fun x => Value.int .u64 x)).toArray) (hn : n = xs.length) (hm : xs.length ≤ maxLen) :
    Words (w.alloc (.cells C T)) (some ⟨w.heap.size, 0, Option.none⟩) n xs := by
  subst hC
  exact (Cells.new w (wordsV xs) T).words hn hm
theorem Words.new' (w : World) (C : Array Value) (T : TypeId) (g n : Nat) (xs : List Int) (hg : g = w.heap.size) (hC : C = (xs.map (fun x => Value.int .u64 x)).toArray) (hn : n = xs.length) (hm : xs.length ≤ maxLen) :
    Words (w.alloc (.cells C T)) (some ⟨g, 0, Option.none⟩) n xs := by
  subst hg; exact Words.new w C T n xs hC hn hm
theorem SameWords_all (xs : List Int) (a b : Option Addr) (n n' c c' : Nat) (w : World) (hx : Words w a n xs) (hy : Words w b n' xs) :
    Calls Try.prog 12 #[.slice a n c, .slice b n' c'] w fun e w' => e = .returned (.bool true) ∧ Below w.heap.size w w' := by
  obtain rfl : n = n' := by rw [hx.1, hy.1]
  exact SameWords_any xs a b n c c' w hx hy
theorem two_rows {w : World} {a b : Nat} {T : TypeId} {x y : List Int} (h1 : Words w (some ⟨a, 0, none⟩) 1 x) (h2 : Words w (some ⟨b, 0, none⟩) 1 y) :
    WRows (w.alloc (.cells #[.slice (some ⟨a, 0, none⟩) 1 1, .slice (some ⟨b, 0, none⟩) 1 1] T)) (some ⟨w.heap.size, 0, none⟩) 2 [x, y] := by
  have hal := (Below.refl _ w).alloc (Nat.le_refl _) (.cells #[.slice (some ⟨a, 0, none⟩) 1 1, .slice (some ⟨b, 0, none⟩) 1 1] T)
  have hC := Cells.new w [.slice (some ⟨a, 0, none⟩) 1 1, .slice (some ⟨b, 0, none⟩) 1 1] T
  refine ⟨rfl, lt_maxLen _ (by simp), Or.inr ⟨w.heap.size, 0, rfl, hC.lt, fun i hi => ?_⟩⟩
  have hi' : i < 2 := hi
  match i, hi' with
  | 0, _ => exact ⟨_, _, _, hC.cell 0, h1.below hal⟩
  | 1, _ => exact ⟨_, _, _, hC.cell 1, h2.below hal⟩
theorem isW_small {x : Int} (h0 : 0 ≤ x) (h1 : x ≤ 1000) : isW x := by
  have e : (2 : Int) ^ 64 = 18446744073709551616 := by decide
  refine ⟨h0, ?_⟩
  omega
theorem isW_one {x : Int} (h0 : 0 ≤ x) (h1 : x ≤ 1000) : ∀ y ∈ [x], isW y := by intro y hy; rw [List.mem_singleton.1 hy]; exact isW_small h0 h1

set_option maxRecDepth 100000 in
set_option maxHeartbeats 4000000 in
theorem packBegun_any (w : World) :
    Calls Try.prog 11 #[] w fun e w' => e = .returned (.bool true) ∧ Below w.heap.size w w' := by
  have k1 : Hid (pstepE knotDT [6] [5] = 0) := tied_step.1
  have k2 : Hid (pstepO knotDT [6] [5] = [3, 6]) := tied_step.2.1
  have k3 : Hid (pstepN knotDT [6] [5] = [3]) := tied_step.2.2.1
  have k4 : Hid (pstepE knotDT [] [5] = 1) := tied_step.2.2.2
  have k5 : Hid (prunE knotDT [[5], [1]] = 0) := tied_run.1
  have k6 : Hid (prunL knotDT [[5], [1]] = [packRow knotDT [[5], [1]] 0, [4, 5]]) := tied_run.2.1
  have k7 : Hid (prunE knotD [] = 5) := tied_run.2.2
  go_enter Try.func11, Try.ntmps11
  go_wp2_with fail
  refine (tied_any _).mono ?_
  rintro e w1 ⟨ga, ra, oa, rfl, hN1, B1⟩
  go_wp2_with fail
  refine (PStep_any knotDT _ _ _ _ _ _ _ _ _ _ _ (by exact (hN1.below ((Below.refl _ _).alloc (Nat.le_refl _) _)).below ((Below.refl _ _).alloc (Nat.le_refl _) _)) [6] [5] _ _ _ _ _ _ (by exact (Words.new _ _ _ _ [6] rfl rfl (lt_maxLen _ (by decide))).below ((Below.refl _ _).alloc (Nat.le_refl _) _)) (by exact Words.new' _ _ _ _ _ [5] (by simp) rfl rfl (lt_maxLen _ (by decide))) (isW_one (by decide) (by decide)) (isW_one (by decide) (by decide))).mono ?_
  rintro e w2 ⟨a2, n2, c2, b2, m2, d2, rfl, hA2, hB2, hb⟩
  have B2 := bstep1 (B1.alloc B1.size _) hb
  rw [k2.out] at hA2
  rw [k3.out] at hB2
  rw [k1.out]
  clear hb B1 hN1
  go_wp2_with fail
  refine (tied_any _).mono ?_
  rintro e w3 ⟨ga3, ra3, oa3, rfl, hN3, hb⟩
  have B3 := bstep B2 hb
  have hA3 := hA2.below hb
  have hB3 := hB2.below hb
  clear hb B2 hA2 hB2
  go_wp2_with fail
  have al1 := (Below.refl _ w3).alloc (Nat.le_refl _) (.cells #[.int .u64 5] 39)
  have wd1 := Words.new w3 #[.int .u64 5] 39 1 [5] rfl rfl (lt_maxLen _ (by decide))
  have al2 := (Below.refl _ (w3.alloc (.cells #[.int .u64 5] 39))).alloc (Nat.le_refl _) (.cells #[.int .u64 1] 39)
  have wd2 := Words.new' (w3.alloc (.cells #[.int .u64 5] 39)) #[.int .u64 1] 39 (w3.heap.size + 1) 1 [1] (by simp) rfl rfl (lt_maxLen _ (by decide))
  have wd1' := wd1.below al2
  have hN3' := (hN3.below al1).below al2
  have hA3' := (hA3.below al1).below al2
  have hB3' := (hB3.below al1).below al2
  have B3' := bstep (bstep B3 al1) al2
  have hs3 : ((w3.alloc (.cells #[.int .u64 5] 39)).alloc (.cells #[.int .u64 1] 39)).heap.size = w3.heap.size + 1 + 1 := by simp
  clear al1 al2 wd1 hN3 hA3 hB3 B3
  generalize (w3.alloc (.cells #[.int .u64 5] 39)).alloc (.cells #[.int .u64 1] 39) = w3' at *
  have hWR := two_rows (T := 27) wd1' wd2
  rw [hs3] at hWR
  refine (PRun_any knotDT _ _ _ _ _ _ _ _ _ _ _ (by exact hN3'.below ((Below.refl _ _).alloc (Nat.le_refl _) _)) [[5], [1]] _ _ _ hWR (by intro r hr; rcases List.mem_cons.1 hr with rfl | hr; exact isW_one (by decide) (by decide); rw [List.mem_singleton.1 hr]; exact isW_one (by decide) (by decide))).mono ?_
  rintro e w4 ⟨a4, n4, c4, rfl, hL4, hb⟩
  have B4 := bstep1 B3' hb
  have hA4 := (hA3'.below ((Below.refl _ _).alloc (Nat.le_refl _) _)).below hb
  have hB4 := (hB3'.below ((Below.refl _ _).alloc (Nat.le_refl _) _)).below hb
  rw [k6.out] at hL4
  rw [k5.out]
  clear hb B3' hA3' hB3' hWR wd1' wd2 hN3' hs3
  go_wp2_with fail
  refine (tied_any _).mono ?_
  rintro e w5 ⟨ga5, ra5, oa5, rfl, hN5, hb⟩
  have B5 := bstep B4 hb
  have hA5 := hA4.below hb
  have hB5 := hB4.below hb
  have hL5 := hL4.below hb
  clear hb B4 hA4 hB4 hL4
  go_wp2_with fail
  refine (PStep_any knotDT _ _ _ _ _ _ _ _ _ _ _ (by exact hN5.below ((Below.refl _ _).alloc (Nat.le_refl _) _)) [] [5] _ _ _ _ _ _ (by exact Words.none _) (by exact Words.new _ _ _ _ [5] rfl rfl (lt_maxLen _ (by decide))) (by intro y hy; simp at hy) (isW_one (by decide) (by decide))).mono ?_
  rintro e w6 ⟨a6, n6, c6, b6, m6, d6, rfl, _, _, hb⟩
  have B6 := bstep1 B5 hb
  have hA6 := (hA5.below ((Below.refl _ _).alloc (Nat.le_refl _) _)).below hb
  have hB6 := (hB5.below ((Below.refl _ _).alloc (Nat.le_refl _) _)).below hb
  have hL6 := (hL5.below ((Below.refl _ _).alloc (Nat.le_refl _) _)).below hb
  rw [k4.out]
  clear hb B5 hA5 hB5 hL5 hN5
  go_wp2_with fail
  refine (knot_any _).mono ?_
  rintro e w7 ⟨b7, _, rfl, hk, hb⟩
  have B7 := bstep B6 hb
  have hA7 := hA6.below hb
  have hB7 := hB6.below hb
  have hL7 := hL6.below hb
  clear hb B6 hA6 hB6 hL6
  go_wp2_with fail
  refine (PRun_any knotD _ _ _ _ _ _ _ _ _ _ _ (by exact knot_net hk) [] _ _ _ (by exact WRows.none _) (by intro r hr; simp at hr)).mono ?_
  rintro e w8 ⟨a8, n8, c8, rfl, _, hb⟩
  have B8 := bstep B7 hb
  have hA8 := hA7.below hb
  have hB8 := hB7.below hb
  have hL8 := hL7.below hb
  rw [k7.out]
  clear hb B7 hA7 hB7 hL7 hk
  have hn4 : n4 = 2 := hL8.1
  subst hn4
  go_wp2_with fail
  refine (SameWords_all [3, 6] _ _ _ _ _ _ _ (by exact hA8.below ((Below.refl _ _).alloc (Nat.le_refl _) _)) (by exact Words.new _ _ _ _ [3, 6] rfl rfl (lt_maxLen _ (by decide)))).mono ?_
  rintro e w9 ⟨rfl, hb⟩
  have B9 := bstep1 B8 hb
  have hB9 := (hB8.below ((Below.refl _ _).alloc (Nat.le_refl _) _)).below hb
  have hL9 := (hL8.below ((Below.refl _ _).alloc (Nat.le_refl _) _)).below hb
  clear hb B8 hA8 hB8 hL8
  go_wp2_with fail
  refine (SameWords_all [3] _ _ _ _ _ _ _ (by exact hB9.below ((Below.refl _ _).alloc (Nat.le_refl _) _)) (by exact Words.new _ _ _ _ [3] rfl rfl (lt_maxLen _ (by decide)))).mono ?_
  rintro e w10 ⟨rfl, hb⟩
  have B10 := bstep1 B9 hb
  have hL10 := (hL9.below ((Below.refl _ _).alloc (Nat.le_refl _) _)).below hb
  clear hb B9 hB9 hL9
  obtain ⟨b, off, a', n', c', rfl, hbb, cL, hW⟩ := hL10.at (k := 1) (by simp)
  go_wp2_with fail
  refine (SameWords_all [4, 5] _ _ _ _ _ _ _ (by exact hW.below ((Below.refl _ _).alloc (Nat.le_refl _) _)) (by exact Words.new _ _ _ _ [4, 5] rfl rfl (lt_maxLen _ (by decide)))).mono ?_
  rintro e w11 ⟨rfl, hb⟩
  have B11 := bstep1 B10 hb
  clear hb B10 cL hW
  go_wp2_with fail
  go_ret
  exact ⟨rfl, B11⟩

set_option maxHeartbeats 2000000 in
theorem PackSteps_any (d : NetD) (ins0 : Int) (ga ra oa : Option Addr) (gn gc rn rc on oc : Nat) (w : World) (h : NetAt w d ins0 ga gn ra rn oa on) (regs ins : List Int) (qa ia : Option Addr) (qn qc inn ic : Nat) (hr : Words w qa qn regs) (hi : Words w ia inn ins) (hwr : ∀ x ∈ regs, isW x) (hwi : ∀ x ∈ ins, isW x) :
    Calls Try.prog 3 #[.agg #[.int .i64 ins0, .slice ga gn gc, .slice ra rn rc, .slice oa on oc], .slice qa qn qc, .slice ia inn ic] w fun e w' => e = .returned (.bool true) ∧ Below w.heap.size w w' := by
  have hb0 : Below w.heap.size w (w.alloc (.cells #[.int .i64 ins0, .slice ga gn gc, .slice ra rn rc, .slice oa on oc] 26)) := (Below.refl _ _).alloc (Nat.le_refl _) _
  have hbox : Boxed (w.alloc (.cells #[.int .i64 ins0, .slice ga gn gc, .slice ra rn rc, .slice oa on oc] 26)) w.heap.size ins0 ga gn gc ra rn rc oa on oc := Boxed.new _ _ _ _ _ _ _ _ _ _ _ _
  have hN := h.below hb0
  have hr0 := hr.below hb0
  have hi0 := hi.below hb0
  have HWR := hide hwr
  have HWI := hide hwi
  clear h hr hi hwr hwi
  obtain ⟨E, hE⟩ : ∃ E, pstepE d regs ins = E := ⟨_, rfl⟩
  have HE := hide hE
  clear hE
  go_enter Try.func3, Try.ntmps3
  go_wp2_with fail
  refine (PStep_any d _ _ _ _ _ _ _ _ _ _ _ hN regs ins _ _ _ _ _ _ hr0 hi0 (unhide HWR) (unhide HWI)).mono ?_
  rintro e w1 ⟨a1, n1, c1, b1, m1, d1, rfl, hA1, hB1, hb⟩
  rw [unhide HE]
  have B1 := bstep hb0 hb
  have hN1 := hN.below hb
  have hr1 := hr0.below hb
  have hi1 := hi0.below hb
  have hx1 := hbox.below hb
  clear hb hb0 hN hbox hr0 hi0
  obtain ⟨x0, x1, x2, x3, x4⟩ := hx1
  go_wp2_with fail
  clear x0 x1 x2 x3 x4
  refine (PackStep_any d _ _ _ _ _ _ _ _ _ _ _ hN1 regs ins _ _ _ _ _ _ hr1 hi1 (unhide HWR) (unhide HWI)).mono ?_
  rintro e w2 ⟨a2, n2, c2, b2, m2, d2, rfl, hA2, hB2, _, _, hb⟩
  rw [unhide HE]
  have B2 := bstep B1 hb
  have hA1' := hA1.below hb
  have hB1' := hB1.below hb
  clear hb B1 hN1 hr1 hi1 hA1 hB1
  go_wp2_with fail
  refine (packBegun_any _).mono ?_
  rintro e w3 ⟨rfl, hb⟩
  have B3 := bstep B2 hb
  have hA3 := hA1'.below hb
  have hB3 := hB1'.below hb
  have hA4 := hA2.below hb
  have hB4 := hB2.below hb
  clear hb B2 hA1' hB1' hA2 hB2
  go_wp2_with fail
  refine (SameWords_all (pstepO d regs ins) _ _ _ _ _ _ _ hA3 hA4).mono ?_
  rintro e w4 ⟨rfl, hb⟩
  have B4 := bstep B3 hb
  have hB5 := hB3.below hb
  have hB6 := hB4.below hb
  clear hb B3 hA3 hA4 hB3 hB4
  go_wp2_with fail
  refine (SameWords_all (pstepN d regs ins) _ _ _ _ _ _ _ hB5 hB6).mono ?_
  rintro e w5 ⟨rfl, hb⟩
  have B5 := bstep B4 hb
  clear hb B4 hB5 hB6
  go_wp2_with fail
  go_ret
  exact ⟨rfl, B5⟩

set_option maxHeartbeats 2000000 in
theorem PackRuns_any (d : NetD) (ins0 : Int) (ga ra oa : Option Addr) (gn gc rn rc on oc : Nat) (w : World) (h : NetAt w d ins0 ga gn ra rn oa on) (l : List (List Int)) (la : Option Addr) (ln lc : Nat) (hl : WRows w la ln l) (hwl : ∀ r ∈ l, ∀ x ∈ r, isW x) :
    Calls Try.prog 4 #[.agg #[.int .i64 ins0, .slice ga gn gc, .slice ra rn rc, .slice oa on oc], .slice la ln lc] w fun e w' => e = .returned (.bool true) ∧ Below w.heap.size w w' := by
  have hb0 : Below w.heap.size w (w.alloc (.cells #[.int .i64 ins0, .slice ga gn gc, .slice ra rn rc, .slice oa on oc] 26)) := (Below.refl _ _).alloc (Nat.le_refl _) _
  have hbox : Boxed (w.alloc (.cells #[.int .i64 ins0, .slice ga gn gc, .slice ra rn rc, .slice oa on oc] 26)) w.heap.size ins0 ga gn gc ra rn rc oa on oc := Boxed.new _ _ _ _ _ _ _ _ _ _ _ _
  have hN := h.below hb0
  have hl0 := hl.below hb0
  have HWL := hide hwl
  clear h hl hwl
  obtain ⟨E, hE⟩ : ∃ E, prunE d l = E := ⟨_, rfl⟩
  have HE := hide hE
  clear hE
  have hee : (E != E) = false := by simp
  go_enter Try.func4, Try.ntmps4
  go_wp2_with fail
  refine (PRun_any d _ _ _ _ _ _ _ _ _ _ _ hN l _ _ _ hl0 (unhide HWL)).mono ?_
  rintro e w1 ⟨a1, n1, c1, rfl, hA1, hb⟩
  rw [unhide HE]
  have B1 := bstep hb0 hb
  have hN1 := hN.below hb
  have hl1 := hl0.below hb
  have hx1 := hbox.below hb
  clear hb hb0 hN hbox hl0
  obtain ⟨x0, x1, x2, x3, x4⟩ := hx1
  go_wp2_with fail
  clear x0 x1 x2 x3 x4
  refine (PackRun_any d _ _ _ _ _ _ _ _ _ _ _ hN1 l _ _ _ hl1 (unhide HWL)).mono ?_
  rintro e w2 ⟨a2, n2, c2, rfl, hA2, hb⟩
  rw [unhide HE]
  have B2 := bstep B1 hb
  have hA1' := hA1.below hb
  clear hb B1 hN1 hl1 hA1
  obtain rfl : n1 = n2 := by rw [hA1'.1, hA2.1]
  have HNL := hide hA2.1
  have hm : n1 ≤ maxLen := by rw [hA2.1]; exact hA2.2.1
  unfold maxLen at hm
  have hnn : ((n1 : Int) != (n1 : Int)) = false := by simp
  go_wp2_with fail
  go_loopw [9] (fun i wr => ∃ k : Nat, k ≤ n1 ∧ i = .int .i64 k ∧ Below w2.heap.size w2 wr) (fun i _ => n1 - (intOf i).toNat)
  case atStart => exact ⟨0, Nat.zero_le _, rfl, Below.refl _ _⟩
  case round =>
    obtain ⟨k, hk, rfl, hbel⟩ := hrel
    by_cases hlt : k < n1
    · have hki : (k : Int) < (n1 : Int) := by omega
      have hkl : k < (prunL d l).length := by have := unhide HNL; omega
      obtain ⟨b, off, a', n', c', rfl, hbb, cA, hW⟩ := (hA1'.below hbel).at hkl
      obtain ⟨b', off', a'', n'', c'', rfl, hbb', cB, hW'⟩ := (hA2.below hbel).at hkl
      have hbd := (Below.refl wr.heap.size wr).drew
      go_wp2_with fail
      go_region_held3 (fun W => Below wr.heap.size wr W ∧ W.cell? ⟨b, off + k, none⟩ = some (.slice a' n' c') ∧ W.cell? ⟨b', off' + k, none⟩ = some (.slice a'' n'' c''))
        ((first | exact ⟨(Below.refl _ _).drew, cA, cB⟩ | exact ⟨hSB, (hSB.cell (p := ⟨b, off + k, none⟩) hbb).trans cA, (hSB.cell (p := ⟨b', off' + k, none⟩) hbb').trans cB⟩))
        ((first
          | (go_at_call 12; refine (SameWords_all (prunL d l)[k] a' a'' n' n'' c' c'' _ (hW.below hbd) (hW'.below hbd)).mono ?_; rintro e wB ⟨rfl, hbB⟩; have hSB := bstep hbd hbB)))
      all_goals have R := hide (bstep hbel hSB)
      all_goals clear hSB hbB hbd cA cB hW hW'
      all_goals go_wp2_with fail
      all_goals exact ⟨⟨k + 1, by omega, by go_num, unhide R⟩, by simp [intOf]; omega⟩
    · go_wp2_with fail
      refine (packBegun_any _).mono ?_
      rintro e w3 ⟨rfl, hb⟩
      have B3 := bstep (bstep B2 hbel) hb
      clear hb hbel
      go_wp2_with fail
      go_ret
      exact ⟨rfl, B3⟩
end Go.Proofs.Ytongajonecgdpae
