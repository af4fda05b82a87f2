/- The program's pack.Step and pack.Run. -/
import Derived.Test.YtfeceelibjdaoaePackS
import Derived.Test.YtfeceelibjdaoaeNetQ
namespace Go.Proofs.Ytfeceelibjdaoae
open Go.RowKit

def pstepE (d : NetD) (r i : List Int) : Int := if orderE d = 0 then (if r.length = d.regs.length ∧ (i.length : Int) = d.ins then 0 else 1) else orderE d
def pstepO (d : NetD) (r i : List Int) : List Int := if pstepE d r i = 0 then packOuts d r i else []
def pstepN (d : NetD) (r i : List Int) : List Int := if pstepE d r i = 0 then packNext d r i else []

set_option maxHeartbeats 1000000 in
theorem PStep_any (d : NetD) (ins0 : Int) (ga ra oa : Option Addr) (gn gc rn rc on oc : Nat) (w : World) (h : NetAt w d ins0 ga gn ra rn oa on) (regs ins : List Int) (qa ia : Option Addr) (qn qc inn ic : Nat) (hr : Words w qa qn regs) (hi : Words w ia inn ins) (hwr : ∀ x ∈ regs, isW x) (hwi : ∀ x ∈ ins, isW x) :
    Calls Try.prog 6 #[.agg #[.int .i64 ins0, .slice ga gn gc, .slice ra rn rc, .slice oa on oc], .slice qa qn qc, .slice ia inn ic] w fun e w' => ∃ a n c b m k, e = .returned (.tuple #[.slice a n c, .slice b m k, .int .i64 (pstepE d regs ins)]) ∧ Words w' a n (pstepO d regs ins) ∧ Words w' b m (pstepN d regs ins) ∧ Below w.heap.size w w' := by
  have hb0 : Below w.heap.size w (w.alloc (.cells #[.int .i64 ins0, .slice ga gn gc, .slice ra rn rc, .slice oa on oc] 26)) := (Below.refl _ _).alloc (Nat.le_refl _) _
  have hbox : Boxed (w.alloc (.cells #[.int .i64 ins0, .slice ga gn gc, .slice ra rn rc, .slice oa on oc] 26)) w.heap.size ins0 ga gn gc ra rn rc oa on oc := Boxed.new _ _ _ _ _ _ _ _ _ _ _ _
  have hN := h.below hb0
  have hr0 := hr.below hb0
  have hi0 := hi.below hb0
  have HWR := hide hwr
  have HWI := hide hwi
  clear h hr hi hwr hwi
  go_enter Try.func6, Try.ntmps6
  go_wp2_with fail
  refine (Order_any d _ _ _ _ _ _ _ _ _ _ _ hN).mono ?_
  rintro e w1 ⟨la, ln, lc, rfl, hO, hb⟩
  have B1 := bstep hb0 hb
  have hN1 := hN.below hb
  have hr1 := hr0.below hb
  have hi1 := hi0.below hb
  have hx1 := hbox.below hb
  have HRN := hide hr1.1
  have HIN := hide hi1.1
  have HDR := hide hN1.regs.1
  have HDI := hide hN1.ins
  clear hb hb0 hN hbox hr0 hi0
  by_cases e0 : orderE d = 0
  case neg =>
    have HE := hide (show pstepE d regs ins = orderE d by unfold pstepE; rw [if_neg e0])
    have HO := hide (show pstepO d regs ins = [] by unfold pstepO; rw [if_neg (by rw [unhide HE]; exact e0)])
    have HX := hide (show pstepN d regs ins = [] by unfold pstepN; rw [if_neg (by rw [unhide HE]; exact e0)])
    obtain ⟨ee, hee⟩ : ∃ ee, orderE d = ee := ⟨_, rfl⟩
    rw [hee] at e0
    rw [hee]
    have HEE := hide hee
    have hq : (ee != 0) = true := by simp only [bne_iff_ne, ne_eq]; exact e0
    clear e0 hee hx1
    go_wp2_with fail
    go_ret3
    exact ⟨none, 0, 0, none, 0, 0, ret_sl2 (by rw [unhide HE, unhide HEE]), by rw [unhide HO]; exact Words.none _, by rw [unhide HX]; exact Words.none _, B1⟩
  have HOE := hide e0
  rw [e0]
  clear e0
  have hx0 := hx1
  obtain ⟨x0, x1, x2, x3, x4⟩ := hx1
  by_cases e1 : qn = rn
  case neg =>
    have HE := hide (show pstepE d regs ins = 1 by
      unfold pstepE
      rw [if_pos (unhide HOE), if_neg (fun hh => e1 (by have h1 := hh.1; have h2 := unhide HRN; have h3 := unhide HDR; omega))])
    have HO := hide (show pstepO d regs ins = [] by unfold pstepO; rw [if_neg (by rw [unhide HE]; decide)])
    have HX := hide (show pstepN d regs ins = [] by unfold pstepN; rw [if_neg (by rw [unhide HE]; decide)])
    have hne : ((qn : Int) != (rn : Int)) = true := by simp only [bne_iff_ne, ne_eq]; omega
    clear e1
    go_wp2_with fail
    go_ret3
    exact ⟨none, 0, 0, none, 0, 0, ret_sl2 (unhide HE).symm, by rw [unhide HO]; exact Words.none _, by rw [unhide HX]; exact Words.none _, B1⟩
  have hne1 : ((qn : Int) != (rn : Int)) = false := by simp only [bne_eq_false_iff_eq]; omega
  by_cases e2 : (inn : Int) = ins0
  case neg =>
    have HE := hide (show pstepE d regs ins = 1 by
      unfold pstepE
      rw [if_pos (unhide HOE), if_neg (fun hh => e2 (by have h1 := hh.2; have h2 := unhide HIN; have h3 := unhide HDI; omega))])
    have HO := hide (show pstepO d regs ins = [] by unfold pstepO; rw [if_neg (by rw [unhide HE]; decide)])
    have HX := hide (show pstepN d regs ins = [] by unfold pstepN; rw [if_neg (by rw [unhide HE]; decide)])
    have hne : ((inn : Int) != ins0) = true := by simp only [bne_iff_ne, ne_eq]; omega
    clear e1 e2
    go_wp2_with fail
    go_ret3
    exact ⟨none, 0, 0, none, 0, 0, ret_sl2 (unhide HE).symm, by rw [unhide HO]; exact Words.none _, by rw [unhide HX]; exact Words.none _, B1⟩
  have hne2 : ((inn : Int) != ins0) = false := by simp only [bne_eq_false_iff_eq]; omega
  have HL1 := hide (show regs.length = d.regs.length by have h2 := unhide HRN; have h3 := unhide HDR; omega)
  have HL2 := hide (show (ins.length : Int) = d.ins by have h2 := unhide HIN; have h3 := unhide HDI; omega)
  have HE := hide (show pstepE d regs ins = 0 by unfold pstepE; rw [if_pos (unhide HOE), if_pos ⟨unhide HL1, unhide HL2⟩])
  have HO := hide (show pstepO d regs ins = packOuts d regs ins by unfold pstepO; rw [if_pos (unhide HE)])
  have HX := hide (show pstepN d regs ins = packNext d regs ins by unfold pstepN; rw [if_pos (unhide HE)])
  clear e1 e2
  have hal := (Below.refl _ w1).alloc (Nat.le_refl _) (.cells #[.pointer (some ⟨w.heap.size, 0, none⟩), .slice la ln lc, .slice qa qn qc] 48)
  have hcs := Cells.new w1 [.pointer (some ⟨w.heap.size, 0, none⟩), .slice la ln lc, .slice qa qn qc] 48
  have hr2 := hr1.below hal
  go_wp2_with fail
  clear x0 x1 x2 x3 x4 hne1 hne2
  refine (bstep_any d ins0 ga ra oa gn gc rn rc on oc w.heap.size w1 _ hN1 hx0 la ln lc hO (unhide HOE) regs ins qa ia qn qc inn ic hi1 hal w1.heap.size (Nat.le_refl _) hcs hr2 (unhide HL1) (unhide HL2) (unhide HWR) (unhide HWI)).mono ?_
  rintro e w3 ⟨a, c, ha', hc', rfl, h1, _, h2, _, h3, h4⟩
  have B3 : Below w.heap.size w w3 := B1.trans ((hal.trans h4.1).mono B1.size)
  have z2 := h3.cell 2
  rw [← unhide HO] at h1
  rw [← unhide HX] at h2
  have R := hide (And.intro h1.2 h2.2)
  have H1 := hide h1.1
  have H2 := hide h2.1
  clear h1 h2 h3 h4 hal hcs hr2
  go_wp2_with fail
  go_region_held3 (fun W => W.cell? ⟨w1.heap.size, 2, none⟩ = some (.slice ha' rn hc'))
    ((exact z2))
    (fail)
  all_goals have RB := hide B3.drew
  all_goals clear z2 B3
  all_goals go_wp2_with fail
  all_goals go_ret3
  all_goals exact ⟨_, _, _, _, _, _, ret_sl2 (unhide HE).symm, ⟨unhide H1, (unhide R).1⟩, ⟨unhide H2, (unhide R).2⟩, unhide RB⟩

/-- Words by which all runs have the same. -/
def alikeV (xs : List Int) : List Int := xs.map (fun v => if v = 1 then fullW else 0)
theorem alike_isW (xs : List Int) : ∀ x ∈ alikeV xs, isW x := by
  intro x hx
  obtain ⟨y, _, rfl⟩ := List.mem_map.1 hx
  split
  · exact full_bit.1
  · exact zero_bit.1

set_option maxHeartbeats 1000000 in
theorem alike_any (xs : List Int) (a : Option Addr) (n c : Nat) (w : World) (h : Ints w a n xs) (hn : n ≤ 200) :
    Calls Try.prog 22 #[.slice a n c] w fun e w' => ∃ a' c', e = .returned (.slice a' n c') ∧ Words w' a' n (alikeV xs) ∧ Below w.heap.size w w' := by
  have HLL : Hid (xs.length = n) := h.1.symm
  have HML : Hid ((alikeV xs).length = n) := by unfold Hid alikeV; rw [List.length_map]; exact HLL.out
  obtain ⟨i0, hi, hz0, hz1, hz2⟩ := info_parts Try.infoU
  go_enter Try.func22, Try.ntmps22
  go_wp2_with (at_make; refine wpList_make_full _ rfl _ _ 27 rfl w.heap.size 39 i0 (.int .u64 0) 1 Try.underlying27 hi hz0 hz1 .i64 .i64 (n : Int) (n : Int) n rfl rfl rfl rfl ?c1 ?c2 ?c3 ?_)
  case c1 => rw [hz2]; omega
  case c2 => unfold maxLen; omega
  case c3 => exact Nat.le_refl _
  intro w2 hown hgrow
  have hb2 : Below w.heap.size w w2 := (Below.refl _ _).grown hgrow (Nat.le_refl _) (fun k hk => by simp at hk)
  have hrow0 := made_words hown
  clear hown hgrow hi hz0 hz1 hz2
  go_wp2_with fail
  go_loopw [11] (fun i wr => ∃ k : Nat, k ≤ n ∧ i = .int .i64 k ∧ Cells wr w.heap.size (wordsV (partTo 0 (alikeV xs) k)) 39 ∧ Below w.heap.size w wr) (fun i _ => n - (intOf i).toNat)
  case atStart => exact ⟨0, Nat.zero_le _, rfl, by rw [partTo_zero, HML.out]; exact hrow0, hb2⟩
  case round =>
    clear hrow0 hb2
    obtain ⟨k, hk, rfl, hrow, hbel⟩ := hrel
    by_cases hlt : k < n
    · have hltl : k < xs.length := by have := HLL.out; omega
      have hki : (k : Int) < (n : Int) := by omega
      obtain ⟨b, off, rfl, hbb, c1⟩ := (h.below hbel).at hltl
      have hpk : k < (alikeV xs).length := by rw [HML.out]; exact hlt
      have hpl : k < (partTo 0 (alikeV xs) k).length := by rw [partTo_len _ _ _ (by omega)]; exact hpk
      obtain ⟨z, d1⟩ : ∃ z, wr.cell? ⟨w.heap.size, k, none⟩ = some (.int .u64 z) := ⟨_, wcell hrow k hpl⟩
      have d2 := hrow.frozen k
      have hrow2 := wset hrow k 0
      have hb3 : Below w.heap.size w (wr.setCell ⟨w.heap.size, k, none⟩ (.int .u64 0)) := hbel.setCell (Nat.le_refl _) _
      have hset := partTo_set 0 (alikeV xs) k hpk
      by_cases e : xs[k] = 1
      · have hval : (alikeV xs)[k] = 18446744073709551615 := by simp [alikeV, e, fullW_is]
        obtain ⟨z2, d3⟩ : ∃ z, (wr.setCell ⟨w.heap.size, k, none⟩ (.int .u64 0)).cell? ⟨w.heap.size, k, none⟩ = some (.int .u64 z) := ⟨_, wcell hrow2 k (by rw [List.length_set]; exact hpl)⟩
        have d4 := hrow2.frozen k
        have hrow3 := wset hrow2 k 18446744073709551615
        rw [hval] at hset
        rw [List.set_set, hset] at hrow3
        have hb4 : Below w.heap.size w ((wr.setCell ⟨w.heap.size, k, none⟩ (.int .u64 0)).setCell ⟨w.heap.size, k, none⟩ (.int .u64 18446744073709551615)) := hb3.setCell (Nat.le_refl _) _
        rw [e] at c1
        have R := hide (And.intro hrow3 hb4)
        clear hset hpl hpk hrow hval hrow2 hb3 hrow3 hb4 e
        go_wp2_with fail
        exact ⟨⟨k + 1, by omega, by go_num, (unhide R).1, (unhide R).2⟩, by simp [intOf]; omega⟩
      · have hval : (alikeV xs)[k] = 0 := by simp [alikeV, e]
        rw [hval] at hset
        rw [hset] at hrow2
        have hq : (xs[k] == 1) = false := by simp [e]
        have R := hide (And.intro hrow2 hb3)
        clear hset hpl hpk hrow hval hrow2 hb3 e
        go_wp2_with fail
        exact ⟨⟨k + 1, by omega, by go_num, (unhide R).1, (unhide R).2⟩, by simp [intOf]; omega⟩
    · have hkn : k = (alikeV xs).length := by rw [HML.out]; omega
      rw [hkn, partTo_full] at hrow
      have hI := hrow.words (n := n) HML.out.symm (by rw [HML.out]; unfold maxLen; omega)
      clear hkn hrow
      go_wp2_with fail
      go_ret
      exact ⟨_, _, rfl, hI, hbel⟩
end Go.Proofs.Ytfeceelibjdaoae
