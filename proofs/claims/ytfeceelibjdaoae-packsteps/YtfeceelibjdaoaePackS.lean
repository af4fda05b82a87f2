/- The program's words: an instant of the board. -/
import Derived.Test.YtfeceelibjdaoaePackQ
namespace Go.Proofs.Ytfeceelibjdaoae
open Go.RowKit

/-- All but one block lies as it did. -/
def Stepped (bb : Nat) (w w' : World) : Prop := Below bb w w' ∧ ∀ k, bb < k → k < w.heap.size → w'.heap[k]? = w.heap[k]?
theorem Words.other {w w' : World} {a : Option Addr} {n : Nat} {xs : List Int} {B : Nat} (h : Words w a n xs) (hF : Fresh B a n) (hs : w.heap.size ≤ w'.heap.size) (hk : ∀ k, B ≤ k → k < w.heap.size → w'.heap[k]? = w.heap[k]?) : Words w' a n xs := by
  obtain ⟨h1, h2, h3⟩ := h
  refine ⟨h1, h2, ?_⟩
  rcases h3 with h3 | ⟨b, off, ha, hlt, hc⟩
  · exact Or.inl h3
  · rcases hF with hF | ⟨b', off', ha', hB⟩
    · left; exact List.length_eq_zero_iff.1 (by omega)
    · rw [ha] at ha'
      injection ha' with ha'
      injection ha' with e1 e2 _
      subst e1
      refine Or.inr ⟨b, off, ha, Nat.lt_of_lt_of_le hlt hs, fun i hi => ?_⟩
      rw [World.cell?_of_block (a := ⟨b, off + i, Option.none⟩) (hk b hB hlt)]
      exact hc i hi
theorem set_block {w : World} {bb k : Nat} {v : Value} {j : Nat} (h : j ≠ bb) : (w.setCell ⟨bb, k, none⟩ v).heap[j]? = w.heap[j]? := Below.heap_setCell w _ v j (by simpa using h)

/-- What the board's step answers. -/
def StepsTo (d : NetD) (held ins : List Int) (bb : Nat) (nb : Nat) (la : Option Addr) (ln lc on rn : Nat) (w w' : World) (e : Ending) : Prop :=
  ∃ a c ha' hc', e = .returned (.slice a on c) ∧ Words w' a on (packOuts d held ins) ∧ Fresh w.heap.size a on ∧ Words w' ha' rn (packNext d held ins) ∧ Fresh w.heap.size ha' rn ∧ Cells w' bb [.pointer (some ⟨nb, 0, none⟩), .slice la ln lc, .slice ha' rn hc'] 48 ∧ Stepped bb w w'

set_option maxRecDepth 100000 in
set_option maxHeartbeats 2000000 in
theorem bstep_any (d : NetD) (ins0 : Int) (ga ra oa : Option Addr) (gn gc rn rc on oc nb : Nat) (w1 w : World) (hN : NetAt w1 d ins0 ga gn ra rn oa on) (hx : Boxed w1 nb ins0 ga gn gc ra rn rc oa on oc) (la : Option Addr) (ln lc : Nat) (hO : Ints w1 la ln (orderL d)) (ho : orderE d = 0)
    (held ins : List Int) (ha ia : Option Addr) (hn hc inn ic : Nat) (hi : Words w1 ia inn ins) (hbel1 : Below w1.heap.size w1 w) (bb : Nat) (hbb : w1.heap.size ≤ bb) (hcs : Cells w bb [.pointer (some ⟨nb, 0, none⟩), .slice la ln lc, .slice ha hn hc] 48)
    (hH : Words w ha hn held) (hrl : held.length = d.regs.length) (hil : (ins.length : Int) = d.ins) (hwr : ∀ x ∈ held, isW x) (hwi : ∀ x ∈ ins, isW x) :
    Calls Try.prog 15 #[.pointer (some ⟨bb, 0, none⟩), .slice ia inn ic] w fun e w' => StepsTo d held ins bb nb la ln lc on rn w w' e := by
  have HG : Hid (d.gates.length = gn) := hN.gates.1.symm
  obtain ⟨hck, hho⟩ := orderE_ok ho
  have hlo : (ordTo d d.gates.length).length = d.gates.length := by unfold hasOrd at hho; simpa using hho
  have HCK := hide hck
  have HHO := hide hho
  have HLO := hide hlo
  have HOE := hide ho
  have HOL := hide (show orderL d = (ordTo d d.gates.length).map (fun (k : Nat) => (k : Int)) by unfold orderL; rw [if_pos ho])
  have hcn := counts_gates (check_ok hck).1
  have hgn : gn ≤ 200 := by have := HG.out; omega
  have hon : on ≤ 200 := by have := hN.outs.1; omega
  have hrn : rn ≤ 20 := by have := hN.regs.1; omega
  have hln : ln = gn := by rw [hO.1, unhide HOL, List.length_map, hlo]; exact HG.out
  subst hln
  have HRT : Hid (∀ k (hk : k < d.gates.length), Right d.gates[k] hn inn ln) := by
    intro k hk
    have := right_of hck k hk
    have e1 : d.regs.length = hn := by have := hH.1; omega
    have e2 : d.ins.toNat = inn := by have := hi.1; omega
    rw [e1, e2, HG.out] at this
    exact this
  have HRL := hide hrl
  have HIL := hide hil
  have HIT := hide (show ins.length = d.ins.toNat by omega)
  have HWR := hide hwr
  have HWI := hide hwi
  have HNL := hide (show (nextsV d).length = rn by rw [nextsV_len]; exact hN.regs.1.symm)
  have HOI := hide (show ∀ k (hk : k < d.outs.length), 0 ≤ d.outs[k] ∧ d.outs[k] < d.gates.length from fun k hk => outs_in (check_ok hck).2.1 k hk)
  have HNI := hide (show ∀ k (hk : k < (nextsV d).length), 0 ≤ (nextsV d)[k] ∧ (nextsV d)[k] < d.gates.length from fun k hk => nexts_in (check_ok hck).2.1 k hk)
  clear ho hck hho hlo hcn hrl hil hwr hwi
  have hxw := hx.below hbel1
  have hbl := hcs.lt
  have z0 := hcs.cell 0
  have z1 := hcs.cell 1
  have z2 := hcs.cell 2
  obtain ⟨x0, x1, x2, x3, x4⟩ := hxw
  obtain ⟨i0, hi0, hz0, hz1, hz2⟩ := info_parts Try.infoU
  go_enter Try.func15, Try.ntmps15
  go_wp2_with (at_make; refine wpList_make_full _ rfl _ _ 27 rfl w.heap.size 39 i0 (.int .u64 0) 1 Try.underlying27 hi0 hz0 hz1 .i64 .i64 (ln : Int) (ln : Int) ln rfl rfl rfl rfl ?c1 ?c2 ?c3 ?_)
  case c1 => rw [hz2]; omega
  case c2 => unfold maxLen; omega
  case c3 => exact Nat.le_refl _
  intro w2 hown hgrow
  have hb2 : Below w.heap.size w w2 := (Below.refl _ _).grown hgrow (Nat.le_refl _) (fun k hk => by simp at hk)
  have hrow0 := made_words hown
  have hc2 := hcs.below hb2 hbl
  clear hown hgrow hi0 hz0 hz1 hz2 x1 x2 x3 x4 z0 z1 z2
  have z0 := hc2.cell 0
  have z1 := hc2.cell 1
  have z2 := hc2.cell 2
  go_wp2_with fail
  clear z0 z1 z2 hc2
  go_loopw [22] (fun i wr => ∃ (m : Nat) (x : List Int), m ≤ ln ∧ i = .int .i64 m ∧ (x.length = ln ∧ (∀ y ∈ x, isW y) ∧ WSofar d held ins x m) ∧ Cells wr w.heap.size (wordsV x) 39 ∧ Below w.heap.size w wr) (fun i _ => ln - (intOf i).toNat)
  case atStart => exact ⟨0, List.replicate ln 0, Nat.zero_le _, rfl, ⟨by simp, by intro y hy; rw [List.eq_of_mem_replicate hy]; exact zero_bit.1, by intro k _ j hj; simp at hj⟩, hrow0, hb2⟩
  case round =>
    clear hrow0 hb2
    obtain ⟨m, x, hm, rfl, ⟨hxl, hvx, hsf⟩, hrow, hbel⟩ := hrel
    have hc3 := hcs.below hbel hbl
    have z0 := hc3.cell 0
    have z1 := hc3.cell 1
    have z2 := hc3.cell 2
    have hb13 : Below w1.heap.size w1 wr := hbel1.trans (hbel.mono hbel1.size)
    have hxr := hx.below hb13
    by_cases hlt : m < ln
    · have hmi : (m : Int) < (ln : Int) := by omega
      have hmo : m < (ordTo d d.gates.length).length := by have := unhide HLO; have := HG.out; omega
      obtain ⟨k, hk⟩ : ∃ k, (ordTo d d.gates.length)[m] = k := ⟨_, rfl⟩
      have hkl : k < d.gates.length := by rw [← hk]; exact (ord_to d d.gates.length).lt _ (List.getElem_mem hmo)
      have hkn : k < ln := by have := HG.out; omega
      have hki : (k : Int) < (ln : Int) := by omega
      have hml : m < (orderL d).length := by rw [unhide HOL, List.length_map]; exact hmo
      obtain ⟨b1, o1, rfl, hb1, c1⟩ := (hO.below hb13).at hml
      have hok : (orderL d)[m] = (k : Int) := by simp only [unhide HOL, List.getElem_map, hk]
      rw [hok] at c1
      have HNX := hide (WSofar.next (unhide HCK) (unhide HRL) (unhide HIT) hmo hsf (by rw [hxl]; exact HG.out.symm) hvx hk hkl)
      have HVS := hide (show ∀ y ∈ x.set k (wordV d.gates[k] held ins x), isW y by
        intro y hy
        rcases List.mem_or_eq_of_mem_set hy with h1 | h1
        · exact hvx y h1
        · rw [h1]; exact worthV_isW (unhide HWR) (unhide HWI) hvx)
      have HXL := hide hxl
      have HVX := hide hvx
      have hV := hrow.words (n := ln) hxl.symm (by rw [hxl]; unfold maxLen; omega)
      obtain ⟨b, off, aa, an, ac, rfl, hbb0, g1, g2, g3, hI⟩ := (hN.gates.below hb13).at' hkl
      have hHr := hH.below hbel
      have hir := hi.below hb13
      have HROW := hide hrow
      have hrl := hrow.lt
      clear hk hok hml hsf hmo hvx hxl hrow
      obtain ⟨x0, x1, x2, x3, x4⟩ := hxr
      go_wp2_with fail
      refine (word_any d.gates[k] aa an ac held ins x bb ha ia (some ⟨w.heap.size, 0, none⟩) hn hc inn ic ln ln wr hI hc3.lt z2 hHr hir hV (HRT.out k hkl) (unhide HVX)).mono ?_
      rintro e wB ⟨rfl, hbB⟩
      have hr4 := (unhide HROW).below hbB hrl
      obtain ⟨z, d1⟩ : ∃ z, wB.cell? ⟨w.heap.size, k, none⟩ = some (.int .u64 z) := ⟨_, wcell hr4 k (by rw [unhide HXL]; exact hkn)⟩
      have d2 := hr4.frozen k
      have R1 := wset hr4 k (wordV d.gates[k] held ins x)
      have R2 : Below w.heap.size w (wB.setCell ⟨w.heap.size, k, none⟩ (.int .u64 (wordV d.gates[k] held ins x))) := (bstep hbel hbB).setCell (Nat.le_refl _) _
      have R := hide (And.intro R1 R2)
      clear R1 R2 hr4 x0 x1 x2 x3 x4 z0 z1 z2 g1 g2 g3 hbB hV hI hHr hir hc3 c1
      go_wp2_with fail
      exact ⟨⟨m + 1, _, by omega, by go_num, ⟨by rw [List.length_set]; exact unhide HXL, unhide HVS, unhide HNX⟩, (unhide R).1, (unhide R).2⟩, by simp [intOf]; omega⟩
    · have HF := hide (WSofar.full (unhide HHO) (by rw [unhide HLO, HG.out, show ln = m by omega]; exact hsf) (by rw [hxl]; exact HG.out.symm))
      have HXG := hide (show x.length = d.gates.length by rw [hxl]; exact HG.out.symm)
      have HPO := hide (pack_outs (unhide HOE) (unhide HRL) (unhide HIL) (unhide HXG) hvx (unhide HF))
      have HPN := hide (pack_next (unhide HOE) (unhide HRL) (unhide HIL) (unhide HXG) hvx (unhide HF))
      have hV := hrow.words (n := ln) hxl.symm (by rw [hxl]; unfold maxLen; omega)
      have HOI2 := hide (show ∀ k (hk : k < d.outs.length), 0 ≤ d.outs[k] ∧ d.outs[k] < x.length by rw [unhide HXG]; exact unhide HOI)
      have HNI2 := hide (show ∀ k (hk : k < (nextsV d).length), 0 ≤ (nextsV d)[k] ∧ (nextsV d)[k] < x.length by rw [unhide HXG]; exact unhide HNI)
      clear hsf hvx hxl
      obtain ⟨x0, x1, x2, x3, x4⟩ := hxr
      go_wp2_with fail
      refine (Nexts_any d.regs _ _ _ _ (hN.regs.below hb13) (by omega)).mono ?_
      rintro e w4 ⟨aB, cB, rfl, hIB, _, _, hbB⟩
      have hV4 := hV.below hbB
      have hc4 := hc3.below hbB hc3.lt
      have B4 := bstep hbel hbB
      clear x1 x2 x3 x4 z0 z1 z2 hV hrow hc3
      have z0 := hc4.cell 0
      have z1 := hc4.cell 1
      have z2 := hc4.cell 2
      go_wp2_with fail
      refine (PickW_any x (nextsV d) _ _ _ _ _ _ _ hV4 hIB (by omega) (unhide HNI2)).mono ?_
      rintro e w5 ⟨a5, c5, rfl, hI5, hF5, hb5⟩
      rw [unhide HPN] at hI5
      have hV5 := hV4.below hb5
      have hc5 := hc4.below hb5 hc4.lt
      have B5 := bstep B4 hb5
      have f2 := hc5.frozen 2
      have hF5' := hF5.down B4.size
      clear z0 z1 z2 hV4 hc4 hbB hIB hF5
      have z0 := hc5.cell 0
      have z1 := hc5.cell 1
      have z2 := hc5.cell 2
      -- the store
      have hc6 := hc5.set 2 (.slice a5 rn c5)
      have hne : ∀ k, w.heap.size ≤ k → (w5.setCell ⟨bb, 2, none⟩ (.slice a5 rn c5)).heap[k]? = w5.heap[k]? := fun k hk => set_block (by omega)
      have hsz6 : (w5.setCell ⟨bb, 2, none⟩ (.slice a5 rn c5)).heap.size = w5.heap.size := by simp
      have hV6 := Words.other hV5 (B := w.heap.size) (Or.inr ⟨_, 0, rfl, Nat.le_refl _⟩) (Nat.le_of_eq hsz6.symm) (fun k hk _ => hne k hk)
      have hI6 := Words.other hI5 hF5' (Nat.le_of_eq hsz6.symm) (fun k hk _ => hne k hk)
      have hb16 : Below w1.heap.size w1 (w5.setCell ⟨bb, 2, none⟩ (.slice a5 rn c5)) := (hbel1.trans (B5.mono hbel1.size)).setCell hbb _
      have hst : Stepped bb w (w5.setCell ⟨bb, 2, none⟩ (.slice a5 rn c5)) := ⟨(B5.mono (Nat.le_of_lt hbl)).setCell (Nat.le_refl _) _, fun k h1 h2 => (set_block (by omega)).trans (B5.block k h2)⟩
      have hs6 := B5.size
      clear hV5 hI5 B5 hc5 hne hb5 B4
      obtain ⟨x0, x1, x2, x3, x4⟩ := hx.below hb16
      go_wp2_with fail
      generalize w5.setCell ⟨bb, 2, none⟩ (.slice a5 rn c5) = w6 at *
      clear x1 x2 x3 x4 z0 z1 z2 f2
      refine (PickW_any x d.outs _ _ _ _ _ _ _ hV6 (hN.outs.below hb16) hon (unhide HOI2)).mono ?_
      rintro e w7 ⟨a7, c7, rfl, hI7, hF7, hb7⟩
      rw [unhide HPO] at hI7
      have R1 := hF7.down (b' := w.heap.size) (by omega)
      have R2 := hI6.below hb7
      have R3 := hc6.below hb7 hc6.lt
      have R4 : Stepped bb w w7 := ⟨hst.1.trans (hb7.mono (by omega)), fun k h1 h2 => (hb7.block k (by omega)).trans (hst.2 k h1 h2)⟩
      have R := hide (And.intro hI7 (And.intro R1 (And.intro R2 (And.intro R3 R4))))
      clear R1 R2 R3 R4 hI7 hF7 hst hI6 hc6 hV6 hb16 hb7
      go_wp2_with fail
      go_ret
      exact ⟨a7, c7, a5, c5, rfl, (unhide R).1, (unhide R).2.1, (unhide R).2.2.1, hF5', (unhide R).2.2.2.1, (unhide R).2.2.2.2⟩
end Go.Proofs.Ytfeceelibjdaoae
