/- The program's pack.Run. -/
import Derived.Test.YtfeceelibjdaoaePackT
namespace Go.Proofs.Ytfeceelibjdaoae
open Go.RowKit

/-- A row of rows of words. -/
def WRows (w : World) (a : Option Addr) (n : Nat) (xss : List (List Int)) : Prop :=
  n = xss.length ∧ xss.length ≤ maxLen ∧ (xss = [] ∨ ∃ b off, a = some ⟨b, off, none⟩ ∧ b < w.heap.size ∧ ∀ i (hi : i < xss.length), ∃ a' n' c', w.cell? ⟨b, off + i, none⟩ = some (.slice a' n' c') ∧ Words w a' n' xss[i])
theorem WRows.below {w w' : World} {a : Option Addr} {n : Nat} {xss : List (List Int)} (h : WRows w a n xss) (hb : Below w.heap.size w w') : WRows w' a n xss := by
  obtain ⟨h1, h2, h3⟩ := h
  refine ⟨h1, h2, ?_⟩
  rcases h3 with h3 | ⟨b, off, ha, hlt, hc⟩
  · exact Or.inl h3
  · refine Or.inr ⟨b, off, ha, Nat.lt_of_lt_of_le hlt hb.size, fun i hi => ?_⟩
    obtain ⟨a', n', c', h4, h5⟩ := hc i hi
    exact ⟨a', n', c', (hb.cell (p := ⟨b, off + i, none⟩) hlt).trans h4, h5.below hb⟩
theorem WRows.none (w : World) : WRows w Option.none 0 [] := ⟨rfl, Nat.zero_le _, Or.inl rfl⟩
theorem WRows.at {w : World} {a : Option Addr} {n : Nat} {xss : List (List Int)} (h : WRows w a n xss) {k : Nat} (hk : k < xss.length) :
    ∃ b off a' n' c', a = some ⟨b, off, Option.none⟩ ∧ b < w.heap.size ∧ w.cell? ⟨b, off + k, Option.none⟩ = some (.slice a' n' c') ∧ Words w a' n' xss[k] := by
  obtain ⟨h1, h2, h3⟩ := h
  rcases h3 with h3 | ⟨b, off, ha, hlt, hc⟩
  · rw [h3] at hk; simp at hk
  · obtain ⟨a', n', c', h4, h5⟩ := hc k hk
    exact ⟨b, off, a', n', c', ha, hlt, h4, h5⟩

def packAt (d : NetD) (l : List (List Int)) : Nat → List Int
  | 0 => alikeV (begins d)
  | k + 1 => packNext d (packAt d l k) (l.getD k [])
def packRow (d : NetD) (l : List (List Int)) (k : Nat) : List Int := packOuts d (packAt d l k) (l.getD k [])
def packRows (d : NetD) (l : List (List Int)) (k : Nat) : List (List Int) := (List.range k).map (packRow d l)
def rowsOk (d : NetD) (l : List (List Int)) (k : Nat) : Bool := (l.take k).all (fun r => decide ((r.length : Int) = d.ins))
def prunE (d : NetD) (l : List (List Int)) : Int := if orderE d = 0 then (if 60 < l.length then 2 else if rowsOk d l l.length then 0 else 1) else orderE d
def prunL (d : NetD) (l : List (List Int)) : List (List Int) := if prunE d l = 0 then packRows d l l.length else []
theorem rowsOk_succ (d : NetD) (l : List (List Int)) (k : Nat) (h : k < l.length) : rowsOk d l (k + 1) = (rowsOk d l k && decide ((l[k].length : Int) = d.ins)) := all_take_succ _ l k h
theorem rowsOk_no {d : NetD} {l : List (List Int)} {k : Nat} (h : k < l.length) (hn : ¬ (l[k].length : Int) = d.ins) : rowsOk d l l.length = false := by
  unfold rowsOk
  rw [List.take_length, List.all_eq_false]
  exact ⟨l[k], List.getElem_mem h, by simpa using hn⟩
theorem rowsOk_at {d : NetD} {l : List (List Int)} (h : rowsOk d l l.length = true) (k : Nat) (hk : k < l.length) : (l[k].length : Int) = d.ins := by
  unfold rowsOk at h
  rw [List.take_length, List.all_eq_true] at h
  simpa using h _ (List.getElem_mem hk)
theorem packRows_succ (d : NetD) (l : List (List Int)) (k : Nat) : packRows d l (k + 1) = packRows d l k ++ [packRow d l k] := by
  unfold packRows; rw [List.range_succ, List.map_append]; rfl
theorem next01 (d : NetD) (r i : List Int) (j k : Nat) : (laneNext d r i k).getD j 0 = 0 ∨ (laneNext d r i k).getD j 0 = 1 := by
  by_cases hj : j < (laneNext d r i k).length
  · rw [show (laneNext d r i k).getD j 0 = (laneNext d r i k)[j] by simp [List.getD_eq_getElem?_getD, hj]]
    have hm := List.getElem_mem hj
    by_cases e : doE d (laneV r k) (laneV i k) = 0
    · exact doNext_vals e _ hm
    · unfold laneNext doNext at hj
      rw [if_neg e] at hj
      simp at hj
  · left; simp [List.getD_eq_getElem?_getD, List.getElem?_eq_none (show (laneNext d r i k).length ≤ j by omega)]
theorem packNext_isW (d : NetD) (r i : List Int) : ∀ x ∈ packNext d r i, isW x := by
  intro x hx
  obtain ⟨j, _, rfl⟩ := List.mem_map.1 hx
  exact wordTo_lt (f := laneNext d r i) (i := j) (fun k => next01 d r i j k) 64
theorem packNext_len (d : NetD) (r i : List Int) : (packNext d r i).length = d.regs.length := by simp [packNext]
theorem packAt_isW (d : NetD) (l : List (List Int)) : ∀ k, ∀ x ∈ packAt d l k, isW x
  | 0 => alike_isW _
  | _ + 1 => packNext_isW d _ _
theorem packAt_len (d : NetD) (l : List (List Int)) : ∀ k, (packAt d l k).length = d.regs.length
  | 0 => by simp [packAt, alikeV, begins]
  | _ + 1 => packNext_len d _ _
/-- Words off one block. -/
def WNot (w : World) (g : Nat) (a : Option Addr) (n : Nat) (xs : List Int) : Prop := Words w a n xs ∧ (n = 0 ∨ ∃ b off, a = some ⟨b, off, none⟩ ∧ b ≠ g)
theorem WNot.stored {w : World} {g : Nat} {a : Option Addr} {n : Nat} {xs : List Int} (h : WNot w g a n xs) (k : Nat) (v : Value) : WNot (w.setCell ⟨g, k, none⟩ v) g a n xs := by
  obtain ⟨⟨h1, h2, h3⟩, h4⟩ := h
  refine ⟨⟨h1, h2, ?_⟩, h4⟩
  rcases h3 with h3 | ⟨b, off, ha, hlt, hc⟩
  · exact Or.inl h3
  · rcases h4 with h4 | ⟨b', off', ha', hne⟩
    · left; exact List.length_eq_zero_iff.1 (by omega)
    · rw [ha] at ha'
      injection ha' with ha'
      injection ha' with e1 e2 _
      subst e1
      refine Or.inr ⟨b, off, ha, by simpa using hlt, fun i hi => ?_⟩
      rw [World.cell?_of_block (a := ⟨b, off + i, none⟩) (set_block hne)]
      exact hc i hi
/-- What a row of answers holds so far. -/
def WOuts (w : World) (g : Nat) (vs : List Value) (xss : List (List Int)) : Prop := ∀ j (hj : j < xss.length), ∃ a n c, vs[j]? = some (.slice a n c) ∧ Words w a n xss[j] ∧ Fresh (g + 1) a n
theorem WOuts.other {w w' : World} {g : Nat} {vs : List Value} {xss : List (List Int)} (h : WOuts w g vs xss) (hs : w.heap.size ≤ w'.heap.size) (hk : ∀ k, g + 1 ≤ k → k < w.heap.size → w'.heap[k]? = w.heap[k]?) : WOuts w' g vs xss := by
  intro j hj
  obtain ⟨a, n, c, h1, h2, h3⟩ := h j hj
  exact ⟨a, n, c, h1, h2.other h3 hs hk, h3⟩
theorem WOuts.more {w : World} {g : Nat} {vs : List Value} {xss : List (List Int)} (h : WOuts w g vs xss) {a : Option Addr} {n c : Nat} {xs : List Int} (hw : Words w a n xs) (hF : Fresh (g + 1) a n) (hl : xss.length < vs.length) : WOuts w g (vs.set xss.length (.slice a n c)) (xss ++ [xs]) := by
  intro j hj
  by_cases e : j < xss.length
  · obtain ⟨a', n', c', h1, h2, h3⟩ := h j e
    refine ⟨a', n', c', ?_, ?_, h3⟩
    · rw [List.getElem?_set_ne (by omega)]; exact h1
    · rw [List.getElem_append_left e]; exact h2
  · have ej : j = xss.length := by simp at hj; omega
    subst ej
    refine ⟨a, n, c, ?_, ?_, hF⟩
    · rw [List.getElem?_set_self hl]
    · rw [List.getElem_append_right (Nat.le_refl _)]; simpa using hw
theorem WOuts.rows {w : World} {g n : Nat} {vs : List Value} {xss : List (List Int)} {T : TypeId} (h : WOuts w g vs xss) (hc : Cells w g vs T) (hn : n = xss.length) (hm : n ≤ maxLen) : WRows w (some ⟨g, 0, none⟩) n xss := by
  refine ⟨hn, by omega, Or.inr ⟨g, 0, rfl, hc.lt, fun i hi => ?_⟩⟩
  obtain ⟨a, n', c, h1, h2, _⟩ := h i hi
  exact ⟨a, n', c, by rw [Nat.zero_add, hc.cell i]; exact h1, h2⟩
theorem Try.infoSU : (Try.prog.info? 27).map (fun i => (i.zero, i.size, i.bytes)) = some (some (.slice none 0 0), 1, 24) := by kernel_rfl
theorem made_slrowU {w : World} {base g n : Nat} (h : w.ownsRow base 27 1 (.slice (some ⟨g, 0, none⟩) n n) n (madeCells #[Value.slice none 0 0] n).toList) : Cells w g (List.replicate n (.slice none 0 0)) 27 := by
  rcases h.2 with ⟨h1, _⟩ | ⟨g', cap, cur, hv, _, hh, _, _, hs, ht⟩
  · simp at h1
  · simp only [Value.slice.injEq, Option.some.injEq, Addr.mk.injEq, and_true, true_and] at hv
    obtain ⟨rfl, rfl⟩ := hv
    rw [toList_madeCells_one, List.take_of_length_le (by simp [hs])] at ht
    unfold Cells
    rw [hh]
    congr 2
    apply Array.ext'
    rw [ht]

set_option maxRecDepth 100000 in
set_option maxHeartbeats 2000000 in
theorem PRun_any (d : NetD) (ins0 : Int) (ga ra oa : Option Addr) (gn gc rn rc on oc : Nat) (w : World) (h : NetAt w d ins0 ga gn ra rn oa on) (l : List (List Int)) (la : Option Addr) (ln lc : Nat) (hl : WRows w la ln l) (hwl : ∀ r ∈ l, ∀ x ∈ r, isW x) :
    Calls Try.prog 10 #[.agg #[.int .i64 ins0, .slice ga gn gc, .slice ra rn rc, .slice oa on oc], .slice la ln lc] w fun e w' => ∃ a n c, e = .returned (.tuple #[.slice a n c, .int .i64 (prunE d l)]) ∧ WRows w' a n (prunL d l) ∧ Below w.heap.size w w' := by
  have hb0 : Below w.heap.size w (w.alloc (.cells #[.int .i64 ins0, .slice ga gn gc, .slice ra rn rc, .slice oa on oc] 26)) := (Below.refl _ _).alloc (Nat.le_refl _) _
  have hbox : Boxed (w.alloc (.cells #[.int .i64 ins0, .slice ga gn gc, .slice ra rn rc, .slice oa on oc] 26)) w.heap.size ins0 ga gn gc ra rn rc oa on oc := Boxed.new _ _ _ _ _ _ _ _ _ _ _ _
  have hN := h.below hb0
  have hl0 := hl.below hb0
  have HWL := hide hwl
  have HLL := hide hl.1
  have hlm : ln ≤ maxLen := by rw [hl.1]; exact hl.2.1
  unfold maxLen at hlm
  clear h hl hwl
  obtain ⟨i0, hi, hz0, hz1, hz2⟩ := info_parts Try.infoSU
  go_enter Try.func10, Try.ntmps10
  go_wp2_with fail
  refine (Order_any d _ _ _ _ _ _ _ _ _ _ _ hN).mono ?_
  rintro e w1 ⟨ka, kn, kc, rfl, hO, hb⟩
  have B1 := bstep hb0 hb
  have hN1 := hN.below hb
  have hl1 := hl0.below hb
  have hx1 := hbox.below hb
  clear hb hb0 hN hbox hl0
  by_cases e0 : orderE d = 0
  case neg =>
    have HE := hide (show prunE d l = orderE d by unfold prunE; rw [if_neg e0])
    have HO := hide (show prunL d l = [] by unfold prunL; rw [if_neg (by rw [unhide HE]; exact e0)])
    obtain ⟨ee, hee⟩ : ∃ ee, orderE d = ee := ⟨_, rfl⟩
    rw [hee] at e0
    rw [hee]
    have HEE := hide hee
    have hq : (ee != 0) = true := by simp only [bne_iff_ne, ne_eq]; exact e0
    clear e0 hee hx1
    go_wp2_with fail
    go_ret2
    exact ⟨none, 0, 0, ret_sl (by rw [unhide HE, unhide HEE]), by rw [unhide HO]; exact WRows.none _, B1⟩
  have HOE := hide e0
  have HCK := hide (orderE_ok e0).1
  rw [e0]
  clear e0
  by_cases e6 : 60 < ln
  · have HE := hide (show prunE d l = 2 by unfold prunE; rw [if_pos (unhide HOE), if_pos (by have := unhide HLL; omega)])
    have HO := hide (show prunL d l = [] by unfold prunL; rw [if_neg (by rw [unhide HE]; decide)])
    have hgt : (60 : Int) < (ln : Int) := by omega
    clear e6
    go_wp2_with fail
    go_ret2
    exact ⟨none, 0, 0, ret_sl (unhide HE).symm, by rw [unhide HO]; exact WRows.none _, B1⟩
  have hgt : ¬ (60 : Int) < (ln : Int) := by omega
  have HE1 := hide (show prunE d l = if rowsOk d l l.length then 0 else 1 by unfold prunE; rw [if_pos (unhide HOE), if_neg (by have := unhide HLL; omega)])
  have HDI := hide hN1.ins
  have hx0 := hx1
  obtain ⟨x0, x1, x2, x3, x4⟩ := hx1
  go_wp2_with fail
  go_loopw [28] (fun i wr => ∃ k : Nat, k ≤ ln ∧ i = .int .i64 k ∧ rowsOk d l k = true ∧ wr = w1) (fun i _ => ln - (intOf i).toNat)
  case atStart => exact ⟨0, Nat.zero_le _, rfl, rfl, rfl⟩
  case round =>
    obtain ⟨k, hk, rfl, hno, rfl⟩ := hrel
    by_cases hlt : k < ln
    · have hki : (k : Int) < (ln : Int) := by omega
      have hkl : k < l.length := by have := unhide HLL; omega
      obtain ⟨b, off, a', n', c', rfl, hbb, c1, hW⟩ := hl1.at hkl
      have hn' := hW.1
      have HS := hide (rowsOk_succ d l k hkl)
      by_cases e : (n' : Int) = ins0
      · have HT := hide (show rowsOk d l (k + 1) = true by rw [unhide HS, hno]; simp; have := unhide HDI; omega)
        have hne : ((n' : Int) != ins0) = false := by simp only [bne_eq_false_iff_eq]; exact e
        clear hno e hn' HS
        go_wp2_with fail
        exact ⟨⟨k + 1, by omega, by go_num, unhide HT, by first | rfl | trivial⟩, by simp [intOf]; omega⟩
      · have HT := hide (show prunE d l = 1 by rw [unhide HE1, rowsOk_no hkl (by have := unhide HDI; omega)]; rfl)
        have HO := hide (show prunL d l = [] by unfold prunL; rw [if_neg (by rw [unhide HT]; decide)])
        have hne : ((n' : Int) != ins0) = true := by simp only [bne_iff_ne, ne_eq]; exact e
        clear hno e hn' HS
        go_wp2_with fail
        go_ret2
        exact ⟨none, 0, 0, ret_sl (unhide HT).symm, by rw [unhide HO]; exact WRows.none _, B1⟩
    · have HRO := hide (show rowsOk d l l.length = true by rw [← hno]; exact congrArg _ (by have := unhide HLL; omega))
      have HE := hide (show prunE d l = 0 by rw [unhide HE1, unhide HRO]; rfl)
      have HPL := hide (show prunL d l = packRows d l l.length by unfold prunL; rw [if_pos (unhide HE)])
      have HB := hide (show begAns d = begins d by unfold begAns; rw [if_pos (unhide HCK)])
      clear hno
      go_wp2_with fail
      clear x0 x1 x2 x3 x4
      refine (Begin_any d _ _ _ _ _ _ _ _ _ _ _ hN1).mono ?_
      rintro e w2 ⟨q0, q1, q2, rfl, hQ, hb2⟩
      rw [unhide HB] at hQ
      rw [unhide HCK]
      have hq1 : q1 = rn := by have h1 := hQ.1; have h2 := hN1.regs.1; simp [begins] at h1; omega
      subst hq1
      have hrn : q1 ≤ 200 := by have := counts_gates (check_ok (unhide HCK)).1; have := hN1.regs.1; omega
      have B2 := bstep B1 hb2
      have hN2 := hN1.below hb2
      have hl2 := hl1.below hb2
      have hx2 := hx0.below hb2
      have hO2 := hO.below hb2
      clear hb2 hN1 hl1 hx0 hO B1
      go_wp2_with fail
      refine (alike_any (begins d) _ _ _ _ hQ hrn).mono ?_
      rintro e w3 ⟨ha, hc, rfl, hH, hb3⟩
      have B3 := bstep B2 hb3
      have hN3 := hN2.below hb3
      have hl3 := hl2.below hb3
      have hx3 := hx2.below hb3
      have hO3 := hO2.below hb3
      clear hb3 hN2 hl2 hx2 hO2 B2 hQ
      have hal := (Below.refl _ w3).alloc (Nat.le_refl _) (.cells #[.pointer (some ⟨w.heap.size, 0, none⟩), .slice ka kn kc, .slice ha q1 hc] 48)
      have hcs := Cells.new w3 [.pointer (some ⟨w.heap.size, 0, none⟩), .slice ka kn kc, .slice ha q1 hc] 48
      have hH4 := hH.below hal
      go_wp2_with (at_make; refine wpList_make_full _ rfl _ _ 34 rfl w3.heap.size 27 i0 (.slice none 0 0) 1 Try.underlying34 hi hz0 hz1 .i64 .i64 (ln : Int) (ln : Int) ln rfl rfl rfl rfl ?c1 ?c2 ?c3 ?_)
      case c1 => rw [hz2]; omega
      case c2 => unfold maxLen; omega
      case c3 => simp
      intro w5 hown hgrow
      have hb5 := (Below.refl _ (w3.alloc (.cells #[.pointer (some ⟨w.heap.size, 0, none⟩), .slice ka kn kc, .slice ha q1 hc] 48))).grown hgrow (Nat.le_refl _) (fun k hk => by simp at hk)
      have hrow0 := made_slrowU hown
      have hcs5 := hcs.below hb5 hcs.lt
      have hH5 : WNot w5 (w3.heap.size + 1) ha q1 (alikeV (begins d)) := ⟨hH4.below hb5, by
        rcases hH.2.2 with h9 | ⟨b, off, h9, h10, _⟩
        · left; rw [hH.1, h9]; rfl
        · exact Or.inr ⟨b, off, h9, by omega⟩⟩
      have bb5 := bstep hal hb5
      have hg5 := hrow0.lt
      clear hown hgrow hi hz0 hz1 hz2 hcs hH4 hal hb5 hH
      go_wp2_with fail
      go_loopw [55] (fun i wr => ∃ (k : Nat) (ha : Option Addr) (hc : Nat) (vs : List Value), k ≤ ln ∧ i = .int .i64 k ∧ vs.length = ln ∧ Cells wr w3.heap.size [.pointer (some ⟨w.heap.size, 0, none⟩), .slice ka kn kc, .slice ha q1 hc] 48 ∧ WNot wr (w3.heap.size + 1) ha q1 (packAt d l k) ∧ Cells wr (w3.heap.size + 1) vs 27 ∧ WOuts wr (w3.heap.size + 1) vs (packRows d l k) ∧ Below w3.heap.size w3 wr) (fun i _ => ln - (intOf i).toNat)
      case atStart => exact ⟨0, ha, hc, _, Nat.zero_le _, rfl, by simp, hcs5, hH5, hrow0, by intro j hj; simp [packRows] at hj, bb5⟩
      case round =>
        clear hcs5 hH5 hrow0 bb5 hg5
        obtain ⟨k, ha1, hc1, vs, hk, rfl, hvl, hcs, hH, hrow, hWO, hbel⟩ := hrel
        by_cases hlt : k < ln
        · have hki : (k : Int) < (ln : Int) := by omega
          have hkl : k < l.length := by have := unhide HLL; omega
          obtain ⟨b, off, a', n', c', rfl, hbb, c0, hW⟩ := hl3.at hkl
          have c1 := (hbel.cell (p := ⟨b, off + k, none⟩) hbb).trans c0
          have hget : l.getD k [] = l[k] := by simp [List.getD_eq_getElem?_getD, hkl]
          have HN1 := hide (show packAt d l (k + 1) = packNext d (packAt d l k) l[k] by show packNext d (packAt d l k) (l.getD k []) = _; rw [hget])
          have HN2 := hide (show packRow d l k = packOuts d (packAt d l k) l[k] by unfold packRow; rw [hget])
          have HVL := hide hvl
          have HH := hide hH.1
          have HROW := hide hrow
          have HWO := hide hWO
          have hgl := hrow.lt
          clear c0 hget hvl hH hrow hWO
          go_wp2_with fail
          refine (bstep_any d ins0 ga ra oa gn gc q1 rc on oc w.heap.size w3 _ hN3 hx3 ka kn kc hO3 (unhide HOE) (packAt d l k) l[k] ha1 a' q1 hc1 n' c' hW hbel w3.heap.size (Nat.le_refl _) hcs (unhide HH) (packAt_len d l k) (rowsOk_at (unhide HRO) k hkl) (packAt_isW d l k) (unhide HWL _ (List.getElem_mem hkl))).mono ?_
          rintro e w6 ⟨a6, c6, h6, k6, rfl, hA, hFA, hB, hFB, hC, hD⟩
          have hs6 := hD.1.size
          have hr6 : Cells w6 (w3.heap.size + 1) vs 27 := by
            unfold Cells
            rw [hD.2 _ (Nat.lt_succ_self _) hgl]
            exact unhide HROW
          have hw6 := (unhide HWO).other hs6 (fun j h1 h2 => hD.2 j (by omega) h2)
          have hvk : k < vs.length := by rw [unhide HVL]; exact hlt
          have d1 := hr6.cell k
          rw [List.getElem?_eq_getElem hvk] at d1
          have d2 := hr6.frozen k
          have hF1 := hFA.down (b' := w3.heap.size + 1 + 1) hgl
          have hF2 := hFB.down (b' := w3.heap.size + 1 + 1) hgl
          have R1 := hr6.set k (.slice a6 on c6)
          have R2 : Cells (w6.setCell ⟨w3.heap.size + 1, k, none⟩ (.slice a6 on c6)) w3.heap.size [.pointer (some ⟨w.heap.size, 0, none⟩), .slice ka kn kc, .slice h6 q1 k6] 48 := by
            unfold Cells
            rw [set_block (by omega)]
            exact hC
          have R3 : WNot (w6.setCell ⟨w3.heap.size + 1, k, none⟩ (.slice a6 on c6)) (w3.heap.size + 1) h6 q1 (packAt d l (k + 1)) := by
            rw [unhide HN1]
            refine WNot.stored ⟨hB, ?_⟩ k _
            rcases hF2 with h9 | ⟨b9, o9, h9, h10⟩
            · exact Or.inl h9
            · exact Or.inr ⟨b9, o9, h9, by omega⟩
          have R4 : WOuts (w6.setCell ⟨w3.heap.size + 1, k, none⟩ (.slice a6 on c6)) (w3.heap.size + 1) (vs.set k (.slice a6 on c6)) (packRows d l (k + 1)) := by
            rw [packRows_succ, unhide HN2]
            have h9 := hw6.more (c := c6) hA hF1 (by simp [packRows]; omega)
            rw [show (packRows d l k).length = k by simp [packRows]] at h9
            exact h9.other (Nat.le_of_eq (by simp)) (fun j h1 _ => set_block (by omega))
          have R5 : Below w3.heap.size w3 (w6.setCell ⟨w3.heap.size + 1, k, none⟩ (.slice a6 on c6)) := (hbel.trans hD.1).setCell (Nat.le_succ _) _
          have R := hide (And.intro R1 (And.intro R2 (And.intro R3 (And.intro R4 R5))))
          clear R1 R2 R3 R4 R5 hA hFA hB hFB hC hD hr6 hw6 hF1 hF2 hcs hbel c1
          go_wp2_with fail
          exact ⟨⟨k + 1, h6, k6, vs.set k (.slice a6 on c6), by omega, by go_num, by rw [List.length_set]; exact unhide HVL, (unhide R).2.1, (unhide R).2.2.1, (unhide R).1, (unhide R).2.2.2.1, (unhide R).2.2.2.2⟩, by simp [intOf]; omega⟩
        · have HRW := hide (show WRows wr (some ⟨w3.heap.size + 1, 0, none⟩) ln (prunL d l) by
            rw [unhide HPL]
            have h1 := unhide HLL
            rw [← h1, show ln = k by omega]
            exact hWO.rows hrow (by simp [packRows]) (by unfold maxLen; omega))
          have B9 : Below w.heap.size w wr := bstep B3 hbel
          clear hcs hH hrow hWO hbel
          go_wp2_with fail
          go_ret2
          exact ⟨_, _, _, ret_sl (unhide HE).symm, unhide HRW, B9⟩
end Go.Proofs.Ytfeceelibjdaoae
