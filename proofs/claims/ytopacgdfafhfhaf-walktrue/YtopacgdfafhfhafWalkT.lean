/- The program's walk: blank, Begin, Check. -/
import Derived.Test.YtopacgdfafhfhafWalkS
import Derived.Test.YtopacgdfafhfhafWalkE
namespace Go.Proofs.Ytopacgdfafhfhaf
open Go.RowKit

/-- What blank answers: rows of its own. -/
def BlankRet (n : Nat) (w w' : World) (e : Ending) : Prop := ∃ gW gO, e = .returned (.agg #[.bool false, .slice (some ⟨gW, 0, none⟩) n n, .slice (some ⟨gO, 0, none⟩) 3 3]) ∧ gW ≠ gO ∧ w.heap.size ≤ gW ∧ w.heap.size ≤ gO ∧ BoolRow w' gW (falsesL n) ∧ BoolRow w' gO (falsesL 3) ∧ Below w.heap.size w w'
set_option maxRecDepth 100000 in
set_option maxHeartbeats 2000000 in
theorem blank_any (a : Option Addr) (n c : Nat) (w : World) (hn : n ≤ 14) :
    Calls Try.prog 11 #[.slice a n c] w fun e w' => BlankRet n w w' e := by
  have hm1 := run_madeB n (by omega)
  have hm2 : ∀ W : World, (Instr.makeSlice 23 (.int .i64 3) (.int .i64 3)).run Try.prog W = .ok (.slice (some ⟨W.heap.size, 0, none⟩) 3 3) (W.alloc (.cells (bs (falsesL 3)) 4)) := run_madeB 3 (by omega)
  have hb0 : Below w.heap.size w (w.alloc (.cells #[.bool false, .slice none 0 0, .slice none 0 0] 25)) := (Below.refl _ _).alloc (Nat.le_refl _) _
  have hc0 : Cells3 (w.alloc (.cells #[.bool false, .slice none 0 0, .slice none 0 0] 25)) w.heap.size := heap_alloc_new w _
  have hsz : (w.alloc (.cells #[.bool false, .slice none 0 0, .slice none 0 0] 25)).heap.size = w.heap.size + 1 := by simp
  have hn0 : (0 : Int) ≤ (n : Int) := by omega
  go_enter Try.func11, Try.ntmps11
  go_wp2_with fail
  generalize hw1 : w.alloc (.cells #[.bool false, .slice none 0 0, .slice none 0 0] 25) = w1 at *
  clear hw1
  have hl1 : w.heap.size < w1.heap.size := by omega
  obtain ⟨a0, a1, a2, a3, a4, a5⟩ := hc0.on hl1 (Below.refl _ _)
  have HC := hide hc0
  clear hc0
  go_region
  all_goals go_wp2_with fail
  all_goals
    have hc1 : Cells w1 w.heap.size [.bool false, .slice none 0 0, .slice none 0 0] 25 := unhide HC
  · have hc9 := ((hc1.set 0 (.bool false)).set 1 (.slice (some ⟨w.heap.size + 1, 0, none⟩) n n)).set 2 (.slice (some ⟨w.heap.size + 1 + 1, 0, none⟩) 3 3)
    have hB9 : Below w.heap.size w _ := ((hb0.setCell (p := ⟨w.heap.size, 0, none⟩) (Nat.le_refl _) (.bool false)).setCell (p := ⟨w.heap.size, 1, none⟩) (Nat.le_refl _) (.slice (some ⟨w.heap.size + 1, 0, none⟩) n n)).setCell (p := ⟨w.heap.size, 2, none⟩) (Nat.le_refl _) (.slice (some ⟨w.heap.size + 1 + 1, 0, none⟩) 3 3)
    obtain ⟨g1, g2, g3, g4⟩ := fresh_rows (by simp [hsz]) hB9 (falsesL n) (falsesL 3)
    have hl9 := hc9.lt
    have y0 := (g3.cell (p := ⟨w.heap.size, 0, none⟩) hl9).trans (hc9.cell 0)
    have y1 := (g3.cell (p := ⟨w.heap.size, 1, none⟩) hl9).trans (hc9.cell 1)
    have y2 := (g3.cell (p := ⟨w.heap.size, 2, none⟩) hl9).trans (hc9.cell 2)
    generalize ((((((w1.setCell ⟨w.heap.size, 0, none⟩ (.bool false)).setCell ⟨w.heap.size, 1, none⟩ (.slice (some ⟨w.heap.size + 1, 0, none⟩) n n)).setCell ⟨w.heap.size, 2, none⟩ (.slice (some ⟨w.heap.size + 1 + 1, 0, none⟩) 3 3)).alloc (.cells (bs (falsesL n)) 4)).alloc (.cells (bs (falsesL 3)) 4)).drew) = w9 at *
    exact bodyPost_ret (v := .agg #[.bool false, .slice (some ⟨w.heap.size + 1, 0, none⟩) n n, .slice (some ⟨w.heap.size + 1 + 1, 0, none⟩) 3 3]) (by simp [results, Try.results11, go_sem, y0, y1, y2]) rfl ⟨_, _, rfl, by omega, by omega, by omega, g1, g2, g4⟩
  · have hc9 := ((hc1.set 0 (.bool false)).set 1 (.slice (some ⟨w.heap.size + 1 + 1, 0, none⟩) n n)).set 2 (.slice (some ⟨w.heap.size + 1, 0, none⟩) 3 3)
    have hB9 : Below w.heap.size w _ := ((hb0.setCell (p := ⟨w.heap.size, 0, none⟩) (Nat.le_refl _) (.bool false)).setCell (p := ⟨w.heap.size, 1, none⟩) (Nat.le_refl _) (.slice (some ⟨w.heap.size + 1 + 1, 0, none⟩) n n)).setCell (p := ⟨w.heap.size, 2, none⟩) (Nat.le_refl _) (.slice (some ⟨w.heap.size + 1, 0, none⟩) 3 3)
    obtain ⟨g1, g2, g3, g4⟩ := fresh_rows (by simp [hsz]) hB9 (falsesL 3) (falsesL n)
    have hl9 := hc9.lt
    have y0 := (g3.cell (p := ⟨w.heap.size, 0, none⟩) hl9).trans (hc9.cell 0)
    have y1 := (g3.cell (p := ⟨w.heap.size, 1, none⟩) hl9).trans (hc9.cell 1)
    have y2 := (g3.cell (p := ⟨w.heap.size, 2, none⟩) hl9).trans (hc9.cell 2)
    generalize ((((((w1.setCell ⟨w.heap.size, 0, none⟩ (.bool false)).setCell ⟨w.heap.size, 1, none⟩ (.slice (some ⟨w.heap.size + 1 + 1, 0, none⟩) n n)).setCell ⟨w.heap.size, 2, none⟩ (.slice (some ⟨w.heap.size + 1, 0, none⟩) 3 3)).alloc (.cells (bs (falsesL 3)) 4)).alloc (.cells (bs (falsesL n)) 4)).drew) = w9 at *
    exact bodyPost_ret (v := .agg #[.bool false, .slice (some ⟨w.heap.size + 1 + 1, 0, none⟩) n n, .slice (some ⟨w.heap.size + 1, 0, none⟩) 3 3]) (by simp [results, Try.results11, go_sem, y0, y1, y2]) rfl ⟨_, _, rfl, by omega, by omega, by omega, g2, g1, g4⟩

set_option maxRecDepth 100000 in
set_option maxHeartbeats 2000000 in
theorem WCheck_any (p : List NodeD) (a : Option Addr) (n c : Nat) (r : RestD) (f : Bool) (wa oa : Option Addr) (wn wc on oc : Nat) (w : World) (h : Nodes w a n p) (hr : RestAt w r f wa wn oa on) :
    Calls Try.prog 9 #[.slice a n c, .agg #[.bool f, .slice wa wn wc, .slice oa on oc]] w fun e w' => e = .returned (.int .i64 (restE p r)) ∧ Below w.heap.size w w' := by
  have hb0 : Below w.heap.size w (w.alloc (.cells #[.bool f, .slice wa wn wc, .slice oa on oc] 25)) := (Below.refl _ _).alloc (Nat.le_refl _) _
  have hx := RBox.new w f wa wn wc oa on oc 25
  have hP := h.below hb0
  have hR := hr.below hb0
  have HN := hide h.1
  have HW := hide hr.waits.1
  have HO := hide hr.outs.1
  clear h hr
  go_enter Try.func9, Try.ntmps9
  go_wp2_with fail
  generalize w.alloc (.cells #[.bool f, .slice wa wn wc, .slice oa on oc] 25) = w1 at *
  refine (PWaits_any p _ _ _ _ hP).mono ?_
  rintro e w2 ⟨la, ln, lc, he, hL, hb2⟩
  subst he
  have hx := hx.below hb2
  have hR := hR.below hb2
  have hb0 := bstep hb0 hb2
  clear hb2 hP
  by_cases e0 : checkP p = 0
  case neg =>
    have hq : (checkP p != 0) = true := by simp [e0]
    have R := hide (show restE p r = checkP p by unfold restE; rw [if_neg e0])
    obtain ⟨ck, hck⟩ : ∃ ck, checkP p = ck := ⟨_, rfl⟩
    rw [hck] at hq R ⊢
    clear e0 hck hL
    go_wp2_with fail
    go_ret
    exact ⟨ret_int (unhide R).symm, hb0⟩
  have hn14 : n ≤ 14 := by have := (pok_of e0).few; have := unhide HN; omega
  rw [if_pos e0] at hL
  obtain ⟨x0, x1, x2, x3⟩ := hx
  by_cases e1 : wn = n
  case neg =>
    have R := hide (show restE p r = 1 by unfold restE; rw [if_pos e0, if_neg (fun hh => e1 (by rw [unhide HW, hh.1, unhide HN]))])
    have hq : ((wn : Int) != (n : Int)) = true := by simp; omega
    rw [e0]
    clear e0
    go_wp2_with fail
    go_ret
    exact ⟨ret_int (unhide R).symm, hb0⟩
  by_cases e2 : on = 3
  case neg =>
    have R := hide (show restE p r = 1 by unfold restE; rw [if_pos e0, if_neg (fun hh => e2 (by rw [unhide HO, hh.2]))])
    have hq : ((on : Int) != 3) = true := by simp; omega
    rw [e0]
    subst e1
    clear e0
    go_wp2_with fail
    go_ret
    exact ⟨ret_int (unhide R).symm, hb0⟩
  have H1 := hide (show restB p r p.length = false → restE p r = 1 from fun e => by unfold restE; rw [if_pos e0, if_pos ⟨by rw [← unhide HW, e1]; exact unhide HN, by rw [← unhide HO, e2]⟩, e]; rfl)
  have H0 := hide (show restB p r p.length = true → restE p r = 0 from fun e => by unfold restE; rw [if_pos e0, if_pos ⟨by rw [← unhide HW, e1]; exact unhide HN, by rw [← unhide HO, e2]⟩, e]; rfl)
  rw [e0]
  clear e0
  subst e1
  subst e2
  have hff := hR.fresh
  have HFF := hide hff
  clear hff
  go_wp2_with fail
  go_loopw [32] (fun iv wr => ∃ k : Nat, k ≤ wn ∧ iv = .int .i64 k ∧ restB p r k = true ∧ wr = w2) (fun iv _ => wn - (intOf iv).toNat)
  case atStart => exact ⟨0, Nat.zero_le _, rfl, rfl, by first | rfl | trivial⟩
  case round =>
    obtain ⟨k, hk, rfl, hK, rfl⟩ := hrel
    by_cases hlt : k < wn
    · have hki : (k : Int) < (wn : Int) := by omega
      have hkp : k < p.length := by have := unhide HN; omega
      have hkw : k < r.waits.length := by have := unhide HW; omega
      have hkm : k < (waitsV p).length := by simpa [waitsV] using hkp
      have hkl : (k : Int) < (ln : Int) := by have := hL.1; have := hkm; omega
      obtain ⟨b, off, rfl, hbb, c1⟩ := hL.at hkm
      have hwm : (waitsV p)[k] = waitK p[k].kind := by simp [waitsV]
      rw [hwm] at c1
      clear hwm
      obtain ⟨b2, off2, rfl, hbb2, c3⟩ := hR.waits.at hkw
      have hbad : badAt p r k = (r.waits[k] && (f || !waitK p[k].kind)) := by
        unfold badAt kindAt
        rw [unhide HFF]
        simp [List.getD_eq_getElem?_getD, hkw, hkp]
      have HS := hide (restB_succ p r k)
      rw [hbad] at HS
      have HNO := hide (show (r.waits[k] && (f || !waitK p[k].kind)) = true → restE p r = 1 from fun e => unhide H1 (restB_no hkp (by rw [hbad]; exact e)))
      have HK := hide hK
      clear hbad hK
      generalize r.waits[k] = wk at *
      generalize p[k].kind = kd at *
      cases wk
      · have R := hide (show restB p r (k + 1) = true by rw [unhide HS, unhide HK]; rfl)
        go_wp2_with fail
        exact ⟨⟨k + 1, by omega, by go_num, unhide R, by first | rfl | trivial⟩, by simp [intOf]; omega⟩
      · cases f
        · cases eb : waitK kd
          · rw [eb] at c1
            have R := hide (unhide HNO (by rw [eb]; rfl))
            clear eb
            go_wp2_with fail
            go_ret
            exact ⟨ret_int (unhide R).symm, hb0⟩
          · rw [eb] at c1
            have R := hide (show restB p r (k + 1) = true by rw [unhide HS, unhide HK, eb]; rfl)
            clear eb
            go_wp2_with fail
            exact ⟨⟨k + 1, by omega, by go_num, unhide R, by first | rfl | trivial⟩, by simp [intOf]; omega⟩
        · have R := hide (unhide HNO (by simp))
          go_wp2_with fail
          go_ret
          exact ⟨ret_int (unhide R).symm, hb0⟩
    · have hkn : k = p.length := by have := unhide HN; omega
      rw [hkn] at hK
      have R := hide (unhide H0 hK)
      clear hK hkn
      go_wp2_with fail
      go_ret
      exact ⟨ret_int (unhide R).symm, hb0⟩

theorem BoolRow.boolsN {w : World} {g n : Nat} {ys : List Bool} (h : BoolRow w g ys) (hn : n = ys.length) (hm : n ≤ 14) : Bools w (some ⟨g, 0, none⟩) n ys := by
  refine ⟨hn, by unfold maxLen; omega, ?_⟩
  refine Or.inr ⟨g, 0, rfl, h.lt, fun i hi => ?_⟩
  rw [Nat.zero_add, h.cell i hi]
  simp [List.getD_eq_getElem?_getD, hi]
def beginR (p : List NodeD) : RestD := if checkP p = 0 then ⟨true, falsesL p.length, falsesL 3⟩ else ⟨false, [], []⟩
def BeginRet (p : List NodeD) (w w' : World) (e : Ending) : Prop := ∃ f wa wn wc oa on oc, e = .returned (.tuple #[.agg #[.bool f, .slice wa wn wc, .slice oa on oc], .int .i64 (checkP p)]) ∧ RestAt w' (beginR p) f wa wn oa on ∧ wn ≤ wc ∧ Below w.heap.size w w'
theorem begin_err {p : List NodeD} {w w' : World} {er : Int} (he : checkP p = er) (h0 : er ≠ 0) (hb : Below w.heap.size w w') : BeginRet p w w' (.returned (.tuple #[.agg #[.bool false, .slice none 0 0, .slice none 0 0], .int .i64 er])) := by
  refine ⟨false, none, 0, 0, none, 0, 0, by rw [he], ?_, Nat.le_refl _, hb⟩
  unfold beginR
  rw [if_neg (by rw [he]; exact h0)]
  exact ⟨rfl, ⟨rfl, Nat.zero_le _, Or.inl rfl⟩, ⟨rfl, Nat.zero_le _, Or.inl rfl⟩⟩
theorem Cells.onB {w w' : World} {g : Nat} {vs : List Value} {T : TypeId} (h : Cells w g vs T) (hb : Below w.heap.size w w') : Cells w' g vs T := (hb.block g h.lt).trans h
set_option maxRecDepth 100000 in
set_option maxHeartbeats 2000000 in
theorem WBegin_any (p : List NodeD) (a : Option Addr) (n c : Nat) (w : World) (h : Nodes w a n p) :
    Calls Try.prog 21 #[.slice a n c] w fun e w' => BeginRet p w w' e := by
  have hb0 : Below w.heap.size w (w.alloc (.cells #[.bool false, .slice none 0 0, .slice none 0 0] 25)) := (Below.refl _ _).alloc (Nat.le_refl _) _
  have hc0 := Cells.new w [.bool false, .slice none 0 0, .slice none 0 0] 25
  have hP := h.below hb0
  have HN := hide h.1
  clear h
  go_enter Try.func21, Try.ntmps21
  go_wp2_with fail
  generalize w.alloc (.cells #[.bool false, .slice none 0 0, .slice none 0 0] 25) = w1 at *
  refine (PCheck_any p _ _ _ _ hP).mono ?_
  rintro e w2 ⟨rfl, hb2⟩
  have hc2 := hc0.onB hb2
  have B2 := bstep hb0 hb2
  have hP2 := hP.below hb2
  clear hc0 hb0 hb2 hP
  have z0 := hc2.cell 0
  have z1 := hc2.cell 1
  have z2 := hc2.cell 2
  have f0 := hc2.frozen 0
  have f1 := hc2.frozen 1
  have f2 := hc2.frozen 2
  by_cases e0 : checkP p = 0
  case neg =>
    have hq : (checkP p != 0) = true := by simp [e0]
    obtain ⟨ck, hck⟩ : ∃ ck, checkP p = ck := ⟨_, rfl⟩
    have HE := hide hck
    have HE0 := hide (show ck ≠ 0 by rw [← hck]; exact e0)
    rw [hck] at hq ⊢
    clear e0 hck
    have hc9 := ((hc2.set 0 (.bool false)).set 1 (.slice none 0 0)).set 2 (.slice none 0 0)
    have y0 := hc9.cell 0
    have y1 := hc9.cell 1
    have y2 := hc9.cell 2
    have B9 := ((B2.setCell (p := ⟨w.heap.size, 0, none⟩) (Nat.le_refl _) (.bool false)).setCell (p := ⟨w.heap.size, 1, none⟩) (Nat.le_refl _) (.slice none 0 0)).setCell (p := ⟨w.heap.size, 2, none⟩) (Nat.le_refl _) (.slice none 0 0)
    go_wp2_with fail
    exact bodyPost_ret (v := .tuple #[.agg #[.bool false, .slice none 0 0, .slice none 0 0], .int .i64 ck]) (by simp [results, Try.results21, go_sem, y0, y1, y2]) rfl (begin_err (unhide HE) (unhide HE0) B9)
  rw [e0]
  have hn14 : n ≤ 14 := by have := (pok_of e0).few; have := unhide HN; omega
  have HE := hide e0
  clear e0 z0 z1 z2 f0 f1 f2
  go_wp2_with fail
  refine (blank_any a n c _ hn14).mono ?_
  rintro e w3 ⟨gW, gO, rfl, hne, hgW, hgO, hrW, hrO, hb3⟩
  have hc3 := hc2.onB hb3
  have B3 := bstep B2 hb3
  have hlw := B2.size
  have hl2 := hc2.lt
  clear hc2 B2 hP2 hb3
  have hb4 := (Below.refl _ w3).alloc (Nat.le_refl _) (.cells #[.bool true, .slice (some ⟨gW, 0, none⟩) n n, .slice (some ⟨gO, 0, none⟩) 3 3] 25)
  have hc4 := hc3.onB hb4
  have hrW4 := hrW.on hb4
  have hrO4 := hrO.on hb4
  have B4 := bstep B3 hb4
  have z0 := hc4.cell 0
  have z1 := hc4.cell 1
  have z2 := hc4.cell 2
  have f0 := hc4.frozen 0
  have f1 := hc4.frozen 1
  have f2 := hc4.frozen 2
  have hc9 := ((hc4.set 0 (.bool true)).set 1 (.slice (some ⟨gW, 0, none⟩) n n)).set 2 (.slice (some ⟨gO, 0, none⟩) 3 3)
  have y0 := hc9.cell 0
  have y1 := hc9.cell 1
  have y2 := hc9.cell 2
  have B9 := ((B4.setCell (p := ⟨w.heap.size, 0, none⟩) (Nat.le_refl _) (.bool true)).setCell (p := ⟨w.heap.size, 1, none⟩) (Nat.le_refl _) (.slice (some ⟨gW, 0, none⟩) n n)).setCell (p := ⟨w.heap.size, 2, none⟩) (Nat.le_refl _) (.slice (some ⟨gO, 0, none⟩) 3 3)
  have hnW : gW ≠ w.heap.size := by omega
  have hnO : gO ≠ w.heap.size := by omega
  have rW9 := ((hrW4.far (k := 0) (v := .bool true) hnW).far (k := 1) (v := .slice (some ⟨gW, 0, none⟩) n n) hnW).far (k := 2) (v := .slice (some ⟨gO, 0, none⟩) 3 3) hnW
  have rO9 := ((hrO4.far (k := 0) (v := .bool true) hnO).far (k := 1) (v := .slice (some ⟨gW, 0, none⟩) n n) hnO).far (k := 2) (v := .slice (some ⟨gO, 0, none⟩) 3 3) hnO
  go_wp2_with fail
  generalize ((((w3.alloc (.cells #[.bool true, .slice (some ⟨gW, 0, none⟩) n n, .slice (some ⟨gO, 0, none⟩) 3 3] 25)).setCell ⟨w.heap.size, 0, none⟩ (.bool true)).setCell ⟨w.heap.size, 1, none⟩ (.slice (some ⟨gW, 0, none⟩) n n)).setCell ⟨w.heap.size, 2, none⟩ (.slice (some ⟨gO, 0, none⟩) 3 3)) = w9 at *
  exact bodyPost_ret (v := .tuple #[.agg #[.bool true, .slice (some ⟨gW, 0, none⟩) n n, .slice (some ⟨gO, 0, none⟩) 3 3], .int .i64 0]) (by simp [results, Try.results21, go_sem, y0, y1, y2]) rfl ⟨true, _, n, n, _, 3, 3, by rw [unhide HE], by unfold beginR; rw [if_pos (unhide HE), ← unhide HN]; exact ⟨rfl, rW9.boolsN (by simp [falsesL]) hn14, rO9.boolsN (by simp [falsesL]) (by omega)⟩, Nat.le_refl _, B9⟩
end Go.Proofs.Ytopacgdfafhfhaf
