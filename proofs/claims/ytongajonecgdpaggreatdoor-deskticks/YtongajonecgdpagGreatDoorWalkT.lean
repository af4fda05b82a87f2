/- The program's walk: blank, Begin, Check. -/
import Derived.Test.YtongajonecgdpagGreatDoorWalkP
import Derived.Test.YtongajonecgdpagGreatDoorWalkD
namespace Go.Proofs.YtongajonecgdpagGreatDoor
open Go.RowKit

/-- What blank answers: rows of its own. -/
def BlankRet (n : Nat) (w w' : World) (e : Ending) : Prop := ∃ gW gO, e = .returned (.agg #[.bool false, .slice (some ⟨gW, 0, none⟩) n n, .slice (some ⟨gO, 0, none⟩) 3 3]) ∧ gW ≠ gO ∧ w.heap.size ≤ gW ∧ w.heap.size ≤ gO ∧ BoolRow w' gW (falsesL n) ∧ BoolRow w' gO (falsesL 3) ∧ Below w.heap.size w w'
set_option maxRecDepth 100000 in
set_option maxHeartbeats 2000000 in
theorem blank_any (a : Option Addr) (n c : Nat) (w : World) (hn : n ≤ 14) :
    Calls Tryz.prog 32 #[.slice a n c] w fun e w' => BlankRet n w w' e := by
  have hm1 := run_madeB n (by omega)
  have hm2 : ∀ W : World, (Instr.makeSlice 33 (.int .i64 3) (.int .i64 3)).run Tryz.prog W = .ok (.slice (some ⟨W.heap.size, 0, none⟩) 3 3) (W.alloc (.cells (bs (falsesL 3)) 4)) := run_madeB 3 (by omega)
  have hb0 : Below w.heap.size w (w.alloc (.cells #[.bool false, .slice none 0 0, .slice none 0 0] 35)) := (Below.refl _ _).alloc (Nat.le_refl _) _
  have hc0 : Cells3 (w.alloc (.cells #[.bool false, .slice none 0 0, .slice none 0 0] 35)) w.heap.size := heap_alloc_new w _
  have hsz : (w.alloc (.cells #[.bool false, .slice none 0 0, .slice none 0 0] 35)).heap.size = w.heap.size + 1 := by simp
  have hn0 : (0 : Int) ≤ (n : Int) := by omega
  go_enter Tryz.func32, Tryz.ntmps32
  go_wp2_with fail
  generalize hw1 : w.alloc (.cells #[.bool false, .slice none 0 0, .slice none 0 0] 35) = w1 at *
  clear hw1
  have hl1 : w.heap.size < w1.heap.size := by omega
  obtain ⟨a0, a1, a2, a3, a4, a5⟩ := hc0.on hl1 (Below.refl _ _)
  have HC := hide hc0
  clear hc0
  go_region
  all_goals go_wp2_with fail
  all_goals
    have hc1 : Cells w1 w.heap.size [.bool false, .slice none 0 0, .slice none 0 0] 35 := unhide HC
  · have hc9 := ((hc1.set 0 (.bool false)).set 1 (.slice (some ⟨w.heap.size + 1, 0, none⟩) n n)).set 2 (.slice (some ⟨w.heap.size + 1 + 1, 0, none⟩) 3 3)
    have hB9 : Below w.heap.size w _ := ((hb0.setCell (p := ⟨w.heap.size, 0, none⟩) (Nat.le_refl _) (.bool false)).setCell (p := ⟨w.heap.size, 1, none⟩) (Nat.le_refl _) (.slice (some ⟨w.heap.size + 1, 0, none⟩) n n)).setCell (p := ⟨w.heap.size, 2, none⟩) (Nat.le_refl _) (.slice (some ⟨w.heap.size + 1 + 1, 0, none⟩) 3 3)
    obtain ⟨g1, g2, g3, g4⟩ := fresh_rows (by simp [hsz]) hB9 (falsesL n) (falsesL 3)
    have hl9 := hc9.lt
    have y0 := (g3.cell (p := ⟨w.heap.size, 0, none⟩) hl9).trans (hc9.cell 0)
    have y1 := (g3.cell (p := ⟨w.heap.size, 1, none⟩) hl9).trans (hc9.cell 1)
    have y2 := (g3.cell (p := ⟨w.heap.size, 2, none⟩) hl9).trans (hc9.cell 2)
    generalize ((((((w1.setCell ⟨w.heap.size, 0, none⟩ (.bool false)).setCell ⟨w.heap.size, 1, none⟩ (.slice (some ⟨w.heap.size + 1, 0, none⟩) n n)).setCell ⟨w.heap.size, 2, none⟩ (.slice (some ⟨w.heap.size + 1 + 1, 0, none⟩) 3 3)).alloc (.cells (bs (falsesL n)) 4)).alloc (.cells (bs (falsesL 3)) 4)).drew) = w9 at *
    exact bodyPost_ret (v := .agg #[.bool false, .slice (some ⟨w.heap.size + 1, 0, none⟩) n n, .slice (some ⟨w.heap.size + 1 + 1, 0, none⟩) 3 3]) (by simp [results, Tryz.results32, go_sem, y0, y1, y2]) rfl ⟨_, _, rfl, by omega, by omega, by omega, g1, g2, g4⟩
  · have hc9 := ((hc1.set 0 (.bool false)).set 1 (.slice (some ⟨w.heap.size + 1 + 1, 0, none⟩) n n)).set 2 (.slice (some ⟨w.heap.size + 1, 0, none⟩) 3 3)
    have hB9 : Below w.heap.size w _ := ((hb0.setCell (p := ⟨w.heap.size, 0, none⟩) (Nat.le_refl _) (.bool false)).setCell (p := ⟨w.heap.size, 1, none⟩) (Nat.le_refl _) (.slice (some ⟨w.heap.size + 1 + 1, 0, none⟩) n n)).setCell (p := ⟨w.heap.size, 2, none⟩) (Nat.le_refl _) (.slice (some ⟨w.heap.size + 1, 0, none⟩) 3 3)
    obtain ⟨g1, g2, g3, g4⟩ := fresh_rows (by simp [hsz]) hB9 (falsesL 3) (falsesL n)
    have hl9 := hc9.lt
    have y0 := (g3.cell (p := ⟨w.heap.size, 0, none⟩) hl9).trans (hc9.cell 0)
    have y1 := (g3.cell (p := ⟨w.heap.size, 1, none⟩) hl9).trans (hc9.cell 1)
    have y2 := (g3.cell (p := ⟨w.heap.size, 2, none⟩) hl9).trans (hc9.cell 2)
    generalize ((((((w1.setCell ⟨w.heap.size, 0, none⟩ (.bool false)).setCell ⟨w.heap.size, 1, none⟩ (.slice (some ⟨w.heap.size + 1 + 1, 0, none⟩) n n)).setCell ⟨w.heap.size, 2, none⟩ (.slice (some ⟨w.heap.size + 1, 0, none⟩) 3 3)).alloc (.cells (bs (falsesL 3)) 4)).alloc (.cells (bs (falsesL n)) 4)).drew) = w9 at *
    exact bodyPost_ret (v := .agg #[.bool false, .slice (some ⟨w.heap.size + 1 + 1, 0, none⟩) n n, .slice (some ⟨w.heap.size + 1, 0, none⟩) 3 3]) (by simp [results, Tryz.results32, go_sem, y0, y1, y2]) rfl ⟨_, _, rfl, by omega, by omega, by omega, g2, g1, g4⟩

set_option maxRecDepth 100000 in
set_option maxHeartbeats 2000000 in
theorem WCheck_any (p : List NodeD) (a : Option Addr) (n c : Nat) (r : RestD) (f : Bool) (wa oa : Option Addr) (wn wc on oc : Nat) (w : World) (h : Nodes w a n p) (hr : RestAt w r f wa wn oa on) :
    Calls Tryz.prog 33 #[.slice a n c, .agg #[.bool f, .slice wa wn wc, .slice oa on oc]] w fun e w' => e = .returned (.int .i64 (restE p r)) ∧ Below w.heap.size w w' := by
  have hb0 : Below w.heap.size w (w.alloc (.cells #[.bool f, .slice wa wn wc, .slice oa on oc] 35)) := (Below.refl _ _).alloc (Nat.le_refl _) _
  have hx := RBox.new w f wa wn wc oa on oc 35
  have hP := h.below hb0
  have hR := hr.below hb0
  have HN := hide h.1
  have HW := hide hr.waits.1
  have HO := hide hr.outs.1
  clear h hr
  go_enter Tryz.func33, Tryz.ntmps33
  go_wp2_with fail
  generalize w.alloc (.cells #[.bool f, .slice wa wn wc, .slice oa on oc] 35) = w1 at *
  refine (PWaits_any p _ _ _ _ hP).mono ?_
  rintro e w2 ⟨la, ln, lc, he, hL, hb2⟩
  subst he
  have hx := hx.below hb2
  have hR := hR.below hb2
  have hb0 := bstep hb0 hb2
  clear hb2 hP
  by_cases e0 : checkP p = 0
  case neg =>
    have hq : (checkP p != 0) = true := by simp [e0]
    have R := hide (show restE p r = checkP p by unfold restE; rw [if_neg e0])
    obtain ⟨ck, hck⟩ : ∃ ck, checkP p = ck := ⟨_, rfl⟩
    rw [hck] at hq R ⊢
    clear e0 hck hL
    go_wp2_with fail
    go_ret
    exact ⟨ret_int (unhide R).symm, hb0⟩
  have hn14 : n ≤ 14 := by have := (pok_of e0).few; have := unhide HN; omega
  rw [if_pos e0] at hL
  obtain ⟨x0, x1, x2, x3⟩ := hx
  by_cases e1 : wn = n
  case neg =>
    have R := hide (show restE p r = 1 by unfold restE; rw [if_pos e0, if_neg (fun hh => e1 (by rw [unhide HW, hh.1, unhide HN]))])
    have hq : ((wn : Int) != (n : Int)) = true := by simp; omega
    rw [e0]
    clear e0
    go_wp2_with fail
    go_ret
    exact ⟨ret_int (unhide R).symm, hb0⟩
  by_cases e2 : on = 3
  case neg =>
    have R := hide (show restE p r = 1 by unfold restE; rw [if_pos e0, if_neg (fun hh => e2 (by rw [unhide HO, hh.2]))])
    have hq : ((on : Int) != 3) = true := by simp; omega
    rw [e0]
    subst e1
    clear e0
    go_wp2_with fail
    go_ret
    exact ⟨ret_int (unhide R).symm, hb0⟩
  have H1 := hide (show restB p r p.length = false → restE p r = 1 from fun e => by unfold restE; rw [if_pos e0, if_pos ⟨by rw [← unhide HW, e1]; exact unhide HN, by rw [← unhide HO, e2]⟩, e]; rfl)
  have H0 := hide (show restB p r p.length = true → restE p r = 0 from fun e => by unfold restE; rw [if_pos e0, if_pos ⟨by rw [← unhide HW, e1]; exact unhide HN, by rw [← unhide HO, e2]⟩, e]; rfl)
  rw [e0]
  clear e0
  subst e1
  subst e2
  have hff := hR.fresh
  have HFF := hide hff
  clear hff
  go_wp2_with fail
  go_loopw [32] (fun iv wr => ∃ k : Nat, k ≤ wn ∧ iv = .int .i64 k ∧ restB p r k = true ∧ wr = w2) (fun iv _ => wn - (intOf iv).toNat)
  case atStart => exact ⟨0, Nat.zero_le _, rfl, rfl, by first | rfl | trivial⟩
  case round =>
    obtain ⟨k, hk, rfl, hK, rfl⟩ := hrel
    by_cases hlt : k < wn
    · have hki : (k : Int) < (wn : Int) := by omega
      have hkp : k < p.length := by have := unhide HN; omega
      have hkw : k < r.waits.length := by have := unhide HW; omega
      have hkm : k < (waitsV p).length := by simpa [waitsV] using hkp
      have hkl : (k : Int) < (ln : Int) := by have := hL.1; have := hkm; omega
      obtain ⟨b, off, rfl, hbb, c1⟩ := hL.at hkm
      have hwm : (waitsV p)[k] = waitK p[k].kind := by simp [waitsV]
      rw [hwm] at c1
      clear hwm
      obtain ⟨b2, off2, rfl, hbb2, c3⟩ := hR.waits.at hkw
      have hbad : badAt p r k = (r.waits[k] && (f || !waitK p[k].kind)) := by
        unfold badAt kindAt
        rw [unhide HFF]
        simp [List.getD_eq_getElem?_getD, hkw, hkp]
      have HS := hide (restB_succ p r k)
      rw [hbad] at HS
      have HNO := hide (show (r.waits[k] && (f || !waitK p[k].kind)) = true → restE p r = 1 from fun e => unhide H1 (restB_no hkp (by rw [hbad]; exact e)))
      have HK := hide hK
      clear hbad hK
      generalize r.waits[k] = wk at *
      generalize p[k].kind = kd at *
      cases wk
      · have R := hide (show restB p r (k + 1) = true by rw [unhide HS, unhide HK]; rfl)
        go_wp2_with fail
        exact ⟨⟨k + 1, by omega, by go_num, unhide R, by first | rfl | trivial⟩, by simp [intOf]; omega⟩
      · cases f
        · cases eb : waitK kd
          · rw [eb] at c1
            have R := hide (unhide HNO (by rw [eb]; rfl))
            clear eb
            go_wp2_with fail
            go_ret
            exact ⟨ret_int (unhide R).symm, hb0⟩
          · rw [eb] at c1
            have R := hide (show restB p r (k + 1) = true by rw [unhide HS, unhide HK, eb]; rfl)
            clear eb
            go_wp2_with fail
            exact ⟨⟨k + 1, by omega, by go_num, unhide R, by first | rfl | trivial⟩, by simp [intOf]; omega⟩
        · have R := hide (unhide HNO (by simp))
          go_wp2_with fail
          go_ret
          exact ⟨ret_int (unhide R).symm, hb0⟩
    · have hkn : k = p.length := by have := unhide HN; omega
      rw [hkn] at hK
      have R := hide (unhide H0 hK)
      clear hK hkn
      go_wp2_with fail
      go_ret
      exact ⟨ret_int (unhide R).symm, hb0⟩

theorem BoolRow.boolsN {w : World} {g n : Nat} {ys : List Bool} (h : BoolRow w g ys) (hn : n = ys.length) (hm : n ≤ 14) : Bools w (some ⟨g, 0, none⟩) n ys := by
  refine ⟨hn, by unfold maxLen; omega, ?_⟩
  refine Or.inr ⟨g, 0, rfl, h.lt, fun i hi => ?_⟩
  rw [Nat.zero_add, h.cell i hi]
  simp [List.getD_eq_getElem?_getD, hi]
def beginR (p : List NodeD) : RestD := if checkP p = 0 then ⟨true, falsesL p.length, falsesL 3⟩ else ⟨false, [], []⟩
theorem Cells.onB {w w' : World} {g : Nat} {vs : List Value} {T : TypeId} (h : Cells w g vs T) (hb : Below w.heap.size w w') : Cells w' g vs T := (hb.block g h.lt).trans h
set_option maxRecDepth 100000 in
set_option maxHeartbeats 1000000 in
theorem wwalk_any (sb gW gO : Nat) (p : List NodeD) (r : RestD) (x : Int) (a : Option Addr) (n c : Nat) (f : Bool) (wa : Option Addr) (wn wc : Nat) (oa : Option Addr) (on oc : Nat) (ho : WkO p r x n c wn wc on gW gO) (w : World) (hf : f = r.fresh) (hpos : 0 < p.length) (hK : Kp [gW, gO] w (WkQ sb gW gO p r x a n c f wa wn wc oa on oc)) (hW : BoolRow w gW (falsesL p.length)) (hO : BoolRow w gO (falsesL 3)) :
    Calls Tryz.prog 34 #[.pointer (some ⟨sb, 0, none⟩)] w fun e w' => NextAt gW gO w w' (walkT p r x) e := by
  have hl1 : (falsesL p.length).length = p.length := by simp [falsesL]
  have hl2 : (falsesL 3).length = 3 := by simp [falsesL]
  have HL := hide (And.intro hl1 hl2)
  clear hl1 hl2
  have q00 := hK.now.lt
  have q1 := hK.now.c1
  cases f
  · have R := hide (show walkT p r x = if someP p r.waits 0 then onF p r.waits r.outs (bitsV x 3) p.length 0 (falsesL p.length, falsesL 3) else ((falsesL p.length, falsesL 3), false) by unfold walkT; rw [← hf]; rfl)
    clear hf
    have SW : Calls Tryz.prog 73 #[.pointer (some ⟨sb, 0, none⟩), .int .i64 0] w fun e w' => e = .returned (.bool (someP p r.waits 0)) ∧ Below w.heap.size w w' := wSomeWait_any hK.now ho 0 hpos
    go_enter Tryz.func34, Tryz.ntmps34
    go_wp2_with fail
    refine SW.mono ?_
    rintro e w1 ⟨rfl, hb⟩
    cases hs : someP p r.waits 0
    · have R2 := hide (show walkT p r x = ((falsesL p.length, falsesL 3), false) by rw [unhide R, hs]; rfl)
      go_wp2_with fail
      go_ret
      exact next_of (unhide R2) ⟨rfl, hW.on hb, hO.on hb, KeptS.of hb⟩
    · have R2 := hide (show walkT p r x = onF p r.waits r.outs (bitsV x 3) p.length 0 (falsesL p.length, falsesL 3) by rw [unhide R, hs]; rfl)
      have GO : Calls Tryz.prog 74 #[.pointer (some ⟨sb, 0, none⟩), .int .i64 0] w1 fun e w' => NextAt gW gO w1 w' (onF p r.waits r.outs (bitsV x 3) p.length 0 (falsesL p.length, falsesL 3)) e :=
        goOn_any sb gW gO p r x a n c false wa wn wc oa on oc ho p.length 0 (by omega) hpos (falsesL p.length, falsesL 3) w1 hs (fun i _ => by unfold falsesL; rw [List.getD_eq_getElem?_getD, List.getElem?_replicate]; split <;> rfl) (hK.on hb) (hW.on hb) (hO.on hb) (unhide HL).1 (unhide HL).2
      go_wp2_with fail
      refine GO.mono ?_
      rintro e w2 ⟨rfl, hW2, hO2, hk2⟩
      obtain ⟨t1, ht1⟩ : ∃ t, onF p r.waits r.outs (bitsV x 3) p.length 0 (falsesL p.length, falsesL 3) = t := ⟨_, rfl⟩
      rw [ht1] at hW2 hO2 R2 ⊢
      obtain ⟨s1, b1⟩ := t1
      clear ht1 GO
      go_wp2_with fail
      go_ret
      exact next_of (unhide R2) ⟨rfl, hW2, hO2, (KeptS.of hb).trans hk2⟩
  · have R2 := hide (show walkT p r x = beginF p r.outs (bitsV x 3) p.length 0 (falsesL p.length, falsesL 3) by unfold walkT; rw [← hf]; rfl)
    clear hf
    have BG : Calls Tryz.prog 72 #[.pointer (some ⟨sb, 0, none⟩), .int .i64 0] w fun e w' => NextAt gW gO w w' (beginF p r.outs (bitsV x 3) p.length 0 (falsesL p.length, falsesL 3)) e :=
      wbegin_any sb gW gO p r x a n c true wa wn wc oa on oc ho p.length 0 (falsesL p.length, falsesL 3) w (by omega) hpos hK hW hO (unhide HL).1 (unhide HL).2
    go_enter Tryz.func34, Tryz.ntmps34
    go_wp2_with fail
    refine BG.mono ?_
    rintro e w2 ⟨rfl, hW2, hO2, hk2⟩
    obtain ⟨t1, ht1⟩ : ∃ t, beginF p r.outs (bitsV x 3) p.length 0 (falsesL p.length, falsesL 3) = t := ⟨_, rfl⟩
    rw [ht1] at hW2 hO2 R2 ⊢
    obtain ⟨s1, b1⟩ := t1
    clear ht1 BG
    go_wp2_with fail
    go_ret
    exact next_of (unhide R2) ⟨rfl, hW2, hO2, hk2⟩
theorem old_below {G : List Nat} {w3 w7 V : World} (hST : Below w3.heap.size w3 w7) (hG : ∀ g ∈ G, w3.heap.size ≤ g) (hV : KeptG G w7 V) : Below w3.heap.size w3 { V with os := w3.os, tape := w3.tape, output := w3.output } :=
  ⟨rfl, rfl, rfl, Nat.le_trans hST.size hV.1, fun k hk => (hV.2 k (Nat.lt_of_lt_of_le hk hST.size) (fun hm => by have := hG k hm; omega)).trans (hST.block k hk)⟩
theorem Nodes.old {V : World} {o : Os} {tp : _} {ou : _} {a : Option Addr} {n : Nat} {p : List NodeD} (h : Nodes { V with os := o, tape := tp, output := ou } a n p) : Nodes V a n p := h
theorem Bools.old {V : World} {o : Os} {tp : _} {ou : _} {a : Option Addr} {n : Nat} {p : List Bool} (h : Bools { V with os := o, tape := tp, output := ou } a n p) : Bools V a n p := h
theorem below8 {B : Nat} {w W : World} (h : Below B w W) {sb : Nat} (hs : B ≤ sb) (v0 v1 v2 v3 v4 v5 v6 v7 : Value) : Below B w ((((((((W.setCell ⟨sb, 0, none⟩ v0).setCell ⟨sb, 1, none⟩ v1).setCell ⟨sb, 2, none⟩ v2).setCell ⟨sb, 3, none⟩ v3).setCell ⟨sb, 4, none⟩ v4).setCell ⟨sb, 5, none⟩ v5).setCell ⟨sb, 6, none⟩ v6).setCell ⟨sb, 7, none⟩ v7) :=
  (((((((h.setCell (p := ⟨sb, 0, none⟩) hs v0).setCell (p := ⟨sb, 1, none⟩) hs v1).setCell (p := ⟨sb, 2, none⟩) hs v2).setCell (p := ⟨sb, 3, none⟩) hs v3).setCell (p := ⟨sb, 4, none⟩) hs v4).setCell (p := ⟨sb, 5, none⟩) hs v5).setCell (p := ⟨sb, 6, none⟩) hs v6).setCell (p := ⟨sb, 7, none⟩) hs v7
theorem cells8 {W : World} {sb : Nat} {T : TypeId} {u0 u1 u2 u3 u4 u5 u6 u7 : Value} (h : Cells W sb [u0, u1, u2, u3, u4, u5, u6, u7] T) (v0 v1 v2 v3 v4 v5 v6 v7 : Value) : Cells ((((((((W.setCell ⟨sb, 0, none⟩ v0).setCell ⟨sb, 1, none⟩ v1).setCell ⟨sb, 2, none⟩ v2).setCell ⟨sb, 3, none⟩ v3).setCell ⟨sb, 4, none⟩ v4).setCell ⟨sb, 5, none⟩ v5).setCell ⟨sb, 6, none⟩ v6).setCell ⟨sb, 7, none⟩ v7) sb [v0, v1, v2, v3, v4, v5, v6, v7] T :=
  (((((((h.set 0 v0).set 1 v1).set 2 v2).set 3 v3).set 4 v4).set 5 v5).set 6 v6).set 7 v7
theorem far8 {W : World} {sb g : Nat} {ys : List Bool} (h : BoolRow W g ys) (hne : g ≠ sb) (v0 v1 v2 v3 v4 v5 v6 v7 : Value) : BoolRow ((((((((W.setCell ⟨sb, 0, none⟩ v0).setCell ⟨sb, 1, none⟩ v1).setCell ⟨sb, 2, none⟩ v2).setCell ⟨sb, 3, none⟩ v3).setCell ⟨sb, 4, none⟩ v4).setCell ⟨sb, 5, none⟩ v5).setCell ⟨sb, 6, none⟩ v6).setCell ⟨sb, 7, none⟩ v7) g ys :=
  (((((((h.far (k := 0) (v := v0) hne).far (k := 1) (v := v1) hne).far (k := 2) (v := v2) hne).far (k := 3) (v := v3) hne).far (k := 4) (v := v4) hne).far (k := 5) (v := v5) hne).far (k := 6) (v := v6) hne).far (k := 7) (v := v7) hne
def StepRet (p : List NodeD) (r : RestD) (x : Int) (w w' : World) (e : Ending) : Prop := ∃ f wa wn wc oa on oc, e = .returned (.tuple #[.agg #[.bool f, .slice wa wn wc, .slice oa on oc], .bool (walkO p r x), .int .i64 (walkE p r x)]) ∧ Kp (List.range w.heap.size) w' (fun V => RestAt V (walkR p r x) f wa wn oa on) ∧ wn ≤ wc ∧ Below w.heap.size w w'
theorem step_err {p : List NodeD} {r : RestD} {x : Int} {w w' : World} {er : Int} (he : walkE p r x = er) (h0 : er ≠ 0) (hb : Below w.heap.size w w') : StepRet p r x w w' (.returned (.tuple #[.agg #[.bool false, .slice none 0 0, .slice none 0 0], .bool false, .int .i64 er])) := by
  have h1 : walkE p r x ≠ 0 := by rw [he]; exact h0
  refine ⟨false, none, 0, 0, none, 0, 0, by unfold walkO; rw [if_neg h1, he], fun V _ => ?_, Nat.le_refl _, hb⟩
  unfold walkR
  rw [if_neg h1]
  exact ⟨rfl, ⟨rfl, Nat.zero_le _, Or.inl rfl⟩, ⟨rfl, Nat.zero_le _, Or.inl rfl⟩⟩
set_option maxRecDepth 100000 in
set_option maxHeartbeats 4000000 in
theorem WStep_any (p : List NodeD) (a : Option Addr) (n c : Nat) (r : RestD) (f : Bool) (wa oa : Option Addr) (wn wc on oc : Nat) (x : Int) (w : World) (h : Nodes w a n p) (hr : RestAt w r f wa wn oa on) (hnc : n ≤ c) (hwc : wn ≤ wc) :
    Calls Tryz.prog 11 #[.slice a n c, .agg #[.bool f, .slice wa wn wc, .slice oa on oc], .int .i64 x] w fun e w' => StepRet p r x w w' e := by
  have hb0 : Below w.heap.size w (w.alloc (.cells #[.bool f, .slice wa wn wc, .slice oa on oc] 35)) := (Below.refl _ _).alloc (Nat.le_refl _) _
  have hb1 := (Below.refl _ (w.alloc (.cells #[.bool f, .slice wa wn wc, .slice oa on oc] 35))).alloc (Nat.le_refl _) (.cells #[.bool false, .slice none 0 0, .slice none 0 0] 35)
  have hx := (RBox.new w f wa wn wc oa on oc 35).below hb1
  have hc0 := Cells.new (w.alloc (.cells #[.bool f, .slice wa wn wc, .slice oa on oc] 35)) [.bool false, .slice none 0 0, .slice none 0 0] 35
  have hsz : (w.alloc (.cells #[.bool f, .slice wa wn wc, .slice oa on oc] 35)).heap.size = w.heap.size + 1 := by simp
  rw [hsz] at hc0
  have hP := (h.below hb0).below hb1
  have hR := (hr.below hb0).below hb1
  have B := bstep hb0 hb1
  have HN := hide h.1
  clear h hr hb0 hb1 hsz
  go_enter Tryz.func11, Tryz.ntmps11
  go_wp2_with fail
  generalize (w.alloc (.cells #[.bool f, .slice wa wn wc, .slice oa on oc] 35)).alloc (.cells #[.bool false, .slice none 0 0, .slice none 0 0] 35) = w2 at *
  refine (WCheck_any p _ _ _ r f wa oa wn wc on oc _ hP hR).mono ?_
  rintro e w3 ⟨rfl, hb⟩
  have hP3 := hP.below hb
  have hR3 := hR.below hb
  have hx3 := hx.below hb
  have hc3 : Cells w3 (w.heap.size + 1) [.bool false, .slice none 0 0, .slice none 0 0] 35 := (hb.block _ hc0.lt).trans hc0
  have B3 := bstep B hb
  clear hb hP hR hx hc0 B
  have z0 := hc3.cell 0
  have z1 := hc3.cell 1
  have z2 := hc3.cell 2
  have f0 := hc3.frozen 0
  have f1 := hc3.frozen 1
  have f2 := hc3.frozen 2
  have hc9 := ((hc3.set 0 (.bool false)).set 1 (.slice none 0 0)).set 2 (.slice none 0 0)
  have y0 := hc9.cell 0
  have y1 := hc9.cell 1
  have y2 := hc9.cell 2
  have B9 := ((B3.setCell (p := ⟨w.heap.size + 1, 0, none⟩) (Nat.le_succ _) (.bool false)).setCell (p := ⟨w.heap.size + 1, 1, none⟩) (Nat.le_succ _) (.slice none 0 0)).setCell (p := ⟨w.heap.size + 1, 2, none⟩) (Nat.le_succ _) (.slice none 0 0)
  by_cases e0 : restE p r = 0
  case neg =>
    have hq : (restE p r != 0) = true := by simp [e0]
    have HE := hide (show walkE p r x = restE p r by unfold walkE; rw [if_neg e0])
    have HE0 := hide e0
    obtain ⟨er, her⟩ : ∃ er, restE p r = er := ⟨_, rfl⟩
    rw [her] at hq HE HE0 ⊢
    clear e0 her
    go_wp2_with fail
    exact bodyPost_ret (v := .tuple #[.agg #[.bool false, .slice none 0 0, .slice none 0 0], .bool false, .int .i64 er]) (by simp [results, Tryz.results11, go_sem, y0, y1, y2]) rfl (step_err (unhide HE) (unhide HE0) B9)
  rw [e0]
  by_cases e1 : 0 ≤ x ∧ x ≤ 7
  case neg =>
    have HE := hide (show walkE p r x = 3 by unfold walkE; rw [if_pos e0, if_neg e1])
    have hd : decide (0 ≤ x ∧ x ≤ 7) = false := by simp only [decide_eq_false_iff_not]; exact e1
    have HD := hide hd
    clear e0 hd
    have hlg : x < 0 ∨ (¬ x < 0 ∧ 8 ≤ x) := by omega
    clear HD e1
    rcases hlg with hlg | ⟨hlg, hge⟩
    all_goals
      go_wp2_with fail
      exact bodyPost_ret (v := .tuple #[.agg #[.bool false, .slice none 0 0, .slice none 0 0], .bool false, .int .i64 3]) (by simp [results, Tryz.results11, go_sem, y0, y1, y2]) rfl (step_err (unhide HE) (by decide) B9)
  clear y0 y1 y2 hc9 B9 z0 z1 z2 f0 f1 f2
  obtain ⟨hck, hwl, hol, _⟩ := restE_ok e0
  have HMAY := hide (rest_may e0)
  have hok := pok_of hck
  have hn14 : n ≤ 14 := by have := hok.few; have := unhide HN; omega
  have hpos : 0 < p.length := ok_some (o := 0) hok.form
  have hwn : wn = n := by rw [hR3.waits.1, hwl]; exact (unhide HN).symm
  have hon : on = 3 := by rw [hR3.outs.1, hol]
  have HE := hide (show walkE p r x = 0 by unfold walkE; rw [if_pos e0, if_pos e1])
  have HD := hide (show decide (0 ≤ x ∧ x ≤ 7) = true by simp only [decide_eq_true_iff]; exact e1)
  have hx0 := e1.1
  have hx7' := e1.2
  have hx7 : x ≤ 1048576 := by omega
  have HOK := hide hok
  have hfr := hR3.fresh
  have HFR := hide hfr
  clear e0 e1 hck hok hwl hol hfr
  subst hwn
  subst hon
  have hlt0 : ¬ x < 0 := by omega
  have hge8 : ¬ 8 ≤ x := by have := hx7'; omega
  have hx3' := hx3
  obtain ⟨q0, q1, q2, q3⟩ := hx3'
  have hbd := (Below.refl w3.heap.size w3).drew
  go_wp2_with fail
  have hb00 := Below.refl w3.heap.size w3
  have hSZ0 := (Below.refl _ w3).alloc (Nat.le_refl _) (.cells #[.slice none 0 0, .bool false, .slice none 0 0, .slice none 0 0, .bool false, .slice none 0 0, .slice none 0 0, .int .i64 0] 77)
  have hSZ := hSZ0.drew
  have hZ0 := Cells.new w3 [.slice none 0 0, .bool false, .slice none 0 0, .slice none 0 0, .bool false, .slice none 0 0, .slice none 0 0, .int .i64 0] 77
  have hZ := hZ0.onB (Below.refl _ _).drew
  have HS : ∀ W : World, Below w3.heap.size w3 W → Below w3.heap.size w3 W ∧ W.cell? ⟨w.heap.size, 0, none⟩ = some (.bool f) ∧ W.cell? ⟨w.heap.size, 1, none⟩ = some (.slice wa wn wc) ∧ W.cell? ⟨w.heap.size, 2, none⟩ = some (.slice oa 3 oc) := fun W hW => ⟨hW, (hx3.below hW).2⟩
  go_region_held3 (fun W => Below w3.heap.size w3 W ∧ W.cell? ⟨w.heap.size, 0, none⟩ = some (.bool f) ∧ W.cell? ⟨w.heap.size, 1, none⟩ = some (.slice wa wn wc) ∧ W.cell? ⟨w.heap.size, 2, none⟩ = some (.slice oa 3 oc))
    ((first | with_reducible exact HS _ hb00 | with_reducible exact HS _ hbd | with_reducible exact HS _ hSZ0 | with_reducible exact HS _ hSZ | with_reducible exact HS _ hSB | with_reducible exact HS _ hSD | with_reducible exact HS _ hSC | with_reducible exact HS _ hS8))
    ((first
      | (go_at_call 32; refine (blank_any a wn c _ hn14).mono ?_; rintro e wB ⟨gW, gO, rfl, hne, hgW, hgO, hrW, hrO, hbB⟩; have hSB : Below w3.heap.size w3 wB := by first | with_reducible exact bstep hbd hbB | with_reducible exact bstep hSZ hbB;  
         (try have hcZ : Cells wB w3.heap.size [.slice none 0 0, .bool false, .slice none 0 0, .slice none 0 0, .bool false, .slice none 0 0, .slice none 0 0, .int .i64 0] 77 := by with_reducible exact hZ.onB hbB); (try have k0 := hcZ.cell 0); (try have k1 := hcZ.cell 1); (try have k2 := hcZ.cell 2); (try have k3 := hcZ.cell 3); (try have k4 := hcZ.cell 4); (try have k5 := hcZ.cell 5); (try have k6 := hcZ.cell 6); (try have k7 := hcZ.cell 7); (try have fz0 := hcZ.frozen 0); (try have fz1 := hcZ.frozen 1); (try have fz2 := hcZ.frozen 2); (try have fz3 := hcZ.frozen 3); (try have fz4 := hcZ.frozen 4); (try have fz5 := hcZ.frozen 5); (try have fz6 := hcZ.frozen 6); (try have fz7 := hcZ.frozen 7); (try have hlZ := hcZ.lt);
         have hSD := bstep hSB ((Below.refl _ wB).alloc (Nat.le_refl _) (.cells #[.slice none 0 0, .bool false, .slice none 0 0, .slice none 0 0, .bool false, .slice none 0 0, .slice none 0 0, .int .i64 0] 77)); have hSC := bstep hSB ((Below.refl _ wB).alloc (Nat.le_refl _) (.cells #[.slice a wn c, .bool f, .slice wa wn wc, .slice oa 3 oc, .bool false, .slice (some ⟨gW, 0, none⟩) wn wn, .slice (some ⟨gO, 0, none⟩) 3 3, .int .i64 x] 77)); have hS8 := below8 hSB (Nat.le_refl w3.heap.size) (.slice a wn c) (.bool f) (.slice wa wn wc) (.slice oa 3 oc) (.bool false) (.slice (some ⟨gW, 0, none⟩) wn wn) (.slice (some ⟨gO, 0, none⟩) 3 3) (.int .i64 x))))
  all_goals go_upto_region 7 with fail
  case' refine_2.refine_3.refine_3.refine_3.refine_3.refine_1.refine_2.refine_3.refine_1.refine_2.refine_1.refine_2 =>
    have hcS := Cells.new wB [.slice a wn c, .bool f, .slice wa wn wc, .slice oa 3 oc, .bool false, .slice (some ⟨gW, 0, none⟩) wn wn, .slice (some ⟨gO, 0, none⟩) 3 3, .int .i64 x] 77
    have hAS := (Below.refl _ wB).alloc (Nat.le_refl _) (.cells #[.slice a wn c, .bool f, .slice wa wn wc, .slice oa 3 oc, .bool false, .slice (some ⟨gW, 0, none⟩) wn wn, .slice (some ⟨gO, 0, none⟩) 3 3, .int .i64 x] 77)
    have hW7 := hrW.on hAS
    have hO7 := hrO.on hAS
    have hST := hSC
    have hsb : w3.heap.size ≤ wB.heap.size := hSB.size
    have hgW3 : w3.heap.size ≤ gW := hgW
    have hgO3 : w3.heap.size ≤ gO := hgO
    have hneW : wB.heap.size ≠ gW := by have := hrW.lt; omega
    have hneO : wB.heap.size ≠ gO := by have := hrO.lt; omega
    clear hS8 hSC hSD hAS HS hSZ0 hSZ hZ0 hZ hgW hgO hbB hrW hrO
    generalize wB.alloc (.cells #[.slice a wn c, .bool f, .slice wa wn wc, .slice oa 3 oc, .bool false, .slice (some ⟨gW, 0, none⟩) wn wn, .slice (some ⟨gO, 0, none⟩) 3 3, .int .i64 x] 77) = w7 at *
    generalize wB.heap.size = sb at *
  case' refine_2.refine_3.refine_3.refine_3.refine_3.refine_2.refine_1.refine_2.refine_1.refine_2.refine_3.refine_1.refine_2 =>
    have hcS := cells8 hcZ (.slice a wn c) (.bool f) (.slice wa wn wc) (.slice oa 3 oc) (.bool false) (.slice (some ⟨gW, 0, none⟩) wn wn) (.slice (some ⟨gO, 0, none⟩) 3 3) (.int .i64 x)
    have hneW : w3.heap.size ≠ gW := by have : w3.heap.size + 1 ≤ gW := (by simpa using hgW); omega
    have hneO : w3.heap.size ≠ gO := by have : w3.heap.size + 1 ≤ gO := (by simpa using hgO); omega
    have hW7 := far8 hrW (Ne.symm hneW) (.slice a wn c) (.bool f) (.slice wa wn wc) (.slice oa 3 oc) (.bool false) (.slice (some ⟨gW, 0, none⟩) wn wn) (.slice (some ⟨gO, 0, none⟩) 3 3) (.int .i64 x)
    have hO7 := far8 hrO (Ne.symm hneO) (.slice a wn c) (.bool f) (.slice wa wn wc) (.slice oa 3 oc) (.bool false) (.slice (some ⟨gW, 0, none⟩) wn wn) (.slice (some ⟨gO, 0, none⟩) 3 3) (.int .i64 x)
    have hST := hS8
    have hsb : w3.heap.size ≤ w3.heap.size := Nat.le_refl _
    have hgW3 : w3.heap.size ≤ gW := by have : w3.heap.size + 1 ≤ gW := (by simpa using hgW); omega
    have hgO3 : w3.heap.size ≤ gO := by have : w3.heap.size + 1 ≤ gO := (by simpa using hgO); omega
    clear hS8 hSC hSD HS hSZ0 hSZ hZ0 hZ hgW hgO hbB hrW hrO k0 k1 k2 k3 k4 k5 k6 k7 fz0 fz1 fz2 fz3 fz4 fz5 fz6 fz7 hcZ
    generalize ((((((((wB.setCell ⟨w3.heap.size, 0, none⟩ (.slice a wn c)).setCell ⟨w3.heap.size, 1, none⟩ (.bool f)).setCell ⟨w3.heap.size, 2, none⟩ (.slice wa wn wc)).setCell ⟨w3.heap.size, 3, none⟩ (.slice oa 3 oc)).setCell ⟨w3.heap.size, 4, none⟩ (.bool false)).setCell ⟨w3.heap.size, 5, none⟩ (.slice (some ⟨gW, 0, none⟩) wn wn)).setCell ⟨w3.heap.size, 6, none⟩ (.slice (some ⟨gO, 0, none⟩) 3 3)).setCell ⟨w3.heap.size, 7, none⟩ (.int .i64 x)) = w7 at *
    generalize hsb3 : w3.heap.size = sb at hcS hneW hneO ⊢
  all_goals
    have hgs : ∀ g ∈ [gW, gO], w3.heap.size ≤ g := by
      intro g hg
      simp at hg
      rcases hg with rfl | rfl
      · exact hgW3
      · exact hgO3
    have hsg : sb ∉ [gW, gO] := by simp; exact ⟨hneW, hneO⟩
    have hKQ : Kp [gW, gO] w7 (WkQ sb gW gO p r x a wn c f wa wn wc oa 3 oc) := fun V hV => by
      have hcV : Cells V sb _ 77 := (hV.2 sb hcS.lt hsg).trans hcS
      have hob := old_below hST hgs hV
      exact ⟨hcV.lt, hcV.cell 0, hcV.cell 1, hcV.cell 2, hcV.cell 3, hcV.cell 5, hcV.cell 6, hcV.cell 7, (hP3.below hob).old, (hR3.waits.below hob).old, (hR3.outs.below hob).old⟩
    have hWO : WkO p r x wn c wn wc 3 gW gO := ⟨unhide HOK, hnc, rfl, hwc, rfl, hx0, hx7', hne, unhide HMAY⟩
    have hW7' : BoolRow w7 gW (falsesL p.length) := by rw [← unhide HN]; exact hW7
    have WK := wwalk_any sb gW gO p r x a wn c f wa wn wc oa 3 oc hWO w7 (unhide HFR) hpos hKQ hW7' hO7
    have hc7 := hc3.onB hST
    have hlr : w.heap.size + 1 < w3.heap.size := hc3.lt
    have hwt := walkT_went p r x
    have HLN := hide (And.intro (show (walkT p r x).1.1.length = wn by rw [hwt.len, unhide HN]; simp [falsesL]) (show (walkT p r x).1.2.length = 3 by rw [hwt.outs]; simp [falsesL]))
    clear hwt
    obtain ⟨t1, ht1⟩ : ∃ t, walkT p r x = t := ⟨_, rfl⟩
    have HT := hide ht1
    rw [ht1] at WK HLN
    obtain ⟨⟨s1, s2⟩, b1⟩ := t1
    clear ht1 hKQ hWO hW7 hO7 hW7'
    go_wp2_with fail
    refine WK.mono ?_
    rintro e w8 ⟨rfl, hW8, hO8, hk8⟩
    have hcS8 : Cells w8 sb _ 77 := (hk8.1.2 sb hcS.lt hsg).trans hcS
    have hrn : w.heap.size + 1 ∉ [gW, gO] := fun hm => by have := hgs _ hm; omega
    have hc8 : Cells w8 (w.heap.size + 1) _ 35 := (hk8.1.2 _ hc7.lt hrn).trans hc7
    have B8 : Below w.heap.size w w8 := (bstep B3 hST).trans (hk8.below (fun g hg => by have := hgs g hg; omega) (by have := (bstep B3 hST).size; omega))
    have u4 := hcS8.cell 4
    have u5 := hcS8.cell 5
    have u6 := hcS8.cell 6
    have ul := hcS8.lt
    have z0 := hc8.cell 0
    have z1 := hc8.cell 1
    have z2 := hc8.cell 2
    have f0 := hc8.frozen 0
    have f1 := hc8.frozen 1
    have f2 := hc8.frozen 2
    have hc9 := ((hc8.set 0 (.bool false)).set 1 (.slice (some ⟨gW, 0, none⟩) wn wn)).set 2 (.slice (some ⟨gO, 0, none⟩) 3 3)
    have y0 := hc9.cell 0
    have y1 := hc9.cell 1
    have y2 := hc9.cell 2
    have B9 := ((B8.setCell (p := ⟨w.heap.size + 1, 0, none⟩) (Nat.le_succ _) (.bool false)).setCell (p := ⟨w.heap.size + 1, 1, none⟩) (Nat.le_succ _) (.slice (some ⟨gW, 0, none⟩) wn wn)).setCell (p := ⟨w.heap.size + 1, 2, none⟩) (Nat.le_succ _) (.slice (some ⟨gO, 0, none⟩) 3 3)
    have hnW : gW ≠ w.heap.size + 1 := fun e => hrn (by rw [← e]; simp)
    have hnO : gO ≠ w.heap.size + 1 := fun e => hrn (by rw [← e]; simp)
    have rW9 := ((hW8.far (k := 0) (v := .bool false) hnW).far (k := 1) (v := .slice (some ⟨gW, 0, none⟩) wn wn) hnW).far (k := 2) (v := .slice (some ⟨gO, 0, none⟩) 3 3) hnW
    have rO9 := ((hO8.far (k := 0) (v := .bool false) hnO).far (k := 1) (v := .slice (some ⟨gW, 0, none⟩) wn wn) hnO).far (k := 2) (v := .slice (some ⟨gO, 0, none⟩) 3 3) hnO
    clear hcS hc7 hST hk8 hW8 hO8 WK hc8 hcS8
    go_wp2_with fail
    generalize (((w8.setCell ⟨w.heap.size + 1, 0, none⟩ (.bool false)).setCell ⟨w.heap.size + 1, 1, none⟩ (.slice (some ⟨gW, 0, none⟩) wn wn)).setCell ⟨w.heap.size + 1, 2, none⟩ (.slice (some ⟨gO, 0, none⟩) 3 3)) = w9 at *
    exact bodyPost_ret (v := .tuple #[.agg #[.bool false, .slice (some ⟨gW, 0, none⟩) wn wn, .slice (some ⟨gO, 0, none⟩) 3 3], .bool b1, .int .i64 0]) (by simp [results, Tryz.results11, go_sem, y0, y1, y2]) rfl ⟨false, _, wn, wn, _, 3, 3, by rw [unhide HE, walkO_eq (unhide HE), unhide HT], fun V hV => by
      have h1 : gW ∉ List.range w.heap.size := by rw [List.mem_range]; omega
      have h2 : gO ∉ List.range w.heap.size := by rw [List.mem_range]; omega
      rw [walkR_eq (unhide HE), unhide HT]; exact ⟨rfl, (rW9.kept hV h1).boolsN (unhide HLN).1.symm hn14, (rO9.kept hV h2).boolsN (unhide HLN).2.symm (by omega)⟩, Nat.le_refl _, B9⟩
end Go.Proofs.YtongajonecgdpagGreatDoor
