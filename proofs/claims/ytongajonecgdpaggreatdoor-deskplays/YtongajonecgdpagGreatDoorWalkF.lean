/- The document's walk (WalkOf), its rows made since. -/
import Derived.Test.YtongajonecgdpagGreatDoorWalkC
import Derived.Test.YtongajonecgdpagGreatDoorWalkD
import Derived.Test.YtongajonecgdpagGreatDoorTickA
import Derived.Test.YtongajonecgdpagGreatDoorEvalM
namespace Go.Proofs.YtongajonecgdpagGreatDoor
open Go.RowKit

theorem Ints.oldF {V : World} {o : Os} {tp : _} {ou : _} {a : Option Addr} {n : Nat} {xs : List Int} (h : Ints { V with os := o, tape := tp, output := ou } a n xs) : Ints V a n xs := h
theorem BoolRow.boolsF {w : World} {g n : Nat} {ys : List Bool} (h : BoolRow w g ys) (hn : n = ys.length) (hm : n ≤ 14) : Bools w (some ⟨g, 0, none⟩) n ys := by
  refine ⟨hn, by unfold maxLen; omega, ?_⟩
  refine Or.inr ⟨g, 0, rfl, h.lt, fun i hi => ?_⟩
  rw [Nat.zero_add, h.cell i hi]
  simp [List.getD_eq_getElem?_getD, hi]
theorem old_belowF {G : List Nat} {w3 w7 V : World} (hST : Below w3.heap.size w3 w7) (hG : ∀ g ∈ G, w3.heap.size ≤ g) (hV : KeptG G w7 V) : Below w3.heap.size w3 { V with os := w3.os, tape := w3.tape, output := w3.output } :=
  ⟨rfl, rfl, rfl, Nat.le_trans hST.size hV.1, fun k hk => (hV.2 k (Nat.lt_of_lt_of_le hk hST.size) (fun hm => by have := hG k hm; omega)).trans (hST.block k hk)⟩
theorem Nodes.oldF {V : World} {o : Os} {tp : _} {ou : _} {a : Option Addr} {n : Nat} {p : List NodeD} (h : Nodes { V with os := o, tape := tp, output := ou } a n p) : Nodes V a n p := h
theorem Bools.oldF {V : World} {o : Os} {tp : _} {ou : _} {a : Option Addr} {n : Nat} {p : List Bool} (h : Bools { V with os := o, tape := tp, output := ou } a n p) : Bools V a n p := h
def WalkRetF (p : List NodeD) (r : RestD) (x : Int) (w w' : World) (e : Ending) : Prop := ∃ f wa wn wc oa on oc, e = .returned (.tuple #[.agg #[.bool f, .slice wa wn wc, .slice oa on oc], .bool (walkO p r x), .int .i64 (walkE p r x)]) ∧ RestAt w' (walkR p r x) f wa wn oa on ∧ Fresh w.heap.size wa wn ∧ Fresh w.heap.size oa on ∧ Below w.heap.size w w'
theorem walk_errF {p : List NodeD} {r : RestD} {x : Int} {w w' : World} {er : Int} (he : walkE p r x = er) (h0 : er ≠ 0) (hb : Below w.heap.size w w') : WalkRetF p r x w w' (.returned (.tuple #[.agg #[.bool false, .slice none 0 0, .slice none 0 0], .bool false, .int .i64 er])) := by
  have h1 : walkE p r x ≠ 0 := by rw [he]; exact h0
  refine ⟨false, none, 0, 0, none, 0, 0, by unfold walkO; rw [if_neg h1, he], ?_, Or.inl rfl, Or.inl rfl, hb⟩
  unfold walkR
  rw [if_neg h1]
  exact ⟨rfl, ⟨rfl, Nat.zero_le _, Or.inl rfl⟩, ⟨rfl, Nat.zero_le _, Or.inl rfl⟩⟩

set_option maxRecDepth 100000 in
set_option maxHeartbeats 4000000 in
theorem WalkOf_fresh (p : List NodeD) (a : Option Addr) (n c : Nat) (r : RestD) (f : Bool) (wa oa : Option Addr) (wn wc on oc : Nat) (x : Int) (w : World) (h : Nodes w a n p) (hr : RestAt w r f wa wn oa on) :
    Calls Tryz.prog 24 #[.slice a n c, .agg #[.bool f, .slice wa wn wc, .slice oa on oc], .int .i64 x] w fun e w' => WalkRetF p r x w w' e := by
  have hb0 : Below w.heap.size w (w.alloc (.cells #[.bool f, .slice wa wn wc, .slice oa on oc] 35)) := (Below.refl _ _).alloc (Nat.le_refl _) _
  have hb1 := (Below.refl _ (w.alloc (.cells #[.bool f, .slice wa wn wc, .slice oa on oc] 35))).alloc (Nat.le_refl _) (.cells #[.bool false, .slice none 0 0, .slice none 0 0] 35)
  have hx := (RBox.new w f wa wn wc oa on oc 35).below hb1
  have hc0 := Cells.new (w.alloc (.cells #[.bool f, .slice wa wn wc, .slice oa on oc] 35)) [.bool false, .slice none 0 0, .slice none 0 0] 35
  have hsz : (w.alloc (.cells #[.bool f, .slice wa wn wc, .slice oa on oc] 35)).heap.size = w.heap.size + 1 := by simp
  rw [hsz] at hc0
  have hP := (h.below hb0).below hb1
  have hR := (hr.below hb0).below hb1
  have B := bstep hb0 hb1
  have HN := hide h.1
  clear h hr hb0 hb1 hsz
  go_enter Tryz.func24, Tryz.ntmps24
  go_wp2_with fail
  generalize (w.alloc (.cells #[.bool f, .slice wa wn wc, .slice oa on oc] 35)).alloc (.cells #[.bool false, .slice none 0 0, .slice none 0 0] 35) = w2 at *
  refine (CheckRest_any p _ _ _ r f wa oa wn wc on oc _ hP hR).mono ?_
  rintro e w3 ⟨rfl, hb⟩
  have hP3 := hP.below hb
  have hR3 := hR.below hb
  have hx3 := hx.below hb
  have hc3 : Cells w3 (w.heap.size + 1) [.bool false, .slice none 0 0, .slice none 0 0] 35 := (hb.block _ hc0.lt).trans hc0
  have B3 := bstep B hb
  clear hb hP hR hx hc0 B
  have z0 := hc3.cell 0
  have z1 := hc3.cell 1
  have z2 := hc3.cell 2
  have f0 := hc3.frozen 0
  have f1 := hc3.frozen 1
  have f2 := hc3.frozen 2
  have hc9 := ((hc3.set 0 (.bool false)).set 1 (.slice none 0 0)).set 2 (.slice none 0 0)
  have y0 := hc9.cell 0
  have y1 := hc9.cell 1
  have y2 := hc9.cell 2
  have B9 := ((B3.setCell (p := ⟨w.heap.size + 1, 0, none⟩) (Nat.le_succ _) (.bool false)).setCell (p := ⟨w.heap.size + 1, 1, none⟩) (Nat.le_succ _) (.slice none 0 0)).setCell (p := ⟨w.heap.size + 1, 2, none⟩) (Nat.le_succ _) (.slice none 0 0)
  by_cases e0 : restE p r = 0
  case neg =>
    have hq : (restE p r != 0) = true := by simp [e0]
    have HE := hide (show walkE p r x = restE p r by unfold walkE; rw [if_neg e0])
    have HE0 := hide e0
    obtain ⟨er, her⟩ : ∃ er, restE p r = er := ⟨_, rfl⟩
    rw [her] at hq HE HE0 ⊢
    clear e0 her
    go_wp2_with fail
    exact bodyPost_ret (v := .tuple #[.agg #[.bool false, .slice none 0 0, .slice none 0 0], .bool false, .int .i64 er]) (by simp [results, Tryz.results24, go_sem, y0, y1, y2]) rfl (walk_errF (unhide HE) (unhide HE0) B9)
  rw [e0]
  by_cases e1 : 0 ≤ x ∧ x ≤ 7
  case neg =>
    have HE := hide (show walkE p r x = 3 by unfold walkE; rw [if_pos e0, if_neg e1])
    have hd : decide (0 ≤ x ∧ x ≤ 7) = false := by simp only [decide_eq_false_iff_not]; exact e1
    have HD := hide hd
    clear e0 e1 hd
    go_wp2_with fail
    refine (power_any 3 (by omega) _).mono ?_
    rintro e w' ⟨rfl, rfl⟩
    go_wp2_with fail
    refine (within_any x 0 7 _).mono ?_
    rintro e w' ⟨rfl, rfl⟩
    rw [unhide HD]
    go_wp2_with fail
    exact bodyPost_ret (v := .tuple #[.agg #[.bool false, .slice none 0 0, .slice none 0 0], .bool false, .int .i64 3]) (by simp [results, Tryz.results24, go_sem, y0, y1, y2]) rfl (walk_errF (unhide HE) (by decide) B9)
  clear y0 y1 y2 hc9 B9 z0 z1 z2 f0 f1 f2
  obtain ⟨hck, hwl, hol, _⟩ := restE_ok e0
  have HMAY := hide (rest_may e0)
  have hok := pok_of hck
  have hn14 : n ≤ 14 := by have := hok.few; have := unhide HN; omega
  have hpos : 0 < p.length := ok_some (o := 0) hok.form
  have hwn : wn = n := by rw [hR3.waits.1, hwl]; exact (unhide HN).symm
  have hon : on = 3 := by rw [hR3.outs.1, hol]
  have HE := hide (show walkE p r x = 0 by unfold walkE; rw [if_pos e0, if_pos e1])
  have HD := hide (show decide (0 ≤ x ∧ x ≤ 7) = true by simp only [decide_eq_true_iff]; exact e1)
  have hx0 := e1.1
  have hx7 : x ≤ 1048576 := by omega
  have HOK := hide hok
  have hfr := hR3.fresh
  have HFR := hide hfr
  clear e0 e1 hck hok hwl hol hfr
  subst hwn
  subst hon
  go_wp2_with fail
  refine (power_any 3 (by omega) _).mono ?_
  rintro e w' ⟨rfl, rfl⟩
  go_wp2_with fail
  refine (within_any x 0 7 _).mono ?_
  rintro e w' ⟨rfl, rfl⟩
  rw [unhide HD]
  have hx3' := hx3
  obtain ⟨q0, q1, q2, q3⟩ := hx3'
  rename World => w4
  have hbd := (Below.refl w4.heap.size w4).drew
  go_wp2_with fail
  go_region_held3 (fun W => Below w4.heap.size w4 W ∧ W.cell? ⟨w.heap.size, 0, none⟩ = some (.bool f) ∧ W.cell? ⟨w.heap.size, 1, none⟩ = some (.slice wa wn wc) ∧ W.cell? ⟨w.heap.size, 2, none⟩ = some (.slice oa 3 oc))
    ((first | exact ⟨hbd, (hx3.below hbd).2⟩ | exact ⟨hSA, (hx3.below hSA).2⟩ | exact ⟨hSB, (hx3.below hSB).2⟩ | exact ⟨hSC, (hx3.below hSC).2⟩))
    ((first
      | (go_at_call 49; refine (bits_any x 3 _ hx0 hx7 (by omega)).mono ?_; rintro e wA ⟨ia, inn, ic, rfl, hIA, hbA⟩; have hSA := bstep hbd hbA)
      | (go_at_call 19; refine (FreshOf_any a wn c _ hn14).mono ?_; rintro e wB ⟨gW, gO, rfl, hne, hgW, hgO, hrW, hrO, hbB⟩; have hSB := bstep hSA hbB; have hAL := (Below.refl _ wB).alloc (Nat.le_refl _) (.cells #[.slice a wn c, .bool f, .slice wa wn wc, .slice oa 3 oc, .slice ia inn ic, .bool true, .slice (some ⟨gW, 0, none⟩) wn wn, .slice (some ⟨gO, 0, none⟩) 3 3] 90); have hSC := bstep hSB hAL)))
  have hIn3 : inn = 3 := by rw [hIA.1]; simp [bitsV]
  subst hIn3
  have hAS := (Below.refl _ wB).alloc (Nat.le_refl _) (.cells #[.slice a wn c, .bool f, .slice wa wn wc, .slice oa 3 oc, .slice ia 3 ic, .bool false, .slice (some ⟨gW, 0, none⟩) wn wn, .slice (some ⟨gO, 0, none⟩) 3 3] 90)
  have hcS := Cells.new wB [.slice a wn c, .bool f, .slice wa wn wc, .slice oa 3 oc, .slice ia 3 ic, .bool false, .slice (some ⟨gW, 0, none⟩) wn wn, .slice (some ⟨gO, 0, none⟩) 3 3] 90
  have hW7 := hrW.on hAS
  have hO7 := hrO.on hAS
  have hlW := hrW.lt
  have hlO := hrO.lt
  have hST := bstep hSB hAS
  have hAT := bstep hbB hAS
  have hsA := hSA.size
  go_upto_region 9 with fail
  clear hAL hSC
  generalize wB.alloc (.cells #[.slice a wn c, .bool f, .slice wa wn wc, .slice oa 3 oc, .slice ia 3 ic, .bool false, .slice (some ⟨gW, 0, none⟩) wn wn, .slice (some ⟨gO, 0, none⟩) 3 3] 90) = w7 at *
  have hneW : wB.heap.size ≠ gW := by omega
  have hneO : wB.heap.size ≠ gO := by omega
  have hgsA : ∀ g ∈ [gW, gO], wA.heap.size ≤ g := by
    intro g hg
    simp at hg
    rcases hg with rfl | rfl
    · exact hgW
    · exact hgO
  have hgs : ∀ g ∈ [gW, gO], w4.heap.size ≤ g := fun g hg => Nat.le_trans hsA (hgsA g hg)
  generalize wB.heap.size = sb at *
  have hsg : sb ∉ [gW, gO] := by simp; exact ⟨hneW, hneO⟩
  have hKQ : Kp [gW, gO] w7 (StQ sb gW gO p r (bitsV x 3) a wn c wa wn wc oa 3 oc ia 3 ic) := fun V hV => by
    have hcV : Cells V sb _ 90 := (hV.2 sb hcS.lt hsg).trans hcS
    have hob := old_belowF hST hgs hV
    have hoA := old_belowF hAT hgsA hV
    exact ⟨hcV.lt, hcV.cell 0, hcV.cell 2, hcV.cell 3, hcV.cell 4, hcV.cell 6, hcV.cell 7, (hP3.below hob).oldF, (hR3.waits.below hob).oldF, (hR3.outs.below hob).oldF, (hIA.below hoA).oldF⟩
  have hW7' : BoolRow w7 gW (falsesL p.length) := by rw [← unhide HN]; exact hW7
  have hl1 : (falsesL p.length).length = p.length := by simp [falsesL]
  have hl2 : (falsesL 3).length = 3 := by simp [falsesL]
  have BG : Calls Tryz.prog 52 #[.pointer (some ⟨sb, 0, none⟩), .int .i64 0] w7 fun e w' => NextAt gW gO w7 w' (beginF p r.outs (bitsV x 3) p.length 0 (falsesL p.length, falsesL 3)) e :=
    begin_any sb gW gO p r (bitsV x 3) a wn c wa wn wc oa 3 oc ia 3 ic (unhide HOK) hn14 rfl rfl hne p.length 0 (falsesL p.length, falsesL 3) w7 (by omega) hpos hKQ hW7' hO7 hl1 hl2
  have SM : Calls Tryz.prog 53 #[.pointer (some ⟨sb, 0, none⟩), .int .i64 0] w7 fun e w' => e = .returned (.bool (someP p r.waits 0)) ∧ w' = w7 :=
    some_any sb gW gO p r (bitsV x 3) a wn c wa wn wc oa 3 oc ia 3 ic w7 hKQ.now (unhide HOK).form hn14 rfl 0 hpos
  have ON : someP p r.waits 0 = true → Calls Tryz.prog 54 #[.pointer (some ⟨sb, 0, none⟩), .int .i64 0] w7 fun e w' => NextAt gW gO w7 w' (onF p r.waits r.outs (bitsV x 3) p.length 0 (falsesL p.length, falsesL 3)) e := fun hs =>
    on_any sb gW gO p r (bitsV x 3) a wn c wa wn wc oa 3 oc ia 3 ic (unhide HOK) hn14 rfl rfl rfl hne (unhide HMAY) p.length 0 (falsesL p.length, falsesL 3) w7 (by omega) hpos hs hKQ hW7' hO7 hl1 hl2
  have hc7 := (show Cells w7 (w.heap.size + 1) _ 35 from (hST.block _ hc3.lt).trans hc3)
  have hlr : w.heap.size + 1 < w4.heap.size := hc3.lt
  have HGW : Hid (w.heap.size ≤ gW) := hide (by have := hgs gW (by simp); omega)
  have HGO : Hid (w.heap.size ≤ gO) := hide (by have := hgs gO (by simp); omega)
  have hrn : w.heap.size + 1 ∉ [gW, gO] := fun hm => by have := hgs _ hm; omega
  have hnW : gW ≠ w.heap.size + 1 := fun e => hrn (by rw [← e]; simp)
  have hnO : gO ≠ w.heap.size + 1 := fun e => hrn (by rw [← e]; simp)
  have hwt := walkT_went p r x
  have HLN := hide (And.intro (show (walkT p r x).1.1.length = wn by rw [hwt.len, unhide HN]; simp [falsesL]) (show (walkT p r x).1.2.length = 3 by rw [hwt.outs]; simp [falsesL]))
  have HFT := hide (show r.fresh = true → walkT p r x = beginF p r.outs (bitsV x 3) p.length 0 (falsesL p.length, falsesL 3) from fun e => by unfold walkT; rw [e]; rfl)
  have HFF := hide (show r.fresh = false → walkT p r x = if someP p r.waits 0 then onF p r.waits r.outs (bitsV x 3) p.length 0 (falsesL p.length, falsesL 3) else ((falsesL p.length, falsesL 3), false) from fun e => by unfold walkT; rw [e]; rfl)
  obtain ⟨g0, g1, g2, g3⟩ := hx3.below hST
  clear hwt hl1 hl2 hKQ
  cases f
  · have HW := hide (unhide HFF (unhide HFR).symm)
    clear HFF HFT
    go_wp2_with fail
    refine SM.mono ?_
    rintro e w' ⟨rfl, rfl⟩
    rename World => w7
    cases hs : someP p r.waits 0
    · have HT := hide (show walkT p r x = ((falsesL p.length, falsesL 3), false) by rw [unhide HW, hs]; rfl)
      rw [unhide HT] at HLN
      have b1 := false
      have hk8 : KeptS [gW, gO] w7 w7 := ⟨KeptG.refl _ _, rfl, rfl, rfl⟩
      have hW8 := hW7'
      have hO8 := hO7
      obtain ⟨w8, hw8⟩ : ∃ w8, w8 = w7 := ⟨_, rfl⟩
      rw [← hw8] at hW8 hO8 ⊢
      have hk8 : KeptS [gW, gO] w7 w8 := by rw [hw8]; exact hk8
      clear hw8 hs
      have hcS8 : Cells w8 sb _ 90 := (hk8.1.2 sb hcS.lt hsg).trans hcS
      have hc8 : Cells w8 (w.heap.size + 1) _ 35 := (hk8.1.2 _ hc7.lt hrn).trans hc7
      have B8 : Below w.heap.size w w8 := (bstep B3 hST).trans (hk8.below (fun g hg => by have := hgs g hg; omega) (by have := (bstep B3 hST).size; omega))
      have u5 := hcS8.cell 5
      have u6 := hcS8.cell 6
      have u7 := hcS8.cell 7
      have ul := hcS8.lt
      have z0 := hc8.cell 0
      have z1 := hc8.cell 1
      have z2 := hc8.cell 2
      have f0 := hc8.frozen 0
      have f1 := hc8.frozen 1
      have f2 := hc8.frozen 2
      have hc9 := ((hc8.set 0 (.bool false)).set 1 (.slice (some ⟨gW, 0, none⟩) wn wn)).set 2 (.slice (some ⟨gO, 0, none⟩) 3 3)
      have y0 := hc9.cell 0
      have y1 := hc9.cell 1
      have y2 := hc9.cell 2
      have B9 := ((B8.setCell (p := ⟨w.heap.size + 1, 0, none⟩) (Nat.le_succ _) (.bool false)).setCell (p := ⟨w.heap.size + 1, 1, none⟩) (Nat.le_succ _) (.slice (some ⟨gW, 0, none⟩) wn wn)).setCell (p := ⟨w.heap.size + 1, 2, none⟩) (Nat.le_succ _) (.slice (some ⟨gO, 0, none⟩) 3 3)
      have rW9 := ((hW8.far (k := 0) (v := .bool false) hnW).far (k := 1) (v := .slice (some ⟨gW, 0, none⟩) wn wn) hnW).far (k := 2) (v := .slice (some ⟨gO, 0, none⟩) 3 3) hnW
      have rO9 := ((hO8.far (k := 0) (v := .bool false) hnO).far (k := 1) (v := .slice (some ⟨gW, 0, none⟩) wn wn) hnO).far (k := 2) (v := .slice (some ⟨gO, 0, none⟩) 3 3) hnO
      clear hk8 hW8 hO8 hc8 hcS8
      go_wp2_with fail
      generalize (((w8.setCell ⟨w.heap.size + 1, 0, none⟩ (.bool false)).setCell ⟨w.heap.size + 1, 1, none⟩ (.slice (some ⟨gW, 0, none⟩) wn wn)).setCell ⟨w.heap.size + 1, 2, none⟩ (.slice (some ⟨gO, 0, none⟩) 3 3)) = w9 at *
      exact bodyPost_ret (v := .tuple #[.agg #[.bool false, .slice (some ⟨gW, 0, none⟩) wn wn, .slice (some ⟨gO, 0, none⟩) 3 3], .bool false, .int .i64 0]) (by simp [results, Tryz.results24, go_sem, y0, y1, y2]) rfl ⟨false, _, wn, wn, _, 3, 3, by rw [unhide HE, walkO_eq (unhide HE), unhide HT], by rw [walkR_eq (unhide HE), unhide HT]; exact ⟨rfl, rW9.boolsF (unhide HLN).1.symm hn14, rO9.boolsF (unhide HLN).2.symm (by omega)⟩, Or.inr ⟨gW, 0, rfl, HGW.out⟩, Or.inr ⟨gO, 0, rfl, HGO.out⟩, B9⟩

    · have HT := hide (show walkT p r x = onF p r.waits r.outs (bitsV x 3) p.length 0 (falsesL p.length, falsesL 3) by rw [unhide HW, hs]; rfl)
      have CL := ON hs
      rw [← unhide HT] at CL
      clear hs
      obtain ⟨t1, ht1⟩ : ∃ t, walkT p r x = t := ⟨_, rfl⟩
      have HT := hide ht1
      rw [ht1] at CL HLN
      obtain ⟨⟨s1, s2⟩, b1⟩ := t1
      clear ht1
      go_wp2_with fail
      refine CL.mono ?_
      rintro e w8 ⟨rfl, hW8, hO8, hk8⟩
      have hcS8 : Cells w8 sb _ 90 := (hk8.1.2 sb hcS.lt hsg).trans hcS
      have hc8 : Cells w8 (w.heap.size + 1) _ 35 := (hk8.1.2 _ hc7.lt hrn).trans hc7
      have B8 : Below w.heap.size w w8 := (bstep B3 hST).trans (hk8.below (fun g hg => by have := hgs g hg; omega) (by have := (bstep B3 hST).size; omega))
      have u5 := hcS8.cell 5
      have u6 := hcS8.cell 6
      have u7 := hcS8.cell 7
      have ul := hcS8.lt
      have z0 := hc8.cell 0
      have z1 := hc8.cell 1
      have z2 := hc8.cell 2
      have f0 := hc8.frozen 0
      have f1 := hc8.frozen 1
      have f2 := hc8.frozen 2
      have hc9 := ((hc8.set 0 (.bool false)).set 1 (.slice (some ⟨gW, 0, none⟩) wn wn)).set 2 (.slice (some ⟨gO, 0, none⟩) 3 3)
      have y0 := hc9.cell 0
      have y1 := hc9.cell 1
      have y2 := hc9.cell 2
      have B9 := ((B8.setCell (p := ⟨w.heap.size + 1, 0, none⟩) (Nat.le_succ _) (.bool false)).setCell (p := ⟨w.heap.size + 1, 1, none⟩) (Nat.le_succ _) (.slice (some ⟨gW, 0, none⟩) wn wn)).setCell (p := ⟨w.heap.size + 1, 2, none⟩) (Nat.le_succ _) (.slice (some ⟨gO, 0, none⟩) 3 3)
      have rW9 := ((hW8.far (k := 0) (v := .bool false) hnW).far (k := 1) (v := .slice (some ⟨gW, 0, none⟩) wn wn) hnW).far (k := 2) (v := .slice (some ⟨gO, 0, none⟩) 3 3) hnW
      have rO9 := ((hO8.far (k := 0) (v := .bool false) hnO).far (k := 1) (v := .slice (some ⟨gW, 0, none⟩) wn wn) hnO).far (k := 2) (v := .slice (some ⟨gO, 0, none⟩) 3 3) hnO
      clear hk8 hW8 hO8 hc8 hcS8
      go_wp2_with fail
      generalize (((w8.setCell ⟨w.heap.size + 1, 0, none⟩ (.bool false)).setCell ⟨w.heap.size + 1, 1, none⟩ (.slice (some ⟨gW, 0, none⟩) wn wn)).setCell ⟨w.heap.size + 1, 2, none⟩ (.slice (some ⟨gO, 0, none⟩) 3 3)) = w9 at *
      exact bodyPost_ret (v := .tuple #[.agg #[.bool false, .slice (some ⟨gW, 0, none⟩) wn wn, .slice (some ⟨gO, 0, none⟩) 3 3], .bool b1, .int .i64 0]) (by simp [results, Tryz.results24, go_sem, y0, y1, y2]) rfl ⟨false, _, wn, wn, _, 3, 3, by rw [unhide HE, walkO_eq (unhide HE), unhide HT], by rw [walkR_eq (unhide HE), unhide HT]; exact ⟨rfl, rW9.boolsF (unhide HLN).1.symm hn14, rO9.boolsF (unhide HLN).2.symm (by omega)⟩, Or.inr ⟨gW, 0, rfl, HGW.out⟩, Or.inr ⟨gO, 0, rfl, HGO.out⟩, B9⟩

  · have CL := BG
    rw [← unhide HFT (unhide HFR).symm] at CL
    clear HFF HFT BG
    obtain ⟨t1, ht1⟩ : ∃ t, walkT p r x = t := ⟨_, rfl⟩
    have HT := hide ht1
    rw [ht1] at CL HLN
    obtain ⟨⟨s1, s2⟩, b1⟩ := t1
    clear ht1
    go_wp2_with fail
    refine CL.mono ?_
    rintro e w8 ⟨rfl, hW8, hO8, hk8⟩
    have hcS8 : Cells w8 sb _ 90 := (hk8.1.2 sb hcS.lt hsg).trans hcS
    have hc8 : Cells w8 (w.heap.size + 1) _ 35 := (hk8.1.2 _ hc7.lt hrn).trans hc7
    have B8 : Below w.heap.size w w8 := (bstep B3 hST).trans (hk8.below (fun g hg => by have := hgs g hg; omega) (by have := (bstep B3 hST).size; omega))
    have u5 := hcS8.cell 5
    have u6 := hcS8.cell 6
    have u7 := hcS8.cell 7
    have ul := hcS8.lt
    have z0 := hc8.cell 0
    have z1 := hc8.cell 1
    have z2 := hc8.cell 2
    have f0 := hc8.frozen 0
    have f1 := hc8.frozen 1
    have f2 := hc8.frozen 2
    have hc9 := ((hc8.set 0 (.bool false)).set 1 (.slice (some ⟨gW, 0, none⟩) wn wn)).set 2 (.slice (some ⟨gO, 0, none⟩) 3 3)
    have y0 := hc9.cell 0
    have y1 := hc9.cell 1
    have y2 := hc9.cell 2
    have B9 := ((B8.setCell (p := ⟨w.heap.size + 1, 0, none⟩) (Nat.le_succ _) (.bool false)).setCell (p := ⟨w.heap.size + 1, 1, none⟩) (Nat.le_succ _) (.slice (some ⟨gW, 0, none⟩) wn wn)).setCell (p := ⟨w.heap.size + 1, 2, none⟩) (Nat.le_succ _) (.slice (some ⟨gO, 0, none⟩) 3 3)
    have rW9 := ((hW8.far (k := 0) (v := .bool false) hnW).far (k := 1) (v := .slice (some ⟨gW, 0, none⟩) wn wn) hnW).far (k := 2) (v := .slice (some ⟨gO, 0, none⟩) 3 3) hnW
    have rO9 := ((hO8.far (k := 0) (v := .bool false) hnO).far (k := 1) (v := .slice (some ⟨gW, 0, none⟩) wn wn) hnO).far (k := 2) (v := .slice (some ⟨gO, 0, none⟩) 3 3) hnO
    clear hk8 hW8 hO8 hc8 hcS8
    go_wp2_with fail
    generalize (((w8.setCell ⟨w.heap.size + 1, 0, none⟩ (.bool false)).setCell ⟨w.heap.size + 1, 1, none⟩ (.slice (some ⟨gW, 0, none⟩) wn wn)).setCell ⟨w.heap.size + 1, 2, none⟩ (.slice (some ⟨gO, 0, none⟩) 3 3)) = w9 at *
    exact bodyPost_ret (v := .tuple #[.agg #[.bool false, .slice (some ⟨gW, 0, none⟩) wn wn, .slice (some ⟨gO, 0, none⟩) 3 3], .bool b1, .int .i64 0]) (by simp [results, Tryz.results24, go_sem, y0, y1, y2]) rfl ⟨false, _, wn, wn, _, 3, 3, by rw [unhide HE, walkO_eq (unhide HE), unhide HT], by rw [walkR_eq (unhide HE), unhide HT]; exact ⟨rfl, rW9.boolsF (unhide HLN).1.symm hn14, rO9.boolsF (unhide HLN).2.symm (by omega)⟩, Or.inr ⟨gW, 0, rfl, HGW.out⟩, Or.inr ⟨gO, 0, rfl, HGO.out⟩, B9⟩
theorem WalkOf_any (p : List NodeD) (a : Option Addr) (n c : Nat) (r : RestD) (f : Bool) (wa oa : Option Addr) (wn wc on oc : Nat) (x : Int) (w : World) (h : Nodes w a n p) (hr : RestAt w r f wa wn oa on) :
    Calls Tryz.prog 24 #[.slice a n c, .agg #[.bool f, .slice wa wn wc, .slice oa on oc], .int .i64 x] w fun e w' => WalkRet p r x w w' e :=
  (WalkOf_fresh p a n c r f wa oa wn wc on oc x w h hr).mono fun _ _ ⟨f, wa, wn, wc, oa, on, oc, he, hR, _, _, hb⟩ => ⟨f, wa, wn, wc, oa, on, oc, he, hR, hb⟩
end Go.Proofs.YtongajonecgdpagGreatDoor
