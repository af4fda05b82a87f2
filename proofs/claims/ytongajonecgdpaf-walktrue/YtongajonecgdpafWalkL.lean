/- What must be in any case of walks. -/
import Derived.Test.YtongajonecgdpafWalkI
namespace Go.Proofs.Ytongajonecgdpaf
open Go.RowKit

theorem below3 {B : Nat} {w W : World} (h : Below B w W) {sb : Nat} (hs : B ≤ sb) (v0 v1 v2 : Value) : Below B w (((W.setCell ⟨sb, 0, none⟩ v0).setCell ⟨sb, 1, none⟩ v1).setCell ⟨sb, 2, none⟩ v2) :=
  ((h.setCell (p := ⟨sb, 0, none⟩) hs v0).setCell (p := ⟨sb, 1, none⟩) hs v1).setCell (p := ⟨sb, 2, none⟩) hs v2
theorem cells3 {W : World} {sb : Nat} {T : TypeId} {u0 u1 u2 : Value} (h : Cells W sb [u0, u1, u2] T) (v0 v1 v2 : Value) : Cells (((W.setCell ⟨sb, 0, none⟩ v0).setCell ⟨sb, 1, none⟩ v1).setCell ⟨sb, 2, none⟩ v2) sb [v0, v1, v2] T :=
  ((h.set 0 v0).set 1 v1).set 2 v2
theorem RBox.of {w : World} {g : Nat} {f : Bool} {wa oa : Option Addr} {wn wc on oc : Nat} {T : TypeId} (h : Cells w g [.bool f, .slice wa wn wc, .slice oa on oc] T) : RBox w g f wa wn wc oa on oc := ⟨h.lt, h.cell 0, h.cell 1, h.cell 2⟩
def rest0 : RestD := ⟨true, falsesL 13, falsesL 3⟩
theorem begin_play : beginR playD = rest0 := by unfold beginR; rw [if_pos play_check]; rfl
def rest1 : RestD := walkR playD rest0 0
def rest2 : RestD := walkR playD rest1 1
def rest3 : RestD := walkR playD rest2 0
def rest4 : RestD := walkR playD rest3 7
theorem rest1_at : walkE playD rest0 0 = 0 ∧ walkO playD rest0 0 = false ∧ rest1.outs = [false, false, false] ∧ rest1.waits = [false, false, false, true, false, false, true, false, false, false, false, false, false] := by decide +kernel
theorem rest2_at : walkE playD rest1 1 = 0 ∧ walkO playD rest1 1 = false ∧ rest2.outs = [true, true, false] ∧ rest2.waits = [false, false, false, false, false, false, false, false, false, true, false, false, false] := by decide +kernel
theorem rest3_at : walkE playD rest2 0 = 0 ∧ walkO playD rest2 0 = true ∧ rest3.outs = [false, false, true] := by decide +kernel
theorem rest4_at : walkE playD rest3 7 = 0 ∧ walkO playD rest3 7 = false ∧ rest4.outs = [false, false, false] := by decide +kernel
theorem rest5_at : walkE playD rest3 8 = 3 := by decide +kernel
set_option maxRecDepth 100000 in
set_option maxHeartbeats 8000000 in
theorem walkBegun_any (w : World) : Calls Try.prog 11 #[] w fun e w' => e = .returned (.bool true) ∧ Below w.heap.size w w' := by
  go_enter Try.func11, Try.ntmps11
  go_wp2_with fail
  refine (play_any _).mono ?_
  rintro e w1 ⟨g1, rfl, hc1, hg1, b1⟩
  go_wp2_with fail
  refine (WBegin_any playD _ 13 13 _ (hc1.nodes play_len.symm (by omega))).mono ?_
  rintro e w2 ⟨iF, iwa, iwn, iwc, ioa, ion, ioc, he, iR, iL, b2⟩
  rw [play_check] at he
  rw [begin_play] at iR
  subst he
  have B2 := bstep b1 b2
  clear b1 b2 hc1 hg1
  have b3 := (Below.refl _ w2).alloc (Nat.le_refl _) (.cells #[.bool iF, .slice iwa iwn iwc, .slice ioa ion ioc] 25)
  have iB := RBox.new w2 iF iwa iwn iwc ioa ion ioc 25
  have iR := iR.below b3
  have BB := bstep B2 b3
  clear b3 B2
  go_upto_region 2 with fail
  generalize w2.alloc (.cells #[.bool iF, .slice iwa iwn iwc, .slice ioa ion ioc] 25) = w3 at *
  generalize w2.heap.size = ig at *
  have hb00 := Below.refl w3.heap.size w3
  have hbd := (Below.refl w3.heap.size w3).drew
  have hz0 := (Below.refl w3.heap.size w3).alloc (Nat.le_refl _) (.cells #[.bool false, .slice none 0 0, .slice none 0 0] 25)
  have hz1 := hz0.drew
  have cZ := (Cells.new w3 [.bool false, .slice none 0 0, .slice none 0 0] 25).onB (Below.refl _ _).drew
  have HS : ∀ W : World, Below w3.heap.size w3 W → Below w3.heap.size w3 W ∧ W.cell? ⟨ig, 0, none⟩ = some (.bool iF) ∧ W.cell? ⟨ig, 1, none⟩ = some (.slice iwa iwn iwc) ∧ W.cell? ⟨ig, 2, none⟩ = some (.slice ioa ion ioc) := fun W hW => ⟨hW, (iB.below hW).2⟩
  go_cut [3, 4, 5] (fun p' o' e' wx => ∃ g f wa wn wc oa on oc, p' = .pointer (some ⟨g, 0, none⟩) ∧ o' = .bool (walkO playD rest0 0) ∧ e' = .int .i64 (walkE playD rest0 0) ∧ RBox wx g f wa wn wc oa on oc ∧ RestAt wx (walkR playD rest0 0) f wa wn oa on ∧ wn ≤ wc ∧ Below w3.heap.size w3 wx)
  case first =>
    go_region_held3 (fun W => Below w3.heap.size w3 W ∧ W.cell? ⟨ig, 0, none⟩ = some (.bool iF) ∧ W.cell? ⟨ig, 1, none⟩ = some (.slice iwa iwn iwc) ∧ W.cell? ⟨ig, 2, none⟩ = some (.slice ioa ion ioc))
      ((first | with_reducible exact HS _ hb00 | with_reducible exact HS _ hbd | with_reducible exact HS _ hz0 | with_reducible exact HS _ hz1 | with_reducible exact HS _ hBP | with_reducible exact HS _ hBPz | with_reducible exact HS _ hBS | with_reducible exact HS _ hBSz | with_reducible exact HS _ hS3a | with_reducible exact HS _ hS3b | with_reducible exact HS _ hSC))
      ((first
        | (go_at_call 42
           refine (play_any _).mono ?_
           rintro e wP ⟨gP, rfl, hcP, hgP, bP⟩
           have hBP : Below w3.heap.size w3 wP := by first | with_reducible exact bstep hbd bP | with_reducible exact bstep hz1 bP
           have bPz := (Below.refl _ wP).alloc (Nat.le_refl _) (.cells #[.bool false, .slice none 0 0, .slice none 0 0] 25)
           have hBPz := bstep hBP bPz
           have nP := hcP.nodes (n := 13) play_len.symm (by omega)
           have nPz := nP.below bPz
           (try have cZP : Cells wP w3.heap.size [.bool false, .slice none 0 0, .slice none 0 0] 25 := by with_reducible exact cZ.onB bP)
           have cZn := Cells.new wP [.bool false, .slice none 0 0, .slice none 0 0] 25)
        | (go_at_call 9
           (first
             | (with_reducible refine (WStep_any playD _ 13 13 rest0 iF iwa ioa iwn iwc ion ioc 0 wP nP (iR.below hBP) (by omega) iL).mono ?_
                rintro e wS ⟨f', wa', wn', wc', oa', on', oc', he, hKR, hL', bS⟩
                have hBS := bstep hBP bS
                (try have cS := cZP.onB bS))
             | (with_reducible refine (WStep_any playD _ 13 13 rest0 iF iwa ioa iwn iwc ion ioc 0 _ nPz (iR.below hBPz) (by omega) iL).mono ?_
                rintro e wS ⟨f', wa', wn', wc', oa', on', oc', he, hKR, hL', bS⟩
                have hBS := bstep hBPz bS
                have cS := cZn.onB bS))
           subst he
           have bSz := (Below.refl _ wS).alloc (Nat.le_refl _) (.cells #[.bool false, .slice none 0 0, .slice none 0 0] 25)
           have hBSz := bstep hBS bSz
           have bSC := (Below.refl _ wS).alloc (Nat.le_refl _) (.cells #[.bool f', .slice wa' wn' wc', .slice oa' on' oc'] 25)
           have hSC := bstep hBS bSC
           have cC := Cells.new wS [.bool f', .slice wa' wn' wc', .slice oa' on' oc'] 25
           have hS3a := below3 hBS (Nat.le_refl w3.heap.size) (.bool f') (.slice wa' wn' wc') (.slice oa' on' oc')
           have hS3b := below3 hBS hBP.size (.bool f') (.slice wa' wn' wc') (.slice oa' on' oc')
           (try have z0 := cS.cell 0)
           (try have z1 := cS.cell 1)
           (try have z2 := cS.cell 2)
           (try have f0 := cS.frozen 0)
           (try have f1 := cS.frozen 1)
           (try have f2 := cS.frozen 2)
           (try have zl := cS.lt)
           have hPl : w3.heap.size < wP.heap.size + 1 := Nat.lt_succ_of_le hBP.size
           (try have k3 := kept3m (W := wS) (bm := w3.heap.size) (G := List.range wP.heap.size) (by rw [List.mem_range]; exact cZP.lt) (.bool f') (.slice wa' wn' wc') (.slice oa' on' oc'))
           have k4 := kept3m (W := wS) (bm := wP.heap.size) (G := List.range (wP.alloc (.cells #[.bool false, .slice none 0 0, .slice none 0 0] 25)).heap.size) (by rw [List.mem_range]; simp) (.bool f') (.slice wa' wn' wc') (.slice oa' on' oc')
           generalize walkO playD rest0 0 = ov at *
           generalize walkE playD rest0 0 = ev at *)))
    all_goals go_wp2_with fail
    all_goals go_meet
    all_goals
      first
        | exact ⟨_, _, _, _, _, _, _, _, rfl, rfl, rfl, RBox.of cC, hKR.now.below bSC, hL', hSC⟩
        | exact ⟨_, _, _, _, _, _, _, _, rfl, rfl, rfl, RBox.of (cells3 cS _ _ _), hKR _ k3, hL', hS3a⟩
        | exact ⟨_, _, _, _, _, _, _, _, rfl, rfl, rfl, RBox.of (cells3 cS _ _ _), hKR _ k4, hL', hS3b⟩
  case rest =>
    obtain ⟨ag, aF, awa, awn, awc, aoa, aon, aoc, rfl, rfl, rfl, aB, aR, aL, hbw⟩ := hcut
    rename World => w4
    have BB' := bstep BB hbw
    have iR := iR.below hbw
    have iB := iB.below hbw
    clear hbw hb00 hbd hz0 hz1 cZ HS BB
    have BB := BB'
    clear BB'
    rw [rest1_at.1, rest1_at.2.1]
    change RestAt _ rest1 _ _ _ _ _ at aR
    go_upto_region 3 with fail
    have hb00 := Below.refl w4.heap.size w4
    have hbd := (Below.refl w4.heap.size w4).drew
    have hz0 := (Below.refl w4.heap.size w4).alloc (Nat.le_refl _) (.cells #[.bool false, .slice none 0 0, .slice none 0 0] 25)
    have hz1 := hz0.drew
    have cZ := (Cells.new w4 [.bool false, .slice none 0 0, .slice none 0 0] 25).onB (Below.refl _ _).drew
    have HS : ∀ W : World, Below w4.heap.size w4 W → Below w4.heap.size w4 W ∧ W.cell? ⟨ag, 0, none⟩ = some (.bool aF) ∧ W.cell? ⟨ag, 1, none⟩ = some (.slice awa awn awc) ∧ W.cell? ⟨ag, 2, none⟩ = some (.slice aoa aon aoc) := fun W hW => ⟨hW, (aB.below hW).2⟩
    go_cut [6, 7, 8] (fun p' o' e' wx => ∃ g f wa wn wc oa on oc, p' = .pointer (some ⟨g, 0, none⟩) ∧ o' = .bool (walkO playD rest1 1) ∧ e' = .int .i64 (walkE playD rest1 1) ∧ RBox wx g f wa wn wc oa on oc ∧ RestAt wx (walkR playD rest1 1) f wa wn oa on ∧ wn ≤ wc ∧ Below w4.heap.size w4 wx)
    case first =>
      go_region_held3 (fun W => Below w4.heap.size w4 W ∧ W.cell? ⟨ag, 0, none⟩ = some (.bool aF) ∧ W.cell? ⟨ag, 1, none⟩ = some (.slice awa awn awc) ∧ W.cell? ⟨ag, 2, none⟩ = some (.slice aoa aon aoc))
        ((first | with_reducible exact HS _ hb00 | with_reducible exact HS _ hbd | with_reducible exact HS _ hz0 | with_reducible exact HS _ hz1 | with_reducible exact HS _ hBP | with_reducible exact HS _ hBPz | with_reducible exact HS _ hBS | with_reducible exact HS _ hBSz | with_reducible exact HS _ hS3a | with_reducible exact HS _ hS3b | with_reducible exact HS _ hSC))
        ((first
          | (go_at_call 42
             refine (play_any _).mono ?_
             rintro e wP ⟨gP, rfl, hcP, hgP, bP⟩
             have hBP : Below w4.heap.size w4 wP := by first | with_reducible exact bstep hbd bP | with_reducible exact bstep hz1 bP
             have bPz := (Below.refl _ wP).alloc (Nat.le_refl _) (.cells #[.bool false, .slice none 0 0, .slice none 0 0] 25)
             have hBPz := bstep hBP bPz
             have nP := hcP.nodes (n := 13) play_len.symm (by omega)
             have nPz := nP.below bPz
             (try have cZP : Cells wP w4.heap.size [.bool false, .slice none 0 0, .slice none 0 0] 25 := by with_reducible exact cZ.onB bP)
             have cZn := Cells.new wP [.bool false, .slice none 0 0, .slice none 0 0] 25)
          | (go_at_call 9
             (first
               | (with_reducible refine (WStep_any playD _ 13 13 rest1 aF awa aoa awn awc aon aoc 1 wP nP (aR.below hBP) (by omega) aL).mono ?_
                  rintro e wS ⟨f', wa', wn', wc', oa', on', oc', he, hKR, hL', bS⟩
                  have hBS := bstep hBP bS
                  (try have cS := cZP.onB bS))
               | (with_reducible refine (WStep_any playD _ 13 13 rest1 aF awa aoa awn awc aon aoc 1 _ nPz (aR.below hBPz) (by omega) aL).mono ?_
                  rintro e wS ⟨f', wa', wn', wc', oa', on', oc', he, hKR, hL', bS⟩
                  have hBS := bstep hBPz bS
                  have cS := cZn.onB bS))
             subst he
             have bSz := (Below.refl _ wS).alloc (Nat.le_refl _) (.cells #[.bool false, .slice none 0 0, .slice none 0 0] 25)
             have hBSz := bstep hBS bSz
             have bSC := (Below.refl _ wS).alloc (Nat.le_refl _) (.cells #[.bool f', .slice wa' wn' wc', .slice oa' on' oc'] 25)
             have hSC := bstep hBS bSC
             have cC := Cells.new wS [.bool f', .slice wa' wn' wc', .slice oa' on' oc'] 25
             have hS3a := below3 hBS (Nat.le_refl w4.heap.size) (.bool f') (.slice wa' wn' wc') (.slice oa' on' oc')
             have hS3b := below3 hBS hBP.size (.bool f') (.slice wa' wn' wc') (.slice oa' on' oc')
             (try have z0 := cS.cell 0)
             (try have z1 := cS.cell 1)
             (try have z2 := cS.cell 2)
             (try have f0 := cS.frozen 0)
             (try have f1 := cS.frozen 1)
             (try have f2 := cS.frozen 2)
             (try have zl := cS.lt)
             have hPl : w4.heap.size < wP.heap.size + 1 := Nat.lt_succ_of_le hBP.size
             (try have k3 := kept3m (W := wS) (bm := w4.heap.size) (G := List.range wP.heap.size) (by rw [List.mem_range]; exact cZP.lt) (.bool f') (.slice wa' wn' wc') (.slice oa' on' oc'))
             have k4 := kept3m (W := wS) (bm := wP.heap.size) (G := List.range (wP.alloc (.cells #[.bool false, .slice none 0 0, .slice none 0 0] 25)).heap.size) (by rw [List.mem_range]; simp) (.bool f') (.slice wa' wn' wc') (.slice oa' on' oc')
             generalize walkO playD rest1 1 = ov at *
             generalize walkE playD rest1 1 = ev at *)))
      all_goals go_wp2_with fail
      all_goals go_meet
      all_goals
        first
          | exact ⟨_, _, _, _, _, _, _, _, rfl, rfl, rfl, RBox.of cC, hKR.now.below bSC, hL', hSC⟩
          | exact ⟨_, _, _, _, _, _, _, _, rfl, rfl, rfl, RBox.of (cells3 cS _ _ _), hKR _ k3, hL', hS3a⟩
          | exact ⟨_, _, _, _, _, _, _, _, rfl, rfl, rfl, RBox.of (cells3 cS _ _ _), hKR _ k4, hL', hS3b⟩
    case rest =>
      obtain ⟨bg, bF, bwa, bwn, bwc, boa, bon, boc, rfl, rfl, rfl, bB, bR, bL, hbw⟩ := hcut
      rename World => w5
      have BB' := bstep BB hbw
      have iR := iR.below hbw
      have iB := iB.below hbw
      have aR := aR.below hbw
      have aB := aB.below hbw
      clear hbw hb00 hbd hz0 hz1 cZ HS BB
      have BB := BB'
      clear BB'
      rw [rest2_at.1, rest2_at.2.1]
      change RestAt _ rest2 _ _ _ _ _ at bR
      go_upto_region 4 with fail
      have hb00 := Below.refl w5.heap.size w5
      have hbd := (Below.refl w5.heap.size w5).drew
      have hz0 := (Below.refl w5.heap.size w5).alloc (Nat.le_refl _) (.cells #[.bool false, .slice none 0 0, .slice none 0 0] 25)
      have hz1 := hz0.drew
      have cZ := (Cells.new w5 [.bool false, .slice none 0 0, .slice none 0 0] 25).onB (Below.refl _ _).drew
      have HS : ∀ W : World, Below w5.heap.size w5 W → Below w5.heap.size w5 W ∧ W.cell? ⟨bg, 0, none⟩ = some (.bool bF) ∧ W.cell? ⟨bg, 1, none⟩ = some (.slice bwa bwn bwc) ∧ W.cell? ⟨bg, 2, none⟩ = some (.slice boa bon boc) := fun W hW => ⟨hW, (bB.below hW).2⟩
      go_cut [9, 10, 11] (fun p' o' e' wx => ∃ g f wa wn wc oa on oc, p' = .pointer (some ⟨g, 0, none⟩) ∧ o' = .bool (walkO playD rest2 0) ∧ e' = .int .i64 (walkE playD rest2 0) ∧ RBox wx g f wa wn wc oa on oc ∧ RestAt wx (walkR playD rest2 0) f wa wn oa on ∧ wn ≤ wc ∧ Below w5.heap.size w5 wx)
      case first =>
        go_region_held3 (fun W => Below w5.heap.size w5 W ∧ W.cell? ⟨bg, 0, none⟩ = some (.bool bF) ∧ W.cell? ⟨bg, 1, none⟩ = some (.slice bwa bwn bwc) ∧ W.cell? ⟨bg, 2, none⟩ = some (.slice boa bon boc))
          ((first | with_reducible exact HS _ hb00 | with_reducible exact HS _ hbd | with_reducible exact HS _ hz0 | with_reducible exact HS _ hz1 | with_reducible exact HS _ hBP | with_reducible exact HS _ hBPz | with_reducible exact HS _ hBS | with_reducible exact HS _ hBSz | with_reducible exact HS _ hS3a | with_reducible exact HS _ hS3b | with_reducible exact HS _ hSC))
          ((first
            | (go_at_call 42
               refine (play_any _).mono ?_
               rintro e wP ⟨gP, rfl, hcP, hgP, bP⟩
               have hBP : Below w5.heap.size w5 wP := by first | with_reducible exact bstep hbd bP | with_reducible exact bstep hz1 bP
               have bPz := (Below.refl _ wP).alloc (Nat.le_refl _) (.cells #[.bool false, .slice none 0 0, .slice none 0 0] 25)
               have hBPz := bstep hBP bPz
               have nP := hcP.nodes (n := 13) play_len.symm (by omega)
               have nPz := nP.below bPz
               (try have cZP : Cells wP w5.heap.size [.bool false, .slice none 0 0, .slice none 0 0] 25 := by with_reducible exact cZ.onB bP)
               have cZn := Cells.new wP [.bool false, .slice none 0 0, .slice none 0 0] 25)
            | (go_at_call 9
               (first
                 | (with_reducible refine (WStep_any playD _ 13 13 rest2 bF bwa boa bwn bwc bon boc 0 wP nP (bR.below hBP) (by omega) bL).mono ?_
                    rintro e wS ⟨f', wa', wn', wc', oa', on', oc', he, hKR, hL', bS⟩
                    have hBS := bstep hBP bS
                    (try have cS := cZP.onB bS))
                 | (with_reducible refine (WStep_any playD _ 13 13 rest2 bF bwa boa bwn bwc bon boc 0 _ nPz (bR.below hBPz) (by omega) bL).mono ?_
                    rintro e wS ⟨f', wa', wn', wc', oa', on', oc', he, hKR, hL', bS⟩
                    have hBS := bstep hBPz bS
                    have cS := cZn.onB bS))
               subst he
               have bSz := (Below.refl _ wS).alloc (Nat.le_refl _) (.cells #[.bool false, .slice none 0 0, .slice none 0 0] 25)
               have hBSz := bstep hBS bSz
               have bSC := (Below.refl _ wS).alloc (Nat.le_refl _) (.cells #[.bool f', .slice wa' wn' wc', .slice oa' on' oc'] 25)
               have hSC := bstep hBS bSC
               have cC := Cells.new wS [.bool f', .slice wa' wn' wc', .slice oa' on' oc'] 25
               have hS3a := below3 hBS (Nat.le_refl w5.heap.size) (.bool f') (.slice wa' wn' wc') (.slice oa' on' oc')
               have hS3b := below3 hBS hBP.size (.bool f') (.slice wa' wn' wc') (.slice oa' on' oc')
               (try have z0 := cS.cell 0)
               (try have z1 := cS.cell 1)
               (try have z2 := cS.cell 2)
               (try have f0 := cS.frozen 0)
               (try have f1 := cS.frozen 1)
               (try have f2 := cS.frozen 2)
               (try have zl := cS.lt)
               have hPl : w5.heap.size < wP.heap.size + 1 := Nat.lt_succ_of_le hBP.size
               (try have k3 := kept3m (W := wS) (bm := w5.heap.size) (G := List.range wP.heap.size) (by rw [List.mem_range]; exact cZP.lt) (.bool f') (.slice wa' wn' wc') (.slice oa' on' oc'))
               have k4 := kept3m (W := wS) (bm := wP.heap.size) (G := List.range (wP.alloc (.cells #[.bool false, .slice none 0 0, .slice none 0 0] 25)).heap.size) (by rw [List.mem_range]; simp) (.bool f') (.slice wa' wn' wc') (.slice oa' on' oc')
               generalize walkO playD rest2 0 = ov at *
               generalize walkE playD rest2 0 = ev at *)))
        all_goals go_wp2_with fail
        all_goals go_meet
        all_goals
          first
            | exact ⟨_, _, _, _, _, _, _, _, rfl, rfl, rfl, RBox.of cC, hKR.now.below bSC, hL', hSC⟩
            | exact ⟨_, _, _, _, _, _, _, _, rfl, rfl, rfl, RBox.of (cells3 cS _ _ _), hKR _ k3, hL', hS3a⟩
            | exact ⟨_, _, _, _, _, _, _, _, rfl, rfl, rfl, RBox.of (cells3 cS _ _ _), hKR _ k4, hL', hS3b⟩
      case rest =>
        obtain ⟨cg, cF, cwa, cwn, cwc, coa, con, coc, rfl, rfl, rfl, cB, cR, cL, hbw⟩ := hcut
        rename World => w6
        have BB' := bstep BB hbw
        have iR := iR.below hbw
        have iB := iB.below hbw
        have aR := aR.below hbw
        have aB := aB.below hbw
        have bR := bR.below hbw
        have bB := bB.below hbw
        clear hbw hb00 hbd hz0 hz1 cZ HS BB
        have BB := BB'
        clear BB'
        rw [rest3_at.1, rest3_at.2.1]
        change RestAt _ rest3 _ _ _ _ _ at cR
        go_upto_region 5 with fail
        have hb00 := Below.refl w6.heap.size w6
        have hbd := (Below.refl w6.heap.size w6).drew
        have hz0 := (Below.refl w6.heap.size w6).alloc (Nat.le_refl _) (.cells #[.bool false, .slice none 0 0, .slice none 0 0] 25)
        have hz1 := hz0.drew
        have cZ := (Cells.new w6 [.bool false, .slice none 0 0, .slice none 0 0] 25).onB (Below.refl _ _).drew
        have HS : ∀ W : World, Below w6.heap.size w6 W → Below w6.heap.size w6 W ∧ W.cell? ⟨cg, 0, none⟩ = some (.bool cF) ∧ W.cell? ⟨cg, 1, none⟩ = some (.slice cwa cwn cwc) ∧ W.cell? ⟨cg, 2, none⟩ = some (.slice coa con coc) := fun W hW => ⟨hW, (cB.below hW).2⟩
        go_cut [12, 13, 14] (fun p' o' e' wx => ∃ g f wa wn wc oa on oc, p' = .pointer (some ⟨g, 0, none⟩) ∧ o' = .bool (walkO playD rest3 7) ∧ e' = .int .i64 (walkE playD rest3 7) ∧ RBox wx g f wa wn wc oa on oc ∧ RestAt wx (walkR playD rest3 7) f wa wn oa on ∧ wn ≤ wc ∧ Below w6.heap.size w6 wx)
        case first =>
          go_region_held3 (fun W => Below w6.heap.size w6 W ∧ W.cell? ⟨cg, 0, none⟩ = some (.bool cF) ∧ W.cell? ⟨cg, 1, none⟩ = some (.slice cwa cwn cwc) ∧ W.cell? ⟨cg, 2, none⟩ = some (.slice coa con coc))
            ((first | with_reducible exact HS _ hb00 | with_reducible exact HS _ hbd | with_reducible exact HS _ hz0 | with_reducible exact HS _ hz1 | with_reducible exact HS _ hBP | with_reducible exact HS _ hBPz | with_reducible exact HS _ hBS | with_reducible exact HS _ hBSz | with_reducible exact HS _ hS3a | with_reducible exact HS _ hS3b | with_reducible exact HS _ hSC))
            ((first
              | (go_at_call 42
                 refine (play_any _).mono ?_
                 rintro e wP ⟨gP, rfl, hcP, hgP, bP⟩
                 have hBP : Below w6.heap.size w6 wP := by first | with_reducible exact bstep hbd bP | with_reducible exact bstep hz1 bP
                 have bPz := (Below.refl _ wP).alloc (Nat.le_refl _) (.cells #[.bool false, .slice none 0 0, .slice none 0 0] 25)
                 have hBPz := bstep hBP bPz
                 have nP := hcP.nodes (n := 13) play_len.symm (by omega)
                 have nPz := nP.below bPz
                 (try have cZP : Cells wP w6.heap.size [.bool false, .slice none 0 0, .slice none 0 0] 25 := by with_reducible exact cZ.onB bP)
                 have cZn := Cells.new wP [.bool false, .slice none 0 0, .slice none 0 0] 25)
              | (go_at_call 9
                 (first
                   | (with_reducible refine (WStep_any playD _ 13 13 rest3 cF cwa coa cwn cwc con coc 7 wP nP (cR.below hBP) (by omega) cL).mono ?_
                      rintro e wS ⟨f', wa', wn', wc', oa', on', oc', he, hKR, hL', bS⟩
                      have hBS := bstep hBP bS
                      (try have cS := cZP.onB bS))
                   | (with_reducible refine (WStep_any playD _ 13 13 rest3 cF cwa coa cwn cwc con coc 7 _ nPz (cR.below hBPz) (by omega) cL).mono ?_
                      rintro e wS ⟨f', wa', wn', wc', oa', on', oc', he, hKR, hL', bS⟩
                      have hBS := bstep hBPz bS
                      have cS := cZn.onB bS))
                 subst he
                 have bSz := (Below.refl _ wS).alloc (Nat.le_refl _) (.cells #[.bool false, .slice none 0 0, .slice none 0 0] 25)
                 have hBSz := bstep hBS bSz
                 have bSC := (Below.refl _ wS).alloc (Nat.le_refl _) (.cells #[.bool f', .slice wa' wn' wc', .slice oa' on' oc'] 25)
                 have hSC := bstep hBS bSC
                 have cC := Cells.new wS [.bool f', .slice wa' wn' wc', .slice oa' on' oc'] 25
                 have hS3a := below3 hBS (Nat.le_refl w6.heap.size) (.bool f') (.slice wa' wn' wc') (.slice oa' on' oc')
                 have hS3b := below3 hBS hBP.size (.bool f') (.slice wa' wn' wc') (.slice oa' on' oc')
                 (try have z0 := cS.cell 0)
                 (try have z1 := cS.cell 1)
                 (try have z2 := cS.cell 2)
                 (try have f0 := cS.frozen 0)
                 (try have f1 := cS.frozen 1)
                 (try have f2 := cS.frozen 2)
                 (try have zl := cS.lt)
                 have hPl : w6.heap.size < wP.heap.size + 1 := Nat.lt_succ_of_le hBP.size
                 (try have k3 := kept3m (W := wS) (bm := w6.heap.size) (G := List.range wP.heap.size) (by rw [List.mem_range]; exact cZP.lt) (.bool f') (.slice wa' wn' wc') (.slice oa' on' oc'))
                 have k4 := kept3m (W := wS) (bm := wP.heap.size) (G := List.range (wP.alloc (.cells #[.bool false, .slice none 0 0, .slice none 0 0] 25)).heap.size) (by rw [List.mem_range]; simp) (.bool f') (.slice wa' wn' wc') (.slice oa' on' oc')
                 generalize walkO playD rest3 7 = ov at *
                 generalize walkE playD rest3 7 = ev at *)))
          all_goals go_wp2_with fail
          all_goals go_meet
          all_goals
            first
              | exact ⟨_, _, _, _, _, _, _, _, rfl, rfl, rfl, RBox.of cC, hKR.now.below bSC, hL', hSC⟩
              | exact ⟨_, _, _, _, _, _, _, _, rfl, rfl, rfl, RBox.of (cells3 cS _ _ _), hKR _ k3, hL', hS3a⟩
              | exact ⟨_, _, _, _, _, _, _, _, rfl, rfl, rfl, RBox.of (cells3 cS _ _ _), hKR _ k4, hL', hS3b⟩
        case rest =>
          obtain ⟨dg, dF, dwa, dwn, dwc, doa, don, doc, rfl, rfl, rfl, dB, dR, dL, hbw⟩ := hcut
          rename World => w7
          have BB' := bstep BB hbw
          have iR := iR.below hbw
          have iB := iB.below hbw
          have aR := aR.below hbw
          have aB := aB.below hbw
          have bR := bR.below hbw
          have bB := bB.below hbw
          have cR := cR.below hbw
          have cB := cB.below hbw
          clear hbw hb00 hbd hz0 hz1 cZ HS BB
          have BB := BB'
          clear BB'
          rw [rest4_at.1, rest4_at.2.1]
          change RestAt _ rest4 _ _ _ _ _ at dR
          go_upto_region 6 with fail
          have hb00 := Below.refl w7.heap.size w7
          have hbd := (Below.refl w7.heap.size w7).drew
          have hz0 := (Below.refl w7.heap.size w7).alloc (Nat.le_refl _) (.cells #[.bool false, .slice none 0 0, .slice none 0 0] 25)
          have hz1 := hz0.drew
          have cZ := (Cells.new w7 [.bool false, .slice none 0 0, .slice none 0 0] 25).onB (Below.refl _ _).drew
          have HS : ∀ W : World, Below w7.heap.size w7 W → Below w7.heap.size w7 W ∧ W.cell? ⟨cg, 0, none⟩ = some (.bool cF) ∧ W.cell? ⟨cg, 1, none⟩ = some (.slice cwa cwn cwc) ∧ W.cell? ⟨cg, 2, none⟩ = some (.slice coa con coc) := fun W hW => ⟨hW, (cB.below hW).2⟩
          go_cut [15, 16, 17] (fun p' o' e' wx => ∃ g f wa wn wc oa on oc, p' = .pointer (some ⟨g, 0, none⟩) ∧ o' = .bool (walkO playD rest3 8) ∧ e' = .int .i64 (walkE playD rest3 8) ∧ RBox wx g f wa wn wc oa on oc ∧ RestAt wx (walkR playD rest3 8) f wa wn oa on ∧ wn ≤ wc ∧ Below w7.heap.size w7 wx)
          case first =>
            go_region_held3 (fun W => Below w7.heap.size w7 W ∧ W.cell? ⟨cg, 0, none⟩ = some (.bool cF) ∧ W.cell? ⟨cg, 1, none⟩ = some (.slice cwa cwn cwc) ∧ W.cell? ⟨cg, 2, none⟩ = some (.slice coa con coc))
              ((first | with_reducible exact HS _ hb00 | with_reducible exact HS _ hbd | with_reducible exact HS _ hz0 | with_reducible exact HS _ hz1 | with_reducible exact HS _ hBP | with_reducible exact HS _ hBPz | with_reducible exact HS _ hBS | with_reducible exact HS _ hBSz | with_reducible exact HS _ hS3a | with_reducible exact HS _ hS3b | with_reducible exact HS _ hSC))
              ((first
                | (go_at_call 42
                   refine (play_any _).mono ?_
                   rintro e wP ⟨gP, rfl, hcP, hgP, bP⟩
                   have hBP : Below w7.heap.size w7 wP := by first | with_reducible exact bstep hbd bP | with_reducible exact bstep hz1 bP
                   have bPz := (Below.refl _ wP).alloc (Nat.le_refl _) (.cells #[.bool false, .slice none 0 0, .slice none 0 0] 25)
                   have hBPz := bstep hBP bPz
                   have nP := hcP.nodes (n := 13) play_len.symm (by omega)
                   have nPz := nP.below bPz
                   (try have cZP : Cells wP w7.heap.size [.bool false, .slice none 0 0, .slice none 0 0] 25 := by with_reducible exact cZ.onB bP)
                   have cZn := Cells.new wP [.bool false, .slice none 0 0, .slice none 0 0] 25)
                | (go_at_call 9
                   (first
                     | (with_reducible refine (WStep_any playD _ 13 13 rest3 cF cwa coa cwn cwc con coc 8 wP nP (cR.below hBP) (by omega) cL).mono ?_
                        rintro e wS ⟨f', wa', wn', wc', oa', on', oc', he, hKR, hL', bS⟩
                        have hBS := bstep hBP bS
                        (try have cS := cZP.onB bS))
                     | (with_reducible refine (WStep_any playD _ 13 13 rest3 cF cwa coa cwn cwc con coc 8 _ nPz (cR.below hBPz) (by omega) cL).mono ?_
                        rintro e wS ⟨f', wa', wn', wc', oa', on', oc', he, hKR, hL', bS⟩
                        have hBS := bstep hBPz bS
                        have cS := cZn.onB bS))
                   subst he
                   have bSz := (Below.refl _ wS).alloc (Nat.le_refl _) (.cells #[.bool false, .slice none 0 0, .slice none 0 0] 25)
                   have hBSz := bstep hBS bSz
                   have bSC := (Below.refl _ wS).alloc (Nat.le_refl _) (.cells #[.bool f', .slice wa' wn' wc', .slice oa' on' oc'] 25)
                   have hSC := bstep hBS bSC
                   have cC := Cells.new wS [.bool f', .slice wa' wn' wc', .slice oa' on' oc'] 25
                   have hS3a := below3 hBS (Nat.le_refl w7.heap.size) (.bool f') (.slice wa' wn' wc') (.slice oa' on' oc')
                   have hS3b := below3 hBS hBP.size (.bool f') (.slice wa' wn' wc') (.slice oa' on' oc')
                   (try have z0 := cS.cell 0)
                   (try have z1 := cS.cell 1)
                   (try have z2 := cS.cell 2)
                   (try have f0 := cS.frozen 0)
                   (try have f1 := cS.frozen 1)
                   (try have f2 := cS.frozen 2)
                   (try have zl := cS.lt)
                   have hPl : w7.heap.size < wP.heap.size + 1 := Nat.lt_succ_of_le hBP.size
                   (try have k3 := kept3m (W := wS) (bm := w7.heap.size) (G := List.range wP.heap.size) (by rw [List.mem_range]; exact cZP.lt) (.bool f') (.slice wa' wn' wc') (.slice oa' on' oc'))
                   have k4 := kept3m (W := wS) (bm := wP.heap.size) (G := List.range (wP.alloc (.cells #[.bool false, .slice none 0 0, .slice none 0 0] 25)).heap.size) (by rw [List.mem_range]; simp) (.bool f') (.slice wa' wn' wc') (.slice oa' on' oc')
                   generalize walkO playD rest3 8 = ov at *
                   generalize walkE playD rest3 8 = ev at *)))
            all_goals go_wp2_with fail
            all_goals go_meet
            all_goals
              first
                | exact ⟨_, _, _, _, _, _, _, _, rfl, rfl, rfl, RBox.of cC, hKR.now.below bSC, hL', hSC⟩
                | exact ⟨_, _, _, _, _, _, _, _, rfl, rfl, rfl, RBox.of (cells3 cS _ _ _), hKR _ k3, hL', hS3a⟩
                | exact ⟨_, _, _, _, _, _, _, _, rfl, rfl, rfl, RBox.of (cells3 cS _ _ _), hKR _ k4, hL', hS3b⟩
          case rest =>
            obtain ⟨jg, jF, jwa, jwn, jwc, joa, jon, joc, rfl, rfl, rfl, jB, jR, jL, hbw⟩ := hcut
            rename World => w8
            have BB' := bstep BB hbw
            have iR := iR.below hbw
            have iB := iB.below hbw
            have aR := aR.below hbw
            have aB := aB.below hbw
            have bR := bR.below hbw
            have bB := bB.below hbw
            have cR := cR.below hbw
            have cB := cB.below hbw
            have dR := dR.below hbw
            have dB := dB.below hbw
            clear hbw hb00 hbd hz0 hz1 cZ HS BB
            have BB := BB'
            clear BB'
            rw [rest5_at]
            obtain ⟨jo, hjo⟩ : ∃ jo, walkO playD rest3 8 = jo := ⟨_, rfl⟩
            rw [hjo]
            clear hjo
            have hiF : iF = true := iR.fresh
            subst hiF
            have hao : aon = 3 := by rw [aR.outs.1, rest1_at.2.2.1]; rfl
            have hbo : bon = 3 := by rw [bR.outs.1, rest2_at.2.2.1]; rfl
            have hco : con = 3 := by rw [cR.outs.1, rest3_at.2.2]; rfl
            have hdo : don = 3 := by rw [dR.outs.1, rest4_at.2.2]; rfl
            have haw : awn = 13 := by rw [aR.waits.1, rest1_at.2.2.2]; rfl
            have hbw9 : bwn = 13 := by rw [bR.waits.1, rest2_at.2.2.2]; rfl
            subst hao
            subst hbo
            subst hco
            subst hdo
            subst haw
            subst hbw9
            clear jB jR jL
            have x0 := iB.1
            have x1 := iB.2.1
            have x2 := iB.2.2.1
            have x3 := iB.2.2.2
            have hbw := (Below.refl _ w8).alloc (Nat.le_refl _) (.cells #[.bool true, .slice none 0 0, .slice ioa ion ioc] 25)
            have kB := RBox.new w8 true none 0 0 ioa ion ioc 25
            have kR : RestAt w8 ⟨true, [], falsesL 3⟩ true none 0 ioa ion := ⟨rfl, ⟨rfl, Nat.zero_le _, Or.inl rfl⟩, iR.outs⟩
            have kR := kR.below hbw
            have BB := bstep BB hbw
            have aR := aR.below hbw
            have aB := aB.below hbw
            have bR := bR.below hbw
            have bB := bB.below hbw
            have cR := cR.below hbw
            have cB := cB.below hbw
            have dR := dR.below hbw
            have dB := dB.below hbw
            clear hbw iB iR
            go_upto_region 9 with fail
            generalize w8.alloc (.cells #[.bool true, .slice none 0 0, .slice ioa ion ioc] 25) = w9 at *
            generalize w8.heap.size = kg at *
            obtain ⟨ab, ao, rfl, hab, a3⟩ := aR.waits.at (k := 3) (by rw [rest1_at.2.2.2]; decide)
            obtain ⟨ab', ao', ea, _, a6⟩ := aR.waits.at (k := 6) (by rw [rest1_at.2.2.2]; decide)
            injection ea with ea
            injection ea with ea1 ea2
            subst ea1
            subst ea2
            obtain ⟨bb, bo, rfl, hbb, b9⟩ := bR.waits.at (k := 9) (by rw [rest2_at.2.2.2]; decide)
            simp only [rest1_at.2.2.2, rest2_at.2.2.2] at a3 a6 b9
            have a3 : w9.cell? ⟨ab, ao + 3, none⟩ = some (.bool true) := a3
            have a6 : w9.cell? ⟨ab, ao + 6, none⟩ = some (.bool true) := a6
            have b9 : w9.cell? ⟨bb, bo + 9, none⟩ = some (.bool true) := b9
            have HS : ∀ W : World, Below w9.heap.size w9 W → Below w9.heap.size w9 W ∧ W.cell? ⟨kg, 0, none⟩ = some (.bool true) ∧ W.cell? ⟨kg, 1, none⟩ = some (.slice none 0 0) ∧ W.cell? ⟨kg, 2, none⟩ = some (.slice ioa ion ioc) ∧ W.cell? ⟨ag, 1, none⟩ = some (.slice (some ⟨ab, ao, none⟩) 13 awc) ∧ W.cell? ⟨ag, 2, none⟩ = some (.slice aoa 3 aoc) ∧ W.cell? ⟨bg, 1, none⟩ = some (.slice (some ⟨bb, bo, none⟩) 13 bwc) ∧ W.cell? ⟨bg, 2, none⟩ = some (.slice boa 3 boc) ∧ W.cell? ⟨cg, 2, none⟩ = some (.slice coa 3 coc) ∧ W.cell? ⟨dg, 2, none⟩ = some (.slice doa 3 doc) ∧ W.cell? ⟨ab, ao + 3, none⟩ = some (.bool true) ∧ W.cell? ⟨ab, ao + 6, none⟩ = some (.bool true) ∧ W.cell? ⟨bb, bo + 9, none⟩ = some (.bool true) := fun W hW => ⟨hW, (kB.below hW).2.1, (kB.below hW).2.2.1, (kB.below hW).2.2.2, (aB.below hW).2.2.1, (aB.below hW).2.2.2, (bB.below hW).2.2.1, (bB.below hW).2.2.2, (cB.below hW).2.2.2, (dB.below hW).2.2.2, (hW.cell (p := ⟨ab, ao + 3, none⟩) hab).trans a3, (hW.cell (p := ⟨ab, ao + 6, none⟩) hab).trans a6, (hW.cell (p := ⟨bb, bo + 9, none⟩) hbb).trans b9⟩
            have HS9 : ∀ W : World, Below w9.heap.size w9 W → S9 w9 kg ag bg cg dg ioa ion ioc ab ao awc aoa aoc bb bo bwc boa boc coa coc doa doc W := HS
            have aO := aR.outs
            rw [rest1_at.2.2.1] at aO
            have bO := bR.outs
            rw [rest2_at.2.2.1] at bO
            have cO := cR.outs
            rw [rest3_at.2.2] at cO
            have dO := dR.outs
            rw [rest4_at.2.2] at dO
            refine region9 (fun _ _ d _ _ h => by cases d <;> exact h) HS9 aO bO cO dO kR ?_
            intro x84 t0 l0 t1 l1 t2 l2 t3 l3 W hW
            go_wp2_with fail
            go_ret
            exact ⟨rfl, bstep BB hW⟩
end Go.Proofs.Ytongajonecgdpaf
