/- The walk of WalkTrue. -/
import Derived.Test.YtongajonecgdpafWalkL
import Derived.Test.YtongajonecgdpafProgW
namespace Go.Proofs.Ytongajonecgdpaf
open Go.RowKit

theorem any_all {ws : List Bool} (h : allF ws) : anyB ws = false := by
  unfold anyB
  rw [Bool.eq_false_iff]
  intro h1
  rw [List.any_eq_true] at h1
  obtain ⟨b, hb, hb1⟩ := h1
  obtain ⟨i, hi, he⟩ := List.getElem_of_mem hb
  have := h i
  rw [List.getD_eq_getElem?_getD, List.getElem?_eq_getElem hi] at this
  simp at this
  rw [he] at this
  rw [this] at hb1
  simp at hb1
theorem all_any {ws : List Bool} (h : anyB ws = false) : allF ws := by
  intro i
  rcases Nat.lt_or_ge i ws.length with hi | hi
  · rw [List.getD_eq_getElem?_getD, List.getElem?_eq_getElem hi]
    simp
    rw [Bool.eq_false_iff]
    intro h1
    rw [Bool.eq_false_iff] at h
    apply h
    unfold anyB
    rw [List.any_eq_true]
    exact ⟨ws[i], List.getElem_mem hi, h1⟩
  · rw [List.getD_eq_getElem?_getD, List.getElem?_eq_none hi]; rfl
theorem any_take (ws : List Bool) {k : Nat} (hk : k < ws.length) : anyB (ws.take (k + 1)) = (anyB (ws.take k) || ws[k]) := by
  unfold anyB; rw [List.take_succ_eq_append_getElem hk, List.any_append]; simp
theorem falses_at {w : World} {a : Option Addr} {n m : Nat} (h : Bools w a n (falsesL m)) : ∀ k, k < n → ∃ b off, a = some ⟨b, off, Option.none⟩ ∧ b < w.heap.size ∧ w.cell? ⟨b, off + k, Option.none⟩ = some (.bool false) := fun k hk => by
  have hk' : k < (falsesL m).length := by have := h.1; omega
  obtain ⟨b, off, h1, h2, h3⟩ := h.at hk'
  have h4 : (falsesL m)[k] = false := by simp [falsesL]
  rw [h4] at h3
  exact ⟨b, off, h1, h2, h3⟩
set_option maxRecDepth 100000 in
set_option maxHeartbeats 4000000 in
theorem WalkTrue_any (p : List NodeD) (a : Option Addr) (n c : Nat) (r : RestD) (f : Bool) (wa oa : Option Addr) (wn wc on oc : Nat) (x th : Int) (w : World) (h : Nodes w a n p) (hr : RestAt w r f wa wn oa on) (hnc : n ≤ c) (hwc : wn ≤ wc) (hth : (Lit.int .i64 th).wf = true) :
    Calls Try.prog 4 #[.slice a n c, .agg #[.bool f, .slice wa wn wc, .slice oa on oc], .int .i64 x, .int .i64 th] w fun e w' => e = .returned (.bool true) ∧ Below w.heap.size w w' := by
  have hb0 : Below w.heap.size w (w.alloc (.cells #[.bool f, .slice wa wn wc, .slice oa on oc] 25)) := (Below.refl _ _).alloc (Nat.le_refl _) _
  have rB0 := RBox.new w f wa wn wc oa on oc 25
  have hP := h.below hb0
  have hR := hr.below hb0
  have HN := hide h.1
  clear h hr
  go_enter Try.func4, Try.ntmps4
  have x0 := rB0.1
  have x1 := rB0.2.1
  have x2 := rB0.2.2.1
  have x3 := rB0.2.2.2
  go_wp2_with fail
  generalize w.alloc (.cells #[.bool f, .slice wa wn wc, .slice oa on oc] 25) = w1 at *
  refine (WStep_any p a n c r f wa oa wn wc on oc x _ hP hR hnc hwc).mono ?_
  rintro e w2 ⟨aF, awa, awn, awc, aoa, aon, aoc, he, hKA, hLA, hb2⟩
  obtain ⟨ev, hev⟩ : ∃ ev, walkE p r x = ev := ⟨_, rfl⟩
  obtain ⟨ov, hov⟩ : ∃ ov, walkO p r x = ov := ⟨_, rfl⟩
  obtain ⟨q, hq⟩ : ∃ q, walkR p r x = q := ⟨_, rfl⟩
  rw [hev, hov] at he
  have aR0 := hKA.now
  rw [hq] at aR0
  have HV := hide (And.intro hev (And.intro hov hq))
  subst he
  clear hev hov hq hKA
  have hb3 := (Below.refl _ w2).alloc (Nat.le_refl _) (.cells #[.bool aF, .slice awa awn awc, .slice aoa aon aoc] 25)
  have aB := RBox.new w2 aF awa awn awc aoa aon aoc 25
  have aR := aR0.below hb3
  have hP3 := (hP.below hb2).below hb3
  have B3 := bstep (bstep hb0 hb2) hb3
  clear hb0 hb2 hb3 aR0 hP hR rB0 x0 x1 x2 x3
  go_upto_region 2 with fail
  generalize w2.alloc (.cells #[.bool aF, .slice awa awn awc, .slice aoa aon aoc] 25) = w3 at *
  generalize w2.heap.size = ag at *
  by_cases e0 : ev = 0
  case neg =>
    have hne : (ev != 0) = true := by simp [e0]
    clear e0
    go_wp2_with fail
    refine (walkBegun_any _).mono ?_
    rintro e w4 ⟨rfl, hb4⟩
    have B4 := bstep B3 hb4
    go_wp2_with fail
    go_ret
    exact ⟨rfl, B4⟩
  subst e0
  have HE := hide (unhide HV).1
  have HQ := hide (unhide HV).2.2
  have HRE := hide (show restE p q = 0 by rw [← unhide HQ]; exact walk_rest (unhide HE))
  have HQF := hide (show q.fresh = false by rw [← unhide HQ, walkR_eq (unhide HE)])
  have haF : aF = false := aR.fresh.trans (unhide HQF)
  subst haF
  have HOV := hide (show ov = true → anyB q.waits = false from fun e => any_all (by rw [← unhide HQ]; exact walk_over (unhide HE) ((unhide HV).2.1.trans e)))
  have hwl : awn ≤ 14 := by
    have h1 := restE_ok (unhide HRE)
    have h2 := aR.waits.1
    have h3 := (pok_of h1.1).few
    have h4 := h1.2.1
    omega
  have HAW := hide aR.waits.1
  have x0 := aB.1
  have x1 := aB.2.1
  have x2 := aB.2.2.1
  have x3 := aB.2.2.2
  go_wp2_with fail
  refine (WCheck_any p a n c q false awa aoa awn awc aon aoc _ hP3 aR).mono ?_
  rintro e w4 ⟨rfl, hb4⟩
  rw [unhide HRE]
  have aB4 := aB.below hb4
  have aR4 := aR.below hb4
  have hP4 := hP3.below hb4
  have B4 := bstep B3 hb4
  clear x0 x1 x2 x3 hb4 aB aR hP3 B3
  have x0 := aB4.1
  have x1 := aB4.2.1
  have x2 := aB4.2.2.1
  have x3 := aB4.2.2.2
  go_wp2_with fail
  go_loopw [12, 13] (fun sv iv wr => ∃ k : Nat, k ≤ awn ∧ iv = .int .i64 k ∧ sv = .bool (anyB (q.waits.take k)) ∧ wr = w4) (fun _ iv _ => awn - (intOf iv).toNat)
  case atStart => exact ⟨0, Nat.zero_le _, rfl, rfl, by first | rfl | trivial⟩
  case round =>
    obtain ⟨k, hk, rfl, rfl, rfl⟩ := hrel
    by_cases hlt : k < awn
    · have hki : (k : Int) < (awn : Int) := by omega
      have hkw : k < q.waits.length := by have := unhide HAW; omega
      obtain ⟨bb, bo, rfl, hbb, c1⟩ := aR4.waits.at hkw
      have HT := hide (any_take q.waits hkw)
      generalize q.waits[k] = wk at *
      cases hs : anyB (q.waits.take k)
      · have R := hide (show anyB (q.waits.take (k + 1)) = wk by rw [unhide HT, hs]; rfl)
        clear hs
        go_wp2_with fail
        exact ⟨⟨k + 1, by omega, by go_num, by rw [unhide R], by first | rfl | trivial⟩, by simp [intOf]; omega⟩
      · have R := hide (show anyB (q.waits.take (k + 1)) = true by rw [unhide HT, hs]; rfl)
        clear hs
        go_wp2_with fail
        exact ⟨⟨k + 1, by omega, by go_num, by rw [unhide R], by first | rfl | trivial⟩, by simp [intOf]; omega⟩
    · have hkn : awn = k := by omega
      subst hkn
      rw [List.take_of_length_le (by have := unhide HAW; omega)]
      rename World => w4
      obtain ⟨sv, hsv⟩ : ∃ sv, anyB q.waits = sv := ⟨_, rfl⟩
      have HSV := hide hsv
      rw [hsv] at HOV ⊢
      clear hsv
      cases sv
      case true =>
        have hov : ov = false := by
          cases ov
          · rfl
          · exact absurd (unhide HOV rfl) (by simp)
        subst hov
        go_wp2_with fail
        refine (walkBegun_any _).mono ?_
        rintro e w5 ⟨rfl, hb5⟩
        have B5 := bstep B4 hb5
        go_wp2_with fail
        go_ret
        exact ⟨rfl, B5⟩
      case false =>
        have HAL := hide (all_any (unhide HSV))
        obtain ⟨y, hy⟩ : ∃ y : Int, ((chosen th 8 : Nat) : Int) = y := ⟨_, rfl⟩
        have hy7 : 0 ≤ y ∧ y ≤ 7 := by have := chosen_lt th 8 (by omega); omega
        have CH : ∀ W : World, Calls Try.prog 14 #[.int .i64 th, .int .i64 8] W fun e w' => e = .returned (.int .i64 y) ∧ w' = W := fun W => by
          have := choose_any th 8 W (by omega) (by omega) hth
          rwa [hy] at this
        obtain ⟨i1, i2, i3⟩ := walk_idle (unhide HRE) (unhide HQF) (unhide HAL) hy7
        have HI := hide (And.intro i1 (And.intro i2 i3))
        have hP5 := hP4
        have aR := aR4
        have aB := aB4
        clear i1 i2 i3 hy hP4 aR4 aB4
        cases ov
        all_goals
          go_upto_region 15 with fail
          rename World => w5
          have hb00 := Below.refl w5.heap.size w5
          have hbd := (Below.refl w5.heap.size w5).drew
          have hz0 := (Below.refl w5.heap.size w5).alloc (Nat.le_refl _) (.cells #[.bool false, .slice none 0 0, .slice none 0 0] 25)
          have hz1 := hz0.drew
          have hz2 := hbd.alloc (Nat.le_refl _) (.cells #[.bool false, .slice none 0 0, .slice none 0 0] 25)
          have cZ1 := (Cells.new w5 [.bool false, .slice none 0 0, .slice none 0 0] 25).onB (Below.refl _ _).drew
          have cZ2 : Cells (w5.drew.alloc (.cells #[.bool false, .slice none 0 0, .slice none 0 0] 25)) w5.heap.size [.bool false, .slice none 0 0, .slice none 0 0] 25 := Cells.new w5.drew [.bool false, .slice none 0 0, .slice none 0 0] 25
          have HS : ∀ W : World, Below w5.heap.size w5 W → Below w5.heap.size w5 W ∧ W.cell? ⟨ag, 0, none⟩ = some (.bool false) ∧ W.cell? ⟨ag, 1, none⟩ = some (.slice awa awn awc) ∧ W.cell? ⟨ag, 2, none⟩ = some (.slice aoa aon aoc) := fun W hW => ⟨hW, (aB.below hW).2⟩
          go_cut [14, 15, 16] (fun p' o' e' wx => ∃ g f wa wn wc oa on oc, p' = .pointer (some ⟨g, 0, none⟩) ∧ o' = .bool (walkO p q y) ∧ e' = .int .i64 (walkE p q y) ∧ RBox wx g f wa wn wc oa on oc ∧ RestAt wx (walkR p q y) f wa wn oa on ∧ Below w5.heap.size w5 wx)
          case first =>
              go_region_held3 (fun W => Below w5.heap.size w5 W ∧ W.cell? ⟨ag, 0, none⟩ = some (.bool false) ∧ W.cell? ⟨ag, 1, none⟩ = some (.slice awa awn awc) ∧ W.cell? ⟨ag, 2, none⟩ = some (.slice aoa aon aoc))
                ((first | with_reducible exact HS _ hb00 | with_reducible exact HS _ hbd | with_reducible exact HS _ hz0 | with_reducible exact HS _ hz1 | with_reducible exact HS _ hz2 | with_reducible exact HS _ hBS | with_reducible exact HS _ hBSz | with_reducible exact HS _ hS3a | with_reducible exact HS _ hSC))
                ((first
                  | (go_at_call 14
                     refine (CH _).mono ?_
                     rintro e w' ⟨rfl, rfl⟩)
                  | (go_at_call 9
                     (first
                       | (with_reducible refine (WStep_any p a n c q false awa aoa awn awc aon aoc y w5.drew (hP5.below hbd) (aR.below hbd) hnc hLA).mono ?_
                          rintro e wS ⟨f', wa', wn', wc', oa', on', oc', he, hKR, hL', bS⟩
                          have hBS := bstep hbd bS
                          skip)
                       | (with_reducible refine (WStep_any p a n c q false awa aoa awn awc aon aoc y _ (hP5.below hz1) (aR.below hz1) hnc hLA).mono ?_
                          rintro e wS ⟨f', wa', wn', wc', oa', on', oc', he, hKR, hL', bS⟩
                          have hBS := bstep hz1 bS
                          have cS := cZ1.onB bS; have k3 := kept3m (W := wS) (bm := w5.heap.size) (G := List.range (w5.alloc (.cells #[.bool false, .slice none 0 0, .slice none 0 0] 25)).drew.heap.size) (by rw [List.mem_range]; exact cZ1.lt) (.bool f') (.slice wa' wn' wc') (.slice oa' on' oc'))
                       | (with_reducible refine (WStep_any p a n c q false awa aoa awn awc aon aoc y _ (hP5.below hz2) (aR.below hz2) hnc hLA).mono ?_
                          rintro e wS ⟨f', wa', wn', wc', oa', on', oc', he, hKR, hL', bS⟩
                          have hBS := bstep hz2 bS
                          have cS := cZ2.onB bS; have k3 := kept3m (W := wS) (bm := w5.heap.size) (G := List.range (w5.drew.alloc (.cells #[.bool false, .slice none 0 0, .slice none 0 0] 25)).heap.size) (by rw [List.mem_range]; exact cZ2.lt) (.bool f') (.slice wa' wn' wc') (.slice oa' on' oc')))
                     subst he
                     have bSz := (Below.refl _ wS).alloc (Nat.le_refl _) (.cells #[.bool false, .slice none 0 0, .slice none 0 0] 25)
                     have hBSz := bstep hBS bSz
                     have bSC := (Below.refl _ wS).alloc (Nat.le_refl _) (.cells #[.bool f', .slice wa' wn' wc', .slice oa' on' oc'] 25)
                     have hSC := bstep hBS bSC
                     have cC := Cells.new wS [.bool f', .slice wa' wn' wc', .slice oa' on' oc'] 25
                     have hS3a := below3 hBS (Nat.le_refl w5.heap.size) (.bool f') (.slice wa' wn' wc') (.slice oa' on' oc')
                     (try have z0 := cS.cell 0)
                     (try have z1 := cS.cell 1)
                     (try have z2 := cS.cell 2)
                     (try have f0 := cS.frozen 0)
                     (try have f1 := cS.frozen 1)
                     (try have f2 := cS.frozen 2)
                     (try have zl := cS.lt)
                     generalize walkO p q y = ov at *
                     generalize walkE p q y = ev at *)))
              all_goals go_wp2_with fail
              all_goals go_meet
              all_goals
                first
                  | exact ⟨_, _, _, _, _, _, _, _, rfl, rfl, rfl, RBox.of cC, hKR.now.below bSC, hSC⟩
                  | exact ⟨_, _, _, _, _, _, _, _, rfl, rfl, rfl, RBox.of (cells3 cS _ _ _), hKR _ k3, hS3a⟩

          case rest =>
            obtain ⟨bg, bF, bwa, bwn, bwc, boa, bon, boc, rfl, rfl, rfl, bB, bR, hbw⟩ := hcut
            rename World => w6
            rw [(unhide HI).1, (unhide HI).2.2]
            rw [(unhide HI).2.1] at bR
            have hbF : bF = false := bR.fresh
            subst hbF
            have HW := hide (falses_at bR.waits)
            have HO := hide (falses_at bR.outs)
            have hwn : bwn ≤ 14 := by
              have h1 := bR.waits.1
              have h2 := (pok_of (restE_ok (unhide HRE)).1).few
              simp [falsesL] at h1
              omega
            have hon : bon ≤ 14 := by
              have h1 := bR.outs.1
              simp [falsesL] at h1
              omega
            have B6 := bstep B4 hbw
            have x0 := bB.1
            have x1 := bB.2.1
            have x2 := bB.2.2.1
            have x3 := bB.2.2.2
            clear hbw hb00 hbd hz0 hz1 hz2 cZ1 cZ2 HS CH bR bB
            go_wp2_with fail
            go_loopw [17] (fun iv wr => ∃ k : Nat, k ≤ bwn ∧ iv = .int .i64 k ∧ wr = w6) (fun iv _ => bwn - (intOf iv).toNat)
            case atStart => exact ⟨0, Nat.zero_le _, rfl, by first | rfl | trivial⟩
            case round =>
              obtain ⟨k, hk, rfl, rfl⟩ := hrel
              by_cases hlt : k < bwn
              · have hki : (k : Int) < (bwn : Int) := by omega
                obtain ⟨bb, bo, rfl, hbb, c1⟩ := (unhide HW) k hlt
                go_wp2_with fail
                exact ⟨⟨k + 1, by omega, by go_num, by first | rfl | trivial⟩, by simp [intOf]; omega⟩
              · have hnl : ¬ (k : Int) < (bwn : Int) := by omega
                rename World => w6

                go_wp2_with fail
                go_loopw [18] (fun iv wr => ∃ k : Nat, k ≤ bon ∧ iv = .int .i64 k ∧ wr = w6) (fun iv _ => bon - (intOf iv).toNat)
                case atStart => exact ⟨0, Nat.zero_le _, rfl, by first | rfl | trivial⟩
                case round =>
                  obtain ⟨k, hk, rfl, rfl⟩ := hrel
                  by_cases hlt : k < bon
                  · have hki : (k : Int) < (bon : Int) := by omega
                    obtain ⟨bb, bo, rfl, hbb, c1⟩ := (unhide HO) k hlt
                    go_wp2_with fail
                    exact ⟨⟨k + 1, by omega, by go_num, by first | rfl | trivial⟩, by simp [intOf]; omega⟩
                  · have hnl : ¬ (k : Int) < (bon : Int) := by omega
                    rename World => w6

                    go_wp2_with fail
                    refine (walkBegun_any _).mono ?_
                    rintro e w7 ⟨rfl, hb7⟩
                    have B7 := bstep B6 hb7
                    go_wp2_with fail
                    go_ret
                    exact ⟨rfl, B7⟩
end Go.Proofs.Ytongajonecgdpaf
