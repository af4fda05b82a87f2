/- The program's reach.States. -/
import Derived.Test.YtongajonecgdpacReachS
namespace Go.Proofs.Ytongajonecgdpac
open Go.RowKit Go.Maps

set_option maxRecDepth 100000 in
set_option maxHeartbeats 4000000 in
theorem States_any (d : NetD) (ins0 : Int) (ga ra oa : Option Addr) (gn gc rn rc on oc : Nat) (w : World) (h : NetAt w d ins0 ga gn ra rn oa on) :
    Calls Try.prog 14 #[.agg #[.int .i64 ins0, .slice ga gn gc, .slice ra rn rc, .slice oa on oc]] w fun e w' => ∃ a n c, e = .returned (.tuple #[.slice a n c, .int .i64 (statesE d)]) ∧ Rows w' a n (statesL d) ∧ Below w.heap.size w w' := by
  have hb0 : Below w.heap.size w (w.alloc (.cells #[.int .i64 ins0, .slice ga gn gc, .slice ra rn rc, .slice oa on oc] 26)) := (Below.refl _ _).alloc (Nat.le_refl _) _
  have hN := h.below hb0
  clear h
  obtain ⟨i0, hi, hz0, hz1, hz2⟩ := info_parts Try.infoSl
  go_enter Try.func14, Try.ntmps14
  go_wp2_with fail
  refine (walk_any d _ _ _ _ _ _ _ _ _ _ _ hN).mono ?_
  rintro e w1 ⟨hWa, hb⟩
  have B1 := bstep hb0 hb
  clear hb hb0 hN
  rcases hWa with ⟨hne, rfl⟩ | ⟨hck, B, b, m, k, rl, pv, a, n, c, rfl, hW, hI, hnc⟩
  · have HE := hide (show statesE d = checkE d by unfold statesE; rw [if_neg hne])
    have HL := hide (show statesL d = [] by unfold statesL; rw [if_neg (by rw [unhide HE]; exact hne)])
    obtain ⟨ee, hee⟩ : ∃ ee, checkE d = ee := ⟨_, rfl⟩
    rw [hee] at hne
    have HEE := hide hee
    rw [hee]
    have hq : (ee != 0) = true := by simp only [bne_iff_ne, ne_eq]; exact hne
    clear hne hee
    go_wp2_with fail
    go_ret2
    exact ⟨none, 0, 0, ret_sl (by rw [unhide HE, unhide HEE]), by rw [unhide HL]; exact Rows.nil0 _, B1⟩
  · have HS := hide (show statesE d = (reachAll d).err by unfold statesE; rw [if_pos hck])
    by_cases e0 : (reachAll d).err = 0
    · have HE := hide (show statesE d = 0 by rw [unhide HS]; exact e0)
      have HL := hide (show statesL d = (reachAll d).sts by unfold statesL; rw [if_pos (unhide HE)])
      have hl64 : (reachAll d).sts.length ≤ 64 := reachTo_len d 64
      obtain ⟨sts, hsts⟩ : ∃ sts, (reachAll d).sts = sts := ⟨_, rfl⟩
      obtain ⟨wys, hwys⟩ : ∃ wys, (reachAll d).ws = wys := ⟨_, rfl⟩
      rw [hsts, hwys] at hW
      rw [hsts] at HL hl64
      rw [e0]
      clear hI e0 hck hsts hwys HS
      obtain ⟨hbl, c0, c1, c2, c3, c4, c5⟩ := hW.cell
      obtain ⟨pa, pc, rfl⟩ := hW.slice
      have HW := hide hW
      clear hW
      obtain ⟨N, hNe⟩ : ∃ N, sts.length = N := ⟨_, rfl⟩
      have HN := hide hNe
      rw [hNe] at hl64 c4
      clear hNe
      go_wp2_with (at_make; refine wpList_make_full _ rfl _ _ 27 rfl w1.heap.size 24 i0 (.slice none 0 0) 1 Try.underlying27 hi hz0 hz1 .i64 .i64 (N : Int) (N : Int) N rfl rfl rfl rfl ?c1 ?c2 ?c3 ?_)
      case c1 => rw [hz2]; omega
      case c2 => unfold maxLen; omega
      case c3 => exact Nat.le_refl _
      intro w3 hown hgrow
      have hb3 : Below w1.heap.size w1 w3 := (Below.refl _ _).grown hgrow (Nat.le_refl _) (fun k hk => by simp at hk)
      have hrow0 := made_slrow hown
      have d4 := (hb3.cell (p := ⟨b, 4, none⟩) hbl).trans c4
      clear hown hgrow hi hz0 hz1 hz2 c0 c1 c2 c3 c4 c5
      go_wp2_with fail
      clear d4
      go_loopw [30] (fun i' wr => ∃ (k : Nat) (vs : List Value), k ≤ N ∧ i' = .int .i64 k ∧ vs.length = N ∧ SlRow wr w1.heap.size vs ∧ RowsOff wr (some w1.heap.size) (vs.take k) (sts.take k) ∧ Below w1.heap.size w1 wr) (fun i' _ => N - (intOf i').toNat)
      case atStart => exact ⟨0, _, Nat.zero_le _, rfl, by simp, hrow0, by rw [List.take_zero, List.take_zero]; exact RowsOff.nil _ _, hb3⟩
      case round =>
        clear hrow0 hb3
        obtain ⟨j, vs, hj, rfl, hvl, hrow, hRO, hbel⟩ := hrel
        by_cases hlt : j < N
        · have hjs : j < sts.length := by have := unhide HN; omega
          have hji : (j : Int) < (N : Int) := by omega
          obtain ⟨g, pc', sa, sn, sc, ya, yn, yc, hpe, hgl, cs, cy, oS, oY, _⟩ := (unhide HW).at hjs
          have hpa : pa = some ⟨g, 0, none⟩ := by injection hpe
          subst hpa
          have cs1 := (hbel.cell (p := ⟨g, j * 2, none⟩) hgl).trans cs
          have cy1 := (hbel.cell (p := ⟨g, j * 2 + 1, none⟩) hgl).trans cy
          have hgl1 := Nat.lt_of_lt_of_le hgl hbel.size
          have hjv : j < vs.length := by omega
          have hcell := hrow.cell j
          rw [List.getElem?_eq_getElem hjv] at hcell
          have hfr := hrow.frozen j
          have hrl := hrow.lt
          have oS1 := IntsOff.early (g := w1.heap.size) oS.1 hbel (Nat.le_refl _) (Nat.le_refl _)
          have hget : sts.getD j [] = sts[j] := by simp [List.getD_eq_getElem?_getD, hjs]
          rw [hget] at oS1
          have R1 := hrow.set j (.slice sa sn sc)
          have R2 := (RowsOff.snoc (c := sc) hRO oS1).stored j (.slice sa sn sc)
          rw [← take_set_succ vs j (.slice sa sn sc) hjv, ← List.take_succ_eq_append_getElem hjs] at R2
          have R3 : Below w1.heap.size w1 (wr.setCell ⟨w1.heap.size, j, none⟩ (.slice sa sn sc)) := hbel.setCell (Nat.le_refl _) _
          have al := (Below.refl _ (wr.setCell ⟨w1.heap.size, j, none⟩ (.slice sa sn sc))).alloc (Nat.le_refl _) (.cells #[.slice sa sn sc, .slice ya yn yc] 68)
          have R := hide (And.intro (R1.below al R1.lt) (And.intro (R2.below al) (bstep R3 al)))
          have HVL := hide hvl
          clear hrow hRO oS oY oS1 R1 R2 R3 al hget cs cy hpe hvl
          go_wp2_with fail
          exact ⟨⟨j + 1, _, by omega, by go_num, by rw [List.length_set]; exact unhide HVL, (unhide R).1, (unhide R).2.1, (unhide R).2.2⟩, by simp [intOf]; omega⟩
        · have hje : j = N := by omega
          have hRW := hrow.rows (n := N) (xss := sts) (by
            rw [List.take_of_length_le (by omega), List.take_of_length_le (by have := unhide HN; omega)] at hRO; exact hRO) (unhide HN).symm (by unfold maxLen; omega)
          clear hrow hRO hvl hje
          go_wp2_with fail
          go_ret2
          exact ⟨_, _, _, ret_sl (unhide HE).symm, by rw [unhide HL]; exact hRW, bstep B1 hbel⟩
    · have HE := hide (show statesE d = (reachAll d).err from unhide HS)
      have HL := hide (show statesL d = [] by unfold statesL; rw [if_neg (by rw [unhide HS]; exact e0)])
      obtain ⟨ee, hee⟩ : ∃ ee, (reachAll d).err = ee := ⟨_, rfl⟩
      rw [hee] at e0
      have HEE := hide hee
      rw [hee]
      have hq : (ee != 0) = true := by simp only [bne_iff_ne, ne_eq]; exact e0
      clear hW hI e0 hck hee
      go_wp2_with fail
      go_ret2
      exact ⟨none, 0, 0, ret_sl (by rw [unhide HE, unhide HEE]), by rw [unhide HL]; exact Rows.nil0 _, B1⟩
end Go.Proofs.Ytongajonecgdpac
