/- The desk, the program's player: waiting, tick. -/
import Derived.Test.YtccokpnmdfalpaaGreatDoorDeskQ
import Derived.Test.YtccokpnmdfalpaaGreatDoorDeskB
namespace Go.Proofs.YtccokpnmdfalpaaGreatDoor
open Go.RowKit

set_option maxRecDepth 100000 in
set_option maxHeartbeats 2000000 in
theorem waiting_any (b : Nat) (p : List NodeD) (r : RestD) (w : World) (h : PlK w b p r) (hr : restE p r = 0) :
    Calls Tryz.prog 41 #[.pointer (some ⟨b, 0, none⟩)] w fun e w' => e = .returned (.string ⟨(joinW (waitTo r.waits p.length)).toArray⟩) ∧ Below w.heap.size w w' := by
  obtain ⟨na, nn, nc, f, wa, wn, wc, oa, on, oc, h1, _, _, h4, h5⟩ := h
  have x2 := h1.cell 2
  have hW := h4.now.waits
  have hwl : r.waits.length = p.length := (restE_len hr).2.1
  have hp14 : p.length ≤ 14 := (pok_of (restE_len hr).1).few
  have HWN := hide (show wn = p.length by rw [hW.1, hwl])
  have hwn14 : wn ≤ 14 := by rw [unhide HWN]; exact hp14
  rw [← unhide HWN]
  have hwl2 : r.waits.length = wn := hW.1.symm
  have HWL := hide hwl2
  clear h1 h4 hwl hp14 hr hwl2
  obtain ⟨i0, hi0, hz0, hz1, hz2⟩ := info_parts Tryz.infoStr
  go_enter Tryz.func41, Tryz.ntmps41
  go_wp2_with fail
  go_loopw [3, 12] (fun v kv X => ∃ k : Nat, k ≤ wn ∧ kv = .int .i64 k ∧ X.ownsRow w.heap.size 9 1 v (waitTo r.waits k).length (strV (waitTo r.waits k)) ∧ Below w.heap.size w X) (fun _ kv _ => wn - (intOf kv).toNat)
  case atStart => exact ⟨0, Nat.zero_le _, rfl, World.ownsRow_nil _ _ _ _, Below.refl _ _⟩
  case round =>
    clear x2
    obtain ⟨k, hk, rfl, hown, hbX⟩ := hrel
    rename World => X
    have hlw := (wait_len r.waits k (by omega)).1
    by_cases hkn : k < wn
    · have hki : (k : Int) < (wn : Int) := by omega
      have hkw : k < r.waits.length := by have := unhide HWL; omega
      obtain ⟨b2, off, rfl, hbb, d1⟩ := (hW.below hbX).at hkw
      have HWY := hide (wait_yes hkw)
      have HWN := hide (wait_no hkw)
      have HWW := hide hW
      generalize r.waits[k] = wk at *
      cases wk
      · have R := hide (unhide HWN rfl)
        clear HWN HWY hW
        go_wp2_with fail
        exact ⟨⟨k + 1, by omega, by go_num, by rw [unhide R]; exact hown, hbX⟩, by simp [intOf]; omega⟩
      · have R := hide (unhide HWY rfl)
        clear HWN HWY hW
        go_wp2_with fail
        refine (Tryz.strconv_Itoa_small k (by omega) _).mono ?_
        rintro e X2 ⟨rfl, rfl⟩
        rename World => X
        go_wp2_with (at_builtin; refine wpList_append_own _ rfl _ _ 57 rfl (w.heap.size) 9 i0 (.string .empty) 1 16 Tryz.underlying57 hi0 hz0 hz1 hz2 rfl (by decide) _ _ _ rfl (hown.alloc _) ⟨X.heap.size, 0, none⟩ 1 1 [.string ⟨(Lib.decDigits k).toArray⟩] rfl rfl ?c1 ?c2 ?c3 ?c4 ?c5 ?_)
        case c1 =>
          intro j u hj
          match j, hj with
          | 0, hj => simp at hj; subst hj; simp [Addr.add]
        case c2 => intro u hu; simp at hu; subst hu; rfl
        case c3 => unfold maxLen; omega
        case c4 => omega
        case c5 => have := hbX.size; simp; omega
        intro v' W3 hown' hgrow _
        have hb3 : Below w.heap.size w W3 := hbX.trans (((Below.refl _ X).alloc (hbX.size) _).grown hgrow (by have := hbX.size; simp; omega) (fun k hk => (hown.lt k hk).1))
        have hown2 : W3.ownsRow w.heap.size 9 1 v' (waitTo r.waits (k + 1)).length (strV (waitTo r.waits (k + 1))) := by
          rw [unhide R, strV_snoc, List.length_append]
          exact hown'
        have RR := hide (And.intro hown2 hb3)
        clear hown hown' hgrow hown2 hb3 hbX d1
        go_wp2_with fail
        exact ⟨⟨k + 1, by omega, by go_num, (unhide RR).1, (unhide RR).2⟩, by simp [intOf]; omega⟩
    · have hkn' : k = wn := by omega
      subst hkn'
      have hJ := join_le (waitTo r.waits k) 2 (wait_len r.waits k (by omega)).2
      have hlen : (Lib.join (waitTo r.waits k) [32]).length ≤ 100000 := by omega
      have hl20 : (waitTo r.waits k).length ≤ 20 := by omega
      obtain ⟨a2, c2', hv', hS, hcc⟩ := own_strs hown
      rw [hv']
      clear hv' hown hJ hW
      obtain ⟨ws, hws⟩ : ∃ ws, waitTo r.waits k = ws := ⟨_, rfl⟩
      rw [hws] at hS hcc hl20 hlen ⊢
      have HWS := hide hws
      clear hws
      generalize hnn : ws.length = nn' at hS hcc ⊢
      go_wp2_with fail
      refine (lineOf_any ws a2 nn' c2' _ hS hcc hl20 hlen).mono ?_
      rintro e X4 ⟨rfl, hb4⟩
      go_wp2_with fail
      go_ret
      exact ⟨ret_str (by rw [unhide HWS]), bstep hbX hb4⟩

theorem kp_less {w : World} {b : Nat} {W : World} {Q : World → Prop} (h : Kp (List.range w.heap.size) W Q) (hb : b < w.heap.size) : Kp [b] W Q := h.less (fun g hg => by
  rw [List.mem_singleton.1 hg]; exact List.mem_range.2 hb)
set_option maxRecDepth 100000 in
set_option maxHeartbeats 4000000 in
theorem ptick_any (b : Nat) (p : List NodeD) (r : RestD) (x : Nat) (w : World) (h : PlK w b p r) (hr : restE p r = 0) (hx : x < 8) :
    Calls Tryz.prog 43 #[.pointer (some ⟨b, 0, none⟩), .int .i64 (x : Int)] w fun e w' => e = .returned (.string ⟨(joinW (tickW p r x)).toArray⟩) ∧ PlK w' b p (walkR p r (x : Int)) ∧ Below b w w' := by
  have HP := hide h
  have hblt := h.lt
  obtain ⟨na, nn, nc, f, wa, wn, wc, oa, on, oc, h1, h2, h3, h4, h5⟩ := h
  have q0 := h1.cell 0
  have q1 := h1.cell 1
  have q2 := h1.cell 2
  have q3 := h1.cell 3
  have hwe := walk_at hr hx
  have HWE := hide hwe
  have HWR := hide (walk_rest hwe)
  have HC := hide h1
  have hN := h2.now
  have hRA := h4.now
  have hbd := (Below.refl w.heap.size w).drew
  have hb00 := Below.refl w.heap.size w
  have hSZ0 := (Below.refl _ w).alloc (Nat.le_refl _) (.cells #[.bool false, .slice none 0 0, .slice none 0 0] 35)
  have hSZ := hSZ0.drew
  have hZ0 := Cells.new w [.bool false, .slice none 0 0, .slice none 0 0] 35
  have hZ := hZ0.onB (Below.refl _ _).drew
  have hNd := hN.below hbd
  have hRd := hRA.below hbd
  have hNz := hN.below hSZ
  have hRz := hRA.below hSZ
  have HS : ∀ W : World, Below w.heap.size w W → Below w.heap.size w W ∧ W.cell? ⟨b, 0, none⟩ = some (.slice na nn nc) ∧ W.cell? ⟨b, 1, none⟩ = some (.bool f) ∧ W.cell? ⟨b, 2, none⟩ = some (.slice wa wn wc) ∧ W.cell? ⟨b, 3, none⟩ = some (.slice oa on oc) := fun W hW =>
    ⟨hW, (hW.cell (p := ⟨b, 0, none⟩) hblt).trans q0, (hW.cell (p := ⟨b, 1, none⟩) hblt).trans q1, (hW.cell (p := ⟨b, 2, none⟩) hblt).trans q2, (hW.cell (p := ⟨b, 3, none⟩) hblt).trans q3⟩
  clear h1 h2 h4 hN hRA hr hwe
  go_enter Tryz.func43, Tryz.ntmps43
  go_wp2_with fail
  go_region_held3 (fun W => Below w.heap.size w W ∧ W.cell? ⟨b, 0, none⟩ = some (.slice na nn nc) ∧ W.cell? ⟨b, 1, none⟩ = some (.bool f) ∧ W.cell? ⟨b, 2, none⟩ = some (.slice wa wn wc) ∧ W.cell? ⟨b, 3, none⟩ = some (.slice oa on oc))
    ((first | with_reducible exact HS _ hb00 | with_reducible exact HS _ hbd | with_reducible exact HS _ hSZ0 | with_reducible exact HS _ hSZ | with_reducible exact HS _ hSB | with_reducible exact HS _ hSD | with_reducible exact HS _ hSC | with_reducible exact HS _ hS8))
    ((first
      | (go_at_call 11; (first | refine (WStep_any p na nn nc r f wa oa wn wc on oc (x : Int) _ hNd hRd h3 h5).mono ?_ | refine (WStep_any p na nn nc r f wa oa wn wc on oc (x : Int) _ hNz hRz h3 h5).mono ?_); rintro e wB ⟨f2, wa2, wn2, wc2, oa2, on2, oc2, he, hKR, hwc2, hbB⟩; rw [unhide HWE] at he; subst he; have hSB : Below w.heap.size w wB := (by first | with_reducible exact bstep hbd hbB | with_reducible exact bstep hSZ hbB);
         (try have hcZ : Cells wB w.heap.size [.bool false, .slice none 0 0, .slice none 0 0] 35 := by with_reducible exact hZ.onB hbB); (try have k0 := hcZ.cell 0); (try have k1 := hcZ.cell 1); (try have k2 := hcZ.cell 2); (try have fz0 := hcZ.frozen 0); (try have fz1 := hcZ.frozen 1); (try have fz2 := hcZ.frozen 2); (try have hlZ := hcZ.lt);
         have hSD := bstep hSB ((Below.refl _ wB).alloc (Nat.le_refl _) (.cells #[.bool false, .slice none 0 0, .slice none 0 0] 35)); have hSC := bstep hSB ((Below.refl _ wB).alloc (Nat.le_refl _) (.cells #[.bool f2, .slice wa2 wn2 wc2, .slice oa2 on2 oc2] 35)); have hS8 := below_put hSB (Nat.le_refl w.heap.size) (.bool f2) (.slice wa2 wn2 wc2) (.slice oa2 on2 oc2))))
  all_goals go_upto_region 2 with fail
  case' refine_2.refine_3.refine_3.refine_3.refine_3.refine_3.refine_3.refine_3.refine_3.refine_3.refine_1.refine_2.refine_3.refine_3.refine_3.refine_3.refine_1.refine_2.refine_1.refine_2.refine_3.refine_3 =>
    have hcS := Cells.new wB [.bool f2, .slice wa2 wn2 wc2, .slice oa2 on2 oc2] 35
    have hAl := (Below.refl _ wB).alloc (Nat.le_refl _) (.cells #[.bool f2, .slice wa2 wn2 wc2, .slice oa2 on2 oc2] 35)
    have hK5 := kp_less (Kp.on (show Kp (List.range w.heap.size) wB _ from hKR) hAl) hblt
    have hB5 := hSC
    have hbx : wB.heap.size ≠ b := by have := hSB.size; omega
    clear hS8 hSC hSD hAl HS hSZ0 hSZ hZ0 hZ hNd hRd hNz hRz hKR hbB hSB hbd hb00 q0 q1 q2 q3
    generalize wB.alloc (.cells #[.bool f2, .slice wa2 wn2 wc2, .slice oa2 on2 oc2] 35) = W5 at *
    generalize wB.heap.size = bx at *
  case' refine_2.refine_3.refine_3.refine_3.refine_3.refine_3.refine_3.refine_3.refine_3.refine_3.refine_2.refine_1.refine_2.refine_1.refine_2.refine_3.refine_3.refine_3.refine_3.refine_1.refine_2.refine_3.refine_3 =>
    have hcS := ((hcZ.set 0 (.bool f2)).set 1 (.slice wa2 wn2 wc2)).set 2 (.slice oa2 on2 oc2)
    have hKR2 : Kp (List.range (w.heap.size + 1)) wB _ := (show Kp (List.range (w.alloc (.cells #[.bool false, .slice none 0 0, .slice none 0 0] 35)).heap.size) wB _ from hKR).less (fun g hg => by simpa using hg)
    have hm : w.heap.size ∈ List.range (w.heap.size + 1) := List.mem_range.2 (Nat.lt_succ_self _)
    have hK5 : Kp [b] _ _ := (hKR2.step (kept3m hm (.bool f2) (.slice wa2 wn2 wc2) (.slice oa2 on2 oc2)) (fun g hg => Or.inl hg)).less (fun g hg => by rw [List.mem_singleton.1 hg]; exact List.mem_range.2 (by omega))
    have hB5 := hS8
    have hbx : w.heap.size ≠ b := by omega
    clear hS8 hSC hSD HS hSZ0 hSZ hZ0 hZ hNd hRd hNz hRz hKR hKR2 hm hbB hSB hbd hb00 q0 q1 q2 q3 k0 k1 k2 fz0 fz1 fz2 hlZ hcZ
    generalize ((wB.setCell ⟨w.heap.size, 0, none⟩ (.bool f2)).setCell ⟨w.heap.size, 1, none⟩ (.slice wa2 wn2 wc2)).setCell ⟨w.heap.size, 2, none⟩ (.slice oa2 on2 oc2) = W5 at *
    generalize hws : w.heap.size = bx at hcS hbx ⊢
    clear hws
  · have s0 := hcS.cell 0
    have s1 := hcS.cell 1
    have s2 := hcS.cell 2
    have hc5 := (unhide HC).onB hB5
    have z1 := hc5.cell 1
    have z2 := hc5.cell 2
    have z3 := hc5.cell 3
    have y1 := hc5.frozen 1
    have y2 := hc5.frozen 2
    have y3 := hc5.frozen 3
    have yl := hc5.lt
    have HPL := plk_put (unhide HP) hB5 hK5 hwc2 (oc2 := oc2)
    have HB6 := below_put1 (hB5.mono (Nat.le_of_lt hblt)) (Nat.le_refl b) (.bool f2) (.slice wa2 wn2 wc2) (.slice oa2 on2 oc2)
    have hO := (hK5 _ (kept_put (W := W5) (b := b) (List.mem_singleton.2 rfl) (.bool f2) (.slice wa2 wn2 wc2) (.slice oa2 on2 oc2))).outs
    have hcS6 : Cells (((W5.setCell ⟨b, 1, none⟩ (.bool f2)).setCell ⟨b, 2, none⟩ (.slice wa2 wn2 wc2)).setCell ⟨b, 3, none⟩ (.slice oa2 on2 oc2)) bx [.bool f2, .slice wa2 wn2 wc2, .slice oa2 on2 oc2] 35 := by
      show (World.heap _)[bx]? = _
      rw [set_other hbx, set_other hbx, set_other hbx]
      exact hcS
    clear hK5 hcS
    go_upto_region 3 with fail
    clear s0 s1 s2 z1 z2 z3 y1 y2 y3 yl hc5 hB5
    generalize ((W5.setCell ⟨b, 1, none⟩ (.bool f2)).setCell ⟨b, 2, none⟩ (.slice wa2 wn2 wc2)).setCell ⟨b, 3, none⟩ (.slice oa2 on2 oc2) = W6 at *
    have hol3 : (walkR p r (x : Int)).outs.length = 3 := (restE_len (unhide HWR)).2.2
    have HTK := hide (show tickW p r x = putTo (walkR p r (x : Int)).outs 3 ++ (if walkO p r (x : Int) then [dOver] else []) from rfl)
    obtain ⟨tw, htw0⟩ : ∃ tw, tickW p r x = tw := ⟨_, rfl⟩
    obtain ⟨r2, hr2⟩ : ∃ r2, walkR p r (x : Int) = r2 := ⟨_, rfl⟩
    obtain ⟨ov, hov⟩ : ∃ ov, walkO p r (x : Int) = ov := ⟨_, rfl⟩
    rw [htw0, hr2, hov] at HTK
    rw [hr2] at HPL hO hol3
    rw [hov]
    have HTW := hide htw0
    have HR2 := hide hr2
    have hon : on2 = 3 := by rw [hO.1, hol3]
    have s2 := hcS6.cell 2
    clear htw0 hr2 hov
    obtain ⟨i0, hi0, hz0, hz1, hz2⟩ := info_parts Tryz.infoStr
    subst hon
    go_wp2_with fail
    clear s2
    go_loopw [8, 32] (fun v kv X => ∃ k : Nat, k ≤ 3 ∧ kv = .int .i64 k ∧ X.ownsRow W6.heap.size 9 1 v (putTo r2.outs k).length (strV (putTo r2.outs k)) ∧ Below W6.heap.size W6 X) (fun _ kv _ => 3 - (intOf kv).toNat)
    case atStart => exact ⟨0, Nat.zero_le _, rfl, World.ownsRow_nil _ _ _ _, Below.refl _ _⟩
    case round =>
      obtain ⟨k, hk, rfl, hown, hbX⟩ := hrel
      rename World => X
      have hlw := (put_len r2.outs k).1
      by_cases hkn : k < 3
      · have hki : (k : Int) < 3 := by omega
        have hkw : k < r2.outs.length := by omega
        obtain ⟨b2, off, rfl, hbb, d1⟩ := (hO.below hbX).at hkw
        have HWY := hide (put_yes hkw)
        have HWN := hide (put_no hkw)
        generalize r2.outs[k] = wk at *
        cases wk
        · have R := hide (unhide HWN rfl)
          clear HWN HWY hO
          go_wp2_with fail
          exact ⟨⟨k + 1, by omega, by go_num, by rw [unhide R]; exact hown, hbX⟩, by simp [intOf]; omega⟩
        · have R := hide (unhide HWY rfl)
          clear HWN HWY hO
          go_wp2_with fail
          refine (Out_any k (by omega) _).mono ?_
          rintro e X2 ⟨rfl, rfl⟩
          rename World => X
          go_wp2_with (at_builtin; refine wpList_append_own _ rfl _ _ 57 rfl (W6.heap.size) 9 i0 (.string .empty) 1 16 Tryz.underlying57 hi0 hz0 hz1 hz2 rfl (by decide) _ _ _ rfl (hown.alloc _) ⟨X.heap.size, 0, none⟩ 1 1 [.string ⟨(letter 65 k).toArray⟩] rfl rfl ?c1 ?c2 ?c3 ?c4 ?c5 ?_)
          case c1 =>
            intro j u hj
            match j, hj with
            | 0, hj => simp at hj; subst hj; simp [Addr.add]
          case c2 => intro u hu; simp at hu; subst hu; rfl
          case c3 => unfold maxLen; omega
          case c4 => omega
          case c5 => have := hbX.size; simp; omega
          intro v' W3 hown' hgrow _
          have hb3 : Below W6.heap.size W6 W3 := hbX.trans (((Below.refl _ X).alloc (hbX.size) _).grown hgrow (by have := hbX.size; simp; omega) (fun k hk => (hown.lt k hk).1))
          have hown2 : W3.ownsRow W6.heap.size 9 1 v' (putTo r2.outs (k + 1)).length (strV (putTo r2.outs (k + 1))) := by
            rw [unhide R, strV_snoc, List.length_append]
            exact hown'
          have RR := hide (And.intro hown2 hb3)
          clear hown hown' hgrow hown2 hb3 hbX d1
          go_wp2_with fail
          exact ⟨⟨k + 1, by omega, by go_num, (unhide RR).1, (unhide RR).2⟩, by simp [intOf]; omega⟩
      · have hkn' : k = 3 := by omega
        subst hkn'
        have hp4 := (put_len r2.outs 3).2
        clear hO
        cases ov
        · have htw : tw = putTo r2.outs 3 := by rw [unhide HTK]; simp
          have hJ := join_le tw 4 (by rw [htw]; exact hp4)
          rw [← htw] at hown hlw
          have hlen : (Lib.join tw [32]).length ≤ 100000 := by omega
          have hl20 : tw.length ≤ 20 := by omega
          obtain ⟨a2, c2', hv', hS, hcc⟩ := own_strs hown
          rw [hv']
          clear hv' hown hJ htw hp4 hlw
          generalize hnn : tw.length = nn' at hS hcc ⊢
          go_wp2_with fail
          refine (lineOf_any tw a2 nn' c2' _ hS hcc hl20 hlen).mono ?_
          rintro e X4 ⟨rfl, hb4⟩
          go_wp2_with fail
          go_ret
          have hb9 := bstep hbX hb4
          exact ⟨ret_str (by rw [unhide HTW]), by rw [unhide HR2]; exact HPL.on hb9, HB6.trans (hb9.mono (Nat.le_of_lt HPL.lt))⟩
        · have htw : tw = putTo r2.outs 3 ++ [dOver] := by rw [unhide HTK]; simp
          have hJ := join_le tw 4 (by
            rw [htw]
            intro y hy
            rcases List.mem_append.1 hy with h | h
            · exact hp4 y h
            · rw [List.mem_singleton.1 h]; decide)
          have htl : tw.length = (putTo r2.outs 3).length + 1 := by rw [htw]; simp
          have hlen : (Lib.join tw [32]).length ≤ 100000 := by omega
          have hl20 : tw.length ≤ 20 := by omega
          clear hJ hp4
          go_wp2_with (at_builtin; refine wpList_append_own _ rfl _ _ 57 rfl (W6.heap.size) 9 i0 (.string .empty) 1 16 Tryz.underlying57 hi0 hz0 hz1 hz2 rfl (by decide) _ _ _ rfl (hown.alloc _) ⟨X.heap.size, 0, none⟩ 1 1 [.string ⟨#[111, 118, 101, 114]⟩] rfl rfl ?c1 ?c2 ?c3 ?c4 ?c5 ?_)
          case c2 => rfl
          case c3 => unfold maxLen; omega
          case c4 => omega
          case c5 => have := hbX.size; simp; omega
          intro v' W3 hown' hgrow _
          have hb3 : Below W6.heap.size W6 W3 := hbX.trans (((Below.refl _ X).alloc (hbX.size) _).grown hgrow (by have := hbX.size; simp; omega) (fun k hk => (hown.lt k hk).1))
          have hown2 : W3.ownsRow W6.heap.size 9 1 v' tw.length (strV tw) := by
            rw [htw, strV_snoc, List.length_append]
            exact hown'
          clear hown hown' hgrow htw htl hlw
          obtain ⟨a2, c2', hv', hS, hcc⟩ := own_strs hown2
          rw [hv']
          clear hv' hown2
          generalize hnn : tw.length = nn' at hS hcc ⊢
          go_wp2_with fail
          refine (lineOf_any tw a2 nn' c2' _ hS hcc hl20 hlen).mono ?_
          rintro e X4 ⟨rfl, hb4⟩
          go_wp2_with fail
          go_ret
          have hb9 := bstep hb3 hb4
          exact ⟨ret_str (by rw [unhide HTW]), by rw [unhide HR2]; exact HPL.on hb9, HB6.trans (hb9.mono (Nat.le_of_lt HPL.lt))⟩
  · have s0 := hcS.cell 0
    have s1 := hcS.cell 1
    have s2 := hcS.cell 2
    have hc5 := (unhide HC).onB hB5
    have z1 := hc5.cell 1
    have z2 := hc5.cell 2
    have z3 := hc5.cell 3
    have y1 := hc5.frozen 1
    have y2 := hc5.frozen 2
    have y3 := hc5.frozen 3
    have yl := hc5.lt
    have HPL := plk_put (unhide HP) hB5 hK5 hwc2 (oc2 := oc2)
    have HB6 := below_put1 (hB5.mono (Nat.le_of_lt hblt)) (Nat.le_refl b) (.bool f2) (.slice wa2 wn2 wc2) (.slice oa2 on2 oc2)
    have hO := (hK5 _ (kept_put (W := W5) (b := b) (List.mem_singleton.2 rfl) (.bool f2) (.slice wa2 wn2 wc2) (.slice oa2 on2 oc2))).outs
    have hcS6 : Cells (((W5.setCell ⟨b, 1, none⟩ (.bool f2)).setCell ⟨b, 2, none⟩ (.slice wa2 wn2 wc2)).setCell ⟨b, 3, none⟩ (.slice oa2 on2 oc2)) bx [.bool f2, .slice wa2 wn2 wc2, .slice oa2 on2 oc2] 35 := by
      show (World.heap _)[bx]? = _
      rw [set_other hbx, set_other hbx, set_other hbx]
      exact hcS
    clear hK5 hcS
    go_upto_region 3 with fail
    clear s0 s1 s2 z1 z2 z3 y1 y2 y3 yl hc5 hB5
    generalize ((W5.setCell ⟨b, 1, none⟩ (.bool f2)).setCell ⟨b, 2, none⟩ (.slice wa2 wn2 wc2)).setCell ⟨b, 3, none⟩ (.slice oa2 on2 oc2) = W6 at *
    have hol3 : (walkR p r (x : Int)).outs.length = 3 := (restE_len (unhide HWR)).2.2
    have HTK := hide (show tickW p r x = putTo (walkR p r (x : Int)).outs 3 ++ (if walkO p r (x : Int) then [dOver] else []) from rfl)
    obtain ⟨tw, htw0⟩ : ∃ tw, tickW p r x = tw := ⟨_, rfl⟩
    obtain ⟨r2, hr2⟩ : ∃ r2, walkR p r (x : Int) = r2 := ⟨_, rfl⟩
    obtain ⟨ov, hov⟩ : ∃ ov, walkO p r (x : Int) = ov := ⟨_, rfl⟩
    rw [htw0, hr2, hov] at HTK
    rw [hr2] at HPL hO hol3
    rw [hov]
    have HTW := hide htw0
    have HR2 := hide hr2
    have hon : on2 = 3 := by rw [hO.1, hol3]
    have s2 := hcS6.cell 2
    clear htw0 hr2 hov
    obtain ⟨i0, hi0, hz0, hz1, hz2⟩ := info_parts Tryz.infoStr
    subst hon
    go_wp2_with fail
    clear s2
    go_loopw [8, 32] (fun v kv X => ∃ k : Nat, k ≤ 3 ∧ kv = .int .i64 k ∧ X.ownsRow W6.heap.size 9 1 v (putTo r2.outs k).length (strV (putTo r2.outs k)) ∧ Below W6.heap.size W6 X) (fun _ kv _ => 3 - (intOf kv).toNat)
    case atStart => exact ⟨0, Nat.zero_le _, rfl, World.ownsRow_nil _ _ _ _, Below.refl _ _⟩
    case round =>
      obtain ⟨k, hk, rfl, hown, hbX⟩ := hrel
      rename World => X
      have hlw := (put_len r2.outs k).1
      by_cases hkn : k < 3
      · have hki : (k : Int) < 3 := by omega
        have hkw : k < r2.outs.length := by omega
        obtain ⟨b2, off, rfl, hbb, d1⟩ := (hO.below hbX).at hkw
        have HWY := hide (put_yes hkw)
        have HWN := hide (put_no hkw)
        generalize r2.outs[k] = wk at *
        cases wk
        · have R := hide (unhide HWN rfl)
          clear HWN HWY hO
          go_wp2_with fail
          exact ⟨⟨k + 1, by omega, by go_num, by rw [unhide R]; exact hown, hbX⟩, by simp [intOf]; omega⟩
        · have R := hide (unhide HWY rfl)
          clear HWN HWY hO
          go_wp2_with fail
          refine (Out_any k (by omega) _).mono ?_
          rintro e X2 ⟨rfl, rfl⟩
          rename World => X
          go_wp2_with (at_builtin; refine wpList_append_own _ rfl _ _ 57 rfl (W6.heap.size) 9 i0 (.string .empty) 1 16 Tryz.underlying57 hi0 hz0 hz1 hz2 rfl (by decide) _ _ _ rfl (hown.alloc _) ⟨X.heap.size, 0, none⟩ 1 1 [.string ⟨(letter 65 k).toArray⟩] rfl rfl ?d1 ?d2 ?d3 ?d4 ?d5 ?_)
          case d1 =>
            intro j u hj
            match j, hj with
            | 0, hj => simp at hj; subst hj; simp [Addr.add]
          case d2 => intro u hu; simp at hu; subst hu; rfl
          case d3 => unfold maxLen; omega
          case d4 => omega
          case d5 => have := hbX.size; simp; omega
          intro v' W3 hown' hgrow _
          have hb3 : Below W6.heap.size W6 W3 := hbX.trans (((Below.refl _ X).alloc (hbX.size) _).grown hgrow (by have := hbX.size; simp; omega) (fun k hk => (hown.lt k hk).1))
          have hown2 : W3.ownsRow W6.heap.size 9 1 v' (putTo r2.outs (k + 1)).length (strV (putTo r2.outs (k + 1))) := by
            rw [unhide R, strV_snoc, List.length_append]
            exact hown'
          have RR := hide (And.intro hown2 hb3)
          clear hown hown' hgrow hown2 hb3 hbX d1
          go_wp2_with fail
          exact ⟨⟨k + 1, by omega, by go_num, (unhide RR).1, (unhide RR).2⟩, by simp [intOf]; omega⟩
      · have hkn' : k = 3 := by omega
        subst hkn'
        have hp4 := (put_len r2.outs 3).2
        clear hO
        cases ov
        · have htw : tw = putTo r2.outs 3 := by rw [unhide HTK]; simp
          have hJ := join_le tw 4 (by rw [htw]; exact hp4)
          rw [← htw] at hown hlw
          have hlen : (Lib.join tw [32]).length ≤ 100000 := by omega
          have hl20 : tw.length ≤ 20 := by omega
          obtain ⟨a2, c2', hv', hS, hcc⟩ := own_strs hown
          rw [hv']
          clear hv' hown hJ htw hp4 hlw
          generalize hnn : tw.length = nn' at hS hcc ⊢
          go_wp2_with fail
          refine (lineOf_any tw a2 nn' c2' _ hS hcc hl20 hlen).mono ?_
          rintro e X4 ⟨rfl, hb4⟩
          go_wp2_with fail
          go_ret
          have hb9 := bstep hbX hb4
          exact ⟨ret_str (by rw [unhide HTW]), by rw [unhide HR2]; exact HPL.on hb9, HB6.trans (hb9.mono (Nat.le_of_lt HPL.lt))⟩
        · have htw : tw = putTo r2.outs 3 ++ [dOver] := by rw [unhide HTK]; simp
          have hJ := join_le tw 4 (by
            rw [htw]
            intro y hy
            rcases List.mem_append.1 hy with h | h
            · exact hp4 y h
            · rw [List.mem_singleton.1 h]; decide)
          have htl : tw.length = (putTo r2.outs 3).length + 1 := by rw [htw]; simp
          have hlen : (Lib.join tw [32]).length ≤ 100000 := by omega
          have hl20 : tw.length ≤ 20 := by omega
          clear hJ hp4
          go_wp2_with (at_builtin; refine wpList_append_own _ rfl _ _ 57 rfl (W6.heap.size) 9 i0 (.string .empty) 1 16 Tryz.underlying57 hi0 hz0 hz1 hz2 rfl (by decide) _ _ _ rfl (hown.alloc _) ⟨X.heap.size, 0, none⟩ 1 1 [.string ⟨#[111, 118, 101, 114]⟩] rfl rfl ?d1 ?d2 ?d3 ?d4 ?d5 ?_)
          case d2 => rfl
          case d3 => unfold maxLen; omega
          case d4 => omega
          case d5 => have := hbX.size; simp; omega
          intro v' W3 hown' hgrow _
          have hb3 : Below W6.heap.size W6 W3 := hbX.trans (((Below.refl _ X).alloc (hbX.size) _).grown hgrow (by have := hbX.size; simp; omega) (fun k hk => (hown.lt k hk).1))
          have hown2 : W3.ownsRow W6.heap.size 9 1 v' tw.length (strV tw) := by
            rw [htw, strV_snoc, List.length_append]
            exact hown'
          clear hown hown' hgrow htw htl hlw
          obtain ⟨a2, c2', hv', hS, hcc⟩ := own_strs hown2
          rw [hv']
          clear hv' hown2
          generalize hnn : tw.length = nn' at hS hcc ⊢
          go_wp2_with fail
          refine (lineOf_any tw a2 nn' c2' _ hS hcc hl20 hlen).mono ?_
          rintro e X4 ⟨rfl, hb4⟩
          go_wp2_with fail
          go_ret
          have hb9 := bstep hb3 hb4
          exact ⟨ret_str (by rw [unhide HTW]), by rw [unhide HR2]; exact HPL.on hb9, HB6.trans (hb9.mono (Nat.le_of_lt HPL.lt))⟩
end Go.Proofs.YtccokpnmdfalpaaGreatDoor
