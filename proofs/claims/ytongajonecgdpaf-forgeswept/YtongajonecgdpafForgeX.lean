/- The net of a program, swept, and sixty-four runs at once (plain, and the statement ForgeSwept). -/
import Derived.Test.YtongajonecgdpafForgeW
import Derived.Test.YtongajonecgdpafSmithN
import Derived.Test.YtongajonecgdpafPackH
import Derived.Test.YtongajonecgdpafDropP
namespace Go.Proofs.Ytongajonecgdpaf
open Go.RowKit

theorem swept_order {p : List NodeD} (hok : POk p) {bs : List Bool} (hM : Marks (foldD (forgeD p)).gates (needL (foldD (forgeD p))) bs) : checkE (dropW (foldD (forgeD p)) bs) = 0 ∧ orderE (dropW (foldD (forgeD p)) bs) = 0 := by
  have hc := fold_ok (forge_check hok)
  have hcl := clo_of hM hc
  have hc2 := drop_ok hcl hc
  exact ⟨hc2, rises_order hc2 (rises_drop (rises_fold (forge_rise hok)) hcl)⟩
theorem swept_err {p : List NodeD} (hok : POk p) {bs : List Bool} (hM : Marks (foldD (forgeD p)).gates (needL (foldD (forgeD p))) bs) (l : List (List Int)) : prunE (dropW (foldD (forgeD p)) bs) l ≠ 5 := by
  unfold prunE
  rw [if_pos (swept_order hok hM).2]
  split
  · simp
  · split <;> simp
theorem swept_run {p : List NodeD} (hok : POk p) {bs : List Bool} (hM : Marks (foldD (forgeD p)).gates (needL (foldD (forgeD p))) bs) {l : List (List Int)} (h : prunE (dropW (foldD (forgeD p)) bs) l = 0) {b : Nat} (hb : b < 64) :
    playE p (laneIns l b) = 0 ∧ playRows p (laneIns l b) = (packRows (dropW (foldD (forgeD p)) bs) l l.length).map (fun r => laneV r b) := by
  have hcF := forge_check hok
  have hc := fold_ok hcF
  have hcl := clo_of hM hc
  obtain ⟨h1, h2⟩ := lane_run h hb
  have ht := (runE_ok h1).2.1
  have hF : runE (forgeD p) (laneIns l b) = 0 := by rw [ord_run hcF (forge_ord hok)]; exact ht
  have hD : runE (foldD (forgeD p)) (laneIns l b) = 0 := by rw [(fold_run hcF _).1]; exact hF
  have h3 := (drop_run hcl hD).2.1
  rw [h2, (fold_run hcF _).2.1, (forge_run hok _).2] at h3
  exact ⟨by rw [← (forge_run hok _).1]; exact hF, h3.symm⟩

set_option maxRecDepth 100000 in
set_option maxHeartbeats 8000000 in
theorem ForgeSwept_any (p : List NodeD) (pa : Option Addr) (pn pc : Nat) (l : List (List Int)) (la : Option Addr) (ln lc : Nat) (kk : Int) (w : World) (hN : Nodes w pa pn p) (hc : pn ≤ pc) (hl : WRows w la ln l) (hwl : ∀ r ∈ l, ∀ x ∈ r, isW x) (hkk : (Lit.int .i64 kk).wf = true) :
    Calls Try.prog 8 #[.slice pa pn pc, .slice la ln lc, .int .i64 kk] w fun e w' => e = .returned (.bool true) ∧ Below w.heap.size w w' := by
  have HWL := hide hwl
  have HKK := hide hkk
  have HC := hide hc
  obtain ⟨i0, hi, hz0, hz1, hz2⟩ := info_parts Try.infoI2
  clear hwl hkk
  go_enter Try.func8, Try.ntmps8
  go_wp2_with fail
  refine (FNet_any p pa pn pc w hN hc).mono ?_
  rintro e w1 ⟨i, ga, gn, gc, ra, rn, rc, oa, on, oc, rfl, hA, B1⟩
  have hN1 := hN.below B1
  have hl1 := hl.below B1
  clear hN hl hc
  have hal := (Below.refl w1.heap.size w1).alloc (Nat.le_refl _) (.cells #[.int .i64 i, .slice ga gn gc, .slice ra rn rc, .slice oa on oc] 48)
  have hbox : Boxed (w1.alloc (.cells #[.int .i64 i, .slice ga gn gc, .slice ra rn rc, .slice oa on oc] 48)) w1.heap.size i ga gn gc ra rn rc oa on oc := Boxed.new _ _ _ _ _ _ _ _ _ _ _ _
  have B2 := bstep B1 hal
  have hN2 := hN1.below hal
  have hl2 := hl1.below hal
  have hA2 := fun h => (hA h).below hal
  clear hal hA B1 hN1 hl1
  go_upto_region 2 with fail
  generalize hw2 : w1.alloc (.cells #[.int .i64 i, .slice ga gn gc, .slice ra rn rc, .slice oa on oc] 48) = w2 at *
  generalize w1.heap.size = nb at *
  clear hw2
  by_cases he : checkP p = 0
  case neg =>
    clear hA2
    generalize hck : checkP p = ck at *
    have hq : (ck != 0) = true := by simp [he]
    clear he
    go_wp2_with fail
    refine (forgeBegun_any _).mono ?_
    rintro e w3 ⟨rfl, hb⟩
    have B3 := bstep B2 hb
    go_wp2_with fail
    go_ret
    exact ⟨rfl, B3⟩
  have hok := pok_of he
  have hA3 := hA2 he
  have HOK := hide hok
  have HCF := hide (forge_check hok)
  have HF0 := hide (fold_ok (forge_check hok))
  have HFA := hide (show foldA (forgeD p) = foldD (forgeD p) by unfold foldA; rw [if_pos (forge_check hok)])
  have hfo := ok_of (fold_ok (forge_check hok))
  have hfl : (foldD (forgeD p)).outs.length ≤ 3 := hfo.outs
  have hfr : (foldD (forgeD p)).regs.length ≤ 20 := hfo.regs
  rw [he]
  clear hA2 he hok hfo
  obtain ⟨x0, x1, x2, x3, x4⟩ := hbox
  go_wp2_with fail
  clear x0 x1 x2 x3 x4
  refine (Fold_any (forgeD p) _ _ _ _ _ _ _ _ _ _ _ hA3).mono ?_
  intro e w3 hA
  rw [unhide HFA, unhide HCF] at hA
  obtain ⟨i2, ga2, gn2, gc2, ra2, rn2, rc2, oa2, on2, oc2, rfl, hF2, hO2, hb⟩ := hA
  have hb2 := (Below.refl _ w3).alloc (Nat.le_refl _) (.cells #[.int .i64 i2, .slice ga2 gn2 gc2, .slice ra2 rn2 rc2, .slice oa2 on2 oc2] 48)
  have hbox2 : Boxed (w3.alloc (.cells #[.int .i64 i2, .slice ga2 gn2 gc2, .slice ra2 rn2 rc2, .slice oa2 on2 oc2] 48)) w3.heap.size i2 ga2 gn2 gc2 ra2 rn2 rc2 oa2 on2 oc2 := Boxed.new _ _ _ _ _ _ _ _ _ _ _ _
  have hF3 := hF2.below hb2
  have hN3 := (hN2.below hb).below hb2
  have hl3 := (hl2.below hb).below hb2
  have B3 := bstep (bstep B2 hb) hb2
  have hsz : (on2 + rn2) * 8 ≤ 281474976710656 := by have h1 := hF2.outs.1; have h2 := hF2.regs.1; omega
  have HO2 := hide (unhide hO2)
  clear hb hb2 hN2 hF2 hl2 B2 hO2 hfl hfr hA3
  go_upto_region 5 with fail
  generalize hw4 : w3.alloc (.cells #[.int .i64 i2, .slice ga2 gn2 gc2, .slice ra2 rn2 rc2, .slice oa2 on2 oc2] 48) = w4 at *
  generalize w3.heap.size = nb2 at *
  clear hw4
  obtain ⟨x0, x1, x2, x3, x4⟩ := hbox2
  go_wp2_with fail
  clear x0 x1 x2 x3 x4
  refine (Drop_any (foldD (forgeD p)) _ _ _ _ _ _ _ _ _ _ _ hF3 (unhide HO2) hsz).mono ?_
  intro e w5 hD
  obtain ⟨bs, hM, hA⟩ := hD
  have hM := hM (unhide HF0)
  rw [show dropA (foldD (forgeD p)) bs = dropW (foldD (forgeD p)) bs by unfold dropA; rw [if_pos (unhide HF0)], unhide HF0] at hA
  obtain ⟨i4, ga4, gn4, gc4, ra4, rn4, rc4, oa4, on4, oc4, rfl, hD4, _, hb⟩ := hA
  have HNE := hide (swept_err (unhide HOK) hM l)
  have HRUN := hide (fun (h : prunE (dropW (foldD (forgeD p)) bs) l = 0) (b : Nat) (hb : b < 64) => swept_run (unhide HOK) hM h hb)
  have hdi : (dropW (foldD (forgeD p)) bs).ins.toNat ≤ 3 := Nat.le_refl 3
  generalize dropW (foldD (forgeD p)) bs = d at *
  have hb4 := (Below.refl _ w5).alloc (Nat.le_refl _) (.cells #[.int .i64 i4, .slice ga4 gn4 gc4, .slice ra4 rn4 rc4, .slice oa4 on4 oc4] 48)
  have hbox4 : Boxed (w5.alloc (.cells #[.int .i64 i4, .slice ga4 gn4 gc4, .slice ra4 rn4 rc4, .slice oa4 on4 oc4] 48)) w5.heap.size i4 ga4 gn4 gc4 ra4 rn4 rc4 oa4 on4 oc4 := Boxed.new _ _ _ _ _ _ _ _ _ _ _ _
  have hD5 := hD4.below hb4
  have hN5 := (hN3.below hb).below hb4
  have hl5 := (hl3.below hb).below hb4
  have B5 := bstep (bstep B3 hb) hb4
  clear hb hb4 hF3 hD4 hN3 hl3 B3 hM hsz HO2 HFA HF0 HCF
  go_upto_region 6 with fail
  generalize hw6 : w5.alloc (.cells #[.int .i64 i4, .slice ga4 gn4 gc4, .slice ra4 rn4 rc4, .slice oa4 on4 oc4] 48) = w6 at *
  generalize w5.heap.size = nb4 at *
  clear hw6
  obtain ⟨x0, x1, x2, x3, x4⟩ := hbox4
  go_wp2_with fail
  clear x0 x1 x2 x3 x4
  refine (PRun_any d _ _ _ _ _ _ _ _ _ _ _ hD5 l _ _ _ hl5 (unhide HWL)).mono ?_
  rintro e w7 ⟨a1, n1, c1, rfl, hA1, hb⟩
  have B7 := bstep B5 hb
  have hN7 := hN5.below hb
  have hl7 := hl5.below hb
  clear hb B5 hN5 hl5 hD5
  have HLL := hide hl7.1
  by_cases e0 : prunE d l = 0
  case neg =>
    obtain ⟨E, hE⟩ : ∃ E, prunE d l = E := ⟨_, rfl⟩
    rw [hE] at e0 HNE
    rw [hE]
    have hq : (E != 0) = true := by simp only [bne_iff_ne, ne_eq]; exact e0
    have hq5 : (E != 5) = true := by simp only [bne_iff_ne, ne_eq]; exact unhide HNE
    clear e0 hE HRUN HNE
    go_wp2_with fail
    refine (forgeBegun_any _).mono ?_
    rintro e w3 ⟨rfl, hb⟩
    have B8 := bstep B7 hb
    go_wp2_with fail
    go_ret
    exact ⟨rfl, B8⟩
  rw [e0]
  obtain ⟨ho, hl60, hro⟩ := prun_parts e0
  have HRO := hide hro
  have hln : ln ≤ 60 := by have := unhide HLL; omega
  have HPL := hide (show prunL d l = packRows d l l.length by unfold prunL; rw [if_pos e0])
  have HIN := hide hdi
  have HRUN2 := hide ((unhide HRUN) e0)
  clear e0 ho hl60 hro hdi HRUN HNE
  go_wp2_with fail
  refine (choose_any kk 64 _ (by decide) (by decide) (unhide HKK)).mono ?_
  rintro e w2 ⟨rfl, rfl⟩
  rename World => w8
  have hb64 := chosen_lt kk 64 (by decide)
  generalize chosen kk 64 = bt at *
  have hbi : (bt : Int) < 64 := by omega
  have hbn : ¬ (bt : Int) < 0 := by omega
  have HRUN := hide (unhide HRUN2 bt hb64)
  clear HRUN2
  go_wp2_with fail
  go_loopw [16, 17] (fun v i wr => ∃ k : Nat, k ≤ ln ∧ i = .int .i64 k ∧ wr.ownsRow w8.heap.size 3 1 v k (intsV ((laneIns l bt).take k)) ∧ Below w8.heap.size w8 wr) (fun _ i _ => ln - (intOf i).toNat)
  case atStart => exact ⟨0, Nat.zero_le _, rfl, World.ownsRow_nil _ _ _ _, Below.refl _ _⟩
  case round =>
    obtain ⟨k, hk, rfl, hown, hbel⟩ := hrel
    by_cases hlt : k < ln
    · have hki : (k : Int) < (ln : Int) := by omega
      have hkl : k < l.length := by have := unhide HLL; omega
      obtain ⟨b, off, a', n', c', rfl, hbb, cA, hW⟩ := (hl7.below hbel).at hkl
      have HN' := hide hW.1
      have hn3 : n' ≤ 3 := by have h1 := unhide HN'; have h2 := rowsOk_at (unhide HRO) k hkl; have h3 := unhide HIN; omega
      have HT := hide (show intsV ((laneIns l bt).take (k + 1)) = intsV ((laneIns l bt).take k) ++ [.int .i64 (numL (laneV l[k] bt))] by
        rw [intsV_succ _ _ (by simp [laneIns]; exact hkl)]
        simp [laneIns])
      have HWK := hide (unhide HWL l[k] (List.getElem_mem hkl))
      obtain ⟨w3, rfl⟩ : ∃ w3, w3 = wr := ⟨_, rfl⟩
      go_wp2_with fail
      go_loopw [18, 19] (fun x i wr => ∃ j : Nat, j ≤ n' ∧ x = .int .i64 (numL ((laneV l[k] bt).drop j)) ∧ i = .int .i64 ((j : Int) - 1) ∧ wr = w3) (fun _ i _ => (intOf i + 1).toNat)
      case atStart => exact ⟨n', Nat.le_refl _, by rw [List.drop_of_length_le (by rw [laneV_len]; have := unhide HN'; omega)]; rfl, by first | rfl | go_num, by first | rfl | trivial⟩
      case round =>
        obtain ⟨j, hj, rfl, rfl, rfl⟩ := hrel
        cases j with
        | zero =>
          rw [show (((0 : Nat) : Int) - 1) = -1 from rfl, List.drop_zero]
          go_wp2_with (at_builtin; refine wpList_append_own _ rfl _ _ 35 rfl (w8.heap.size) 3 i0 (.int .i64 0) 1 8 Try.underlying35 hi hz0 hz1 hz2 rfl (by decide) _ _ _ rfl (hown.alloc _) ⟨wr.heap.size, 0, none⟩ 1 1 [.int .i64 (numL (laneV l[k] bt))] rfl rfl ?c1 ?c2 ?c3 ?c4 ?c5 ?_)
          case c1 =>
            intro j u hj
            match j, hj with
            | 0, hj => simp at hj; subst hj; simp [Addr.add]
          case c2 => intro u hu; simp at hu; subst hu; rfl
          case c3 => unfold maxLen; omega
          case c4 => omega
          case c5 => have := hbel.size; simp; omega
          intro v' w4 hown' hgrow _
          have hown2 := hown'
          rw [← unhide HT] at hown2
          have hb4 : Below w8.heap.size w8 w4 := hbel.trans (((Below.refl _ wr).alloc (hbel.size) _).grown hgrow (by have := hbel.size; simp; omega) (fun k hk => (hown.lt k hk).1))
          have R := hide (And.intro hown2 hb4)
          clear hown hown' hgrow hown2 hb4 hbel cA hW
          go_wp2_with fail
          exact ⟨⟨k + 1, by omega, by go_num, (unhide R).1, (unhide R).2⟩, by simp [intOf]; omega⟩
        | succ j =>
          rw [show (((j + 1 : Nat) : Int) - 1) = (j : Int) by omega]
          have hji : (j : Int) < (n' : Int) := by omega
          have hj0 : (0 : Int) ≤ (j : Int) := by omega
          have hjl : j < l[k].length := by have := unhide HN'; omega
          obtain ⟨b2, o2, rfl, hb2, cW⟩ := hW.at hjl
          have hxj := isW_num (unhide HWK l[k][j] (List.getElem_mem hjl))
          have hge : 0 ≤ l[k][j] / 2 ^ bt := Int.ediv_nonneg hxj.1 (Int.pow_nonneg (by decide))
          have hle : l[k][j] / 2 ^ bt < 18446744073709551616 := Int.lt_of_le_of_lt (Int.ediv_le_self _ hxj.1) hxj.2
          have hand := and_one_u (l[k][j] / 2 ^ bt) hge hle
          have hb1 := bits_lt l[k][j] bt
          have hsm := num_small (n := 3) (drop01 (xs := l[k]) (b := bt) (j := j + 1)) (by rw [List.length_drop, laneV_len]; have := unhide HN'; omega) (Nat.le_refl _)
          have HD := hide (show numL ((laneV l[k] bt).drop j) = 2 * numL ((laneV l[k] bt).drop (j + 1)) + l[k][j] / 2 ^ bt % 2 by
            rw [numL_drop _ _ (by rw [laneV_len]; exact hjl), lane_get _ _ _ hjl])
          generalize numL ((laneV l[k] bt).drop (j + 1)) = nx at *
          clear hxj hge hle
          go_wp2_with fail
          exact ⟨⟨j, by omega, by rw [unhide HD], by first | rfl | go_num, by first | rfl | trivial⟩, by first | (simp [intOf]; done) | (simp [intOf]; omega)⟩
    · rw [List.take_of_length_le (by simp [laneIns]; have := unhide HLL; omega)] at hown
      obtain ⟨qa, qc, hv', hQ⟩ := own_ints hown (by unfold maxLen; omega)
      rw [hv']
      clear hown hv'
      go_wp2_with fail
      refine (FRun_any p pa pn pc (laneIns l bt) _ _ _ _ (hN7.below hbel) (unhide HC) hQ).mono ?_
      rintro e w4 ⟨rb, rbn, rbc, rfl, hRB, hb⟩
      rw [(unhide HRUN).1]
      rw [(unhide HRUN).2] at hRB
      have hA4 := (hA1.below hbel).below hb
      rw [unhide HPL] at hA4
      have B4 := bstep (bstep B7 hbel) hb
      have hn1 : n1 = rbn := by rw [hA4.1, hRB.1, List.length_map]
      subst hn1
      have HNL := hide hA4.1
      have hn60 : n1 ≤ 60 := by have h1 := unhide HNL; have h2 := unhide HLL; simp [packRows] at h1; omega
      have hnn : ((n1 : Int) != (n1 : Int)) = false := by simp
      clear hb hbel hQ hA1 hN7 hl7 B7
      go_wp2_with fail
      go_loopw [22] (fun i wr => ∃ k : Nat, k ≤ n1 ∧ i = .int .i64 k ∧ Below w4.heap.size w4 wr) (fun i _ => n1 - (intOf i).toNat)
      case atStart => exact ⟨0, Nat.zero_le _, rfl, Below.refl _ _⟩
      case round =>
        obtain ⟨t, ht, rfl, hbel⟩ := hrel
        by_cases htl : t < n1
        · have hti : (t : Int) < (n1 : Int) := by omega
          have htp : t < (packRows d l l.length).length := by have := unhide HNL; omega
          obtain ⟨b, off, a', n', c', rfl, hbb, cA, hW⟩ := (hA4.below hbel).at htp
          obtain ⟨b', off', ra', rn', rc', rfl, hbb', cB, hI⟩ := (hRB.below hbel).at (k := t) (by rw [List.length_map]; exact htp)
          have hrow : ((packRows d l l.length).map (fun r => laneV r bt))[t]'(by rw [List.length_map]; exact htp) = laneV (packRows d l l.length)[t] bt := by simp
          rw [hrow] at hI
          have HWR := hide (show ∀ x ∈ (packRows d l l.length)[t], isW x by
            have : (packRows d l l.length)[t] = packRow d l t := by simp [packRows]
            rw [this]
            exact outs01 d _ _)
          generalize (packRows d l l.length)[t] = ws at *
          have hnr : n' = rn' := by rw [hW.1, hI.1, laneV_len]
          subst hnr
          have hnn' : ((n' : Int) != (n' : Int)) = false := by simp
          have hn63 : n' ≤ maxLen := by rw [hW.1]; exact hW.2.1
          unfold maxLen at hn63
          have HNW := hide hW.1
          obtain ⟨w5, rfl⟩ : ∃ w5, w5 = wr := ⟨_, rfl⟩
          clear hrow
          go_wp2_with fail
          go_region_held3 (fun W => W.cell? ⟨b, off + t, none⟩ = some (.slice a' n' c') ∧ W.cell? ⟨b', off' + t, none⟩ = some (.slice ra' n' rc'))
            ((exact ⟨cA, cB⟩))
            (fail)
          all_goals go_wp2_with fail
          all_goals
            go_loopw [23] (fun i wz => ∃ j : Nat, j ≤ n' ∧ i = .int .i64 j ∧ Below w5.heap.size w5 wz) (fun i _ => n' - (intOf i).toNat)
            case atStart => exact ⟨0, Nat.zero_le _, rfl, (Below.refl _ _).drew⟩
            case round =>
              obtain ⟨j, hj, rfl, hbz⟩ := hrel
              have cA' := (hbz.cell (p := ⟨b, off + t, none⟩) hbb).trans cA
              have cB' := (hbz.cell (p := ⟨b', off' + t, none⟩) hbb').trans cB
              by_cases hjt : j < n'
              · have hji : (j : Int) < (n' : Int) := by omega
                have hjw : j < ws.length := by have := unhide HNW; omega
                obtain ⟨b2, o2, rfl, hb2, cW⟩ := (hW.below hbz).at hjw
                obtain ⟨b3, o3, rfl, hb3, cI⟩ := (hI.below hbz).at (k := j) (by rw [laneV_len]; exact hjw)
                rw [lane_get ws bt j hjw] at cI
                have hxj := isW_num (unhide HWR ws[j] (List.getElem_mem hjw))
                have hge : 0 ≤ ws[j] / 2 ^ bt := Int.ediv_nonneg hxj.1 (Int.pow_nonneg (by decide))
                have hle : ws[j] / 2 ^ bt < 18446744073709551616 := Int.lt_of_le_of_lt (Int.ediv_le_self _ hxj.1) hxj.2
                have hand := and_one_u (ws[j] / 2 ^ bt) hge hle
                have hb1 := bits_lt ws[j] bt
                have hvv : (IntKind.i64.wrap (ws[j] / 2 ^ bt % 2) != ws[j] / 2 ^ bt % 2) = false := by
                  rw [wraps_i64 _ hb1.1 (by have e : (2 : Int) ^ 62 = 4611686018427387904 := by decide
                                            have := hb1.2
                                            omega)]
                  simp
                have R := hide hbz.drew
                clear hxj hge hle hbz
                go_wp2_with fail
                go_region_held3 (fun W => W.cell? ⟨b, off + t, none⟩ = some (.slice (some ⟨b2, o2, none⟩) n' c') ∧ W.cell? ⟨b', off' + t, none⟩ = some (.slice (some ⟨b3, o3, none⟩) n' rc') ∧ W.cell? ⟨b2, o2 + j, none⟩ = some (.int .u64 ws[j]) ∧ W.cell? ⟨b3, o3 + j, none⟩ = some (.int .i64 (ws[j] / 2 ^ bt % 2)))
                  ((exact ⟨cA', cB', cW, cI⟩))
                  (fail)
                all_goals clear cA' cB' cW cI hand
                all_goals go_wp2_with fail
                all_goals exact ⟨⟨j + 1, by omega, by go_num, unhide R⟩, by simp [intOf]; omega⟩
              · have R := hide (bstep hbel hbz)
                clear hbz
                go_wp2_with fail
                exact ⟨⟨t + 1, by omega, by go_num, unhide R⟩, by simp [intOf]; omega⟩
        · go_wp2_with fail
          refine (forgeBegun_any _).mono ?_
          rintro e w6 ⟨rfl, hb⟩
          have B6 := bstep (bstep B4 hbel) hb
          clear hb hbel
          go_wp2_with fail
          go_ret
          exact ⟨rfl, B6⟩
end Go.Proofs.Ytongajonecgdpaf
