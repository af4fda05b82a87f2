/- The statement SweepDrop. -/
import Derived.Test.YtongajonecgdpadSweepB
import Derived.Test.YtongajonecgdpadSweepA
import Derived.Test.YtongajonecgdpadKeptP
namespace Go.Proofs.Ytongajonecgdpad
open Go.RowKit

theorem restr_len (bs : List Bool) (v : List Int) : (restr bs v).length = (keptL bs).length := by simp [restr]

set_option maxRecDepth 100000 in
set_option maxHeartbeats 4000000 in
theorem SweepDrop_any (d : NetD) (ins0 : Int) (ga ra oa : Option Addr) (gn gc rn rc on oc : Nat) (w : World) (h : NetAt w d ins0 ga gn ra rn oa on) (regs ins : List Int) (qa ia : Option Addr) (qn qc inn ic : Nat) (hr : Ints w qa qn regs) (hi : Ints w ia inn ins) (hnil : oa = none → oc = 0) (hs : (on + rn) * 8 ≤ 281474976710656) :
    Calls Try.prog 4 #[.agg #[.int .i64 ins0, .slice ga gn gc, .slice ra rn rc, .slice oa on oc], .slice qa qn qc, .slice ia inn ic] w fun e w' => e = .returned (.bool true) ∧ Below w.heap.size w w' := by
  have hb0 : Below w.heap.size w (w.alloc (.cells #[.int .i64 ins0, .slice ga gn gc, .slice ra rn rc, .slice oa on oc] 26)) := (Below.refl _ _).alloc (Nat.le_refl _) _
  have hbox : Boxed (w.alloc (.cells #[.int .i64 ins0, .slice ga gn gc, .slice ra rn rc, .slice oa on oc] 26)) w.heap.size ins0 ga gn gc ra rn rc oa on oc := Boxed.new _ _ _ _ _ _ _ _ _ _ _ _
  have hN := h.below hb0
  have hr0 := hr.below hb0
  have hi0 := hi.below hb0
  have HG : Hid (d.gates.length = gn) := h.gates.1.symm
  have HNI := hide hnil
  clear h hr hi hnil
  go_enter Try.func4, Try.ntmps4
  go_wp2_with fail
  refine (Drop_any d _ _ _ _ _ _ _ _ _ _ _ hN (unhide HNI) hs).mono ?_
  intro e w1 hD
  obtain ⟨bs, hM, hA⟩ := hD
  by_cases e0 : checkE d = 0
  case neg =>
    have hq : (checkE d != 0) = true := by simp [e0]
    obtain ⟨i1, ga1, gn1, gc1, ra1, rn1, rc1, oa1, on1, oc1, rfl, hN1, _, hb⟩ := hA
    have hb1 := (Below.refl _ w1).alloc (Nat.le_refl _) (.cells #[.int .i64 i1, .slice ga1 gn1 gc1, .slice ra1 rn1 rc1, .slice oa1 on1 oc1] 26)
    have hN2 := (hN.below hb).below hb1
    have hx2 := (hbox.below hb).below hb1
    have B2 := bstep (bstep hb0 hb) hb1
    obtain ⟨ck, hck⟩ : ∃ ck, checkE d = ck := ⟨_, rfl⟩
    rw [hck] at hq ⊢
    clear e0 hb hb0 hb1 hN hN1 hr0 hi0 hbox hM
    go_wp2_with fail
    refine (sweepBegun_any _).mono ?_
    rintro e w3 ⟨rfl, hb⟩
    have hN3 := hN2.below hb
    have hx3 := hx2.below hb
    have B3 := bstep B2 hb
    clear hb hN2 hx2 B2
    obtain ⟨x0, x1, x2, x3, x4⟩ := hx3
    go_wp2_with fail
    refine (CheckNet_any d _ _ _ _ _ _ _ _ _ _ _ hN3).mono ?_
    rintro e w4 ⟨rfl, hb⟩
    rw [hck]
    have R := hide (bstep B3 hb)
    clear hb B3 hN3 x0 x1 x2 x3 x4 hck
    go_wp2_with fail
    go_ret
    exact ⟨rfl, unhide R⟩
  have HCK := hide e0
  have hcl := clo_of (hM e0) e0
  have hok := ok_of e0
  have hgn : gn ≤ 200 := by have := hok.gates; have := HG.out; omega
  have hdo := drop_ok hcl e0
  have hok1 := ok_of hdo
  have HL1 := hide (And.intro hok1.outs hok1.regs)
  rw [show dropA d bs = dropW d bs by unfold dropA; rw [if_pos e0], e0] at hA
  have HM := hide (hM e0)
  have HD0 := hide hdo
  have HCL := hide hcl
  have HST := hide (drop_step hcl e0 regs ins)
  have HBL := hide (show bs.length = gn by rw [hcl.len]; exact HG.out)
  obtain ⟨i1, ga1, gn1, gc1, ra1, rn1, rc1, oa1, on1, oc1, rfl, hN1, hO1, hb⟩ := hA
  have hsz : (on1 + rn1) * 8 ≤ 281474976710656 := by have h1 := hN1.outs.1; have h2 := hN1.regs.1; have h3 := unhide HL1; omega
  have HG1 := hide (show gn1 = (keptL bs).length by rw [hN1.gates.1, drop_len])
  have hgle : gn1 ≤ gn := by rw [unhide HG1, ← unhide HBL]; exact kept_le bs
  have hgli : ¬ (gn1 : Int) > (gn : Int) := by omega
  have HO1 := hide (unhide hO1)
  have hb1 := (Below.refl _ w1).alloc (Nat.le_refl _) (.cells #[.int .i64 i1, .slice ga1 gn1 gc1, .slice ra1 rn1 rc1, .slice oa1 on1 oc1] 26)
  have hy2 := Boxed.new w1 i1 ga1 ra1 oa1 gn1 gc1 rn1 rc1 on1 oc1 26
  have hD2 := hN1.below hb1
  have hN2 := (hN.below hb).below hb1
  have hr2 := (hr0.below hb).below hb1
  have hi2 := (hi0.below hb).below hb1
  have hx2 := (hbox.below hb).below hb1
  have B2 := bstep (bstep hb0 hb) hb1
  clear e0 hb hb0 hb1 hN hN1 hr0 hi0 hbox hM hcl hok hdo hok1 hO1
  generalize hw2 : w1.alloc (.cells #[.int .i64 i1, .slice ga1 gn1 gc1, .slice ra1 rn1 rc1, .slice oa1 on1 oc1] 26) = w2 at *
  have hx2' := hx2
  obtain ⟨x0, x1, x2, x3, x4⟩ := hx2'
  go_wp2_with fail
  refine (CheckNet_any d _ _ _ _ _ _ _ _ _ _ _ hN2).mono ?_
  rintro e w3 ⟨rfl, hb⟩
  rw [unhide HCK]
  have hD3 := hD2.below hb
  have hN3 := hN2.below hb
  have hr3 := hr2.below hb
  have hi3 := hi2.below hb
  have hx3 := hx2.below hb
  have hy3 := hy2.below hb
  have B3 := bstep B2 hb
  clear hb hD2 hN2 hr2 hi2 hx2 hy2 B2 x0 x1 x2 x3 x4 hw2
  have hy3' := hy3
  obtain ⟨y0, y1, y2, y3, y4⟩ := hy3'
  go_wp2_with fail
  refine (Check_any (dropW d bs) _ _ _ _ _ _ _ _ _ _ _ hD3).mono ?_
  rintro e w4 ⟨rfl, hb⟩
  rw [unhide HD0]
  have hD4 := hD3.below hb
  have hN4 := hN3.below hb
  have hr4 := hr3.below hb
  have hi4 := hi3.below hb
  have hx4 := hx3.below hb
  have hy4 := hy3.below hb
  have B4 := bstep B3 hb
  clear hb hD3 hN3 hr3 hi3 hx3 hy3 B3 y0 y1 y2 y3 y4
  have hx4' := hx4
  have hy4' := hy4
  obtain ⟨x0, x1, x2, x3, x4⟩ := hx4'
  obtain ⟨y0, y1, y2, y3, y4⟩ := hy4'
  go_wp2_with fail
  refine (Drop_any (dropW d bs) _ _ _ _ _ _ _ _ _ _ _ hD4 (unhide HO1) hsz).mono ?_
  intro e w5 hD
  obtain ⟨cs, hM2, hA⟩ := hD
  rw [show dropA (dropW d bs) cs = dropW d bs by unfold dropA; rw [if_pos (unhide HD0)]; exact drop_twice (unhide HM) (unhide HCK) (hM2 (unhide HD0)), unhide HD0] at hA
  obtain ⟨i5, ga5, gn5, gc5, ra5, rn5, rc5, oa5, on5, oc5, rfl, hN5, _, hb⟩ := hA
  have hb5 := (Below.refl _ w5).alloc (Nat.le_refl _) (.cells #[.int .i64 i5, .slice ga5 gn5 gc5, .slice ra5 rn5 rc5, .slice oa5 on5 oc5] 26)
  have hz6 := Boxed.new w5 i5 ga5 ra5 oa5 gn5 gc5 rn5 rc5 on5 oc5 26
  have hE6 := hN5.below hb5
  have hD6 := (hD4.below hb).below hb5
  have hN6 := (hN4.below hb).below hb5
  have hr6 := (hr4.below hb).below hb5
  have hi6 := (hi4.below hb).below hb5
  have hx6 := (hx4.below hb).below hb5
  have hy6 := (hy4.below hb).below hb5
  have B6 := bstep (bstep B4 hb) hb5
  clear hb hb5 hD4 hN4 hr4 hi4 hx4 hy4 B4 hN5 hM2 x0 x1 x2 x3 x4 y0 y1 y2 y3 y4
  generalize hw6 : w5.alloc (.cells #[.int .i64 i5, .slice ga5 gn5 gc5, .slice ra5 rn5 rc5, .slice oa5 on5 oc5] 26) = w6 at *
  have hy6' := hy6
  obtain ⟨y0, y1, y2, y3, y4⟩ := hy6'
  obtain ⟨z0, z1, z2, z3, z4⟩ := hz6
  go_wp2_with fail
  refine (SameNets_any (dropW d bs) _ _ _ _ _ _ _ _ _ _ _ _ _ _ _ _ _ _ _ _ _ hD6 hE6).mono ?_
  rintro e w7 ⟨rfl, hb⟩
  have hD7 := hD6.below hb
  have hN7 := hN6.below hb
  have hr7 := hr6.below hb
  have hi7 := hi6.below hb
  have hx7 := hx6.below hb
  have hy7 := hy6.below hb
  have B7 := bstep B6 hb
  clear hb hD6 hE6 hN6 hr6 hi6 hx6 hy6 B6 y0 y1 y2 y3 y4 z0 z1 z2 z3 z4 hw6
  have hx7' := hx7
  obtain ⟨x0, x1, x2, x3, x4⟩ := hx7'
  go_wp2_with fail
  refine (Step_any d _ _ _ _ _ _ _ _ _ _ _ hN7 regs ins _ _ _ _ _ _ hr7 hi7).mono ?_
  rintro e w8 ⟨xa, xn, xc, v, rfl, hV8, hAn, hb⟩
  have hD8 := hD7.below hb
  have hN8 := hN7.below hb
  have hr8 := hr7.below hb
  have hi8 := hi7.below hb
  have hx8 := hx7.below hb
  have hy8 := hy7.below hb
  have B8 := bstep B7 hb
  clear hb hD7 hN7 hr7 hi7 hx7 hy7 B7 x0 x1 x2 x3 x4
  obtain ⟨y0, y1, y2, y3, y4⟩ := hy8
  go_wp2_with fail
  refine (Step_any (dropW d bs) _ _ _ _ _ _ _ _ _ _ _ hD8 regs ins _ _ _ _ _ _ hr8 hi8).mono ?_
  rintro e w9 ⟨ya, yn, yc, u, rfl, hU9, hBn, hb⟩
  rw [unhide HST]
  have hN9 := hN8.below hb
  have hV9 := hV8.below hb
  have hx9 := hx8.below hb
  have B9 := bstep B8 hb
  have HAn := hide hAn
  have HBn := hide hBn
  clear hb hD8 hN8 hr8 hi8 hx8 B8 hV8 hAn hBn y0 y1 y2 y3 y4
  by_cases e1 : stepE d regs ins = 0
  case neg =>
    have hq : (stepE d regs ins != 0) = true := by simp [e1]
    obtain ⟨st, hst⟩ : ∃ st, stepE d regs ins = st := ⟨_, rfl⟩
    rw [hst] at hq ⊢
    clear e1 hst HST HAn HBn
    go_wp2_with fail
    refine (sweepBegun_any _).mono ?_
    rintro e w10 ⟨rfl, hb⟩
    have R := hide (bstep B9 hb)
    clear hb B9
    go_wp2_with fail
    go_ret
    exact ⟨rfl, unhide R⟩
  have hvl : v = lfp d regs ins := ((unhide HAn).1 e1).1.is
  have hul : u = restr bs v := by rw [hvl, ((unhide HBn).1 (by rw [unhide HST]; exact e1)).1.is, drop_lfp (unhide HCL)]
  have HVL := hide (show v.length = gn by rw [hvl, (lfp_least d regs ins).len]; exact HG.out)
  have hxn : xn = gn := by rw [hV9.1]; exact unhide HVL
  have hyn : yn = gn1 := by rw [hU9.1, hul, restr_len, unhide HG1]
  subst hxn
  subst hyn
  have HRS := hide (show ∀ k (hk : k < v.length), bs.getD k false = true → ∃ h : atN bs k < u.length, u[atN bs k] = v[k] from fun k hk hb => by
    have h1 := restr_at v hb
    have h2 : atN bs k < u.length := by rw [hul, restr_len]; exact at_lt hb
    refine ⟨h2, ?_⟩
    rw [← hul] at h1
    simpa [List.getD_eq_getElem?_getD, h2, hk] using h1)
  have HYN := hide (show yn = atN bs bs.length by rw [unhide HG1, kept_len])
  rw [e1]
  clear e1 hvl hul HST HAn HBn
  obtain ⟨x0, x1, x2, x3, x4⟩ := hx9
  go_wp2_with fail
  refine (KeptOf_any d _ _ _ _ _ _ _ _ _ _ _ hN9 (unhide HCK) (unhide HNI)).mono ?_
  rintro e w10 ⟨ta, tn, tc, bs', rfl, hT, htn, hM', hb⟩
  obtain rfl : bs = bs' := (unhide HM).same hM'
  have hV10 := hV9.below hb
  have hU10 := hU9.below hb
  have B10 := bstep B9 hb
  obtain rfl : tn = xn := by rw [htn]; exact unhide HBL
  clear hb hN9 hV9 hU9 B9 hM' x0 x1 x2 x3 x4
  go_wp2_with fail
  go_loopw [16, 17] (fun q' i' wr => ∃ k : Nat, k ≤ tn ∧ i' = .int .i64 k ∧ q' = .int .i64 (atN bs k : Nat) ∧ Below w10.heap.size w10 wr) (fun _ i' _ => tn - (intOf i').toNat)
  case atStart => exact ⟨0, Nat.zero_le _, rfl, rfl, Below.refl _ _⟩
  case round =>
    obtain ⟨k, hk, rfl, rfl, hbel⟩ := hrel
    by_cases hlt : k < tn
    · have hki : (k : Int) < (tn : Int) := by omega
      have hkv : k < v.length := by have := unhide HVL; omega
      have hat := at_le bs k
      have hkt : k < (kTo bs tn).length := by rw [kTo_len]; exact hlt
      obtain ⟨tb, tf, rfl, htb, ct⟩ := (hT.below hbel).at hkt
      obtain ⟨xb, xo, rfl, hxb, cx⟩ := (hV10.below hbel).at hkv
      have hte : (kTo bs tn)[k] = toV bs k := by simp [kTo]
      rw [hte] at ct
      clear hte hkt
      cases eb : bs.getD k false
      · rw [show toV bs k = -1 by unfold toV; rw [eb]; rfl] at ct
        have HAT := hide (show atN bs (k + 1) = atN bs k by rw [atN_succ, eb]; simp)
        clear eb
        go_wp2_with fail
        exact ⟨⟨k + 1, by omega, by go_num, by rw [unhide HAT], hbel⟩, by simp [intOf]; omega⟩
      · rw [toV_of eb] at ct
        have HAT := hide (show atN bs (k + 1) = atN bs k + 1 by rw [atN_succ, eb]; simp)
        obtain ⟨hqu, huv⟩ := unhide HRS k hkv eb
        obtain ⟨yb, yo, rfl, hyb, cy⟩ := (hU10.below hbel).at hqu
        rw [huv] at cy
        have hqy : atN bs k < yn := by have := hU10.1; omega
        clear huv eb
        generalize atN bs k = q at *
        have hq0 : ¬ (q : Int) < 0 := by omega
        have hq1 : ¬ (yn : Int) ≤ (q : Int) := by omega
        have hq2 : (q : Int) < (yn : Int) := by omega
        generalize v[k] = vk at *
        go_wp2_with fail
        have hd1 : ((yn : Int) ≤ (q : Int)) = False := by simp; omega
        have hd2 : (yn ≤ q) = False := by simp; omega
        have hd3 : decide ((yn : Int) ≤ (q : Int)) = false := by simp; omega
        have hd4 : decide ((q : Int) ≥ (yn : Int)) = false := by simp; omega
        go_region_held3 (fun W => W.cell? ⟨tb, tf + k, none⟩ = some (.int .i64 (q : Int)) ∧ W.cell? ⟨xb, xo + k, none⟩ = some (.int .i64 vk) ∧ W.cell? ⟨yb, yo + q, none⟩ = some (.int .i64 vk))
          ((exact ⟨ct, cx, cy⟩))
          (fail)
        all_goals (have R := hide (show Below w10.heap.size w10 wr.drew from hbel.drew))
        all_goals clear ct cx cy
        all_goals go_wp2_with fail
        all_goals exact ⟨⟨k + 1, by omega, by go_num, by rw [unhide HAT]; go_num, unhide R⟩, by simp [intOf]; omega⟩
    · have hkn : k = tn := by omega
      subst hkn
      have HYE := hide (show atN bs k = yn by rw [unhide HYN, unhide HBL])
      rw [unhide HYE]
      go_wp2_with fail
      refine (sweepBegun_any _).mono ?_
      rintro e w12 ⟨rfl, hb⟩
      have R := hide (bstep (bstep B10 hbel) hb)
      clear hb hbel B10
      go_wp2_with fail
      go_ret
      exact ⟨rfl, unhide R⟩
end Go.Proofs.Ytongajonecgdpad
