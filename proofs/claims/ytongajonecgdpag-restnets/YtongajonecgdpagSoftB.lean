/- sweep.Fold: each row of what it answers was made since, no cell of it frozen. -/
import Derived.Test.YtongajonecgdpagSoftA
namespace Go.Proofs.Ytongajonecgdpag
open Go.RowKit

/-- The rows of a net were made since, no cell of them frozen. -/
def NetSoft (w : World) (base : Nat) (ga : Option Addr) (gn : Nat) (ra : Option Addr) (rn : Nat) (oa : Option Addr) (on : Nat) : Prop :=
  Soft w base ga gn ∧ Soft w base ra rn ∧ Soft w base oa on ∧ ∀ g off, ga = some ⟨g, off, none⟩ → ∀ j, j < gn → ∀ aa an ac, w.cell? ⟨g, off + j * 3 + 2, none⟩ = some (.slice aa an ac) → Soft w base aa an
theorem NetSoft.empty (w : World) (base : Nat) : NetSoft w base none 0 none 0 none 0 := ⟨Or.inl rfl, Or.inl rfl, Or.inl rfl, fun _ _ h => by simp at h⟩
def SoftAns (d : NetD) (E : Int) (w w' : World) (e : Ending) : Prop := ∃ ins1 ga gn gc ra rn rc oa on oc, e = .returned (.tuple #[.agg #[.int .i64 ins1, .slice ga gn gc, .slice ra rn rc, .slice oa on oc], .int .i64 E]) ∧ NetAt w' d ins1 ga gn ra rn oa on ∧ Hid (oa = none → oc = 0) ∧ NetSoft w' w.heap.size ga gn ra rn oa on ∧ Below w.heap.size w w'
def GSoft (w : World) (g : Nat) (vs : List Value) (k : Nat) : Prop := ∀ j, j < k → ∀ aa an ac, vs[j * 3 + 2]? = some (.slice aa an ac) → Soft w (g + 1) aa an
theorem GSoft.keep {w w' : World} {g k : Nat} {vs : List Value} (h : GSoft w g vs k) (hk : ∀ j, g + 1 ≤ j → j < w.heap.size → w'.heap[j]? = w.heap[j]?) : GSoft w' g vs k := fun j hj aa an ac he => (h j hj aa an ac he).keep hk
theorem GSoft.more {w : World} {g k : Nat} {vs : List Value} (h : GSoft w g vs k) {u v : Value} {aa : Option Addr} {an ac : Nat} (hS : Soft w (g + 1) aa an) (hl : k * 3 + 2 < vs.length) : GSoft w g (((vs.set (k * 3) u).set (k * 3 + 1) v).set (k * 3 + 2) (.slice aa an ac)) (k + 1) := by
  intro j hj a' n' c' he
  by_cases e : j = k
  · subst e
    rw [List.getElem?_set_self (by simp; omega)] at he
    injection he with he
    injection he with e1 e2 _
    subst e1; subst e2
    exact hS
  · rw [List.getElem?_set_ne (by omega), List.getElem?_set_ne (by omega), List.getElem?_set_ne (by omega)] at he
    exact h j (by omega) a' n' c' he

set_option maxRecDepth 100000 in
set_option maxHeartbeats 2000000 in
theorem Fold_soft (d : NetD) (ins0 : Int) (ga ra oa : Option Addr) (gn gc rn rc on oc : Nat) (w : World) (h : NetAt w d ins0 ga gn ra rn oa on) :
    Calls Try.prog 16 #[.agg #[.int .i64 ins0, .slice ga gn gc, .slice ra rn rc, .slice oa on oc]] w fun e w' => SoftAns (foldA d) (checkE d) w w' e := by
  have hb0 : Below w.heap.size w (w.alloc (.cells #[.int .i64 ins0, .slice ga gn gc, .slice ra rn rc, .slice oa on oc] 39)) := (Below.refl _ _).alloc (Nat.le_refl _) _
  have hbox : Boxed (w.alloc (.cells #[.int .i64 ins0, .slice ga gn gc, .slice ra rn rc, .slice oa on oc] 39)) w.heap.size ins0 ga gn gc ra rn rc oa on oc := Boxed.new _ _ _ _ _ _ _ _ _ _ _ _
  have hb1 := (Below.refl _ (w.alloc (.cells #[.int .i64 ins0, .slice ga gn gc, .slice ra rn rc, .slice oa on oc] 39))).alloc (Nat.le_refl _) (.cells #[.int .i64 0, .slice none 0 0, .slice none 0 0, .slice none 0 0] 39)
  have hc0 := Cells.new (w.alloc (.cells #[.int .i64 ins0, .slice ga gn gc, .slice ra rn rc, .slice oa on oc] 39)) [.int .i64 0, .slice none 0 0, .slice none 0 0, .slice none 0 0] 39
  have hsz : (w.alloc (.cells #[.int .i64 ins0, .slice ga gn gc, .slice ra rn rc, .slice oa on oc] 39)).heap.size = w.heap.size + 1 := by simp
  rw [hsz] at hc0
  have hN := (h.below hb0).below hb1
  have hx := hbox.below hb1
  have B0 := bstep hb0 hb1
  have HG : Hid (d.gates.length = gn) := h.gates.1.symm
  clear h hb0 hb1 hbox hsz
  obtain ⟨i0, hi, hz0, hz1, hz2⟩ := info_parts Try.infoGate
  go_enter Try.func16, Try.ntmps16
  go_wp2_with fail
  refine (Check_any d _ _ _ _ _ _ _ _ _ _ _ hN).mono ?_
  rintro e w1 ⟨rfl, hb⟩
  have B1 := bstep B0 hb
  have hN1 := hN.below hb
  have hx1 := hx.below hb
  have hc1 := hc0.below hb hc0.lt
  clear hb B0 hN hx hc0
  by_cases e0 : checkE d = 0
  case neg =>
    have HA := hide (show foldA d = emptyD by unfold foldA; rw [if_neg e0])
    have hq : (checkE d != 0) = true := by simp [e0]
    have z0 := hc1.cell 0
    have z1 := hc1.cell 1
    have z2 := hc1.cell 2
    have z3 := hc1.cell 3
    have f0 := hc1.frozen 0
    have f1 := hc1.frozen 1
    have f2 := hc1.frozen 2
    have f3 := hc1.frozen 3
    have hc5 := (((hc1.set 0 (.int .i64 0)).set 1 (.slice none 0 0)).set 2 (.slice none 0 0)).set 3 (.slice none 0 0)
    have y0 := hc5.cell 0
    have y1 := hc5.cell 1
    have y2 := hc5.cell 2
    have y3 := hc5.cell 3
    have B5 := (((B1.setCell (p := ⟨w.heap.size + 1, 0, none⟩) (Nat.le_succ _) (.int .i64 0)).setCell (p := ⟨w.heap.size + 1, 1, none⟩) (Nat.le_succ _) (.slice none 0 0)).setCell (p := ⟨w.heap.size + 1, 2, none⟩) (Nat.le_succ _) (.slice none 0 0)).setCell (p := ⟨w.heap.size + 1, 3, none⟩) (Nat.le_succ _) (.slice none 0 0)
    clear e0
    go_wp2_with fail
    exact bodyPost_ret (v := .tuple #[.agg #[.int .i64 0, .slice none 0 0, .slice none 0 0, .slice none 0 0], .int .i64 (checkE d)]) (by simp [results, Try.results16, go_sem, y0, y1, y2, y3]) rfl ⟨_, _, _, _, _, _, _, _, _, _, rfl, by rw [unhide HA]; exact NetAt.empty _, fun _ => rfl, NetSoft.empty _ _, B5⟩
  have HCK := hide e0
  have hok := ok_of e0
  have HA := hide (show foldA d = foldD d by unfold foldA; rw [if_pos e0])
  have hii := hN1.ins
  obtain ⟨i, hie⟩ := Int.eq_ofNat_of_zero_le (show 0 ≤ ins0 by have := hok.ins.1; omega)
  subst hie
  have hi20 : i ≤ 20 := by have := hok.ins.2; omega
  have hrn : rn ≤ 20 := by have := hok.regs; have := hN1.regs.1; omega
  have hgn : gn ≤ 200 := by have := hok.gates; have := HG.out; omega
  have hon : on ≤ 100 := by have := hok.outs; have := hN1.outs.1; omega
  have HRT := hide (show ∀ k (hk : k < d.gates.length), d.gates[k].args.length ≤ 16 from fun k hk => (hok.each _ (List.getElem_mem hk)).few)
  have HRL := hide (show d.regs.length = rn from hN1.regs.1.symm)
  have HIL := hide (show d.ins.toNat = i by omega)
  have HST := hide (show stepE d (openV rn) (openV i) = 0 by
    unfold stepE
    rw [if_pos e0, if_pos ⟨by simp [openV]; exact hN1.regs.1, by simp [openV]; omega⟩, show vals (openV rn) = true from vals_open _, show vals (openV i) = true from vals_open _]; rfl)
  rw [e0]
  clear e0 hok hii
  have hx0 := hx1
  obtain ⟨x0, x1, x2, x3, x4⟩ := hx1
  have hbd := (Below.refl w1.heap.size w1).drew
  go_wp2_with fail
  go_region_held3 (fun W => Below w1.heap.size w1 W ∧ W.cell? ⟨w.heap.size, 0, none⟩ = some (.int .i64 (i : Int)) ∧ W.cell? ⟨w.heap.size, 1, none⟩ = some (.slice ga gn gc) ∧ W.cell? ⟨w.heap.size, 2, none⟩ = some (.slice ra rn rc) ∧ W.cell? ⟨w.heap.size, 3, none⟩ = some (.slice oa on oc))
    ((first | exact held_start hx0 | exact held_of hx0 hSA | exact held_of hx0 hSB | exact held_of hx0 hSD))
    ((first
      | (go_at_call_of 38 (Value.int IntKind.i64 (rn : Int)); refine (open_any rn hrn _).mono ?_; rintro e wA ⟨aA, cA, rfl, hIA, hbA⟩; have hSA := bstep hbd hbA)
      | (go_at_call_of 38 (Value.int IntKind.i64 (i : Int)); refine (open_any i hi20 _).mono ?_; rintro e wB ⟨aB, cB, rfl, hIB, hbB⟩; have hSB := bstep hSA hbB)
      | (go_at_call 18; refine (Step_any d _ _ _ _ _ _ _ _ _ _ _ (hN1.below hSB) (openV rn) (openV i) aA aB rn cA i cB (hIA.below hbB) hIB).mono ?_; rintro e wD ⟨va, vn, vc, v, rfl, hV, hAn, hbD⟩; have hSD := bstep hSB hbD)))
  obtain ⟨hL, _⟩ := hAn.1 (unhide HST)
  have hv : v = foldV d := by
    rw [hL.is]; unfold foldV; rw [unhide HRL, unhide HIL]
  have hvl : v.length = gn := by rw [hL.1]; exact HG.out
  have hvn : vn = gn := by rw [hV.1]; exact hvl
  subst hvn
  have HVF := hide hv
  have HVL := hide hvl
  rw [unhide HST]
  have hxD := hx0.below hSD
  have hND := hN1.below hSD
  have hcD := hc1.below hSD hc1.lt
  have BD := bstep B1 hSD
  clear hIA hIB hbA hbB hbD hSA hSB hSD hAn hL hv hvl hx0 hN1 hc1 B1 hbd x0 x1 x2 x3 x4
  have hxD0 := hxD
  obtain ⟨x0, x1, x2, x3, x4⟩ := hxD
  go_wp2_with (at_make; refine wpList_make_full _ rfl _ _ 35 rfl wD.heap.size 46 i0 (.agg #[.int .i64 0, .int .i64 0, .slice none 0 0]) 3 Try.underlying35 hi hz0 hz1 .i64 .i64 (vn : Int) (vn : Int) vn rfl rfl rfl rfl ?c1 ?c2 ?c3 ?_)
  case c1 => rw [hz2]; omega
  case c2 => unfold maxLen; omega
  case c3 => exact Nat.le_refl _
  intro w5 hown hgrow
  have hb5 : Below wD.heap.size wD w5 := (Below.refl _ _).grown hgrow (Nat.le_refl _) (fun k hk => by simp at hk)
  obtain ⟨vs0, hvs0, hvl0⟩ := made_cells hown
  clear hown hgrow hi hz0 hz1 hz2 x0 x1 x2 x3 x4
  obtain ⟨x0, x1, x2, x3, x4⟩ := hxD0.below hb5
  go_wp2_with fail
  clear x0 x1 x2 x3 x4
  go_loopw [42] (fun i wr => ∃ (k : Nat) (vs : List Value), k ≤ vn ∧ i = .int .i64 k ∧ vs.length = vn * 3 ∧ Cells wr wD.heap.size vs 46 ∧ GOuts wr wD.heap.size vs ((foldD d).gates.take k) ∧ GSoft wr wD.heap.size vs k ∧ Below wD.heap.size wD wr) (fun i _ => vn - (intOf i).toNat)
  case atStart => exact ⟨0, vs0, Nat.zero_le _, rfl, hvl0, hvs0, by intro j hj; simp at hj, fun j hj => by omega, hb5⟩
  case round =>
    clear hvs0 hvl0 hb5
    obtain ⟨k, vs, hk, rfl, hvl, hcs, hGO, hGS, hbel⟩ := hrel
    by_cases hlt : k < vn
    · have hki : (k : Int) < (vn : Int) := by omega
      have hkg : k < d.gates.length := by have := HG.out; omega
      obtain ⟨b, off, aa, an, ac, rfl, hbb, c1, c2, c3, hI⟩ := (hND.gates.below hbel).at' hkg
      have hfew : an ≤ 100 := by have h1 := hI.1; have h2 := unhide HRT k hkg; omega
      have hkv : k < v.length := by have := unhide HVL; omega
      obtain ⟨bv, ov, rfl, hbv, cv⟩ := (hV.below hbel).at hkv
      have hbvD : bv < wD.heap.size := by
        obtain ⟨bv', ov', h1, h2, _⟩ := hV.at hkv
        injection h1 with h1; injection h1 with h1; omega
      have HTK := hide (show (foldD d).gates.take (k + 1) = (foldD d).gates.take k ++ [foldG v[k] d.gates[k]] by
        rw [fold_take d k hkg]
        have : (foldV d).getD k 2 = v[k] := by rw [← unhide HVF]; simp [List.getD_eq_getElem?_getD, hkv]
        rw [this])
      have HLK := hide (show ((foldD d).gates.take k).length = k by rw [List.length_take, fold_len]; omega)
      have hal := (Below.refl _ wr).alloc (Nat.le_refl _) (.cells #[.int .i64 d.gates[k].kind, .int .i64 d.gates[k].n, .slice aa an ac] 46)
      have hgb := GBox.new wr d.gates[k].kind d.gates[k].n aa an ac 46
      have hI6 := hI.below hal
      have cv6 := (hal.cell (p := ⟨bv, ov + k, none⟩) hbv).trans cv
      have hcs6 := hcs.below hal hcs.lt
      have hGO6 := hGO.keep hal.size (fun j _ hj => hal.block j hj)
      have HGS6 := hide (hGS.keep (fun j _ hj => hal.block j hj))
      have B6 := bstep hbel hal
      have hgl := hcs.lt
      have HVV := hide hvl
      clear hI cv hcs hGO hGS hbel hvl
      go_wp2_with fail
      clear c1 c2 c3
      generalize hw6 : wr.alloc (.cells #[.int .i64 d.gates[k].kind, .int .i64 d.gates[k].n, .slice aa an ac] 46) = w6 at *
      clear hw6
      obtain ⟨y0, y1, y2, y3⟩ := hgb
      have hbd := (Below.refl w6.heap.size w6).drew
      have hbv6 := Nat.lt_of_lt_of_le hbv hal.size
      have hgl6 := hcs6.lt
      have hne1 : wr.heap.size ≠ wD.heap.size := by omega
      have hne2 : bv ≠ wD.heap.size := by omega
      go_region_held3 (fun W => But wD.heap.size w6 W ∧ W.cell? ⟨wr.heap.size, 0, none⟩ = some (.int .i64 d.gates[k].kind) ∧ W.cell? ⟨wr.heap.size, 1, none⟩ = some (.int .i64 d.gates[k].n) ∧ W.cell? ⟨wr.heap.size, 2, none⟩ = some (.slice aa an ac) ∧ W.cell? ⟨bv, ov + k, none⟩ = some (.int .i64 v[k]))
        ((first | exact heldb_of ⟨⟨y0, hne1⟩, y1⟩ ⟨⟨y0, hne1⟩, y2⟩ ⟨⟨y0, hne1⟩, y3⟩ ⟨⟨hbv6, hne2⟩, cv6⟩ (But.of (Below.refl _ _).drew (Nat.le_of_lt hgl6)) | exact heldb_of ⟨⟨y0, hne1⟩, y1⟩ ⟨⟨y0, hne1⟩, y2⟩ ⟨⟨y0, hne1⟩, y3⟩ ⟨⟨hbv6, hne2⟩, cv6⟩ (But.of hSB (Nat.le_of_lt hgl6)) | exact heldb_of ⟨⟨y0, hne1⟩, y1⟩ ⟨⟨y0, hne1⟩, y2⟩ ⟨⟨y0, hne1⟩, y3⟩ ⟨⟨hbv6, hne2⟩, cv6⟩ ((((But.of hSB (Nat.le_of_lt hgl6)).set _ _).set _ _).set _ _)))
        ((first
          | (go_at_call 40; refine (fold_soft d.gates[k] aa an ac v[k] _ (hI6.below hbd) hfew).mono ?_; rintro e wB ⟨aB, nB, cB, rfl, hIB, hSf, hbB⟩; have hFB := hSf.fresh; have hSB := bstep hbd hbB; have hcB := hcs6.below hSB hgl6; have z0 : ∃ z, wB.cell? ⟨wD.heap.size, k * 3, none⟩ = some z := ⟨_, (hcB.cell _).trans (List.getElem?_eq_getElem (by have := unhide HVV; omega))⟩; have z1 : ∃ z, wB.cell? ⟨wD.heap.size, k * 3 + 1, none⟩ = some z := ⟨_, (hcB.cell _).trans (List.getElem?_eq_getElem (by have := unhide HVV; omega))⟩; have z2 : ∃ z, wB.cell? ⟨wD.heap.size, k * 3 + 2, none⟩ = some z := ⟨_, (hcB.cell _).trans (List.getElem?_eq_getElem (by have := unhide HVV; omega))⟩; obtain ⟨zz0, z0⟩ := z0; obtain ⟨zz1, z1⟩ := z1; obtain ⟨zz2, z2⟩ := z2; have f0 := hcB.frozen (k * 3); have f1 := hcB.frozen (k * 3 + 1); have f2 := hcB.frozen (k * 3 + 2))))
      have hFg := hFB.down (b' := wD.heap.size + 1) (Nat.le_trans hgl6 hbd.size)
      have R1 := ((hcB.set (k * 3) (.int .i64 (foldG v[k] d.gates[k]).kind)).set (k * 3 + 1) (.int .i64 (foldG v[k] d.gates[k]).n)).set (k * 3 + 2) (.slice aB nB cB)
      have R2 : GOuts (((wB.setCell ⟨wD.heap.size, k * 3, none⟩ (.int .i64 (foldG v[k] d.gates[k]).kind)).setCell ⟨wD.heap.size, k * 3 + 1, none⟩ (.int .i64 (foldG v[k] d.gates[k]).n)).setCell ⟨wD.heap.size, k * 3 + 2, none⟩ (.slice aB nB cB)) wD.heap.size (((vs.set (k * 3) (.int .i64 (foldG v[k] d.gates[k]).kind)).set (k * 3 + 1) (.int .i64 (foldG v[k] d.gates[k]).n)).set (k * 3 + 2) (.slice aB nB cB)) ((foldD d).gates.take (k + 1)) := by
        have h9 := (hGO6.keep hSB.size (fun j _ hj => hSB.block j hj)).more (ac := cB) hIB hFg (by rw [unhide HLK, unhide HVV]; omega)
        rw [unhide HLK, ← unhide HTK] at h9
        exact h9.keep (Nat.le_of_eq (by simp)) (fun j h1 _ => (set_other (by omega)).trans ((set_other (by omega)).trans (set_other (by omega))))
      have R3 : Below wD.heap.size wD (((wB.setCell ⟨wD.heap.size, k * 3, none⟩ (.int .i64 (foldG v[k] d.gates[k]).kind)).setCell ⟨wD.heap.size, k * 3 + 1, none⟩ (.int .i64 (foldG v[k] d.gates[k]).n)).setCell ⟨wD.heap.size, k * 3 + 2, none⟩ (.slice aB nB cB)) := (((bstep B6 hSB).setCell (Nat.le_refl _) _).setCell (Nat.le_refl _) _).setCell (Nat.le_refl _) _
      have HL3 := hide (show (((vs.set (k * 3) (.int .i64 (foldG v[k] d.gates[k]).kind)).set (k * 3 + 1) (.int .i64 (foldG v[k] d.gates[k]).n)).set (k * 3 + 2) (.slice aB nB cB)).length = vn * 3 by simp; exact unhide HVV)
      have R4 : GSoft (((wB.setCell ⟨wD.heap.size, k * 3, none⟩ (.int .i64 (foldG v[k] d.gates[k]).kind)).setCell ⟨wD.heap.size, k * 3 + 1, none⟩ (.int .i64 (foldG v[k] d.gates[k]).n)).setCell ⟨wD.heap.size, k * 3 + 2, none⟩ (.slice aB nB cB)) wD.heap.size (((vs.set (k * 3) (.int .i64 (foldG v[k] d.gates[k]).kind)).set (k * 3 + 1) (.int .i64 (foldG v[k] d.gates[k]).n)).set (k * 3 + 2) (.slice aB nB cB)) (k + 1) := (((unhide HGS6).keep (fun j _ hj => hSB.block j hj)).more (ac := cB) (hSf.down (Nat.le_trans hgl6 hbd.size)) (by rw [unhide HVV]; omega)).keep (fun j h1 _ => (set_other (by omega)).trans ((set_other (by omega)).trans (set_other (by omega))))
      have R := hide (And.intro R1 (And.intro R2 (And.intro R4 R3)))
      clear R1 R2 R3 R4 hSf HGS6 hcB hIB hFB hFg hbB hSB z0 z1 z2 f0 f1 f2 hGO6 hcs6 hI6 cv6 y1 y2 y3 hal
      go_wp2_with fail
      exact ⟨⟨k + 1, _, by omega, by go_num, unhide HL3, (unhide R).1, (unhide R).2.1, (unhide R).2.2.1, (unhide R).2.2.2⟩, by simp [intOf]; omega⟩
    · rw [List.take_of_length_le (by rw [fold_len]; have := HG.out; omega)] at hGO
      have HFL := hide (show vn = (foldD d).gates.length by rw [fold_len]; exact HG.out.symm)
      have hNr := hND.below hbel
      have hcr := hcD.below hbel hcD.lt
      obtain ⟨x0, x1, x2, x3, x4⟩ := hxD0.below hbel
      have hxl := hxD0.1
      have hcl := hcD.lt
      have hbr := hbel.size
      have BR := bstep BD hbel
      have hgl := hcs.lt
      have hbd := (Below.refl wr.heap.size wr).drew
      have HCS := hide hcs
      have HGO := hide hGO
      have HGS := hide (show GSoft wr wD.heap.size vs vn by rw [show vn = k by omega]; exact hGS)
      have hcl2 := hcr.lt
      have HII := hide (show (i : Int) = d.ins from hND.ins)
      clear hcs hGO hGS hbel
      go_wp2_with fail
      clear x2
      go_region_held3 (fun W => Below (w.heap.size + 1) wr W ∧ W.cell? ⟨w.heap.size, 0, none⟩ = some (.int .i64 (i : Int)) ∧ W.cell? ⟨w.heap.size, 2, none⟩ = some (.slice ra rn rc) ∧ W.cell? ⟨w.heap.size, 3, none⟩ = some (.slice oa on oc))
        ((first | exact heldr_of (Nat.lt_succ_self _) x1 x3 x4 (Below.refl _ _).drew | exact heldr_of (Nat.lt_succ_self _) x1 x3 x4 (hSA.mono (Nat.le_of_lt hcl2)) | exact heldr_of (Nat.lt_succ_self _) x1 x3 x4 (hSB.mono (Nat.le_of_lt hcl2)) | exact heldr_of (Nat.lt_succ_self _) x1 x3 x4 (((((hSB.mono (Nat.le_of_lt hcl2)).setCell (Nat.le_refl _) _).setCell (Nat.le_refl _) _).setCell (Nat.le_refl _) _).setCell (Nat.le_refl _) _)))
        ((first
          | (go_at_call 41; refine (CloneS_soft d.regs ra rn rc _ (hNr.regs.below hbd) (by omega)).mono ?_; rintro e wA ⟨aA, cA, rfl, hIA, hSfA, hbA⟩; have hFA := hSfA.fresh; have hSA := bstep hbd hbA)
          | (go_at_call 42; refine (CloneI_soft d.outs oa on oc _ (hNr.outs.below hSA) hon).mono ?_; rintro e wB ⟨aB, cB, rfl, hIB, hSfB, hNB, hbB⟩; have hFB := hSfB.fresh; have hSB := bstep hSA hbB; have hcB := hcr.below hSB hcl2; have z0 := hcB.cell 0; have z1 := hcB.cell 1; have z2 := hcB.cell 2; have z3 := hcB.cell 3; have f0 := hcB.frozen 0; have f1 := hcB.frozen 1; have f2 := hcB.frozen 2; have f3 := hcB.frozen 3)))
      have hc9 := (((hcB.set 0 (.int .i64 (i : Int))).set 1 (.slice (some ⟨wD.heap.size, 0, none⟩) vn vn)).set 2 (.slice aA rn cA)).set 3 (.slice aB on cB)
      have y0 := hc9.cell 0
      have y1 := hc9.cell 1
      have y2 := hc9.cell 2
      have y3 := hc9.cell 3
      have B9 : Below w.heap.size w ((((wB.setCell ⟨w.heap.size + 1, 0, none⟩ (.int .i64 (i : Int))).setCell ⟨w.heap.size + 1, 1, none⟩ (.slice (some ⟨wD.heap.size, 0, none⟩) vn vn)).setCell ⟨w.heap.size + 1, 2, none⟩ (.slice aA rn cA)).setCell ⟨w.heap.size + 1, 3, none⟩ (.slice aB on cB)) := ((((bstep BR hSB).setCell (Nat.le_succ _) _).setCell (Nat.le_succ _) _).setCell (Nat.le_succ _) _).setCell (Nat.le_succ _) _
      have hoth : ∀ j, w.heap.size + 1 < j → ((((wB.setCell ⟨w.heap.size + 1, 0, none⟩ (.int .i64 (i : Int))).setCell ⟨w.heap.size + 1, 1, none⟩ (.slice (some ⟨wD.heap.size, 0, none⟩) vn vn)).setCell ⟨w.heap.size + 1, 2, none⟩ (.slice aA rn cA)).setCell ⟨w.heap.size + 1, 3, none⟩ (.slice aB on cB)).heap[j]? = wB.heap[j]? := fun j hj => (set_other (by omega)).trans ((set_other (by omega)).trans ((set_other (by omega)).trans (set_other (by omega))))
      have hs9 : ((((wB.setCell ⟨w.heap.size + 1, 0, none⟩ (.int .i64 (i : Int))).setCell ⟨w.heap.size + 1, 1, none⟩ (.slice (some ⟨wD.heap.size, 0, none⟩) vn vn)).setCell ⟨w.heap.size + 1, 2, none⟩ (.slice aA rn cA)).setCell ⟨w.heap.size + 1, 3, none⟩ (.slice aB on cB)).heap.size = wB.heap.size := by simp
      have hN9 : NetAt ((((wB.setCell ⟨w.heap.size + 1, 0, none⟩ (.int .i64 (i : Int))).setCell ⟨w.heap.size + 1, 1, none⟩ (.slice (some ⟨wD.heap.size, 0, none⟩) vn vn)).setCell ⟨w.heap.size + 1, 2, none⟩ (.slice aA rn cA)).setCell ⟨w.heap.size + 1, 3, none⟩ (.slice aB on cB)) (foldD d) (i : Int) (some ⟨wD.heap.size, 0, none⟩) vn aA rn aB on := by
        refine ⟨unhide HII, ?_, ?_, ?_⟩
        · have hc8 := (unhide HCS).below hSB hgl
          have hg8 := ((unhide HGO).keep hSB.size (fun j _ hj => hSB.block j hj)).keep (Nat.le_of_eq hs9.symm) (fun j h1 _ => hoth j (by omega))
          have hc8' : Cells _ wD.heap.size vs 46 := (show _ = _ from (hoth wD.heap.size (by omega)).trans hc8)
          exact hg8.gates hc8' (unhide HFL) (by unfold maxLen; omega)
        · exact ((hIA.below hbB).keep (hFA.down (b' := w.heap.size + 1 + 1) (Nat.le_trans hcl2 hbd.size)) (Nat.le_of_eq hs9.symm) (fun j h1 _ => hoth j (by omega)))
        · exact (hIB.keep (hFB.down (b' := w.heap.size + 1 + 1) (Nat.le_trans hcl2 hSA.size)) (Nat.le_of_eq hs9.symm) (fun j h1 _ => hoth j (by omega)))
      have hS9 : NetSoft ((((wB.setCell ⟨w.heap.size + 1, 0, none⟩ (.int .i64 (i : Int))).setCell ⟨w.heap.size + 1, 1, none⟩ (.slice (some ⟨wD.heap.size, 0, none⟩) vn vn)).setCell ⟨w.heap.size + 1, 2, none⟩ (.slice aA rn cA)).setCell ⟨w.heap.size + 1, 3, none⟩ (.slice aB on cB)) w.heap.size (some ⟨wD.heap.size, 0, none⟩) vn aA rn aB on := by
        have hc8 := (unhide HCS).below hSB hgl
        have hc8' : Cells _ wD.heap.size vs 46 := (show _ = _ from (hoth wD.heap.size (by omega)).trans hc8)
        refine ⟨Or.inr ⟨wD.heap.size, 0, _, _, rfl, by omega, hc8'⟩, ((hSfA.below hbB).keep (fun j h1 _ => hoth j (by have := hbd.size; omega))).down (by have := hbd.size; omega), (hSfB.keep (fun j h1 _ => hoth j (by have := hSA.size; omega))).down (by have := hSA.size; omega), fun g off he j hj aa an ac hcj => ?_⟩
        injection he with he
        injection he with e1 e2 _
        subst e1; subst e2
        rw [Nat.zero_add, hc8'.cell] at hcj
        exact (((unhide HGS j hj aa an ac hcj).keep (fun i _ hi => hSB.block i hi)).keep (fun i h1 _ => hoth i (by omega))).down (by omega)
      clear hSfA hSfB hcB hIA hIB hFA hFB hbA hbB hSA hSB z0 z1 z2 z3 f0 f1 f2 f3 hoth hs9
      go_wp2_with fail
      exact bodyPost_ret (v := .tuple #[.agg #[.int .i64 (i : Int), .slice (some ⟨wD.heap.size, 0, none⟩) vn vn, .slice aA rn cA, .slice aB on cB], .int .i64 0]) (by simp [results, Try.results16, go_sem, y0, y1, y2, y3]) rfl ⟨_, _, _, _, _, _, _, _, _, _, ret_net (unhide HCK).symm, by rw [unhide HA]; exact hN9, hNB, hS9, B9⟩
end Go.Proofs.Ytongajonecgdpag
