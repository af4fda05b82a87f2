/- sweep.moved: each row of what it answers was made since, no cell of it frozen. -/
import Derived.Test.YtongajonecgdpagSoftB
import Derived.Test.YtongajonecgdpagSweepW
import Derived.Deep.DeepCutAuto
import Derived.Deep.CutBlock
namespace Go.Proofs.Ytongajonecgdpag
open Go.RowKit Go.Maps

theorem alloc_bel (w : World) (o : Obj) : Below w.heap.size w (w.alloc o) := (Below.refl _ _).alloc (Nat.le_refl _) o
theorem Soft.set {w : World} {base g k : Nat} {v : Value} {a : Option Addr} {n : Nat} (h : Soft w base a n) : Soft (w.setCell ⟨g, k, none⟩ v) base a n := by
  rcases h with h | ⟨b, off, cs, T, h1, h2, h3⟩
  · exact Or.inl h
  · by_cases e : b = g
    · subst e
      have hc : Cells w b cs.toList T := by unfold Cells; rw [h3]
      exact Or.inr ⟨b, off, _, _, h1, h2, hc.set k v⟩
    · exact Or.inr ⟨b, off, cs, T, h1, h2, (set_other e).trans h3⟩
theorem soft_ab {wA : World} {B bm i rn on gR : Nat} {oa : Option Addr} {oc : Nat} (h : Soft wA B oa on) : Soft (four wA bm i rn on gR oa oc) B oa on := h.set.set.set.set
theorem soft_c {wA : World} {B bm i rn on gR : Nat} {oa : Option Addr} {oc : Nat} {o : Obj} (h : Soft wA B oa on) : Soft ((four wA bm i rn on gR oa oc).alloc o) B oa on := (soft_ab h).below (alloc_bel _ _)
theorem soft_d {wA : World} {B on : Nat} {oa : Option Addr} {o : Obj} (h : Soft wA B oa on) : Soft (wA.alloc o) B oa on := h.below (alloc_bel _ _)
theorem soft_e {wA : World} {B on : Nat} {oa : Option Addr} {o o' : Obj} (h : Soft wA B oa on) : Soft ((wA.alloc o).alloc o') B oa on := soft_d (soft_d h)
theorem soft_grown {wA w8 : World} {B : Nat} {a : Option Addr} {n : Nat} {o : Obj} {row : Option Nat} (h : Soft wA B a n) (hlt : ∀ g, row = some g → g < B) (hgr : (wA.alloc o).grownBy w8 row) : Soft w8 B a n := by
  have h' := soft_d (o := o) h
  rcases h' with h' | ⟨b, off, cs, T, h1, h2, h3⟩
  · exact Or.inl h'
  · exact Or.inr ⟨b, off, cs, T, h1, h2, (hgr.block b (Array.getElem?_eq_some_iff.1 h3).1 (fun e => by have := hlt b e.symm; omega)).trans h3⟩
theorem Soft.off {w w' : World} {B : Nat} {a : Option Addr} {n : Nat} {xs : List Int} {G : List Nat} (h : Soft w B a n) (ho : OffI w G a n xs) (hk : KeptG G w w') : Soft w' B a n := by
  rcases h with h | ⟨b, off, cs, T, h1, h2, h3⟩
  · exact Or.inl h
  · rcases ho.2 with h4 | ⟨b', off', ha, hlt, hG⟩
    · exact Or.inl h4
    · rw [h1] at ha
      injection ha with ha
      injection ha with e1 _ _
      subst e1
      exact Or.inr ⟨b, off, cs, T, h1, h2, (hk.2 b hlt hG).trans h3⟩
theorem Soft.but {w w' : World} {B gR : Nat} {a : Option Addr} {n : Nat} {vs : List Value} {T : TypeId} (h : Soft w B a n) (hk : KeptG [gR] w w') (hc : Cells w' gR vs T) : Soft w' B a n := by
  rcases h with h | ⟨b, off, cs, T', h1, h2, h3⟩
  · exact Or.inl h
  · by_cases e : b = gR
    · subst e; exact Or.inr ⟨b, off, _, _, h1, h2, hc⟩
    · exact Or.inr ⟨b, off, cs, T', h1, h2, (hk.2 b (Array.getElem?_eq_some_iff.1 h3).1 (by simpa using e)).trans h3⟩

def MSoft (w2 w : World) (oa : Option Addr) (on : Nat) (cs : List Value) : Prop := Soft w w2.heap.size oa on ∧ ∀ j aa an ac, cs[j * 3 + 2]? = some (.slice aa an ac) → Soft w w2.heap.size aa an
theorem MSoft.nil {w2 w : World} {oa : Option Addr} {on : Nat} (h : Soft w w2.heap.size oa on) : MSoft w2 w oa on [] := ⟨h, fun j aa an ac he => by simp at he⟩
theorem MSoft.on {w2 w w' : World} {oa : Option Addr} {on : Nat} {cs : List Value} (h : MSoft w2 w oa on cs) (hb : Below w.heap.size w w') : MSoft w2 w' oa on cs := ⟨h.1.below hb, fun j aa an ac he => (h.2 j aa an ac he).below hb⟩
theorem MSoft.more {w2 w6 w8 : World} {rz i rn on bm gR : Nat} {vs : List Value} {oa : Option Addr} {oc : Nat} {os : List Int} {pa : Option Addr} {pn pc : Nat} {cs : List Value} {gs : List GateD} {v : Value} (h : MSoft w2 w6 oa on cs) (hV : MInv w2 w6 rz i rn on bm gR vs oa oc os pa pn pc cs gs) (x y : Value) {aa : Option Addr} {an : Nat} (ac : Nat)
    (hgr : w6.grownBy w8 (Value.slice pa pn pc).ownBlock) (hS : Soft w8 w2.heap.size aa an) : MSoft w2 (w8.setCell ⟨bm, 1, none⟩ v) oa on (cs ++ [x, y, .slice aa an ac]) := by
  obtain ⟨h0, h1, h2, h3, h4, h5, h6⟩ := hV
  have hkg : KeptG (bm :: gR :: rz :: ownL (.slice pa pn pc)) w6 w8 := KeptG.grown hgr (fun b hb => by simp [ownL, hb])
  refine ⟨(h.1.off h3 hkg).set, fun j a' n' c' he => ?_⟩
  by_cases hj : j < gs.length
  · rw [List.getElem?_append_left (by have := h5.1; omega)] at he
    obtain ⟨a2, n2, c2, _, _, k3, k4⟩ := h5.2 j hj
    rw [he] at k3
    injection k3 with k3
    injection k3 with e1 e2 _
    subst e1; subst e2
    exact ((h.2 j _ _ _ he).off k4 hkg).set
  · rw [List.getElem?_append_right (by have := h5.1; omega)] at he
    by_cases e : j = gs.length
    · subst e
      rw [show gs.length * 3 + 2 - cs.length = 2 by have := h5.1; omega] at he
      simp at he
      obtain ⟨rfl, rfl, _⟩ := he
      exact hS.set
    · rw [List.getElem?_eq_none (by simp; have := h5.1; omega)] at he
      simp at he
theorem NetSoft.down {w : World} {b b' : Nat} {ga ra oa : Option Addr} {gn rn on : Nat} (h : NetSoft w b ga gn ra rn oa on) (hb : b' ≤ b) : NetSoft w b' ga gn ra rn oa on :=
  ⟨h.1.down hb, h.2.1.down hb, h.2.2.1.down hb, fun g off he j hj aa an ac hc => (h.2.2.2 g off he j hj aa an ac hc).down hb⟩
theorem moved_end {w2 wp wr : World} {rz i rn on bm gR : Nat} {vs vs' : List Value} {oa : Option Addr} {oc : Nat} {os : List Int} {pa : Option Addr} {pn pc : Nat} {cs : List Value} {gs : List GateD} (hV : MInv w2 wp rz i rn on bm gR vs oa oc os pa pn pc cs gs) (hM : MSoft w2 wp oa on cs) (hk : KeptG [gR] wp wr) (hc : Cells wr gR vs' 48) (hgR : w2.heap.size ≤ gR) (hr : rz < w2.heap.size) (u0 u1 u2 u3 : Value) :
    NetSoft ((((wr.setCell ⟨rz, 0, none⟩ u0).setCell ⟨rz, 1, none⟩ u1).setCell ⟨rz, 2, none⟩ u2).setCell ⟨rz, 3, none⟩ u3) w2.heap.size pa pn (some ⟨gR, 0, none⟩) rn oa on := by
  obtain ⟨h0, h1, h2, h3, h4, h5, h6⟩ := hV
  have up : ∀ {a : Option Addr} {n : Nat}, Soft wp w2.heap.size a n → Soft ((((wr.setCell ⟨rz, 0, none⟩ u0).setCell ⟨rz, 1, none⟩ u1).setCell ⟨rz, 2, none⟩ u2).setCell ⟨rz, 3, none⟩ u3) w2.heap.size a n := fun h => (h.but hk hc).set.set.set.set
  have hs : Soft wr w2.heap.size (some ⟨gR, 0, none⟩) rn := Or.inr ⟨gR, 0, _, _, rfl, hgR, hc⟩
  refine ⟨up (own_soft h4), hs.set.set.set.set, up hM.1, fun g off he j hj aa an ac hcj => ?_⟩
  subst he
  have n1 := own_ne h4 h2 (by decide)
  have hgne : g ≠ gR := fun e => n1 (by rw [← e]; rfl)
  have hgb : w2.heap.size ≤ g ∧ g < wp.heap.size := h4.lt g rfl
  rcases h4.2 with ⟨e1, _⟩ | ⟨g', cap, cur, e1, _⟩
  · simp at e1
  have hoff : off = 0 := by
    injection e1 with e1 _ _
    injection e1 with e1
    injection e1 with _ e2 _
  subst hoff
  have hW : ((((wr.setCell ⟨rz, 0, none⟩ u0).setCell ⟨rz, 1, none⟩ u1).setCell ⟨rz, 2, none⟩ u2).setCell ⟨rz, 3, none⟩ u3).heap[g]? = wp.heap[g]? :=
    (set_other (by omega)).trans ((set_other (by omega)).trans ((set_other (by omega)).trans ((set_other (by omega)).trans (hk.2 g hgb.2 (by simpa using hgne)))))
  rw [World.cell?_of_block (a := ⟨g, 0 + j * 3 + 2, Option.none⟩) hW, Nat.zero_add] at hcj
  have hl : j * 3 + 2 < cs.length := by have := h5.1; omega
  have hcell := h4.cellAt (j * 3 + 2) (by omega)
  rw [hcj] at hcell
  exact up (hM.2 j aa an ac hcell.symm)

set_option maxRecDepth 100000 in
set_option maxHeartbeats 20000000 in
theorem moved_soft (d : NetD) (bs : List Bool) (ins0 : Int) (ga ra oa : Option Addr) (gn gc rn rc on oc m : Nat) (w : World) (h : NetAt w d ins0 ga gn ra rn oa on) (hmap : MapAt w m bs gn) (hck : checkE d = 0) (hclo : Clo d bs) :
    Calls Try.prog 46 #[.agg #[.int .i64 ins0, .slice ga gn gc, .slice ra rn rc, .slice oa on oc], .map (some m)] w fun e w' => ∃ pa pn pc ra' rc' oa' oc', e = .returned (.agg #[.int .i64 ins0, .slice pa pn pc, .slice ra' rn rc', .slice oa' on oc']) ∧ (∀ w'', KeptG (List.range w.heap.size) w' w'' → NetAt w'' (dropW d bs) ins0 pa pn ra' rn oa' on) ∧ Hid (oa' ≠ none) ∧ NetSoft w' w.heap.size pa pn ra' rn oa' on ∧ Below w.heap.size w w' := by
  have hb0 : Below w.heap.size w (w.alloc (.cells #[.int .i64 ins0, .slice ga gn gc, .slice ra rn rc, .slice oa on oc] 39)) := (Below.refl _ _).alloc (Nat.le_refl _) _
  have hbox : Boxed (w.alloc (.cells #[.int .i64 ins0, .slice ga gn gc, .slice ra rn rc, .slice oa on oc] 39)) w.heap.size ins0 ga gn gc ra rn rc oa on oc := Boxed.new _ _ _ _ _ _ _ _ _ _ _ _
  have hb1 := (Below.refl _ (w.alloc (.cells #[.int .i64 ins0, .slice ga gn gc, .slice ra rn rc, .slice oa on oc] 39))).alloc (Nat.le_refl _) (.cells #[.int .i64 0, .slice none 0 0, .slice none 0 0, .slice none 0 0] 39)
  have hc0 := Cells.new (w.alloc (.cells #[.int .i64 ins0, .slice ga gn gc, .slice ra rn rc, .slice oa on oc] 39)) [.int .i64 0, .slice none 0 0, .slice none 0 0, .slice none 0 0] 39
  have hsz : (w.alloc (.cells #[.int .i64 ins0, .slice ga gn gc, .slice ra rn rc, .slice oa on oc] 39)).heap.size = w.heap.size + 1 := by simp
  rw [hsz] at hc0
  have hN := (h.below hb0).below hb1
  have hM := (hmap.below hb0).below hb1
  have hx := hbox.below hb1
  have B0 := bstep hb0 hb1
  have HG : Hid (d.gates.length = gn) := h.gates.1.symm
  have hok := ok_of hck
  have hii := h.ins
  obtain ⟨i, hie⟩ := Int.eq_ofNat_of_zero_le (show 0 ≤ ins0 by have := hok.ins.1; omega)
  subst hie
  have HII := hide (show (i : Int) = d.ins from hii)
  have hrn : rn ≤ 20 := by have := hok.regs; have := h.regs.1; omega
  have hgn : gn ≤ 200 := by have := hok.gates; have := HG.out; omega
  have hon : on ≤ 3 := by have := hok.outs; have := h.outs.1; omega
  have HRL := hide (show d.regs.length = rn from h.regs.1.symm)
  have HBL := hide (show bs.length = gn by rw [hclo.len]; exact HG.out)
  have HIO := hide (show ∀ x ∈ d.outs, 0 ≤ x ∧ x.toNat < gn ∧ bs.getD x.toNat false = true from fun x hx => ⟨(hok.out x hx).1, by have := (hok.out x hx); have := HG.out; omega, hclo.outs x hx⟩)
  have HIR := hide (show ∀ r ∈ d.regs, 0 ≤ r.2 ∧ r.2.toNat < gn ∧ bs.getD r.2.toNat false = true from fun x hx => ⟨(hok.nexts x hx).1, by have := (hok.nexts x hx); have := HG.out; omega, hclo.regs x hx⟩)
  have HIA := hide (show ∀ k (hk : k < d.gates.length), bs.getD k false = true → d.gates[k].args.length ≤ 16 ∧ ∀ x ∈ d.gates[k].args, 0 ≤ x ∧ x.toNat < gn ∧ bs.getD x.toNat false = true from fun k hk hb => ⟨(hok.each _ (List.getElem_mem hk)).few, fun x hx => ⟨((hok.each _ (List.getElem_mem hk)).args x hx).1, by have := ((hok.each _ (List.getElem_mem hk)).args x hx); have := HG.out; omega, hclo.args k hk hb x hx⟩⟩)
  clear h hmap hb0 hb1 hbox hsz hok hclo hck hii
  obtain ⟨vs0, hvl0, hmk⟩ := run_madeR rn (by omega)
  have hrn0 : (0 : Int) ≤ (rn : Int) := by omega
  go_enter Try.func46, Try.ntmps46
  go_upto_region 1 with fail
  generalize hw2 : (w.alloc (.cells #[.int .i64 (i : Int), .slice ga gn gc, .slice ra rn rc, .slice oa on oc] 39)).alloc (.cells #[.int .i64 0, .slice none 0 0, .slice none 0 0, .slice none 0 0] 39) = w2 at *
  clear hw2
  have hx0 := hx
  obtain ⟨x0, x1, x2, x3, x4⟩ := hx
  go_cut [5] (fun p wx => ∃ bm gR oa' oc', p = .pointer (some ⟨bm, 0, none⟩) ∧ Hid (oa' ≠ none ∧ Fresh w2.heap.size oa' on) ∧ Soft wx w2.heap.size oa' on ∧ Began w2 wx (w.heap.size + 1) i rn on bm gR vs0 oa' oc' (movedV bs d.outs))
  case first =>
    go_region_held3 (fun W => Below w2.heap.size w2 W ∧ W.cell? ⟨w.heap.size, 0, none⟩ = some (.int .i64 (i : Int)) ∧ W.cell? ⟨w.heap.size, 2, none⟩ = some (.slice ra rn rc) ∧ W.cell? ⟨w.heap.size, 3, none⟩ = some (.slice oa on oc))
      ((first | exact hSA | exact hl_alloc x0 hSA | exact hl_alloc x0 (hl_alloc x0 hSA) | exact heldr_of x0 x1 x3 x4 (Below.refl _ _).drew | exact hl_alloc x0 (by assumption) | exact hl_set x0 hbm (hl_set x0 hbm (hl_set x0 hbm (hl_set x0 hbm hSA))) | exact hl_alloc x0 (hl_set x0 hbm (hl_set x0 hbm (hl_set x0 hbm (hl_set x0 hbm hSA))))))
      ((first
        | (go_at_call 73; refine (movedAll_soft bs d.outs oa on oc m gn _ (hN.outs.below (And.left (by assumption))) (hM.below (And.left (by assumption))) (by omega) hgn (unhide HIO)).mono ?_; rintro e wA ⟨aA, cA, rfl, hIA, hSfA, hNA0, hbA⟩; have hFA := hSfA.fresh; have hSfO := hSfA.down (b' := w2.heap.size) (Below.size (And.left (a := Below w2.heap.size w2 _) (by assumption))); have hNA := hide (And.intro (unhide hNA0) (hFA.down (b' := w2.heap.size) (Below.size (And.left (a := Below w2.heap.size w2 _) (by assumption))))); have hSA := hl_call x0 hbA (by assumption); (first | (have hZ := z_on (z_one w2 zeroN 39) hbA; have hbm : w2.heap.size ≤ w2.heap.size := Nat.le_refl _) | (have hZ := z_on (z_two w2 zeroN 39 _) hbA; have hbm : w2.heap.size ≤ w2.heap.size := Nat.le_refl _; have hR := z_on (z_three w2 vs0 48 _) hbA) | (have hZ := z_on (z_three w2 zeroN 39 _) hbA; have hbm : w2.heap.size ≤ w2.heap.size + 1 := Nat.le_succ _; have hR := z_on (z_two w2 vs0 48 _) hbA) | (have hR := z_on (z_one w2 vs0 48) hbA) | skip); try (have hZl := hZ.lt; have hZn := Nat.ne_of_lt hZl; have z0 := hZ.cell 0; have z1 := hZ.cell 1; have z2 := hZ.cell 2; have z3 := hZ.cell 3; have f0 := hZ.frozen 0; have f1 := hZ.frozen 1; have f2 := hZ.frozen 2; have f3 := hZ.frozen 3))))
    all_goals
      have hB9 := hSA.1
      have hc2l := hc0.lt
      go_wp2_with fail
      go_meet
    all_goals first
      | with_reducible exact ⟨_, _, _, _, rfl, hNA, soft_ab hSfO, began_ab hZ hR (by omega) (OffI.of hIA hFA (by simp; omega)) hbm (by omega) hB9⟩
      | with_reducible exact ⟨_, _, _, _, rfl, hNA, soft_c hSfO, began_c hZ (OffI.of hIA hFA (by simp; omega)) hbm hB9⟩
      | with_reducible exact ⟨_, _, _, _, rfl, hNA, soft_d hSfO, began_d hR (OffI.of hIA hFA (by simp; omega)) (Nat.le_refl _) hB9⟩
      | with_reducible exact ⟨_, _, _, _, rfl, hNA, soft_e hSfO, began_e (OffI.of hIA hFA (by simp; omega)) hB9⟩
      | with_reducible exact ⟨_, _, _, _, rfl, hNA, soft_e hSfO, began_f (OffI.of hIA hFA (by simp; omega)) hB9⟩
  case rest =>
    obtain ⟨bm, gR, oa', oc', rfl, hNA, hSO0, hcM, hcR, hIO, hbm, hgR, hne, hB3⟩ := hcut
    obtain ⟨i0, hi, hz0, hz1, hz2⟩ := info_parts Try.infoGate
    have HNA := hide hNA
    clear hNA
    have hx3 := hx0.below hB3
    clear x0 x1 x2 x3 x4 hmk
    obtain ⟨x0, x1, x2, x3, x4⟩ := hx3
    have hx2l := hx0.1
    have hc2l := hc0.lt
    go_wp2_with fail
    clear x0 x1 x2 x3 x4
    go_loopw [26] (fun iv wr => ∃ (k pn pc : Nat) (pa : Option Addr) (cs : List Value), k ≤ gn ∧ iv = .int .i64 k ∧ MInv w2 wr (w.heap.size + 1) i rn on bm gR vs0 oa' oc' (movedV bs d.outs) pa pn pc cs (gatesTo d bs k) ∧ CsF w2.heap.size cs ∧ MSoft w2 wr oa' on cs) (fun iv _ => gn - (intOf iv).toNat)
    case atStart => exact ⟨0, 0, 0, none, [], Nat.zero_le _, rfl, ⟨rfl, hcM, hcR, hIO, ⟨rfl, Or.inl ⟨rfl, rfl⟩⟩, GRow.nil _ _, hB3⟩, CsF.nil _, MSoft.nil hSO0⟩
    case round =>
      clear hcM hcR hIO hB3 hSO0
      obtain ⟨k, pn, pc, pa, cs, hk, rfl, hV, hCF, hMS⟩ := hrel
      have hbel := hV.2.2.2.2.2.2
      have HCF := hide hCF
      clear hCF
      have HMS := hide hMS
      clear hMS
      by_cases hlt : k < gn
      · have hki : (k : Int) < (gn : Int) := by omega
        have hkg : k < d.gates.length := by have := HG.out; omega
        obtain ⟨b, off, aa, an, ac, rfl, hbb, c1, c2, c3, hI⟩ := (hN.gates.below hbel).at' hkg
        have hal := (Below.refl _ wr).alloc (Nat.le_refl _) (.cells #[.int .i64 d.gates[k].kind, .int .i64 d.gates[k].n, .slice aa an ac] 46)
        have hgb := GBox.new wr d.gates[k].kind d.gates[k].n aa an ac 46
        have hI6 := hI.below hal
        have hV6 := hV.on hal
        have hM6 := (hM.below hbel).below hal
        obtain ⟨mc, hlook⟩ := hM6.ok hlt (by omega)
        have HV := hide hV
        clear hV hI
        cases eb : bs.getD k false
        · rw [eb] at hlook
          have R := hide (show MInv w2 _ (w.heap.size + 1) i rn on bm gR vs0 oa' oc' (movedV bs d.outs) pa pn pc cs (gatesTo d bs (k + 1)) by rw [gatesTo_no d bs k eb]; exact hV6)
          clear hV6 hM6 hI6 eb hgb
          go_wp2_with fail
          exact ⟨⟨k + 1, pn, pc, pa, cs, by omega, by go_num, unhide R, unhide HCF, (unhide HMS).on hal⟩, by simp [intOf]; omega⟩
        · rw [eb] at hlook
          have HTK := hide (gatesTo_yes d bs k hkg eb)
          obtain ⟨hfew, hargs⟩ := unhide HIA k hkg eb
          have hfew2 : an ≤ 200 := by have := hI6.1; omega
          have HAR := hide hargs
          have HPL := hide hV6.1
          have hpn : pn ≤ 200 := by
            have h1 := hV6.1
            rw [gatesTo_len] at h1
            have h2 := List.length_filter_le (fun j => bs.getD j false) (List.range k)
            have h3 : atN bs k ≤ k := by unfold atN; simpa using h2
            omega
          clear hargs eb hfew
          go_wp2_with fail
          clear c1 c2 c3 hlook
          generalize hw6 : wr.alloc (.cells #[.int .i64 d.gates[k].kind, .int .i64 d.gates[k].n, .slice aa an ac] 46) = w6 at *
          clear hw6
          obtain ⟨y0, y1, y2, y3⟩ := hgb
          have hbd := (Below.refl w6.heap.size w6).drew
          have hVd := hV6.on hbd
          have hbm6 := hV6.2.1.lt
          have d6 := hV6.2.1.cell 1
          have hneM : wr.heap.size ≠ bm := by have := (unhide HV).2.1.lt; omega
          have hgG : ∀ g ∈ (bm :: gR :: (w.heap.size + 1) :: ownL (.slice pa pn pc)), g < w6.heap.size := by
            intro g hg
            simp only [List.mem_cons] at hg
            rcases hg with rfl | rfl | rfl | hg
            · exact hV6.2.1.lt
            · exact hV6.2.2.1.lt
            · exact Nat.lt_of_lt_of_le hc2l (Nat.le_trans hbel.size hal.size)
            · exact own_lt hV6.2.2.2.2.1 g (by simpa [ownL] using hg)
          have HGG := hide hgG
          have HW26 := hide (show w2.heap.size ≤ w6.heap.size from Nat.le_trans hbel.size hal.size)
          have HV6 := hide hV6
          have hno := own_lt (unhide HV).2.2.2.2.1
          have HNO := hide (show (Value.slice pa pn pc).ownBlock ≠ some wr.heap.size from fun e => by have := hno _ e; omega)
          have HMS6 := hide ((unhide HMS).on hal)
          clear hgG hV6 hno
          have hSS := gb_drew ⟨y0, y1, y2, y3⟩
          refine wp_region_held_drew (S := fun W => wr.heap.size < W.heap.size ∧ W.cell? ⟨wr.heap.size, 0, none⟩ = some (.int .i64 d.gates[k].kind) ∧ W.cell? ⟨wr.heap.size, 1, none⟩ = some (.int .i64 d.gates[k].n) ∧ W.cell? ⟨wr.heap.size, 2, none⟩ = some (.slice aa an ac)) (by kernel_rfl) ?_ (fun hHeld => ?_)
          · exact hSS
          refine wpAnyH_take (i := 0) (oi := { dst := some 38, op := Go.Op.fieldAddr 39 (Go.Operand.tmp 5) 1, type := 0, pos := "sweep.go:66", after := #[], guard := none }) (v := ?_) rfl (by kernel_rfl) (by kernel_rfl) (by kernel_rfl) (fun _ _ _ h => h) (Or.inl ⟨by rfl, ?_⟩) (by assumption) ?_
          rotate_left
          · intro w hSw; (try dsimp only at hSw); go_simp; (try (with_reducible rfl))
          try simp only [Act.put, List.setIfInBounds_toArray, List.set_cons_zero, List.set_cons_succ]
          refine wpAnyH_take (i := 2) (oi := { dst := some 40, op := Go.Op.fieldAddr 46 (Go.Operand.tmp 7) 0, type := 0, pos := "sweep.go:66", after := #[], guard := none }) (v := ?_) rfl (by kernel_rfl) (by kernel_rfl) (by kernel_rfl) (fun _ _ _ h => h) (Or.inl ⟨by rfl, ?_⟩) (by assumption) ?_
          rotate_left
          · intro w hSw; (try dsimp only at hSw); go_simp; (try (with_reducible rfl))
          try simp only [Act.put, List.setIfInBounds_toArray, List.set_cons_zero, List.set_cons_succ]
          refine wpAnyH_take (i := 3) (oi := { dst := some 41, op := Go.Op.load 3 (Go.Operand.tmp 40), type := 3, pos := "sweep.go:66", after := #[{ on := 2, ground := Go.Ground.data }], guard := none }) (v := ?_) rfl (by kernel_rfl) (by kernel_rfl) (by kernel_rfl) (fun _ _ _ h => h) (Or.inl ⟨by rfl, ?_⟩) (by assumption) ?_
          rotate_left
          · intro w hSw; (try dsimp only at hSw); go_simp; (try (with_reducible rfl))
          try simp only [Act.put, List.setIfInBounds_toArray, List.set_cons_zero, List.set_cons_succ]
          refine wpAnyH_take (i := 4) (oi := { dst := some 42, op := Go.Op.fieldAddr 46 (Go.Operand.tmp 7) 1, type := 0, pos := "sweep.go:66", after := #[], guard := none }) (v := ?_) rfl (by kernel_rfl) (by kernel_rfl) (by kernel_rfl) (fun _ _ _ h => h) (Or.inl ⟨by rfl, ?_⟩) (by assumption) ?_
          rotate_left
          · intro w hSw; (try dsimp only at hSw); go_simp; (try (with_reducible rfl))
          try simp only [Act.put, List.setIfInBounds_toArray, List.set_cons_zero, List.set_cons_succ]
          refine wpAnyH_take (i := 5) (oi := { dst := some 43, op := Go.Op.load 3 (Go.Operand.tmp 42), type := 3, pos := "sweep.go:66", after := #[{ on := 4, ground := Go.Ground.data }], guard := none }) (v := ?_) rfl (by kernel_rfl) (by kernel_rfl) (by kernel_rfl) (fun _ _ _ h => h) (Or.inl ⟨by rfl, ?_⟩) (by assumption) ?_
          rotate_left
          · intro w hSw; (try dsimp only at hSw); go_simp; (try (with_reducible rfl))
          try simp only [Act.put, List.setIfInBounds_toArray, List.set_cons_zero, List.set_cons_succ]
          refine wpAnyH_take (i := 6) (oi := { dst := some 44, op := Go.Op.fieldAddr 46 (Go.Operand.tmp 7) 2, type := 0, pos := "sweep.go:66", after := #[], guard := none }) (v := ?_) rfl (by kernel_rfl) (by kernel_rfl) (by kernel_rfl) (fun _ _ _ h => h) (Or.inl ⟨by rfl, ?_⟩) (by assumption) ?_
          rotate_left
          · intro w hSw; (try dsimp only at hSw); go_simp; (try (with_reducible rfl))
          try simp only [Act.put, List.setIfInBounds_toArray, List.set_cons_zero, List.set_cons_succ]
          refine wpAnyH_take (i := 7) (oi := { dst := some 45, op := Go.Op.load 37 (Go.Operand.tmp 44), type := 37, pos := "sweep.go:66", after := #[{ on := 6, ground := Go.Ground.data }], guard := none }) (v := ?_) rfl (by kernel_rfl) (by kernel_rfl) (by kernel_rfl) (fun _ _ _ h => h) (Or.inl ⟨by rfl, ?_⟩) (by assumption) ?_
          rotate_left
          · intro w hSw; (try dsimp only at hSw); go_simp; (try (with_reducible rfl))
          try simp only [Act.put, List.setIfInBounds_toArray, List.set_cons_zero, List.set_cons_succ]
          refine wpAnyH_take (i := 8) (oi := { dst := some 46, op := Go.Op.move (Go.Operand.tmp 1), type := 82, pos := "sweep.go:66", after := #[], guard := none }) (v := ?_) rfl (by kernel_rfl) (by kernel_rfl) (by kernel_rfl) (fun _ _ _ h => h) (Or.inl ⟨by rfl, ?_⟩) (by assumption) ?_
          rotate_left
          · intro w hSw; (try dsimp only at hSw); go_simp; (try (with_reducible rfl))
          try simp only [Act.put, List.setIfInBounds_toArray, List.set_cons_zero, List.set_cons_succ]
          refine wpAnyH_ready (rs := [1, 9]) (by kernel_rfl) (by simp) ?_
          refine AllReadyH.cons (o := { dst := some 39, op := Go.Op.load 35 (Go.Operand.tmp 38), type := 35, pos := "sweep.go:66", after := #[{ on := 0, ground := Go.Ground.data }], guard := none }) rfl (fun K hK => ?_) ?_
          · go_simp
            refine hK.out _ _ ?_ (fun hHeld => ?_)
            · (try dsimp only)
              (first | exact hSS | exact hS8s | exact hS8 | exact gb_alloc hSA | exact hSA | assumption)
            clear hK K
            try simp only [Act.put, List.setIfInBounds_toArray, List.set_cons_zero, List.set_cons_succ]
            refine wpAnyH_ready (rs := [9]) (by kernel_rfl) (by simp) ?_
            refine AllReadyH.cons (o := { dst := some 47, op := Go.Op.call { callee := Go.Callee.value (Go.Operand.func 73), args := #[Go.Operand.tmp 45, Go.Operand.tmp 46], argTypes := #[37, 82] }, type := 37, pos := "sweep.go:66", after := #[{ on := 7, ground := Go.Ground.data }, { on := 8, ground := Go.Ground.data }], guard := none }) rfl (fun K hK => ?_) ?_
            · go_simp
              refine (movedAll_soft bs d.gates[k].args aa an ac m gn _ (hI6.below hbd) (hM6.below hbd) hfew2 hgn (unhide HAR)).mono ?_
              rintro e wA ⟨aA, cA, rfl, hIA, hSfA, hNA, hbA⟩
              have hFA := hSfA.fresh
              have hSA := gb_on hbA hSS
              have hVA := hVd.on hbA
              have dA := hVA.2.1.cell 1
              have hbmA := hVA.2.1.lt
              have hnA := Nat.ne_of_gt hbmA
              have hnA2 := Nat.ne_of_lt hbmA
              try go_wp2_with fail
              refine hK.out _ _ ?_ (fun hHeld => ?_)
              · (try dsimp only)
                (first | exact hSS | exact hS8s | exact hS8 | exact gb_alloc hSA | exact hSA | assumption)
              clear hK K
              try simp only [Act.put, List.setIfInBounds_toArray, List.set_cons_zero, List.set_cons_succ]
              refine wpAnyH_take (i := 10) (oi := { dst := some 48, op := Go.Op.build 46 #[(0, Go.Operand.tmp 41), (1, Go.Operand.tmp 43), (2, Go.Operand.tmp 47)], type := 46, pos := "sweep.go:66", after := #[{ on := 3, ground := Go.Ground.data }, { on := 5, ground := Go.Ground.data }, { on := 9, ground := Go.Ground.data }], guard := none }) (v := ?_) rfl (by kernel_rfl) (by kernel_rfl) (by kernel_rfl) (fun _ _ _ h => h) (Or.inl ⟨by rfl, ?_⟩) (by assumption) ?_
              rotate_left
              · intro w hSw; (try dsimp only at hSw); go_simp; (try (with_reducible rfl))
              try simp only [Act.put, List.setIfInBounds_toArray, List.set_cons_zero, List.set_cons_succ]
              refine wpAnyH_ready (rs := [11]) (by kernel_rfl) (by simp) ?_
              refine AllReadyH.cons (o := { dst := some 49, op := Go.Op.buildSlice 35 1 #[(0, Go.Operand.tmp 48)], type := 35, pos := "sweep.go:66", after := #[{ on := 10, ground := Go.Ground.data }], guard := none }) rfl (fun K hK => ?_) ?_
              · go_simp
                refine hK.out _ _ ?_ (fun hHeld => ?_)
                · (try dsimp only)
                  (first | exact hSS | exact hS8s | exact hS8 | exact gb_alloc hSA | exact hSA | assumption)
                clear hK K
                try simp only [Act.put, List.setIfInBounds_toArray, List.set_cons_zero, List.set_cons_succ]
                refine wpAnyH_ready (rs := [12]) (by kernel_rfl) (by simp) ?_
                refine AllReadyH.cons (o := { dst := some 50, op := Go.Op.call { callee := Go.Callee.builtin Go.Builtin.append, args := #[Go.Operand.tmp 39, Go.Operand.tmp 49], argTypes := #[35, 35] }, type := 35, pos := "sweep.go:66", after := #[{ on := 1, ground := Go.Ground.data }, { on := 11, ground := Go.Ground.data }, { on := 9, ground := Go.Ground.chain }], guard := none }) rfl (fun K hK => ?_) ?_
                · refine step_append_lies _ rfl _ _ 35 rfl w2.heap.size 46 i0 (.agg #[.int .i64 0, .int .i64 0, .slice none 0 0]) 3 40 Try.underlying35 hi hz0 hz1 hz2 rfl (by decide) (.slice pa pn pc) pn cs rfl (hVA.2.2.2.2.1.alloc _) ⟨wA.heap.size, 0, none⟩ 1 1 [.int .i64 d.gates[k].kind, .int .i64 d.gates[k].n, .slice aA an cA] rfl rfl (World.news_of_block (cs := #[.int .i64 d.gates[k].kind, .int .i64 d.gates[k].n, .slice aA an cA]) (MapKept.heap_alloc wA _).1) (by intro u hu; simp at hu; rcases hu with rfl | rfl | rfl <;> rfl) (by decide) (by unfold maxLen; omega) (by omega) (by have := hVA.2.2.2.2.2.2.size; simp; omega) _ rfl ?_
                  intro g8 cap8 w8 hown8 hgr8 hat8 hlt8
                  have hS8 := gb_keep hgr8.size (fun h1 => hgr8.block _ h1 (Ne.symm (unhide HNO))) (gb_alloc (o := .cells #[.int .i64 d.gates[k].kind, .int .i64 d.gates[k].n, .slice aA an cA] 46) hSA)
                  have hV8 := hVA.on ((Below.refl wA.heap.size wA).alloc (Nat.le_refl _) (.cells #[.int .i64 d.gates[k].kind, .int .i64 d.gates[k].n, .slice aA an cA] 46))
                  have hc8 := KeptG.cells (KeptG.grown hgr8 (G := ownL (.slice pa pn pc)) (fun b hb => by simp [ownL, hb])) hV8.2.1 (by simp only [ownL, Option.mem_toList]; exact own_ne hV8.2.2.2.2.1 hV8.2.1 (by decide))
                  have d8 := hc8.cell 1
                  have f8 := hc8.frozen 1
                  have hS8s := gb_set (k := 1) (v := .slice (some ⟨g8, 0, none⟩) (pn + 1) cap8) hneM hS8
                  refine hK.out _ _ ?_ (fun hHeld => ?_)
                  · (try dsimp only)
                    (first | exact hSS | exact hS8s | exact hS8 | exact gb_alloc hSA | exact hSA | assumption)
                  clear hK K
                  try simp only [Act.put, List.setIfInBounds_toArray, List.set_cons_zero, List.set_cons_succ]
                  refine wpAnyH_take (i := 13) (oi := { dst := some 51, op := Go.Op.fieldAddr 39 (Go.Operand.tmp 5) 1, type := 0, pos := "sweep.go:66", after := #[{ on := 0, ground := Go.Ground.phase }, { on := 1, ground := Go.Ground.phase }, { on := 2, ground := Go.Ground.phase }, { on := 3, ground := Go.Ground.phase }, { on := 4, ground := Go.Ground.phase }, { on := 5, ground := Go.Ground.phase }, { on := 6, ground := Go.Ground.phase }, { on := 7, ground := Go.Ground.phase }, { on := 8, ground := Go.Ground.phase }, { on := 9, ground := Go.Ground.phase }, { on := 10, ground := Go.Ground.phase }, { on := 11, ground := Go.Ground.phase }, { on := 12, ground := Go.Ground.phase }], guard := none }) (v := ?_) rfl (by kernel_rfl) (by kernel_rfl) (by kernel_rfl) (fun _ _ _ h => h) (Or.inl ⟨by rfl, ?_⟩) (by assumption) ?_
                  rotate_left
                  · intro w hSw; (try dsimp only at hSw); go_simp; (try (with_reducible rfl))
                  try simp only [Act.put, List.setIfInBounds_toArray, List.set_cons_zero, List.set_cons_succ]
                  refine wpAnyH_ready (rs := [14]) (by kernel_rfl) (by simp) ?_
                  refine AllReadyH.cons (o := { dst := none, op := Go.Op.store 35 (Go.Operand.tmp 51) (Go.Operand.tmp 50), type := 0, pos := "sweep.go:66", after := #[{ on := 13, ground := Go.Ground.data }, { on := 12, ground := Go.Ground.data }, { on := 12, ground := Go.Ground.chain }, { on := 0, ground := Go.Ground.phase }, { on := 1, ground := Go.Ground.phase }, { on := 2, ground := Go.Ground.phase }, { on := 3, ground := Go.Ground.phase }, { on := 4, ground := Go.Ground.phase }, { on := 5, ground := Go.Ground.phase }, { on := 6, ground := Go.Ground.phase }, { on := 7, ground := Go.Ground.phase }, { on := 8, ground := Go.Ground.phase }, { on := 9, ground := Go.Ground.phase }, { on := 10, ground := Go.Ground.phase }, { on := 11, ground := Go.Ground.phase }, { on := 12, ground := Go.Ground.phase }], guard := none }) rfl (fun K hK => ?_) ?_
                  · go_simp
                    refine hK.out _ _ ?_ (fun hHeld => ?_)
                    · (try dsimp only)
                      (first | exact hSS | exact hS8s | exact hS8 | exact gb_alloc hSA | exact hSA | assumption)
                    clear hK K
                    try simp only [Act.put, List.setIfInBounds_toArray, List.set_cons_zero, List.set_cons_succ]
                    refine wpAnyH_done (by kernel_rfl) ?_ _
                    have hF9 := OffI.of hIA hFA (unhide HGG)
                    have RF := hide ((unhide HCF).more (dropG bs d.gates[k]).kind (dropG bs d.gates[k]).n cA (hFA.down (unhide HW26)))
                    have RM := hide (((((unhide HMS6).on hbd).on hbA).on (alloc_bel wA _)).more hV8 (.int .i64 (dropG bs d.gates[k]).kind) (.int .i64 (dropG bs d.gates[k]).n) cA hgr8 ((soft_grown hSfA (fun g hg => Nat.lt_of_lt_of_le (unhide HGG g (by simp [ownL, hg])) hbd.size) hgr8).down (Nat.le_trans (unhide HW26) hbd.size)) (v := .slice (some ⟨g8, 0, none⟩) (pn + 1) cap8))
                    have R := hV8.more (dropG bs d.gates[k]) ((hF9.turn (fun _ _ h => h)).keep (KeptG.of ((Below.refl wA.heap.size wA).alloc (Nat.le_refl _) (.cells #[.int .i64 d.gates[k].kind, .int .i64 d.gates[k].n, .slice aA an cA] 46)))) hown8 hgr8 hat8 hbm
                    rw [← unhide HTK] at R
                    have R9 := hide R
                    clear R hSfA hV8 hc8 d8 f8 hown8 hgr8 hat8 hlt8 hIA hFA hNA hbA hVA dA
                    go_wp2_with fail
                    exact ⟨⟨k + 1, _, _, _, _, by omega, by go_num, unhide R9, unhide RF, unhide RM⟩, by simp [intOf]; omega⟩
                  exact AllReadyH.nil
                exact AllReadyH.nil
              exact AllReadyH.nil
            exact AllReadyH.nil
          refine AllReadyH.cons (o := { dst := some 47, op := Go.Op.call { callee := Go.Callee.value (Go.Operand.func 73), args := #[Go.Operand.tmp 45, Go.Operand.tmp 46], argTypes := #[37, 82] }, type := 37, pos := "sweep.go:66", after := #[{ on := 7, ground := Go.Ground.data }, { on := 8, ground := Go.Ground.data }], guard := none }) rfl (fun K hK => ?_) ?_
          · go_simp
            refine (movedAll_soft bs d.gates[k].args aa an ac m gn _ (hI6.below hbd) (hM6.below hbd) hfew2 hgn (unhide HAR)).mono ?_
            rintro e wA ⟨aA, cA, rfl, hIA, hSfA, hNA, hbA⟩
            have hFA := hSfA.fresh
            have hSA := gb_on hbA hSS
            have hVA := hVd.on hbA
            have dA := hVA.2.1.cell 1
            have hbmA := hVA.2.1.lt
            have hnA := Nat.ne_of_gt hbmA
            have hnA2 := Nat.ne_of_lt hbmA
            try go_wp2_with fail
            refine hK.out _ _ ?_ (fun hHeld => ?_)
            · (try dsimp only)
              (first | exact hSS | exact hS8s | exact hS8 | exact gb_alloc hSA | exact hSA | assumption)
            clear hK K
            try simp only [Act.put, List.setIfInBounds_toArray, List.set_cons_zero, List.set_cons_succ]
            refine wpAnyH_take (i := 10) (oi := { dst := some 48, op := Go.Op.build 46 #[(0, Go.Operand.tmp 41), (1, Go.Operand.tmp 43), (2, Go.Operand.tmp 47)], type := 46, pos := "sweep.go:66", after := #[{ on := 3, ground := Go.Ground.data }, { on := 5, ground := Go.Ground.data }, { on := 9, ground := Go.Ground.data }], guard := none }) (v := ?_) rfl (by kernel_rfl) (by kernel_rfl) (by kernel_rfl) (fun _ _ _ h => h) (Or.inl ⟨by rfl, ?_⟩) (by assumption) ?_
            rotate_left
            · intro w hSw; (try dsimp only at hSw); go_simp; (try (with_reducible rfl))
            try simp only [Act.put, List.setIfInBounds_toArray, List.set_cons_zero, List.set_cons_succ]
            refine wpAnyH_ready (rs := [1, 11]) (by kernel_rfl) (by simp) ?_
            refine AllReadyH.cons (o := { dst := some 39, op := Go.Op.load 35 (Go.Operand.tmp 38), type := 35, pos := "sweep.go:66", after := #[{ on := 0, ground := Go.Ground.data }], guard := none }) rfl (fun K hK => ?_) ?_
            · go_simp
              refine hK.out _ _ ?_ (fun hHeld => ?_)
              · (try dsimp only)
                (first | exact hSS | exact hS8s | exact hS8 | exact gb_alloc hSA | exact hSA | assumption)
              clear hK K
              try simp only [Act.put, List.setIfInBounds_toArray, List.set_cons_zero, List.set_cons_succ]
              refine wpAnyH_ready (rs := [11]) (by kernel_rfl) (by simp) ?_
              refine AllReadyH.cons (o := { dst := some 49, op := Go.Op.buildSlice 35 1 #[(0, Go.Operand.tmp 48)], type := 35, pos := "sweep.go:66", after := #[{ on := 10, ground := Go.Ground.data }], guard := none }) rfl (fun K hK => ?_) ?_
              · go_simp
                refine hK.out _ _ ?_ (fun hHeld => ?_)
                · (try dsimp only)
                  (first | exact hSS | exact hS8s | exact hS8 | exact gb_alloc hSA | exact hSA | assumption)
                clear hK K
                try simp only [Act.put, List.setIfInBounds_toArray, List.set_cons_zero, List.set_cons_succ]
                refine wpAnyH_ready (rs := [12]) (by kernel_rfl) (by simp) ?_
                refine AllReadyH.cons (o := { dst := some 50, op := Go.Op.call { callee := Go.Callee.builtin Go.Builtin.append, args := #[Go.Operand.tmp 39, Go.Operand.tmp 49], argTypes := #[35, 35] }, type := 35, pos := "sweep.go:66", after := #[{ on := 1, ground := Go.Ground.data }, { on := 11, ground := Go.Ground.data }, { on := 9, ground := Go.Ground.chain }], guard := none }) rfl (fun K hK => ?_) ?_
                · refine step_append_lies _ rfl _ _ 35 rfl w2.heap.size 46 i0 (.agg #[.int .i64 0, .int .i64 0, .slice none 0 0]) 3 40 Try.underlying35 hi hz0 hz1 hz2 rfl (by decide) (.slice pa pn pc) pn cs rfl (hVA.2.2.2.2.1.alloc _) ⟨wA.heap.size, 0, none⟩ 1 1 [.int .i64 d.gates[k].kind, .int .i64 d.gates[k].n, .slice aA an cA] rfl rfl (World.news_of_block (cs := #[.int .i64 d.gates[k].kind, .int .i64 d.gates[k].n, .slice aA an cA]) (MapKept.heap_alloc wA _).1) (by intro u hu; simp at hu; rcases hu with rfl | rfl | rfl <;> rfl) (by decide) (by unfold maxLen; omega) (by omega) (by have := hVA.2.2.2.2.2.2.size; simp; omega) _ rfl ?_
                  intro g8 cap8 w8 hown8 hgr8 hat8 hlt8
                  have hS8 := gb_keep hgr8.size (fun h1 => hgr8.block _ h1 (Ne.symm (unhide HNO))) (gb_alloc (o := .cells #[.int .i64 d.gates[k].kind, .int .i64 d.gates[k].n, .slice aA an cA] 46) hSA)
                  have hV8 := hVA.on ((Below.refl wA.heap.size wA).alloc (Nat.le_refl _) (.cells #[.int .i64 d.gates[k].kind, .int .i64 d.gates[k].n, .slice aA an cA] 46))
                  have hc8 := KeptG.cells (KeptG.grown hgr8 (G := ownL (.slice pa pn pc)) (fun b hb => by simp [ownL, hb])) hV8.2.1 (by simp only [ownL, Option.mem_toList]; exact own_ne hV8.2.2.2.2.1 hV8.2.1 (by decide))
                  have d8 := hc8.cell 1
                  have f8 := hc8.frozen 1
                  have hS8s := gb_set (k := 1) (v := .slice (some ⟨g8, 0, none⟩) (pn + 1) cap8) hneM hS8
                  refine hK.out _ _ ?_ (fun hHeld => ?_)
                  · (try dsimp only)
                    (first | exact hSS | exact hS8s | exact hS8 | exact gb_alloc hSA | exact hSA | assumption)
                  clear hK K
                  try simp only [Act.put, List.setIfInBounds_toArray, List.set_cons_zero, List.set_cons_succ]
                  refine wpAnyH_take (i := 13) (oi := { dst := some 51, op := Go.Op.fieldAddr 39 (Go.Operand.tmp 5) 1, type := 0, pos := "sweep.go:66", after := #[{ on := 0, ground := Go.Ground.phase }, { on := 1, ground := Go.Ground.phase }, { on := 2, ground := Go.Ground.phase }, { on := 3, ground := Go.Ground.phase }, { on := 4, ground := Go.Ground.phase }, { on := 5, ground := Go.Ground.phase }, { on := 6, ground := Go.Ground.phase }, { on := 7, ground := Go.Ground.phase }, { on := 8, ground := Go.Ground.phase }, { on := 9, ground := Go.Ground.phase }, { on := 10, ground := Go.Ground.phase }, { on := 11, ground := Go.Ground.phase }, { on := 12, ground := Go.Ground.phase }], guard := none }) (v := ?_) rfl (by kernel_rfl) (by kernel_rfl) (by kernel_rfl) (fun _ _ _ h => h) (Or.inl ⟨by rfl, ?_⟩) (by assumption) ?_
                  rotate_left
                  · intro w hSw; (try dsimp only at hSw); go_simp; (try (with_reducible rfl))
                  try simp only [Act.put, List.setIfInBounds_toArray, List.set_cons_zero, List.set_cons_succ]
                  refine wpAnyH_ready (rs := [14]) (by kernel_rfl) (by simp) ?_
                  refine AllReadyH.cons (o := { dst := none, op := Go.Op.store 35 (Go.Operand.tmp 51) (Go.Operand.tmp 50), type := 0, pos := "sweep.go:66", after := #[{ on := 13, ground := Go.Ground.data }, { on := 12, ground := Go.Ground.data }, { on := 12, ground := Go.Ground.chain }, { on := 0, ground := Go.Ground.phase }, { on := 1, ground := Go.Ground.phase }, { on := 2, ground := Go.Ground.phase }, { on := 3, ground := Go.Ground.phase }, { on := 4, ground := Go.Ground.phase }, { on := 5, ground := Go.Ground.phase }, { on := 6, ground := Go.Ground.phase }, { on := 7, ground := Go.Ground.phase }, { on := 8, ground := Go.Ground.phase }, { on := 9, ground := Go.Ground.phase }, { on := 10, ground := Go.Ground.phase }, { on := 11, ground := Go.Ground.phase }, { on := 12, ground := Go.Ground.phase }], guard := none }) rfl (fun K hK => ?_) ?_
                  · go_simp
                    refine hK.out _ _ ?_ (fun hHeld => ?_)
                    · (try dsimp only)
                      (first | exact hSS | exact hS8s | exact hS8 | exact gb_alloc hSA | exact hSA | assumption)
                    clear hK K
                    try simp only [Act.put, List.setIfInBounds_toArray, List.set_cons_zero, List.set_cons_succ]
                    refine wpAnyH_done (by kernel_rfl) ?_ _
                    have hF9 := OffI.of hIA hFA (unhide HGG)
                    have RF := hide ((unhide HCF).more (dropG bs d.gates[k]).kind (dropG bs d.gates[k]).n cA (hFA.down (unhide HW26)))
                    have RM := hide (((((unhide HMS6).on hbd).on hbA).on (alloc_bel wA _)).more hV8 (.int .i64 (dropG bs d.gates[k]).kind) (.int .i64 (dropG bs d.gates[k]).n) cA hgr8 ((soft_grown hSfA (fun g hg => Nat.lt_of_lt_of_le (unhide HGG g (by simp [ownL, hg])) hbd.size) hgr8).down (Nat.le_trans (unhide HW26) hbd.size)) (v := .slice (some ⟨g8, 0, none⟩) (pn + 1) cap8))
                    have R := hV8.more (dropG bs d.gates[k]) ((hF9.turn (fun _ _ h => h)).keep (KeptG.of ((Below.refl wA.heap.size wA).alloc (Nat.le_refl _) (.cells #[.int .i64 d.gates[k].kind, .int .i64 d.gates[k].n, .slice aA an cA] 46)))) hown8 hgr8 hat8 hbm
                    rw [← unhide HTK] at R
                    have R9 := hide R
                    clear R hSfA hV8 hc8 d8 f8 hown8 hgr8 hat8 hlt8 hIA hFA hNA hbA hVA dA
                    go_wp2_with fail
                    exact ⟨⟨k + 1, _, _, _, _, by omega, by go_num, unhide R9, unhide RF, unhide RM⟩, by simp [intOf]; omega⟩
                  exact AllReadyH.nil
                exact AllReadyH.nil
              exact AllReadyH.nil
            refine AllReadyH.cons (o := { dst := some 49, op := Go.Op.buildSlice 35 1 #[(0, Go.Operand.tmp 48)], type := 35, pos := "sweep.go:66", after := #[{ on := 10, ground := Go.Ground.data }], guard := none }) rfl (fun K hK => ?_) ?_
            · go_simp
              refine hK.out _ _ ?_ (fun hHeld => ?_)
              · (try dsimp only)
                (first | exact hSS | exact hS8s | exact hS8 | exact gb_alloc hSA | exact hSA | assumption)
              clear hK K
              try simp only [Act.put, List.setIfInBounds_toArray, List.set_cons_zero, List.set_cons_succ]
              refine wpAnyH_ready (rs := [1]) (by kernel_rfl) (by simp) ?_
              refine AllReadyH.cons (o := { dst := some 39, op := Go.Op.load 35 (Go.Operand.tmp 38), type := 35, pos := "sweep.go:66", after := #[{ on := 0, ground := Go.Ground.data }], guard := none }) rfl (fun K hK => ?_) ?_
              · go_simp
                refine hK.out _ _ ?_ (fun hHeld => ?_)
                · (try dsimp only)
                  (first | exact hSS | exact hS8s | exact hS8 | exact gb_alloc hSA | exact hSA | assumption)
                clear hK K
                try simp only [Act.put, List.setIfInBounds_toArray, List.set_cons_zero, List.set_cons_succ]
                refine wpAnyH_ready (rs := [12]) (by kernel_rfl) (by simp) ?_
                refine AllReadyH.cons (o := { dst := some 50, op := Go.Op.call { callee := Go.Callee.builtin Go.Builtin.append, args := #[Go.Operand.tmp 39, Go.Operand.tmp 49], argTypes := #[35, 35] }, type := 35, pos := "sweep.go:66", after := #[{ on := 1, ground := Go.Ground.data }, { on := 11, ground := Go.Ground.data }, { on := 9, ground := Go.Ground.chain }], guard := none }) rfl (fun K hK => ?_) ?_
                · refine step_append_lies _ rfl _ _ 35 rfl w2.heap.size 46 i0 (.agg #[.int .i64 0, .int .i64 0, .slice none 0 0]) 3 40 Try.underlying35 hi hz0 hz1 hz2 rfl (by decide) (.slice pa pn pc) pn cs rfl (hVA.2.2.2.2.1.alloc _) ⟨wA.heap.size, 0, none⟩ 1 1 [.int .i64 d.gates[k].kind, .int .i64 d.gates[k].n, .slice aA an cA] rfl rfl (World.news_of_block (cs := #[.int .i64 d.gates[k].kind, .int .i64 d.gates[k].n, .slice aA an cA]) (MapKept.heap_alloc wA _).1) (by intro u hu; simp at hu; rcases hu with rfl | rfl | rfl <;> rfl) (by decide) (by unfold maxLen; omega) (by omega) (by have := hVA.2.2.2.2.2.2.size; simp; omega) _ rfl ?_
                  intro g8 cap8 w8 hown8 hgr8 hat8 hlt8
                  have hS8 := gb_keep hgr8.size (fun h1 => hgr8.block _ h1 (Ne.symm (unhide HNO))) (gb_alloc (o := .cells #[.int .i64 d.gates[k].kind, .int .i64 d.gates[k].n, .slice aA an cA] 46) hSA)
                  have hV8 := hVA.on ((Below.refl wA.heap.size wA).alloc (Nat.le_refl _) (.cells #[.int .i64 d.gates[k].kind, .int .i64 d.gates[k].n, .slice aA an cA] 46))
                  have hc8 := KeptG.cells (KeptG.grown hgr8 (G := ownL (.slice pa pn pc)) (fun b hb => by simp [ownL, hb])) hV8.2.1 (by simp only [ownL, Option.mem_toList]; exact own_ne hV8.2.2.2.2.1 hV8.2.1 (by decide))
                  have d8 := hc8.cell 1
                  have f8 := hc8.frozen 1
                  have hS8s := gb_set (k := 1) (v := .slice (some ⟨g8, 0, none⟩) (pn + 1) cap8) hneM hS8
                  refine hK.out _ _ ?_ (fun hHeld => ?_)
                  · (try dsimp only)
                    (first | exact hSS | exact hS8s | exact hS8 | exact gb_alloc hSA | exact hSA | assumption)
                  clear hK K
                  try simp only [Act.put, List.setIfInBounds_toArray, List.set_cons_zero, List.set_cons_succ]
                  refine wpAnyH_take (i := 13) (oi := { dst := some 51, op := Go.Op.fieldAddr 39 (Go.Operand.tmp 5) 1, type := 0, pos := "sweep.go:66", after := #[{ on := 0, ground := Go.Ground.phase }, { on := 1, ground := Go.Ground.phase }, { on := 2, ground := Go.Ground.phase }, { on := 3, ground := Go.Ground.phase }, { on := 4, ground := Go.Ground.phase }, { on := 5, ground := Go.Ground.phase }, { on := 6, ground := Go.Ground.phase }, { on := 7, ground := Go.Ground.phase }, { on := 8, ground := Go.Ground.phase }, { on := 9, ground := Go.Ground.phase }, { on := 10, ground := Go.Ground.phase }, { on := 11, ground := Go.Ground.phase }, { on := 12, ground := Go.Ground.phase }], guard := none }) (v := ?_) rfl (by kernel_rfl) (by kernel_rfl) (by kernel_rfl) (fun _ _ _ h => h) (Or.inl ⟨by rfl, ?_⟩) (by assumption) ?_
                  rotate_left
                  · intro w hSw; (try dsimp only at hSw); go_simp; (try (with_reducible rfl))
                  try simp only [Act.put, List.setIfInBounds_toArray, List.set_cons_zero, List.set_cons_succ]
                  refine wpAnyH_ready (rs := [14]) (by kernel_rfl) (by simp) ?_
                  refine AllReadyH.cons (o := { dst := none, op := Go.Op.store 35 (Go.Operand.tmp 51) (Go.Operand.tmp 50), type := 0, pos := "sweep.go:66", after := #[{ on := 13, ground := Go.Ground.data }, { on := 12, ground := Go.Ground.data }, { on := 12, ground := Go.Ground.chain }, { on := 0, ground := Go.Ground.phase }, { on := 1, ground := Go.Ground.phase }, { on := 2, ground := Go.Ground.phase }, { on := 3, ground := Go.Ground.phase }, { on := 4, ground := Go.Ground.phase }, { on := 5, ground := Go.Ground.phase }, { on := 6, ground := Go.Ground.phase }, { on := 7, ground := Go.Ground.phase }, { on := 8, ground := Go.Ground.phase }, { on := 9, ground := Go.Ground.phase }, { on := 10, ground := Go.Ground.phase }, { on := 11, ground := Go.Ground.phase }, { on := 12, ground := Go.Ground.phase }], guard := none }) rfl (fun K hK => ?_) ?_
                  · go_simp
                    refine hK.out _ _ ?_ (fun hHeld => ?_)
                    · (try dsimp only)
                      (first | exact hSS | exact hS8s | exact hS8 | exact gb_alloc hSA | exact hSA | assumption)
                    clear hK K
                    try simp only [Act.put, List.setIfInBounds_toArray, List.set_cons_zero, List.set_cons_succ]
                    refine wpAnyH_done (by kernel_rfl) ?_ _
                    have hF9 := OffI.of hIA hFA (unhide HGG)
                    have RF := hide ((unhide HCF).more (dropG bs d.gates[k]).kind (dropG bs d.gates[k]).n cA (hFA.down (unhide HW26)))
                    have RM := hide (((((unhide HMS6).on hbd).on hbA).on (alloc_bel wA _)).more hV8 (.int .i64 (dropG bs d.gates[k]).kind) (.int .i64 (dropG bs d.gates[k]).n) cA hgr8 ((soft_grown hSfA (fun g hg => Nat.lt_of_lt_of_le (unhide HGG g (by simp [ownL, hg])) hbd.size) hgr8).down (Nat.le_trans (unhide HW26) hbd.size)) (v := .slice (some ⟨g8, 0, none⟩) (pn + 1) cap8))
                    have R := hV8.more (dropG bs d.gates[k]) ((hF9.turn (fun _ _ h => h)).keep (KeptG.of ((Below.refl wA.heap.size wA).alloc (Nat.le_refl _) (.cells #[.int .i64 d.gates[k].kind, .int .i64 d.gates[k].n, .slice aA an cA] 46)))) hown8 hgr8 hat8 hbm
                    rw [← unhide HTK] at R
                    have R9 := hide R
                    clear R hSfA hV8 hc8 d8 f8 hown8 hgr8 hat8 hlt8 hIA hFA hNA hbA hVA dA
                    go_wp2_with fail
                    exact ⟨⟨k + 1, _, _, _, _, by omega, by go_num, unhide R9, unhide RF, unhide RM⟩, by simp [intOf]; omega⟩
                  exact AllReadyH.nil
                exact AllReadyH.nil
              exact AllReadyH.nil
            exact AllReadyH.nil
          exact AllReadyH.nil
      · have hkn : k = gn := by omega
        subst hkn
        rw [show gatesTo d bs k = (dropW d bs).gates by rw [gatesTo_full, unhide HBL]] at hV
        have hxr := hx0.below hbel
        obtain ⟨x0, x1, x2, x3, x4⟩ := hxr
        have HV := hide hV
        have hbmr := hV.2.1.lt
        have hgRr := hV.2.2.1.lt
        have hcR := hV.2.2.1
        clear hV
        go_wp2_with fail
        clear x0 x1 x2 x3 x4
        rename World => wp
        go_loopw [56] (fun iv wr => ∃ (j : Nat) (vs : List Value), j ≤ rn ∧ iv = .int .i64 j ∧ vs.length = rn * 2 ∧ Cells wr gR vs 48 ∧ RTo vs ((d.regs.map (dropR bs)).take j) ∧ KeptG [gR] wp wr ∧ Below w2.heap.size w2 wr) (fun iv _ => rn - (intOf iv).toNat)
        case atStart => exact ⟨0, vs0, Nat.zero_le _, rfl, hvl0, hcR, by intro j hj; simp at hj, KeptG.refl _ _, hbel⟩
        case round =>
          clear hcR
          obtain ⟨j, vs, hj, rfl, hvl, hcs, hRT, hKG, hbq⟩ := hrel
          have hcM := hKG.cells (unhide HV).2.1 (by simp; omega)
          by_cases hjl : j < rn
          · have hji : (j : Int) < (rn : Int) := by omega
            have hjd : j < d.regs.length := by have := unhide HRL; omega
            obtain ⟨b, off, rfl, hbb, c1, c2⟩ := (hN.regs.below hbq).at hjd
            obtain ⟨hp, hq, hbt⟩ := (unhide HIR) d.regs[j] (List.getElem_mem hjd)
            obtain ⟨x, hx⟩ := Int.eq_ofNat_of_zero_le hp
            have hxg : x < k := by rw [hx] at hq; simpa using hq
            rw [hx, Int.toNat_natCast] at hbt
            rw [hx] at c2
            have hal := (Below.refl _ wr).alloc (Nat.le_refl _) (.cells #[.bool d.regs[j].1, .int .i64 (x : Int)] 48)
            have hlook := ((hM.below hbq).below hal).look hxg hbt (by omega)
            have hcM7 := hcM.below hal hcM.lt
            have hcs7 := hcs.below hal hcs.lt
            have e2 := hcM7.cell 2
            obtain ⟨q0, z0⟩ : ∃ z, (wr.alloc (.cells #[.bool d.regs[j].1, .int .i64 (x : Int)] 48)).cell? ⟨gR, j * 2, none⟩ = some z := ⟨_, (hcs7.cell _).trans (List.getElem?_eq_getElem (by omega))⟩
            obtain ⟨q1, z1⟩ : ∃ z, (wr.alloc (.cells #[.bool d.regs[j].1, .int .i64 (x : Int)] 48)).cell? ⟨gR, j * 2 + 1, none⟩ = some z := ⟨_, (hcs7.cell _).trans (List.getElem?_eq_getElem (by omega))⟩
            have f0 := hcs7.frozen (j * 2)
            have f1 := hcs7.frozen (j * 2 + 1)
            have HTK := hide (show (d.regs.map (dropR bs)).take (j + 1) = (d.regs.map (dropR bs)).take j ++ [(d.regs[j].1, (atN bs x : Int))] by
              have hjm : j < (d.regs.map (dropR bs)).length := by simpa using hjd
              rw [List.take_succ_eq_append_getElem hjm, List.getElem_map]
              simp [dropR, hx, toV_of hbt])
            have HLK := hide (show ((d.regs.map (dropR bs)).take j).length = j by rw [List.length_take, List.length_map]; omega)
            have R1 := (hcs7.set (j * 2) (.bool d.regs[j].1)).set (j * 2 + 1) (.int .i64 (atN bs x : Int))
            have R2 : RTo ((vs.set (j * 2) (.bool d.regs[j].1)).set (j * 2 + 1) (.int .i64 (atN bs x : Int))) ((d.regs.map (dropR bs)).take (j + 1)) := by
              have h9 := hRT.more (d.regs[j].1, (atN bs x : Int)) (by rw [unhide HLK]; omega)
              rw [unhide HLK, ← unhide HTK] at h9
              exact h9
            have R3 := (hKG.trans (KeptG.of hal)).trans ((KeptG.set (k := j * 2) (.bool d.regs[j].1) (List.mem_singleton_self gR)).trans (KeptG.set (k := j * 2 + 1) (.int .i64 (atN bs x : Int)) (List.mem_singleton_self gR)))
            have R4 := ((bstep hbq hal).setCell (p := ⟨gR, j * 2, none⟩) hgR (.bool d.regs[j].1)).setCell (p := ⟨gR, j * 2 + 1, none⟩) hgR (.int .i64 (atN bs x : Int))
            have HLN := hide (show ((vs.set (j * 2) (.bool d.regs[j].1)).set (j * 2 + 1) (.int .i64 (atN bs x : Int))).length = rn * 2 by simp; exact hvl)
            have R := hide (And.intro R1 (And.intro R2 (And.intro R3 R4)))
            clear R1 R2 R3 R4 hRT hKG hbq hcs hcM hcM7 hcs7 hvl hp hq hx hbt hal
            go_wp2_with fail
            exact ⟨⟨j + 1, _, by omega, by go_num, unhide HLN, (unhide R).1, (unhide R).2.1, (unhide R).2.2.1, (unhide R).2.2.2⟩, by simp [intOf]; omega⟩
          · have hjn : j = rn := by omega
            subst hjn
            rw [List.take_of_length_le (by have := unhide HRL; simp; omega)] at hRT
            have hcr := hc0.below hbq hc2l
            have e0 := hcM.cell 0
            have e1 := hcM.cell 1
            have e2 := hcM.cell 2
            have e3 := hcM.cell 3
            have z0 := hcr.cell 0
            have z1 := hcr.cell 1
            have z2 := hcr.cell 2
            have z3 := hcr.cell 3
            have f0 := hcr.frozen 0
            have f1 := hcr.frozen 1
            have f2 := hcr.frozen 2
            have f3 := hcr.frozen 3
            have hc9 := (((hcr.set 0 (.int .i64 (i : Int))).set 1 (.slice pa pn pc)).set 2 (.slice (some ⟨gR, 0, none⟩) j j)).set 3 (.slice oa' on oc')
            have y0 := hc9.cell 0
            have y1 := hc9.cell 1
            have y2 := hc9.cell 2
            have y3 := hc9.cell 3
            have hbw : Below w.heap.size w wr := B0.trans (hbq.mono B0.size)
            have hbw := (((hbw.setCell (p := ⟨w.heap.size + 1, 0, none⟩) (Nat.le_succ _) (.int .i64 (i : Int))).setCell (p := ⟨w.heap.size + 1, 1, none⟩) (Nat.le_succ _) (.slice pa pn pc)).setCell (p := ⟨w.heap.size + 1, 2, none⟩) (Nat.le_succ _) (.slice (some ⟨gR, 0, none⟩) j j)).setCell (p := ⟨w.heap.size + 1, 3, none⟩) (Nat.le_succ _) (.slice oa' on oc')
            have hK9 : ∀ {G : List Nat}, w.heap.size + 1 ∈ G → KeptG G wr ((((wr.setCell ⟨w.heap.size + 1, 0, none⟩ (.int .i64 (i : Int))).setCell ⟨w.heap.size + 1, 1, none⟩ (.slice pa pn pc)).setCell ⟨w.heap.size + 1, 2, none⟩ (.slice (some ⟨gR, 0, none⟩) j j)).setCell ⟨w.heap.size + 1, 3, none⟩ (.slice oa' on oc')) := fun h => (((KeptG.set _ h).trans (KeptG.set _ h)).trans (KeptG.set _ h)).trans (KeptG.set _ h)
            have hN9 : ∀ w'', KeptG (List.range w.heap.size) ((((wr.setCell ⟨w.heap.size + 1, 0, none⟩ (.int .i64 (i : Int))).setCell ⟨w.heap.size + 1, 1, none⟩ (.slice pa pn pc)).setCell ⟨w.heap.size + 1, 2, none⟩ (.slice (some ⟨gR, 0, none⟩) j j)).setCell ⟨w.heap.size + 1, 3, none⟩ (.slice oa' on oc')) w'' → NetAt w'' (dropW d bs) (i : Int) pa pn (some ⟨gR, 0, none⟩) j oa' on := by
              intro w'' hKw
              have hBs := B0.size
              have hrg : ∀ g ∈ List.range w.heap.size, g < w2.heap.size := fun g hg => by have := List.mem_range.1 hg; omega
              obtain ⟨g0, g1, g2, g3, g4, g5, g6⟩ := unhide HV
              have hKa : KeptG (bm :: gR :: (w.heap.size + 1) :: ownL (.slice pa pn pc)) wp wr := hKG.mono (fun b hb => by simp at hb; simp [hb])
              refine ⟨unhide HII, ?_, ?_, ?_⟩
              · refine own_gates (c := pc) (G := List.range w.heap.size) (base := w2.heap.size) (e := 46) (cs := cs) ?_ ((((g5.keep hKa).keep (hK9 (by simp))).off (unhide HCF) hrg).keep hKw) g0 ?_
                · have n1 := own_ne g4 g2 (by decide)
                  have n2 : (Value.slice pa pn pc).ownBlock ≠ some (w.heap.size + 1) := own_base g4 hc2l
                  exact own_kept (own_set (own_set (own_set (own_set (own_kept g4 hKG (fun b hb hm => n1 (by simp at hm; rw [hb, hm]))) n2) n2) n2) n2) hKw (fun b hb hm => own_base g4 (hrg b hm) hb)
                · have h2 := List.length_filter_le (fun j => bs.getD j false) (List.range bs.length)
                  rw [g0, gatesTo_full, gatesTo_len]
                  have h3 : atN bs bs.length ≤ bs.length := by unfold atN; simpa using h2
                  have := unhide HBL
                  unfold maxLen; omega
              · rw [dropW_regs]; exact RTo.regs hRT (hKw.cells ((hK9 (G := [w.heap.size + 1]) (by simp)).cells hcs (by simp; omega)) (fun hm => by have := hrg _ hm; omega)) (by rw [List.length_map]; exact (unhide HRL).symm) (by unfold maxLen; omega)
              · exact ((OffI.of ((g3.keep hKa).keep (hK9 (by simp))).1 (unhide (unhide HNA)).2 hrg).keep hKw).1
            have hS9 := (moved_end (unhide HV) (unhide HMS) hKG hcs hgR hc2l (.int .i64 (i : Int)) (.slice pa pn pc) (.slice (some ⟨gR, 0, none⟩) j j) (.slice oa' on oc')).down B0.size
            have R := hide (And.intro hN9 hbw)
            clear hN9 hbw hK9 hc9 hcr hcM hRT hKG hbq hcs
            go_wp2_with fail
            exact bodyPost_ret (v := .agg #[.int .i64 (i : Int), .slice pa pn pc, .slice (some ⟨gR, 0, none⟩) j j, .slice oa' on oc']) (by simp [results, Try.results46, go_sem, y0, y1, y2, y3]) rfl ⟨_, _, _, _, _, _, _, rfl, (unhide R).1, hide (unhide (unhide HNA)).1, hS9, (unhide R).2⟩
end Go.Proofs.Ytongajonecgdpag
