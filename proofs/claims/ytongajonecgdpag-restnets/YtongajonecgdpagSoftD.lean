/- sweep.Drop: each row of what it answers was made since, no cell of it frozen. -/
import Derived.Test.YtongajonecgdpagSoftC
import Derived.Test.YtongajonecgdpagDropP
namespace Go.Proofs.Ytongajonecgdpag
open Go.RowKit Go.Maps

theorem NetSoft.set {w : World} {base : Nat} {ga ra oa : Option Addr} {gn rn on : Nat} (h : NetSoft w base ga gn ra rn oa on) (b k : Nat) (v : Value) (hb : b < base) : NetSoft (w.setCell ⟨b, k, none⟩ v) base ga gn ra rn oa on :=
  ⟨h.1.set, h.2.1.set, h.2.2.1.set, fun g off he j hj aa an ac hc => by
    subst he
    rcases h.1 with h0 | ⟨g', off', cs, T, e1, e2, _⟩
    · omega
    · injection e1 with e1
      injection e1 with e3 e4 _
      subst e3
      have hne : g ≠ b := by omega
      refine (h.2.2.2 g off rfl j hj aa an ac ?_).set
      rw [← hc]
      exact (World.cell?_of_block (a := ⟨g, off + j * 3 + 2, Option.none⟩) (set_other hne)).symm⟩
def SoftDrop (d : NetD) (w w' : World) (e : Ending) : Prop := ∃ bs, (checkE d = 0 → Marks d.gates (needL d) bs) ∧ SoftAns (dropA d bs) (checkE d) w w' e

set_option maxRecDepth 100000 in
set_option maxHeartbeats 4000000 in
theorem Drop_soft (d : NetD) (ins0 : Int) (ga ra oa : Option Addr) (gn gc rn rc on oc : Nat) (w : World) (h : NetAt w d ins0 ga gn ra rn oa on) (hnil : oa = none → oc = 0) (hs : (on + rn) * 8 ≤ 281474976710656) :
    Calls Try.prog 17 #[.agg #[.int .i64 ins0, .slice ga gn gc, .slice ra rn rc, .slice oa on oc]] w fun e w' => SoftDrop d w w' e := by
  have hb0 : Below w.heap.size w (w.alloc (.cells #[.int .i64 ins0, .slice ga gn gc, .slice ra rn rc, .slice oa on oc] 39)) := (Below.refl _ _).alloc (Nat.le_refl _) _
  have hbox : Boxed (w.alloc (.cells #[.int .i64 ins0, .slice ga gn gc, .slice ra rn rc, .slice oa on oc] 39)) w.heap.size ins0 ga gn gc ra rn rc oa on oc := Boxed.new _ _ _ _ _ _ _ _ _ _ _ _
  have hb1 := (Below.refl _ (w.alloc (.cells #[.int .i64 ins0, .slice ga gn gc, .slice ra rn rc, .slice oa on oc] 39))).alloc (Nat.le_refl _) (.cells #[.int .i64 0, .slice none 0 0, .slice none 0 0, .slice none 0 0] 39)
  have hc0 := Cells.new (w.alloc (.cells #[.int .i64 ins0, .slice ga gn gc, .slice ra rn rc, .slice oa on oc] 39)) [.int .i64 0, .slice none 0 0, .slice none 0 0, .slice none 0 0] 39
  have hsz : (w.alloc (.cells #[.int .i64 ins0, .slice ga gn gc, .slice ra rn rc, .slice oa on oc] 39)).heap.size = w.heap.size + 1 := by simp
  rw [hsz] at hc0
  have hN := (h.below hb0).below hb1
  have hx := hbox.below hb1
  have B0 := bstep hb0 hb1
  have HG : Hid (d.gates.length = gn) := h.gates.1.symm
  have hon0 : oa = none → on = 0 := fun e => by
    rcases h.outs.2.2 with h1 | ⟨b, off, h1, _⟩
    · rw [h.outs.1, h1]; rfl
    · rw [e] at h1; simp at h1
  have HNI := hide (show oa = none → on = 0 ∧ oc = 0 from fun e => ⟨hon0 e, hnil e⟩)
  clear hon0
  clear h hb0 hb1 hbox hsz hnil
  go_enter Try.func17, Try.ntmps17
  go_upto_region 1 with fail
  generalize hw2 : (w.alloc (.cells #[.int .i64 ins0, .slice ga gn gc, .slice ra rn rc, .slice oa on oc] 39)).alloc (.cells #[.int .i64 0, .slice none 0 0, .slice none 0 0, .slice none 0 0] 39) = w2 at *
  clear hw2
  have hx0 := hx
  obtain ⟨x0, x1, x2, x3, x4⟩ := hx
  have hbd := (Below.refl w2.heap.size w2).drew
  go_region_held3 (fun W => Below w2.heap.size w2 W ∧ W.cell? ⟨w.heap.size, 0, none⟩ = some (.int .i64 ins0) ∧ W.cell? ⟨w.heap.size, 1, none⟩ = some (.slice ga gn gc) ∧ W.cell? ⟨w.heap.size, 2, none⟩ = some (.slice ra rn rc) ∧ W.cell? ⟨w.heap.size, 3, none⟩ = some (.slice oa on oc))
    ((first | exact held_start hx0 | exact held_of hx0 hSA | exact held_of hx0 hSL | exact held_of hx0 hSB | exact held_of hx0 hSD))
    ((first
      | (go_at_call 45; refine (Nexts_any d.regs ra rn rc _ (hN.regs.below hbd) (by omega)).mono ?_; rintro e wA ⟨aA, cA, rfl, hIA, hnA, hFA, hbA⟩; have hSA := bstep hbd hbA; have hAL := (Below.refl _ wA).alloc (Nat.le_refl _) (.cells #[.slice oa on oc, .slice aA rn cA] 37); have hSL := bstep hSA hAL; have HNA := hide (show aA = none → rn = 0 ∧ cA = 0 from fun e => absurd e hnA); clear hnA; have hPN := pair_new wA (.slice oa on oc) (.slice aA rn cA) 37)
      | (go_at_call 44; refine (Concat_any d.outs (d.regs.map (·.2)) oa aA on rn oc cA wA.heap.size _ (hN.outs.below hSL) (hIA.below hAL) (unhide HNI) (unhide HNA) hPN.1 hPN.2.1 hPN.2.2 hs).mono ?_; rintro e wB ⟨aB, cB, rfl, hIB, hbB⟩; have hSB := bstep hSL hbB)
      | (go_at_call 43; refine (Needs_any d _ _ _ _ _ _ _ _ _ _ _ (hN.below hSB) (needL d) aB (on + rn) cB hIB).mono ?_; rintro e wD ⟨va, vn, vc, bs, rfl, hV, hAn, hbD⟩; have hSD := bstep hSB hbD)))
  rw [needE_own]
  have HMK := hide (show checkE d = 0 → Marks d.gates (needL d) bs from fun e => hAn.1 (by rw [needE_own]; exact e))
  have hxD := hx0.below hSD
  have hND := hN.below hSD
  have hcD := hc0.below hSD hc0.lt
  have BD := bstep B0 hSD
  clear hIA hFA hAL hPN hIB hAn hbA hbB hbD hSA hSL hSB hSD hx0 hN hc0 B0 hbd x0 x1 x2 x3 x4
  by_cases e0 : checkE d = 0
  case neg =>
    have HA := hide (show dropA d bs = emptyD by unfold dropA; rw [if_neg e0])
    have HE := hide e0
    have hq : (checkE d != 0) = true := by simp [e0]
    have z0 := hcD.cell 0
    have z1 := hcD.cell 1
    have z2 := hcD.cell 2
    have z3 := hcD.cell 3
    have f0 := hcD.frozen 0
    have f1 := hcD.frozen 1
    have f2 := hcD.frozen 2
    have f3 := hcD.frozen 3
    have hc5 := (((hcD.set 0 (.int .i64 0)).set 1 (.slice none 0 0)).set 2 (.slice none 0 0)).set 3 (.slice none 0 0)
    have y0 := hc5.cell 0
    have y1 := hc5.cell 1
    have y2 := hc5.cell 2
    have y3 := hc5.cell 3
    have B5 := (((BD.setCell (p := ⟨w.heap.size + 1, 0, none⟩) (Nat.le_succ _) (.int .i64 0)).setCell (p := ⟨w.heap.size + 1, 1, none⟩) (Nat.le_succ _) (.slice none 0 0)).setCell (p := ⟨w.heap.size + 1, 2, none⟩) (Nat.le_succ _) (.slice none 0 0)).setCell (p := ⟨w.heap.size + 1, 3, none⟩) (Nat.le_succ _) (.slice none 0 0)
    clear e0
    go_wp2_with fail
    exact bodyPost_ret (v := .tuple #[.agg #[.int .i64 0, .slice none 0 0, .slice none 0 0, .slice none 0 0], .int .i64 (checkE d)]) (by simp [results, Try.results17, go_sem, y0, y1, y2, y3]) rfl ⟨bs, fun e => absurd e (unhide HE), _, _, _, _, _, _, _, _, _, _, rfl, by rw [unhide HA]; exact NetAt.empty _, fun _ => rfl, NetSoft.empty _ _, B5⟩
  have HCK := hide e0
  have hok := ok_of e0
  have HA := hide (show dropA d bs = dropW d bs by unfold dropA; rw [if_pos e0])
  have HCL := hide (clo_of (unhide HMK e0) e0)
  have hgn : gn ≤ 200 := by have := hok.gates; have := HG.out; omega
  have hvn : vn = gn := by rw [hV.1, (unhide HCL).len]; exact HG.out
  subst hvn
  rw [e0]
  clear e0 hok
  have hxl := hxD.1
  have hcl := hcD.lt
  obtain ⟨x0, x1, x2, x3, x4⟩ := hxD
  have hbd := (Below.refl wD.heap.size wD).drew
  go_wp2_with fail
  go_region_held3 (fun W => Below (w.heap.size + 1) wD W ∧ W.cell? ⟨w.heap.size, 0, none⟩ = some (.int .i64 ins0) ∧ W.cell? ⟨w.heap.size, 1, none⟩ = some (.slice ga vn gc) ∧ W.cell? ⟨w.heap.size, 2, none⟩ = some (.slice ra rn rc) ∧ W.cell? ⟨w.heap.size, 3, none⟩ = some (.slice oa on oc))
    ((first | exact held4_of (Nat.lt_succ_self _) x1 x2 x3 x4 (Below.refl _ _).drew | exact held4_of (Nat.lt_succ_self _) x1 x2 x3 x4 (hSA.mono (Nat.le_of_lt hcl)) | exact held4_of (Nat.lt_succ_self _) x1 x2 x3 x4 (hSB.mono (Nat.le_of_lt hcl)) | exact held4_of (Nat.lt_succ_self _) x1 x2 x3 x4 (((((hSB.mono (Nat.le_of_lt hcl)).setCell (Nat.le_refl _) _).setCell (Nat.le_refl _) _).setCell (Nat.le_refl _) _).setCell (Nat.le_refl _) _)))
    ((first
      | (go_at_call 47; refine (places_any bs va vn vc _ (hV.below hbd) hgn).mono ?_; rintro e wA ⟨m, rfl, hmw, hMA, hbA⟩; have hSA := bstep hbd hbA)
      | (go_at_call 46; refine (moved_soft d bs ins0 ga ra oa vn gc rn rc on oc m _ (hND.below hSA) hMA (unhide HCK) (unhide HCL)).mono ?_; rintro e wB ⟨pa, pn, pc, rb, rd, ob, od, rfl, hNB, hOB, hSfB, hbB⟩; have hSB := bstep hSA hbB; have hcB := hcD.below hSB hcl; have z0 := hcB.cell 0; have z1 := hcB.cell 1; have z2 := hcB.cell 2; have z3 := hcB.cell 3; have f0 := hcB.frozen 0; have f1 := hcB.frozen 1; have f2 := hcB.frozen 2; have f3 := hcB.frozen 3)))
  have hc9 := (((hcB.set 0 (.int .i64 ins0)).set 1 (.slice pa pn pc)).set 2 (.slice rb rn rd)).set 3 (.slice ob on od)
  have y0 := hc9.cell 0
  have y1 := hc9.cell 1
  have y2 := hc9.cell 2
  have y3 := hc9.cell 3
  have B9 : Below w.heap.size w ((((wB.setCell ⟨w.heap.size + 1, 0, none⟩ (.int .i64 ins0)).setCell ⟨w.heap.size + 1, 1, none⟩ (.slice pa pn pc)).setCell ⟨w.heap.size + 1, 2, none⟩ (.slice rb rn rd)).setCell ⟨w.heap.size + 1, 3, none⟩ (.slice ob on od)) := ((((bstep BD hSB).setCell (Nat.le_succ _) _).setCell (Nat.le_succ _) _).setCell (Nat.le_succ _) _).setCell (Nat.le_succ _) _
  have hrz : w.heap.size + 1 ∈ List.range wA.heap.size := List.mem_range.2 (Nat.lt_of_lt_of_le hcl hSA.size)
  have hN9 := hNB _ ((((KeptG.set (k := 0) (.int .i64 ins0) hrz).trans (KeptG.set (k := 1) (.slice pa pn pc) hrz)).trans (KeptG.set (k := 2) (.slice rb rn rd) hrz)).trans (KeptG.set (k := 3) (.slice ob on od) hrz))
  have hS9 := ((((hSfB.set (w.heap.size + 1) 0 (.int .i64 ins0) (Nat.lt_of_lt_of_le hcl hSA.size)).set (w.heap.size + 1) 1 (.slice pa pn pc) (Nat.lt_of_lt_of_le hcl hSA.size)).set (w.heap.size + 1) 2 (.slice rb rn rd) (Nat.lt_of_lt_of_le hcl hSA.size)).set (w.heap.size + 1) 3 (.slice ob on od) (Nat.lt_of_lt_of_le hcl hSA.size)).down (b' := w.heap.size) (by have := hSA.size; omega)
  clear hSfB hcB hNB hbA hbB hSA hSB z0 z1 z2 z3 f0 f1 f2 f3
  go_wp2_with fail
  exact bodyPost_ret (v := .tuple #[.agg #[.int .i64 ins0, .slice pa pn pc, .slice rb rn rd, .slice ob on od], .int .i64 0]) (by simp [results, Try.results17, go_sem, y0, y1, y2, y3]) rfl ⟨bs, unhide HMK, _, _, _, _, _, _, _, _, _, _, ret_net (unhide HCK).symm, by rw [unhide HA]; exact hN9, hide (fun e => absurd e (unhide hOB)), hS9, B9⟩
end Go.Proofs.Ytongajonecgdpag
