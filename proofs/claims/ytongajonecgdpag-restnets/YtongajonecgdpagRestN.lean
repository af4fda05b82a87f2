/- The statement RestNets: what Fold, Drop and Step answered may be written to. -/
import Derived.Test.YtongajonecgdpagSoftD
import Derived.Test.YtongajonecgdpagSoftE
import Derived.Test.YtongajonecgdpagSoftR
import Derived.Test.YtongajonecgdpagDropN
import Derived.Deep.LoopGhost
namespace Go.Proofs.Ytongajonecgdpag
open Go.RowKit Go.Maps

theorem own_net {d : NetD} {ins0 : Int} {rn on : Nat} {w w' : World} {e : Ending} (h : OwnPost d ins0 rn on w w' e) (hi : ins0 = d.ins) (hm : d.gates.length ≤ 200) : ∃ pa pn pc ra rc oa oc, e = .returned (.agg #[.int .i64 ins0, .slice pa pn pc, .slice ra rn rc, .slice oa on oc]) ∧ NetAt w' d ins0 pa pn ra rn oa on ∧ Below w.heap.size w w' := by
  obtain ⟨pa, pn, pc, ra, rc, oa, oc, cs, he, hp, hR, hO, hown, hG, hb⟩ := h
  refine ⟨pa, pn, pc, ra, rc, oa, oc, he, ⟨hi, ?_, hR.now, hO.now⟩, hb⟩
  exact own_gates (G := []) (c := pc) hown ⟨hG.1, fun j hj => by
    obtain ⟨aa, an, ac, h1, h2, h3, h4⟩ := hG.2 j hj
    refine ⟨aa, an, ac, h1, h2, h3, h4.now, ?_⟩
    rcases h4.now.2.2 with h5 | ⟨b, off, h5, h6, _⟩
    · left; rw [h4.now.1, h5]; rfl
    · exact Or.inr ⟨b, off, h5, h6, by simp⟩⟩ hp (by unfold maxLen; omega)

/-- Two nets that were answered, beside one another. -/
def TwoNets (B : Nat) (w : World) (vs : List Value) : Prop := ∀ i, i < 2 → ∃ (d : NetD) (ins : Int) (ga : Option Addr) (gn gc : Nat) (ra : Option Addr) (rn rc : Nat) (oa : Option Addr) (on oc : Nat), vs[i * 4 + 1]? = some (.slice ga gn gc) ∧ vs[i * 4 + 2]? = some (.slice ra rn rc) ∧ vs[i * 4 + 3]? = some (.slice oa on oc) ∧ NetAt w d ins ga gn ra rn oa on ∧ NetSoft w B ga gn ra rn oa on

theorem NetSoft.below {w w' : World} {base : Nat} {ga ra oa : Option Addr} {gn rn on : Nat} (h : NetSoft w base ga gn ra rn oa on) (hb : Below w.heap.size w w') : NetSoft w' base ga gn ra rn oa on :=
  ⟨h.1.below hb, h.2.1.below hb, h.2.2.1.below hb, fun g off he j hj aa an ac hc => by
    subst he
    rcases h.1 with h0 | ⟨g', off', cs, T, e1, e2, e3⟩
    · omega
    · injection e1 with e1
      injection e1 with e4 e5 _
      subst e4
      refine (h.2.2.2 g off rfl j hj aa an ac ?_).below hb
      rw [← hc]
      exact (hb.cell (p := ⟨g, off + j * 3 + 2, Option.none⟩) (Array.getElem?_eq_some_iff.1 e3).1).symm⟩
theorem cells_off {w : World} {g b k : Nat} {vs : List Value} {T : TypeId} {v : Value} (h : Cells w g vs T) (hne : g ≠ b) : Cells (w.setCell ⟨b, k, none⟩ v) g vs T := (set_other hne).trans h
/-- A gate's list, as it now is. -/
theorem head_now {B : Nat} {w0 wr : World} (h : RW B w0 wr) {p : Addr} {aa : Option Addr} {an ac : Nat} {xs : List Int} (hc : w0.cell? p = some (.slice aa an ac)) (hI : Ints w0 aa an xs) (hS : Soft w0 B aa an) : ∃ a' n' c' xs', wr.cell? p = some (.slice a' n' c') ∧ Ints w0 a' n' xs' ∧ Soft w0 B a' n' := by
  rcases h.2.2.2 p aa an ac hc with e | e
  · exact ⟨aa, an, ac, xs, e, hI, hS⟩
  · exact ⟨none, 0, 0, [], e, Ints.none _, Or.inl rfl⟩

set_option maxRecDepth 100000 in
set_option maxHeartbeats 20000000 in
theorem RestNets_any (d : NetD) (ins0 : Int) (ga ra oa : Option Addr) (gn gc rn rc on oc : Nat) (w : World) (h : NetAt w d ins0 ga gn ra rn oa on) (regs ins : List Int) (qa ia : Option Addr) (qn qc inn ic : Nat) (hr : Ints w qa qn regs) (hi : Ints w ia inn ins) (hnil : oa = none → oc = 0) :
    Calls Try.prog 5 #[.agg #[.int .i64 ins0, .slice ga gn gc, .slice ra rn rc, .slice oa on oc], .slice qa qn qc, .slice ia inn ic] w fun e w' => e = .returned (.bool true) ∧ Below w.heap.size w w' := by
  have hb0 : Below w.heap.size w (w.alloc (.cells #[.int .i64 ins0, .slice ga gn gc, .slice ra rn rc, .slice oa on oc] 39)) := (Below.refl _ _).alloc (Nat.le_refl _) _
  have hbox : Boxed (w.alloc (.cells #[.int .i64 ins0, .slice ga gn gc, .slice ra rn rc, .slice oa on oc] 39)) w.heap.size ins0 ga gn gc ra rn rc oa on oc := Boxed.new _ _ _ _ _ _ _ _ _ _ _ _
  have hN := h.below hb0
  have hr0 := hr.below hb0
  have hi0 := hi.below hb0
  have HG : Hid (d.gates.length = gn) := h.gates.1.symm
  have HNI := hide hnil
  clear h hr hi hnil
  go_enter Try.func5, Try.ntmps5
  go_upto_region 1 with fail
  generalize w.alloc (.cells #[.int .i64 ins0, .slice ga gn gc, .slice ra rn rc, .slice oa on oc] 39) = w0 at *
  have hx0 := hbox
  obtain ⟨x0, x1, x2, x3, x4⟩ := hbox
  go_wp2_with fail
  refine (StepError_any d _ _ _ _ _ _ _ _ _ _ _ hN regs ins _ _ _ _ _ _ hr0 hi0).mono ?_
  rintro e w1 ⟨rfl, hb⟩
  have hN1 := hN.below hb
  have hr1 := hr0.below hb
  have hi1 := hi0.below hb
  have hx1 := hx0.below hb
  have B1 := bstep hb0 hb
  clear hb hb0 hN hr0 hi0 hx0 x0 x1 x2 x3 x4
  by_cases e0 : stepE d regs ins = 0
  case neg =>
    have hq : (stepE d regs ins != 0) = true := by simp [e0]
    obtain ⟨ck, hck⟩ : ∃ ck, stepE d regs ins = ck := ⟨_, rfl⟩
    rw [hck] at hq ⊢
    clear e0 hck
    go_wp2_with fail
    refine (sweepBegun_any _).mono ?_
    rintro e w2 ⟨rfl, hb⟩
    have R := hide (bstep B1 hb)
    go_wp2_with fail
    go_ret
    exact ⟨rfl, unhide R⟩
  have hck : checkE d = 0 := (stepE_ok e0).1
  have HCK := hide hck
  have HST := hide e0
  have hok := ok_of hck
  have hon : on ≤ 100 := by have := hok.outs; have := hN1.outs.1; omega
  have hrn : rn ≤ 20 := by have := hok.regs; have := hN1.regs.1; omega
  have hgn : d.gates.length ≤ 200 := by have := hok.gates; omega
  rw [e0]
  clear e0 hck hok
  have hx1' := hx1
  obtain ⟨x0, x1, x2, x3, x4⟩ := hx1'
  go_wp2_with fail
  refine (OwnNet_any d _ _ _ _ _ _ _ _ _ _ _ hN1 (unhide HCK)).mono ?_
  intro e w2 hret
  obtain ⟨pa, pn, pc, pra, prc, poa, poc, rfl, hO2, hb⟩ := own_net hret hN1.ins hgn
  have hbA := (Below.refl _ w2).alloc (Nat.le_refl _) (.cells #[.int .i64 ins0, .slice pa pn pc, .slice pra rn prc, .slice poa on poc] 39)
  have hpx : Boxed (w2.alloc (.cells #[.int .i64 ins0, .slice pa pn pc, .slice pra rn prc, .slice poa on poc] 39)) w2.heap.size ins0 pa pn pc pra rn prc poa on poc := Boxed.new _ _ _ _ _ _ _ _ _ _ _ _
  have hN2 := (hN1.below hb).below hbA
  have hO3 := hO2.below hbA
  have hr2 := (hr1.below hb).below hbA
  have hi2 := (hi1.below hb).below hbA
  have hx2 := (hx1.below hb).below hbA
  have B2 := bstep (bstep B1 hb) hbA
  clear hret hb hbA hN1 hr1 hi1 hx1 x0 x1 x2 x3 x4 B1 hO2
  go_upto_region 4 with fail
  generalize w2.alloc (.cells #[.int .i64 ins0, .slice pa pn pc, .slice pra rn prc, .slice poa on poc] 39) = w3 at *
  generalize w2.heap.size = gP at *
  have hx2' := hx2
  obtain ⟨x0, x1, x2, x3, x4⟩ := hx2'
  go_wp2_with fail
  refine (Fold_soft d _ _ _ _ _ _ _ _ _ _ _ hN2).mono ?_
  intro e w4 hA
  obtain ⟨fi, fga, fgn, fgc, fra, frn, frc, foa, fon, foc, rfl, hF4, _, hS4, hb⟩ := hA
  rw [unhide HCK]
  have hbA := (Below.refl _ w4).alloc (Nat.le_refl _) (.cells #[.int .i64 fi, .slice fga fgn fgc, .slice fra frn frc, .slice foa fon foc] 39)
  have hfx : Boxed (w4.alloc (.cells #[.int .i64 fi, .slice fga fgn fgc, .slice fra frn frc, .slice foa fon foc] 39)) w4.heap.size fi fga fgn fgc fra frn frc foa fon foc := Boxed.new _ _ _ _ _ _ _ _ _ _ _ _
  have B4 := hb
  have hF5 := hF4.below hbA
  have hS5 := hS4.below hbA
  have B5 := bstep B4 hbA
  clear hb hbA hF4 hS4 B4 x0 x1 x2 x3 x4
  go_upto_region 5 with fail
  generalize w4.alloc (.cells #[.int .i64 fi, .slice fga fgn fgc, .slice fra frn frc, .slice foa fon foc] 39) = w5 at *
  generalize w4.heap.size = gF at *
  have hx5 := hx2.below B5
  obtain ⟨x0, x1, x2, x3, x4⟩ := hx5
  go_wp2_with fail
  refine (Drop_soft d _ _ _ _ _ _ _ _ _ _ _ (hN2.below B5) (unhide HNI) (by omega)).mono ?_
  intro e w6 hD
  obtain ⟨bs, hM, hA⟩ := hD
  obtain ⟨di, dga, dgn, dgc, dra, drn, drc, doa, don, doc, rfl, hD6, _, hS6, hb⟩ := hA
  rw [unhide HCK]
  have hbA := (Below.refl _ w6).alloc (Nat.le_refl _) (.cells #[.int .i64 di, .slice dga dgn dgc, .slice dra drn drc, .slice doa don doc] 39)
  have hdx : Boxed (w6.alloc (.cells #[.int .i64 di, .slice dga dgn dgc, .slice dra drn drc, .slice doa don doc] 39)) w6.heap.size di dga dgn dgc dra drn drc doa don doc := Boxed.new _ _ _ _ _ _ _ _ _ _ _ _
  have hF7 := (hF5.below hb).below hbA
  have hS7 := (hS5.below hb).below hbA
  have hD7 := hD6.below hbA
  have hT7 := (hS6.below hbA).down B5.size
  have hfx7 := (hfx.below hb).below hbA
  have B7 := bstep (bstep B5 hb) hbA
  have HM := hide hM
  clear hb hbA hF5 hS5 hD6 hS6 B5 x0 x1 x2 x3 x4 hfx hM
  go_upto_region 6 with fail
  generalize w6.alloc (.cells #[.int .i64 di, .slice dga dgn dgc, .slice dra drn drc, .slice doa don doc] 39) = w7 at *
  generalize w6.heap.size = gD at *
  obtain ⟨x0, x1, x2, x3, x4⟩ := hfx7
  obtain ⟨y0, y1, y2, y3, y4⟩ := hdx
  have hL0 : Cells (w7.alloc (.cells #[.int .i64 fi, .slice fga fgn fgc, .slice fra frn frc, .slice foa fon foc, .int .i64 di, .slice dga dgn dgc, .slice dra drn drc, .slice doa don doc] 39)) w7.heap.size [.int .i64 fi, .slice fga fgn fgc, .slice fra frn frc, .slice foa fon foc, .int .i64 di, .slice dga dgn dgc, .slice dra drn drc, .slice doa don doc] 39 := Cells.new w7 _ _
  have hR0 : RW w3.heap.size w7 (w7.alloc (.cells #[.int .i64 fi, .slice fga fgn fgc, .slice fra frn frc, .slice foa fon foc, .int .i64 di, .slice dga dgn dgc, .slice dra drn drc, .slice doa don doc] 39)) := RW.of ((Below.refl _ _).alloc (Nat.le_refl _) _) B7.size
  have hTW : TwoNets w3.heap.size w7 [.int .i64 fi, .slice fga fgn fgc, .slice fra frn frc, .slice foa fon foc, .int .i64 di, .slice dga dgn dgc, .slice dra drn drc, .slice doa don doc] := fun i hi => by
    rcases (show i = 0 ∨ i = 1 by omega) with rfl | rfl
    · exact ⟨_, _, _, _, _, _, _, _, _, _, _, rfl, rfl, rfl, hF7, hS7⟩
    · exact ⟨_, _, _, _, _, _, _, _, _, _, _, rfl, rfl, rfl, hD7, hT7⟩
  go_upto_region 7 with fail
  generalize w7.alloc (.cells #[.int .i64 fi, .slice fga fgn fgc, .slice fra frn frc, .slice foa fon foc, .int .i64 di, .slice dga dgn dgc, .slice dra drn drc, .slice doa don doc] 39) = w8 at *
  generalize [Value.int .i64 fi, .slice fga fgn fgc, .slice fra frn frc, .slice foa fon foc, .int .i64 di, .slice dga dgn dgc, .slice dra drn drc, .slice doa don doc] = vs at *
  clear x0 x1 x2 x3 x4 y0 y1 y2 y3 y4 hF7 hS7 hD7 hT7
  obtain ⟨L, hL⟩ : ∃ L, w7.heap.size = L := ⟨_, rfl⟩
  rw [hL] at hL0 ⊢
  have HLL := hide hL
  clear hL
  go_wp2_with fail
  go_loopg [13] 2 (fun fu iv wr => ∃ i : Nat, 2 - i ≤ fu ∧ i ≤ 2 ∧ iv = .int .i64 i ∧ RW w3.heap.size w7 wr ∧ Cells wr L vs 39)
  case atStart => exact ⟨0, by omega, by omega, rfl, hR0, hL0⟩
  case round =>
    clear hR0 hL0
    obtain ⟨i, hfu, hi2', rfl, hRW, hcL⟩ := hrel
    have HFU := hide hfu
    clear hfu
    by_cases hlt : i < 2
    · have hii : (i : Int) < 2 := by omega
      obtain ⟨nd, ni, nga, ngn, ngc, nra, nrn, nrc, noa, non, noc, v1, v2, v3, hNN, hNS⟩ := hTW i hlt
      have hgm : ngn ≤ maxLen := by rw [hNN.gates.1]; exact hNN.gates.2.1
      have hrm : nrn ≤ maxLen := by rw [hNN.regs.1]; exact hNN.regs.2.1
      have hom : non ≤ maxLen := by rw [hNN.outs.1]; exact hNN.outs.2.1
      unfold maxLen at hgm hrm hom
      have z1 := (hcL.cell (i * 4 + 1)).trans v1
      go_wp2_with fail
      clear z1
      go_loopg [14] ngn (fun fu iv wr => ∃ j : Nat, ngn - j ≤ fu ∧ j ≤ ngn ∧ iv = .int .i64 j ∧ RW w3.heap.size w7 wr ∧ Cells wr L vs 39)
      case atStart => exact ⟨0, by omega, by omega, rfl, hRW, hcL⟩
      case round =>
        clear hRW hcL
        obtain ⟨j, hfu, hj, rfl, hRW, hcL⟩ := hrel
        have HFJ := hide hfu
        clear hfu
        have z1 := (hcL.cell (i * 4 + 1)).trans v1
        by_cases hjl : j < ngn
        · have hji : (j : Int) < (ngn : Int) := by omega
          obtain ⟨b, off, cs, T, q0, q1, aa, an, ac, xs, rfl, hBb, hbl, hbs, c0, c1, c2, hIx, hSx⟩ := soft_gates hNN.gates hNS hjl
          obtain ⟨a', n', c', xs', h2, hIy, hSy⟩ := head_now hRW c2 hIx hSx
          have hnm : n' ≤ maxLen := by rw [hIy.1]; exact hIy.2.1
          unfold maxLen at hnm
          have HW7 := hide (And.intro hbs (And.intro c0 (And.intro c1 c2)))
          clear hIx hSx hbs c0 c1 c2
          go_wp2_with fail
          clear z1
          go_loopg [15] n' (fun fu iv wr => ∃ t : Nat, n' - t ≤ fu ∧ t ≤ n' ∧ iv = .int .i64 t ∧ RW w3.heap.size w7 wr ∧ Cells wr L vs 39 ∧ wr.cell? ⟨b, off + j * 3 + 2, none⟩ = some (.slice a' n' c'))
          case atStart => exact ⟨0, by omega, by omega, rfl, hRW, hcL, h2⟩
          case round =>
            clear hRW hcL h2
            obtain ⟨t, hfu, ht, rfl, hRW, hcL, h2⟩ := hrel
            have HFT := hide hfu
            clear hfu
            have z1 := (hcL.cell (i * 4 + 1)).trans v1
            by_cases htl : t < n'
            · have hti : (t : Int) < (n' : Int) := by omega
              obtain ⟨b2, o2, cs2, T2, zz, rfl, hB2, hb2l, hb2s, d0⟩ := soft_ints hIy hSy htl
              obtain ⟨u0, e0⟩ := hRW.2.2.1 _ _ d0
              have f0 := hRW.frozen hb2s (o2 + t)
              have hne : (⟨b2, o2 + t, none⟩ : Addr) ≠ ⟨b, off + j * 3 + 2, none⟩ := fun e => by
                rw [e, (unhide HW7).2.2.2] at d0; simp at d0
              have R := hide (And.intro (hRW.put (.int .i64 (-1)) hB2 (k := o2 + t) (Or.inl (fun a n c e => by rw [d0] at e; simp at e))) (And.intro (cells_off (k := o2 + t) (v := .int .i64 (-1)) hcL (b := b2) (by have := unhide HLL; omega)) ((World.cell?_setCell_other _ _ _ (.int .i64 (-1)) hne).trans h2)))
              clear d0 hb2s hRW hcL hne
              go_wp2_with fail
              go_roundg (n' - (t + 1))
              case measure => have := unhide HFT; omega
              case rel => exact ⟨t + 1, Nat.le_refl _, by omega, by go_num, (unhide R).1, (unhide R).2.1, (unhide R).2.2⟩
            · have htn : ¬ (t : Int) < (n' : Int) := by omega
              obtain ⟨hbs, c0, c1, c2⟩ := unhide HW7
              obtain ⟨u0, e0⟩ := hRW.2.2.1 _ _ c0
              obtain ⟨u1, e1⟩ := hRW.2.2.1 _ _ c1
              have f0 := hRW.frozen hbs (off + j * 3)
              have f1 := hRW.frozen hbs (off + j * 3 + 1)
              have f2 := hRW.frozen hbs (off + j * 3 + 2)
              have hLb : L ≠ b := by have := unhide HLL; omega
              have R := hide (And.intro (((hRW.put (.int .i64 9) hBb (k := off + j * 3) (Or.inl (fun a n c e => by rw [c0] at e; simp at e))).put (.int .i64 0) hBb (k := off + j * 3 + 1) (Or.inl (fun a n c e => by rw [c1] at e; simp at e))).put (.slice none 0 0) hBb (k := off + j * 3 + 2) (Or.inr rfl)) (cells_off (k := off + j * 3 + 2) (v := .slice none 0 0) (cells_off (k := off + j * 3 + 1) (v := .int .i64 0) (cells_off (k := off + j * 3) (v := .int .i64 9) hcL hLb) hLb) hLb))
              clear hbs c0 c1 c2 hRW hcL hLb
              go_wp2_with fail
              go_roundg (ngn - (j + 1))
              case measure => have := unhide HFJ; omega
              case rel => exact ⟨j + 1, Nat.le_refl _, by omega, by go_num, (unhide R).1, (unhide R).2⟩
        · have hji : ¬ (j : Int) < (ngn : Int) := by omega
          have z2 := (hcL.cell (i * 4 + 2)).trans v2
          go_wp2_with fail
          clear z1 z2
          go_loopg [16] nrn (fun fu iv wr => ∃ j : Nat, nrn - j ≤ fu ∧ j ≤ nrn ∧ iv = .int .i64 j ∧ RW w3.heap.size w7 wr ∧ Cells wr L vs 39)
          case atStart => exact ⟨0, by omega, by omega, rfl, hRW, hcL⟩
          case round =>
            clear hRW hcL
            obtain ⟨j, hfu, hj, rfl, hRW, hcL⟩ := hrel
            have HFJ := hide hfu
            clear hfu
            have z2 := (hcL.cell (i * 4 + 2)).trans v2
            by_cases hjl : j < nrn
            · have hji : (j : Int) < (nrn : Int) := by omega
              obtain ⟨b, off, cs, T, q0, q1, rfl, hBb, hbl, hbs, c0, c1⟩ := soft_regs hNN.regs hNS.2.1 hjl
              obtain ⟨u0, e0⟩ := hRW.2.2.1 _ _ c0
              obtain ⟨u1, e1⟩ := hRW.2.2.1 _ _ c1
              have f0 := hRW.frozen hbs (off + j * 2)
              have f1 := hRW.frozen hbs (off + j * 2 + 1)
              have hLb : L ≠ b := by have := unhide HLL; omega
              have R := hide (And.intro ((hRW.put (.bool false) hBb (k := off + j * 2) (Or.inl (fun a n c e => by rw [c0] at e; simp at e))).put (.int .i64 (-1)) hBb (k := off + j * 2 + 1) (Or.inl (fun a n c e => by rw [c1] at e; simp at e))) (cells_off (k := off + j * 2 + 1) (v := .int .i64 (-1)) (cells_off (k := off + j * 2) (v := .bool false) hcL hLb) hLb))
              clear hbs c0 c1 hRW hcL hLb
              go_wp2_with fail
              go_roundg (nrn - (j + 1))
              case measure => have := unhide HFJ; omega
              case rel => exact ⟨j + 1, Nat.le_refl _, by omega, by go_num, (unhide R).1, (unhide R).2⟩
            · have hji : ¬ (j : Int) < (nrn : Int) := by omega
              have z3 := (hcL.cell (i * 4 + 3)).trans v3
              go_wp2_with fail
              clear z2 z3
              go_loopg [17] non (fun fu iv wr => ∃ j : Nat, non - j ≤ fu ∧ j ≤ non ∧ iv = .int .i64 j ∧ RW w3.heap.size w7 wr ∧ Cells wr L vs 39)
              case atStart => exact ⟨0, by omega, by omega, rfl, hRW, hcL⟩
              case round =>
                clear hRW hcL
                obtain ⟨j, hfu, hj, rfl, hRW, hcL⟩ := hrel
                have HFJ := hide hfu
                clear hfu
                have z3 := (hcL.cell (i * 4 + 3)).trans v3
                by_cases hjl : j < non
                · have hji : (j : Int) < (non : Int) := by omega
                  obtain ⟨b, off, cs, T, q0, rfl, hBb, hbl, hbs, c0⟩ := soft_ints hNN.outs hNS.2.2.1 hjl
                  obtain ⟨u0, e0⟩ := hRW.2.2.1 _ _ c0
                  have f0 := hRW.frozen hbs (off + j)
                  have hLb : L ≠ b := by have := unhide HLL; omega
                  have R := hide (And.intro (hRW.put (.int .i64 (-1)) hBb (k := off + j) (Or.inl (fun a n c e => by rw [c0] at e; simp at e))) (cells_off (k := off + j) (v := .int .i64 (-1)) hcL hLb))
                  clear hbs c0 hRW hcL hLb
                  go_wp2_with fail
                  go_roundg (non - (j + 1))
                  case measure => have := unhide HFJ; omega
                  case rel => exact ⟨j + 1, Nat.le_refl _, by omega, by go_num, (unhide R).1, (unhide R).2⟩
                · have hji : ¬ (j : Int) < (non : Int) := by omega
                  have R := hide (And.intro hRW hcL)
                  clear hRW hcL
                  go_wp2_with fail
                  go_roundg (2 - (i + 1))
                  case measure => have := unhide HFU; omega
                  case rel => exact ⟨i + 1, Nat.le_refl _, by omega, by go_num, (unhide R).1, (unhide R).2⟩
    · have hii : ¬ (i : Int) < 2 := by omega
      have Bw := B7.trans hRW.1
      have hxw := hx2.below Bw
      obtain ⟨x0, x1, x2, x3, x4⟩ := hxw
      clear hRW hcL hTW
      go_wp2_with fail
      refine (Step_soft d _ _ _ _ _ _ _ _ _ _ _ (hN2.below Bw) regs ins _ _ _ _ _ _ (hr2.below Bw) (hi2.below Bw)).mono ?_
      rintro e wS ⟨sa, sn, sc, sv, rfl, hVS, hSS, _, hb⟩
      rw [unhide HST]
      have BS := Bw.trans (hb.mono Bw.size)
      have hST := hSS.down Bw.size
      have hsm : sn ≤ maxLen := by rw [hVS.1]; exact hVS.2.1
      unfold maxLen at hsm
      clear hSS hb Bw x0 x1 x2 x3 x4
      go_wp2_with fail
      go_loopg [20] sn (fun fu iv wr => ∃ j : Nat, sn - j ≤ fu ∧ j ≤ sn ∧ iv = .int .i64 j ∧ RW w3.heap.size wS wr)
      case atStart => exact ⟨0, by omega, by omega, rfl, RW.of (Below.refl _ _) BS.size⟩
      case round =>
        obtain ⟨j, hfu, hj, rfl, hRW⟩ := hrel
        have HFJ := hide hfu
        clear hfu
        by_cases hjl : j < sn
        · have hji : (j : Int) < (sn : Int) := by omega
          obtain ⟨b, off, cs, T, q0, rfl, hBb, hbl, hbs, c0⟩ := soft_ints hVS hST hjl
          obtain ⟨u0, e0⟩ := hRW.2.2.1 _ _ c0
          have f0 := hRW.frozen hbs (off + j)
          have R := hide (hRW.put (.int .i64 9) hBb (k := off + j) (Or.inl (fun a n c e => by rw [c0] at e; simp at e)))
          clear hbs c0 hRW
          go_wp2_with fail
          go_roundg (sn - (j + 1))
          case measure => have := unhide HFJ; omega
          case rel => exact ⟨j + 1, Nat.le_refl _, by omega, by go_num, unhide R⟩
        · have hji : ¬ (j : Int) < (sn : Int) := by omega
          have Bw := BS.trans hRW.1
          clear hRW hVS hST BS
          have hxw := hx2.below Bw
          obtain ⟨x0, x1, x2, x3, x4⟩ := hxw
          go_wp2_with fail
          refine (Fold_any d _ _ _ _ _ _ _ _ _ _ _ (hN2.below Bw)).mono ?_
          intro e wA hA
          obtain ⟨ei, ega, egn, egc, era, ern, erc, eoa, eon, eoc, rfl, hE, _, hb⟩ := hA
          rw [show foldA d = foldD d by unfold foldA; rw [if_pos (unhide HCK)]] at hE
          rw [unhide HCK]
          have hbA := (Below.refl _ wA).alloc (Nat.le_refl _) (.cells #[.int .i64 ei, .slice ega egn egc, .slice era ern erc, .slice eoa eon eoc] 39)
          have hex : Boxed (wA.alloc (.cells #[.int .i64 ei, .slice ega egn egc, .slice era ern erc, .slice eoa eon eoc] 39)) wA.heap.size ei ega egn egc era ern erc eoa eon eoc := Boxed.new _ _ _ _ _ _ _ _ _ _ _ _
          have hE2 := hE.below hbA
          have Bw2 := Bw.trans ((bstep hb hbA).mono Bw.size)
          clear hb hbA hE Bw x0 x1 x2 x3 x4
          go_upto_region 32 with fail
          generalize wA.alloc (.cells #[.int .i64 ei, .slice ega egn egc, .slice era ern erc, .slice eoa eon eoc] 39) = wB at *
          generalize wA.heap.size = gE at *
          obtain ⟨x0, x1, x2, x3, x4⟩ := hx2.below Bw2
          go_wp2_with fail
          refine (Drop_any d _ _ _ _ _ _ _ _ _ _ _ (hN2.below Bw2) (unhide HNI) (by omega)).mono ?_
          intro e wC hD
          obtain ⟨bs2, hM2, hA⟩ := hD
          obtain ⟨hI0, hga, hgn', hgc, hra, hrn', hrc, hoa, hon', hoc, rfl, hH, _, hb⟩ := hA
          have HM2 := hide (hM2 (unhide HCK))
          rw [show dropA d bs2 = dropW d bs2 by unfold dropA; rw [if_pos (unhide HCK)]] at hH
          rw [unhide HCK]
          have hbA := (Below.refl _ wC).alloc (Nat.le_refl _) (.cells #[.int .i64 hI0, .slice hga hgn' hgc, .slice hra hrn' hrc, .slice hoa hon' hoc] 39)
          have hhx : Boxed (wC.alloc (.cells #[.int .i64 hI0, .slice hga hgn' hgc, .slice hra hrn' hrc, .slice hoa hon' hoc] 39)) wC.heap.size hI0 hga hgn' hgc hra hrn' hrc hoa hon' hoc := Boxed.new _ _ _ _ _ _ _ _ _ _ _ _
          have hH2 := hH.below hbA
          have hE3 := (hE2.below hb).below hbA
          have hex3 := (hex.below hb).below hbA
          have Bw3 := Bw2.trans ((bstep hb hbA).mono Bw2.size)
          clear hb hbA hH hE2 hex Bw2 x0 x1 x2 x3 x4 hM2
          go_upto_region 33 with fail
          generalize wC.alloc (.cells #[.int .i64 hI0, .slice hga hgn' hgc, .slice hra hrn' hrc, .slice hoa hon' hoc] 39) = wD at *
          generalize wC.heap.size = gH at *
          obtain ⟨x0, x1, x2, x3, x4⟩ := hx2.below Bw3
          go_wp2_with fail
          refine (Step_any d _ _ _ _ _ _ _ _ _ _ _ (hN2.below Bw3) regs ins _ _ _ _ _ _ (hr2.below Bw3) (hi2.below Bw3)).mono ?_
          rintro e wE ⟨ta, tn, tc, tv, rfl, hTV, hTA, hb⟩
          rw [unhide HST]
          have Bw4 := Bw3.trans (hb.mono Bw3.size)
          have hE4 := hE3.below hb
          have hH4 := hH2.below hb
          have hex4 := hex3.below hb
          have hhx4 := hhx.below hb
          clear hb hE3 hH2 hex3 hhx Bw3 x0 x1 x2 x3 x4
          obtain ⟨x0, x1, x2, x3, x4⟩ := hx2.below Bw4
          go_wp2_with fail
          refine (StepOf_any d _ _ _ _ _ _ _ _ _ _ _ (hN2.below Bw4) regs ins _ _ _ _ _ _ (hr2.below Bw4) (hi2.below Bw4)).mono ?_
          rintro e wG ⟨ua, un, uc, uv, rfl, hUV, hUA, hb⟩
          rw [unhide HST]
          have HEQ := hide (show decide (tv = uv) = true by rw [hTA.same hUA]; simp)
          have B5' := Bw4.trans (hb.mono Bw4.size)
          have hE5 := hE4.below hb
          have hH5 := hH4.below hb
          have hT5 := hTV.below hb
          have hN5 := hN2.below B5'
          have hO5 := hO3.below B5'
          have hY : ∀ W, Below wG.heap.size wG W → Below wG.heap.size wG W ∧ W.cell? ⟨w.heap.size, 0, none⟩ = some (.int .i64 ins0) ∧ W.cell? ⟨w.heap.size, 1, none⟩ = some (.slice ga gn gc) ∧ W.cell? ⟨w.heap.size, 2, none⟩ = some (.slice ra rn rc) ∧ W.cell? ⟨w.heap.size, 3, none⟩ = some (.slice oa on oc) ∧ W.cell? ⟨gP, 0, none⟩ = some (.int .i64 ins0) ∧ W.cell? ⟨gP, 1, none⟩ = some (.slice pa pn pc) ∧ W.cell? ⟨gP, 2, none⟩ = some (.slice pra rn prc) ∧ W.cell? ⟨gP, 3, none⟩ = some (.slice poa on poc) ∧ W.cell? ⟨gE, 0, none⟩ = some (.int .i64 ei) ∧ W.cell? ⟨gE, 1, none⟩ = some (.slice ega egn egc) ∧ W.cell? ⟨gE, 2, none⟩ = some (.slice era ern erc) ∧ W.cell? ⟨gE, 3, none⟩ = some (.slice eoa eon eoc) ∧ W.cell? ⟨gH, 0, none⟩ = some (.int .i64 hI0) ∧ W.cell? ⟨gH, 1, none⟩ = some (.slice hga hgn' hgc) ∧ W.cell? ⟨gH, 2, none⟩ = some (.slice hra hrn' hrc) ∧ W.cell? ⟨gH, 3, none⟩ = some (.slice hoa hon' hoc) := fun W hW => by
            obtain ⟨_, p1, p2, p3, p4⟩ := (hx2.below B5').below hW
            obtain ⟨_, p5, p6, p7, p8⟩ := (hpx.below B5').below hW
            obtain ⟨_, p9, p10, p11, p12⟩ := (hex4.below hb).below hW
            obtain ⟨_, p13, p14, p15, p16⟩ := (hhx4.below hb).below hW
            exact ⟨hW, p1, p2, p3, p4, p5, p6, p7, p8, p9, p10, p11, p12, p13, p14, p15, p16⟩
          have BG := B2.trans (B5'.mono B2.size)
          clear hb hE4 hH4 hTV hex4 hhx4 Bw4 B5' x0 x1 x2 x3 x4 hTA hUA hx2 hN2 hO3 hr2 hi2 hpx
          have hbd := (Below.refl wG.heap.size wG).drew
          go_upto_region 35 with fail
          go_region_held3 (fun W => Below wG.heap.size wG W ∧ W.cell? ⟨w.heap.size, 0, none⟩ = some (.int .i64 ins0) ∧ W.cell? ⟨w.heap.size, 1, none⟩ = some (.slice ga gn gc) ∧ W.cell? ⟨w.heap.size, 2, none⟩ = some (.slice ra rn rc) ∧ W.cell? ⟨w.heap.size, 3, none⟩ = some (.slice oa on oc) ∧ W.cell? ⟨gP, 0, none⟩ = some (.int .i64 ins0) ∧ W.cell? ⟨gP, 1, none⟩ = some (.slice pa pn pc) ∧ W.cell? ⟨gP, 2, none⟩ = some (.slice pra rn prc) ∧ W.cell? ⟨gP, 3, none⟩ = some (.slice poa on poc) ∧ W.cell? ⟨gE, 0, none⟩ = some (.int .i64 ei) ∧ W.cell? ⟨gE, 1, none⟩ = some (.slice ega egn egc) ∧ W.cell? ⟨gE, 2, none⟩ = some (.slice era ern erc) ∧ W.cell? ⟨gE, 3, none⟩ = some (.slice eoa eon eoc) ∧ W.cell? ⟨gH, 0, none⟩ = some (.int .i64 hI0) ∧ W.cell? ⟨gH, 1, none⟩ = some (.slice hga hgn' hgc) ∧ W.cell? ⟨gH, 2, none⟩ = some (.slice hra hrn' hrc) ∧ W.cell? ⟨gH, 3, none⟩ = some (.slice hoa hon' hoc))
            ((first | with_reducible exact hY _ hbd | with_reducible exact hY _ hS1 | with_reducible exact hY _ hS2 | with_reducible exact hY _ hS3 | with_reducible exact hY _ hS4 | with_reducible exact hY _ hS5 | with_reducible exact hY _ hS6 | with_reducible exact hY _ hS7))
            ((first
              | (go_at_call 14; refine (sweepBegun_any _).mono ?_; rintro e wA1 ⟨rfl, hb1⟩; have hS1 := bstep hbd hb1)
              | (go_at_call_of 20 (Value.agg #[Value.int IntKind.i64 ins0, Value.slice ga gn gc, Value.slice ra rn rc, Value.slice oa on oc]); refine (SameNets_any d _ _ _ _ _ _ _ _ _ _ _ _ _ _ _ _ _ _ _ _ _ (hN5.below hS1) (hO5.below hS1)).mono ?_; rintro e wA2 ⟨rfl, hb2⟩; have hS2 := bstep hS1 hb2)
              | (go_at_call 21; refine (FoldOf_any d _ _ _ _ _ _ _ _ _ _ _ (hN5.below hS2) (unhide HCK)).mono ?_; rintro e wA3 ⟨iF, gaF, gnF, gcF, raF, rnF, rcF, oaF, onF, ocF, rfl, hKF, hb3⟩; have hFF := hKF.now; have hS3 := bstep hS2 hb3)
              | (go_at_call_of 20 (Value.agg #[Value.int IntKind.i64 ei, Value.slice ega egn egc, Value.slice era ern erc, Value.slice eoa eon eoc]); refine (SameNets_any (foldD d) _ _ _ _ _ _ _ _ _ _ _ _ _ _ _ _ _ _ _ _ _ (hE5.below hS3) hFF).mono ?_; rintro e wA4 ⟨rfl, hb4⟩; have hS4 := bstep hS3 hb4)
              | (go_at_call 22; refine (DropOf_any d _ _ _ _ _ _ _ _ _ _ _ (hN5.below hS4) (unhide HCK) (unhide HNI)).mono ?_; rintro e wA5 ⟨bs', hM', iG, gaG, gnG, gcG, raG, rnG, rcG, oaG, onG, ocG, rfl, hKG, hb5⟩; have hDD := hKG.now; rw [← (unhide HM2).same hM'] at hDD; have hS5 := bstep hS4 hb5)
              | (go_at_call_of 20 (Value.agg #[Value.int IntKind.i64 hI0, Value.slice hga hgn' hgc, Value.slice hra hrn' hrc, Value.slice hoa hon' hoc]); refine (SameNets_any (dropW d bs2) _ _ _ _ _ _ _ _ _ _ _ _ _ _ _ _ _ _ _ _ _ (hH5.below hS5) hDD).mono ?_; rintro e wA6 ⟨rfl, hb6⟩; have hS6 := bstep hS5 hb6)
              | (go_at_call 23; refine (SameInts_any tv uv _ _ _ _ _ _ _ (hT5.below hS6) (hUV.below hS6)).mono ?_; rintro e wA7 ⟨rfl, hb7⟩; rw [unhide HEQ]; have hS7 := bstep hS6 hb7)))
          all_goals
            have R := hide (bstep BG hS7)
            go_wp2_with fail
            go_ret
            exact ⟨rfl, unhide R⟩
end Go.Proofs.Ytongajonecgdpag
