/- The statement SweepSame. -/
import Derived.Test.YtongajonecgdpadSweepB
import Derived.Test.YtongajonecgdpadTickR
import Derived.Test.YtongajonecgdpadTickE
namespace Go.Proofs.Ytongajonecgdpad
open Go.RowKit

set_option maxRecDepth 100000 in
set_option maxHeartbeats 4000000 in
theorem SweepSame_any (d : NetD) (ins0 : Int) (ga ra oa : Option Addr) (gn gc rn rc on oc : Nat) (w : World) (h : NetAt w d ins0 ga gn ra rn oa on) (l : List Int) (la : Option Addr) (ln lc : Nat) (hl : Ints w la ln l) :
    Calls Try.prog 5 #[.agg #[.int .i64 ins0, .slice ga gn gc, .slice ra rn rc, .slice oa on oc], .slice la ln lc] w fun e w' => e = .returned (.bool true) ∧ Below w.heap.size w w' := by
  have hb0 : Below w.heap.size w (w.alloc (.cells #[.int .i64 ins0, .slice ga gn gc, .slice ra rn rc, .slice oa on oc] 26)) := (Below.refl _ _).alloc (Nat.le_refl _) _
  have hbox : Boxed (w.alloc (.cells #[.int .i64 ins0, .slice ga gn gc, .slice ra rn rc, .slice oa on oc] 26)) w.heap.size ins0 ga gn gc ra rn rc oa on oc := Boxed.new _ _ _ _ _ _ _ _ _ _ _ _
  have hN := h.below hb0
  have hl0 := hl.below hb0
  clear h hl
  go_enter Try.func5, Try.ntmps5
  go_wp2_with fail
  refine (Run_any d _ _ _ _ _ _ _ _ _ _ _ hN l _ _ _ hl0).mono ?_
  rintro e w1 ⟨a1, n1, c1, b1, m1, k1, rfl, hA1, hR1, _, hb⟩
  by_cases e0 : runE d l = 0
  case neg =>
    have hq : (runE d l != 0) = true := by simp [e0]
    have B1 := bstep hb0 hb
    obtain ⟨rv, hrv⟩ : ∃ rv, runE d l = rv := ⟨_, rfl⟩
    rw [hrv] at hq ⊢
    clear e0 hb hb0 hN hl0 hbox hA1 hR1 hrv
    go_wp2_with fail
    refine (sweepBegun_any _).mono ?_
    rintro e w2 ⟨rfl, hb⟩
    have R := hide (bstep B1 hb)
    go_wp2_with fail
    go_ret
    exact ⟨rfl, unhide R⟩
  have hck := (runE_ok e0).1
  have hok := ok_of (fold_ok hck)
  have hfl : (foldD d).outs.length ≤ 3 := hok.outs
  have hfr : (foldD d).regs.length ≤ 20 := hok.regs
  have HCK := hide hck
  have HE0 := hide e0
  have HF0 := hide (fold_ok hck)
  have HFA := hide (show foldA d = foldD d by unfold foldA; rw [if_pos hck])
  have HFR := hide (fold_run hck l)
  have hN1 := hN.below hb
  have hl1 := hl0.below hb
  have hx1 := hbox.below hb
  have B1 := bstep hb0 hb
  rw [e0]
  clear e0 hb hb0 hN hl0 hbox hck hok
  have hx1' := hx1
  obtain ⟨x0, x1, x2, x3, x4⟩ := hx1'
  go_wp2_with fail
  refine (Fold_any d _ _ _ _ _ _ _ _ _ _ _ hN1).mono ?_
  intro e w2 hA
  rw [unhide HFA, unhide HCK] at hA
  obtain ⟨i2, ga2, gn2, gc2, ra2, rn2, rc2, oa2, on2, oc2, rfl, hN2, hO2, hb⟩ := hA
  have hb2 := (Below.refl _ w2).alloc (Nat.le_refl _) (.cells #[.int .i64 i2, .slice ga2 gn2 gc2, .slice ra2 rn2 rc2, .slice oa2 on2 oc2] 26)
  have hF3 := hN2.below hb2
  have hA3 := (hA1.below hb).below hb2
  have hR3 := (hR1.below hb).below hb2
  have hl3 := (hl1.below hb).below hb2
  have B3 := bstep (bstep B1 hb) hb2
  have hsz : (on2 + rn2) * 8 ≤ 281474976710656 := by have h1 := hN2.outs.1; have h2 := hN2.regs.1; omega
  have HO2 := hide (unhide hO2)
  clear hb hb2 hN1 hN2 hA1 hR1 hl1 hx1 B1 hO2 x0 x1 x2 x3 x4 hfl hfr
  go_wp2_with fail
  refine (Drop_any (foldD d) _ _ _ _ _ _ _ _ _ _ _ hF3 (unhide HO2) hsz).mono ?_
  intro e w4 hD
  obtain ⟨bs, hM, hA⟩ := hD
  have hcl := clo_of (hM (unhide HF0)) (unhide HF0)
  have hdr := drop_run hcl (l := l) (by rw [(unhide HFR).1]; exact unhide HE0)
  rw [(unhide HFR).2.1, (unhide HFR).2.2] at hdr
  rw [show dropA (foldD d) bs = dropW (foldD d) bs by unfold dropA; rw [if_pos (unhide HF0)], unhide HF0] at hA
  obtain ⟨i4, ga4, gn4, gc4, ra4, rn4, rc4, oa4, on4, oc4, rfl, hN4, _, hb⟩ := hA
  have HD := hide hdr
  have hb4 := (Below.refl _ w4).alloc (Nat.le_refl _) (.cells #[.int .i64 i4, .slice ga4 gn4 gc4, .slice ra4 rn4 rc4, .slice oa4 on4 oc4] 26)
  have hD5 := hN4.below hb4
  have hA5 := (hA3.below hb).below hb4
  have hR5 := (hR3.below hb).below hb4
  have hl5 := (hl3.below hb).below hb4
  have B5 := bstep (bstep B3 hb) hb4
  clear hb hb4 hF3 hN4 hA3 hR3 hl3 B3 hM hcl hdr hsz
  go_wp2_with fail
  refine (Run_any (dropW (foldD d) bs) _ _ _ _ _ _ _ _ _ _ _ hD5 l _ _ _ hl5).mono ?_
  rintro e w6 ⟨a6, n6, c6, b6, m6, k6, rfl, hA6, hR6, _, hb⟩
  rw [(unhide HD).1]
  rw [(unhide HD).2.1] at hA6
  rw [(unhide HD).2.2] at hR6
  have hAA6 := hA5.below hb
  have hRR6 := hR5.below hb
  have B6 := bstep B5 hb
  clear hb hA5 hR5 hl5 hD5 B5
  go_wp2_with fail
  refine (sweepBegun_any _).mono ?_
  rintro e w7 ⟨rfl, hb⟩
  have hA7 := hA6.below hb
  have hR7 := hR6.below hb
  have hAA7 := hAA6.below hb
  have hRR7 := hRR6.below hb
  have B7 := bstep B6 hb
  clear hb hA6 hR6 hAA6 hRR6 B6
  go_wp2_with fail
  refine (SameRows_any _ _ _ _ _ _ _ _ _ hAA7 hA7).mono ?_
  rintro e w8 ⟨rfl, hb⟩
  rw [show decide (runRows d l = runRows d l) = true from decide_eq_true rfl]
  have hR8 := hR7.below hb
  have hRR8 := hRR7.below hb
  have B8 := bstep B7 hb
  clear hb hA7 hR7 hAA7 hRR7 B7
  go_wp2_with fail
  refine (SameInts_any _ _ _ _ _ _ _ _ _ hRR8 hR8).mono ?_
  rintro e w9 ⟨rfl, hb⟩
  rw [show decide (runRegs d l = runRegs d l) = true from decide_eq_true rfl]
  have R := hide (bstep B8 hb)
  clear hb B8 hR8 hRR8
  go_wp2_with fail
  go_ret
  exact ⟨rfl, unhide R⟩
end Go.Proofs.Ytongajonecgdpad
