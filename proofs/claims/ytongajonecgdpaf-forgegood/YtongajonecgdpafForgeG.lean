/- The net of a program has an order and is settled (ForgeGood). -/
import Derived.Test.YtongajonecgdpafForgeW
import Derived.Test.YtongajonecgdpafSmithN
import Derived.Test.YtongajonecgdpafLevelA
import Derived.Test.YtongajonecgdpafReachS
namespace Go.Proofs.Ytongajonecgdpaf
open Go.RowKit

theorem ord_bad {d : NetD} (hc : checkE d = 0) (ho : hasOrd d = true) : badB d = false ∧ (badE d = 0 ∨ badE d = 2) := by
  have h := ord_reach hc ho
  have hb : badB d = false := by
    unfold badB
    rw [decide_eq_false_iff_not]
    rintro ⟨_, h6⟩
    rcases h with h | h <;> rw [h] at h6 <;> simp at h6
  refine ⟨hb, ?_⟩
  unfold badE statesE
  rw [hb, if_pos hc]
  exact h

set_option maxRecDepth 100000 in
set_option maxHeartbeats 8000000 in
theorem ForgeGood_any (p : List NodeD) (pa : Option Addr) (pn pc : Nat) (l : List Int) (la : Option Addr) (ln lc : Nat) (w : World) (hN : Nodes w pa pn p) (hc : pn ≤ pc) (hl : Ints w la ln l) :
    Calls Try.prog 7 #[.slice pa pn pc, .slice la ln lc] w fun e w' => e = .returned (.bool true) ∧ Below w.heap.size w w' := by
  go_enter Try.func7, Try.ntmps7
  go_wp2_with fail
  refine (FNet_any p pa pn pc w hN hc).mono ?_
  rintro e w1 ⟨i, ga, gn, gc, ra, rn, rc, oa, on, oc, rfl, hA, B1⟩
  have hl1 := hl.below B1
  clear hN hl
  have hal := (Below.refl w1.heap.size w1).alloc (Nat.le_refl _) (.cells #[.int .i64 i, .slice ga gn gc, .slice ra rn rc, .slice oa on oc] 48)
  have hbox : Boxed (w1.alloc (.cells #[.int .i64 i, .slice ga gn gc, .slice ra rn rc, .slice oa on oc] 48)) w1.heap.size i ga gn gc ra rn rc oa on oc := Boxed.new _ _ _ _ _ _ _ _ _ _ _ _
  have B2 := bstep B1 hal
  have hl2 := hl1.below hal
  have hA2 := fun h => (hA h).below hal
  clear hal hA B1 hl1
  go_upto_region 2 with fail
  generalize hw2 : w1.alloc (.cells #[.int .i64 i, .slice ga gn gc, .slice ra rn rc, .slice oa on oc] 48) = w2 at *
  generalize w1.heap.size = nb at *
  clear hw2
  by_cases he : checkP p = 0
  · have hok := pok_of he
    have hA3 := hA2 he
    have hi3 : i = 3 := hA3.ins
    have hon : on = 3 := by rw [hA3.outs.1]; exact forge_outs p
    have HOR := hide (forge_order hok)
    have hbd := ord_bad (forge_check hok) (forge_ord hok)
    have HBB := hide hbd.1
    have hr6 : (runE (forgeD p) l != 6) = true := by
      rw [ord_run (forge_check hok) (forge_ord hok) l]
      simpa using times_not6 l _
    have hbe := hbd.2
    rw [he]
    subst hi3
    subst hon
    clear hA2 he hok hbd
    have hbox' := hbox
    obtain ⟨x0, x1, x2, x3, x4⟩ := hbox'
    go_wp2_with fail
    clear x0 x1 x2 x3 x4
    refine (Order_any (forgeD p) _ _ _ _ _ _ _ _ _ _ _ hA3).mono ?_
    rintro e w3 ⟨a3, n3, c3, rfl, _, hb⟩
    rw [unhide HOR]
    have B3 := bstep B2 hb
    have hA4 := hA3.below hb
    have hx3 := hbox.below hb
    have hl3 := hl2.below hb
    clear hb B2 hA3 hbox hl2
    have hx3' := hx3
    obtain ⟨x0, x1, x2, x3, x4⟩ := hx3'
    go_wp2_with fail
    clear x0 x1 x2 x3 x4
    refine (Bad_any (forgeD p) _ _ _ _ _ _ _ _ _ _ _ hA4).mono ?_
    rintro e w4 ⟨a4, n4, c4, rfl, _, _, hb⟩
    rw [unhide HBB]
    have B4 := bstep B3 hb
    have hA5 := hA4.below hb
    have hx4 := hx3.below hb
    have hl4 := hl3.below hb
    clear hb B3 hA4 hx3 hl3
    have hx4' := hx4
    obtain ⟨x0, x1, x2, x3, x4⟩ := hx4'
    go_wp2_with fail
    clear x0 x1 x2 x3 x4
    refine (Run_any (forgeD p) _ _ _ _ _ _ _ _ _ _ _ hA5 l _ _ _ hl4).mono ?_
    rintro e w6 ⟨a6, n6, c6, b6, m6, k6, rfl, _, _, _, hb⟩
    have B6 := bstep B4 hb
    have hx6 := hx4.below hb
    clear hb B4 hA5 hx4 hl4
    obtain ⟨rE, hrE⟩ : ∃ rE, runE (forgeD p) l = rE := ⟨_, rfl⟩
    rw [hrE] at hr6 ⊢
    clear hrE
    go_wp2_with fail
    refine (forgeBegun_any _).mono ?_
    rintro e w7 ⟨rfl, hb⟩
    have B7 := bstep B6 hb
    have hx7 := hx6.below hb
    clear hb B6 hx6
    obtain ⟨x0, x1, x2, x3, x4⟩ := hx7
    rcases hbe with hbe | hbe
    · rw [hbe]
      go_wp2_with fail
      go_ret
      exact ⟨rfl, B7⟩
    · rw [hbe]
      go_wp2_with fail
      go_ret
      exact ⟨rfl, B7⟩
  · clear hA2
    generalize hck : checkP p = ck at *
    have hq : (ck != 0) = true := by simp [he]
    clear he
    go_wp2_with fail
    refine (forgeBegun_any _).mono ?_
    rintro e w3 ⟨rfl, hb⟩
    have B3 := bstep B2 hb
    go_wp2_with fail
    go_ret
    exact ⟨rfl, B3⟩
end Go.Proofs.Ytongajonecgdpaf
