/- The walk of TickSplit, over the contracts Do_any and Run_any of the program. -/
import Derived.Test.YtongajonecgdpacTickV
import Derived.Test.YtongajonecgdpacTickM
import Derived.Test.YtongajonecgdpacApp
import Derived.Deep.DeepCutAuto
import Derived.Deep.CutBlock
import Derived.Deep.RegionWith
namespace Go.Proofs.Ytongajonecgdpac
open Go.RowKit

theorem held_alloc {w0 W : World} {o : Obj} {R : Prop} {b : Nat} {ins0 : Int} {ga ra oa : Option Addr} {gn gc rn rc on oc : Nat} (hx : Boxed w0 b ins0 ga gn gc ra rn rc oa on oc) (h : Below w0.heap.size w0 W ∧ R) :
    Below w0.heap.size w0 (W.alloc o) ∧ (W.alloc o).cell? ⟨b, 0, none⟩ = some (.int .i64 ins0) ∧ (W.alloc o).cell? ⟨b, 1, none⟩ = some (.slice ga gn gc) ∧ (W.alloc o).cell? ⟨b, 2, none⟩ = some (.slice ra rn rc) ∧ (W.alloc o).cell? ⟨b, 3, none⟩ = some (.slice oa on oc) := held_of hx (h.1.alloc h.1.size _)
theorem held_trans {w0 W W' : World} {R : Prop} {b : Nat} {ins0 : Int} {ga ra oa : Option Addr} {gn gc rn rc on oc : Nat} (hx : Boxed w0 b ins0 ga gn gc ra rn rc oa on oc) (h : Below w0.heap.size w0 W ∧ R) (hb : Below w0.heap.size W W') :
    Below w0.heap.size w0 W' ∧ W'.cell? ⟨b, 0, none⟩ = some (.int .i64 ins0) ∧ W'.cell? ⟨b, 1, none⟩ = some (.slice ga gn gc) ∧ W'.cell? ⟨b, 2, none⟩ = some (.slice ra rn rc) ∧ W'.cell? ⟨b, 3, none⟩ = some (.slice oa on oc) := held_of hx (h.1.trans hb)

set_option maxRecDepth 100000 in
set_option maxHeartbeats 4000000 in
theorem TickSplit_any (d : NetD) (ins0 : Int) (ga ra oa : Option Addr) (gn gc rn rc on oc : Nat) (w : World) (h : NetAt w d ins0 ga gn ra rn oa on) (l : List Int) (la : Option Addr) (ln lc : Nat) (hl : Ints w la ln l) (hcap : la = none → lc = 0) (x : Int) :
    Calls Try.prog 3 #[.agg #[.int .i64 ins0, .slice ga gn gc, .slice ra rn rc, .slice oa on oc], .slice la ln lc, .int .i64 x] w fun e w' => e = .returned (.bool true) ∧ Below w.heap.size w w' := by
  have hb0 : Below w.heap.size w (w.alloc (.cells #[.int .i64 ins0, .slice ga gn gc, .slice ra rn rc, .slice oa on oc] 26)) := (Below.refl _ _).alloc (Nat.le_refl _) _
  have hbox : Boxed (w.alloc (.cells #[.int .i64 ins0, .slice ga gn gc, .slice ra rn rc, .slice oa on oc] 26)) w.heap.size ins0 ga gn gc ra rn rc oa on oc := Boxed.new _ _ _ _ _ _ _ _ _ _ _ _
  have hN := h.below hb0
  have hl0 := hl.below hb0
  clear h hl
  go_enter Try.func3, Try.ntmps3
  go_wp2_with fail
  refine (Run_any d _ _ _ _ _ _ _ _ _ _ _ hN l _ _ _ hl0).mono ?_
  rintro e w1 ⟨aa, an, ac, qa, qn, qc, rfl, hA1, hQ1, _, hb⟩
  have B1 := bstep hb0 hb
  have hN1 := hN.below hb
  have hl1 := hl0.below hb
  have hx1 := hbox.below hb
  clear hb hb0 hN hbox hl0
  by_cases e0 : runE d l = 0
  · rw [e0]
    have HE := hide e0
    have hl60 : ln ≤ 60 := by have h1 := (times_ok (runE_ok e0).2.1).1; have := hl1.1; omega
    clear e0
    have HC := hide hcap
    clear hcap
    have hx0 := hx1
    obtain ⟨x0, x1, x2, x3, x4⟩ := hx1
    go_upto_region 4 with fail
    go_cut [10, 11, 12] (fun b' s' f' wx => ∃ ba bn bc sa sn sc, b' = .slice ba bn bc ∧ s' = .slice sa sn sc ∧ f' = .int .i64 (runE d (l ++ [x])) ∧ Rows wx ba bn (runRows d (l ++ [x])) ∧ Ints wx sa sn (runRegs d (l ++ [x])) ∧ bn ≤ bc ∧ Below w1.heap.size w1 wx)
    case first =>
      go_region_held3 (fun W => Below w1.heap.size w1 W ∧ W.cell? ⟨w.heap.size, 0, none⟩ = some (.int .i64 ins0) ∧ W.cell? ⟨w.heap.size, 1, none⟩ = some (.slice ga gn gc) ∧ W.cell? ⟨w.heap.size, 2, none⟩ = some (.slice ra rn rc) ∧ W.cell? ⟨w.heap.size, 3, none⟩ = some (.slice oa on oc))
        ((first | exact held_start hx0 | exact held_alloc hx0 (by assumption) | exact held_trans hx0 (by assumption) bA | exact held_trans hx0 (by assumption) bB | exact held_next hx0 (by assumption) hb9))
        ((first
          | (refine app_step rfl _ _ rfl w1.heap.size (.slice (some ⟨_, 0, none⟩) 0 0) 0 [] rfl (by
               first
                 | (refine app_empty _ _ _ ?_ ?_ <;> (first | rfl | (simp; done)))
                 | (refine World.ownsRow.alloc ?_ _; refine app_empty _ _ _ ?_ ?_ <;> (first | rfl | (simp; done)))) l la ln lc rfl (unhide HC) (hl1.below (held_below (by assumption))) (by omega) (held_below (w0 := w1) (by assumption)).size ?_
             intro vA wA hA hgA bA
             rw [Nat.zero_add, List.nil_append] at hA)
          | (refine app_step rfl _ _ rfl w1.heap.size _ _ _ rfl (by first | exact hA | exact hA.alloc _) [x] _ _ _ rfl (by simp) (by
               first
                 | (refine Ints.new' _ _ _ _ _ [x] ?_ rfl rfl (lt_maxLen _ (by simp)); (first | rfl | (simp; done)))
                 | (refine Ints.grownRow ?_ hgA ?_
                    · refine Ints.below (w := World.alloc _ (.cells #[.int .i64 x] 3)) ?_ ((Below.refl _ _).drew)
                      refine Ints.new' _ _ _ _ _ [x] ?_ rfl rfl (lt_maxLen _ (by simp)); (first | rfl | (simp; done))
                    · simp [Value.ownBlock])
                 | (refine Ints.grownRow ?_ hgA ?_
                    · refine Ints.below (w := World.alloc _ (.cells #[.int .i64 x] 3)) ?_ ((Below.refl _ _).alloc (Nat.le_refl _) _)
                      refine Ints.new' _ _ _ _ _ [x] ?_ rfl rfl (lt_maxLen _ (by simp)); (first | rfl | (simp; done))
                    · simp [Value.ownBlock])
                 | (refine Ints.grownRow ?_ hgA ?_
                    · refine Ints.below (w := World.alloc _ (.cells #[.int .i64 x] 3)) ?_ (((Below.refl _ _).alloc (Nat.le_refl _) _).drew)
                      refine Ints.new' _ _ _ _ _ [x] ?_ rfl rfl (lt_maxLen _ (by simp)); (first | rfl | (simp; done))
                    · simp [Value.ownBlock])) (by omega) (held_below (w0 := w1) (by assumption)).size ?_
             intro vB wB hB hgB bB
             obtain ⟨a9, c9, rfl, hI9⟩ := own_ints hB (by unfold maxLen; omega))
          | (go_at_call 9
             refine (Run_any d _ _ _ _ _ _ _ _ _ _ _ (hN1.below (held_below (by assumption))) (l ++ [x]) _ _ _ hI9).mono ?_
             rintro e w9 ⟨ba, bn, bc, sa, sn, sc, rfl, hR9, hS9, hnc9, hb9⟩)))
      all_goals
        go_wp2_with fail
        go_meet
        exact ⟨_, _, _, _, _, _, rfl, rfl, rfl, hR9, hS9, hnc9, held_below (by assumption)⟩
    case rest =>
      obtain ⟨ba, bn, bc, sa, sn, sc, rfl, rfl, rfl, hR9, hS9, hnc, hbw⟩ := hcut
      have B2 := bstep B1 hbw
      by_cases e1 : runE d (l ++ [x]) = 0
      · rw [e1]
        obtain ⟨p1, p2, p3⟩ := run_snoc (unhide HE) e1
        have HE1 := hide e1
        have hA2 := hA1.below hbw
        have hQ2 := hQ1.below hbw
        have hN2 := hN1.below hbw
        have hx2 := hx0.below hbw
        have HLL := hide hl1.1
        have han : an = ln := by
          have h1 := hA1.1; have h2 := unhide HLL
          rw [h1, h2]; unfold runRows; rw [if_pos (unhide HE)]; simp [rowsTo]
        have hbn : bn = ln + 1 := by
          have h1 := hR9.1
          rw [p2] at h1
          have h2 := hA1.1
          simp at h1; omega
        subst han hbn
        clear e1 hA1 hQ1 hN1 hx0 x0 x1 x2 x3 x4 hl1
        have hi2 := hN2.ins
        obtain ⟨y0, y1, y2, y3, y4⟩ := hx2
        have hge : 0 ≤ ins0 := by rw [hi2]; have := (check_ok (runE_ok (unhide HE)).1).2.1; simp only [numbersB, Bool.and_eq_true, decide_eq_true_iff] at this; exact this.1.1.1
        have hle : ins0 ≤ 3 := by rw [hi2]; exact (counts_gates (check_ok (runE_ok (unhide HE)).1).1).1
        obtain ⟨i, hie⟩ := Int.eq_ofNat_of_zero_le hge
        have HI := hide (show d.ins.toNat = i by omega)
        have hi3 : i ≤ 3 := by omega
        rw [unhide HI] at p1 p2 p3
        have h20 : d.ins.toNat ≤ 20 := by have := unhide HI; omega
        subst hie
        clear hi2 hge hle
        have HTK := hide (show decide ((runRows d (l ++ [x])).take an = runRows d l) = true by
          rw [p2, hA2.1, List.take_left]; exact decide_eq_true rfl)
        have hxr : 0 ≤ x ∧ x ≤ 1048576 := by
          have h1 := (times_ok (runE_ok (unhide HE1)).2.1).2
          unfold inPow at h1
          rw [List.all_eq_true] at h1
          have h2 := h1 x (by simp)
          simp only [wth, decide_eq_true_iff] at h2
          have h3 := power_le d.ins.toNat h20
          omega
        obtain ⟨hxl, hxh⟩ := hxr
        have P1 := hide p1
        have P2 := hide p2
        have P3 := hide p3
        clear p1 p2 p3
        go_wp2_with fail
        refine (SameRows_any _ _ _ _ _ _ _ _ _ (hR9.take (by omega)) hA2).mono ?_
        rintro e w3 ⟨rfl, hb3⟩
        rw [unhide HTK]
        have B3 := bstep B2 hb3
        have hR3 := hR9.below hb3
        have hS3 := hS9.below hb3
        have hQ3 := hQ2.below hb3
        have hN3 := hN2.below hb3
        have hx3 := Boxed.below (⟨y0, y1, y2, y3, y4⟩ : Boxed wc w.heap.size (i : Int) ga gn gc ra rn rc oa on oc) hb3
        clear hb3 hR9 hS9 hA2 hQ2 hN2 y0 y1 y2 y3 y4 B2 hbw
        have hx0 := hx3
        obtain ⟨y0, y1, y2, y3, y4⟩ := hx3
        go_wp2_with fail
        obtain ⟨i0, hi, hz0, hz1, hz2⟩ := info_parts Try.infoInt
        go_loopw [13, 14, 15] (fun v' k' y wr => ∃ k : Nat, k ≤ i ∧ k' = .int .i64 k ∧ y = .int .i64 (x / 2 ^ k) ∧ wr.ownsRow w3.heap.size 3 1 v' k (intsV ((bitsV x i).take k)) ∧ Below w3.heap.size w3 wr) (fun _ k' _ _ => i - (intOf k').toNat)
        case atStart => exact ⟨0, Nat.zero_le _, rfl, by simp, World.ownsRow_nil _ _ _ _, Below.refl _ _⟩
        case round =>
          obtain ⟨k, hk, rfl, rfl, hown, hbel⟩ := hrel
          clear y0 y1 y2 y3 y4
          by_cases hlt : k < i
          · have hki : (k : Int) < (i : Int) := by omega
            have HT := hide (show intsV ((bitsV x i).take (k + 1)) = intsV ((bitsV x i).take k) ++ [.int .i64 (x / 2 ^ k % 2)] by
              rw [intsV_succ _ _ (by rw [bitsV_len]; exact hlt)]
              simp [bitsV])
            have HD := hide (show x / 2 ^ (k + 1) = x / 2 ^ k / 2 by rw [Int.ediv_ediv_of_nonneg (Int.pow_nonneg (by decide)), Int.pow_succ])
            have hge : 0 ≤ x / 2 ^ k := Int.ediv_nonneg hxl (Int.pow_nonneg (by decide))
            have hle : x / 2 ^ k ≤ 1048576 := Int.le_trans (Int.ediv_le_self _ hxl) hxh
            obtain ⟨z0, z1, z2, z3, z4⟩ := hx0.below hbel
            generalize x / 2 ^ k = y at *
            go_wp2_with (at_builtin; refine wpList_append_own _ rfl _ _ 24 rfl (w3.heap.size) 3 i0 (.int .i64 0) 1 8 Try.underlying24 hi hz0 hz1 hz2 rfl (by decide) _ _ _ rfl (hown.alloc _) ⟨wr.heap.size, 0, none⟩ 1 1 [.int .i64 (y % 2)] rfl rfl ?c1 ?c2 ?c3 ?c4 ?c5 ?_)
            case c1 =>
              intro j u hj
              match j, hj with
              | 0, hj => simp at hj; subst hj; simp [Addr.add]
            case c2 => intro u hu; simp at hu; subst hu; rfl
            case c3 => unfold maxLen; omega
            case c4 => omega
            case c5 => have := hbel.size; simp; omega
            intro v' w3' hown' hgrow _
            have hown2 := hown'
            rw [← unhide HT] at hown2
            have hb9 : Below (w3.heap.size) wr w3' := ((Below.refl _ wr).alloc (hbel.size) _).grown hgrow (by have := hbel.size; simp; omega) (fun k hk => (hown.lt k hk).1)
            have hb3 : Below w3.heap.size w3 w3' := hbel.trans hb9
            clear hown' hgrow
            have R := hide (And.intro hown2 hb3)
            clear hown hown2 hb3 hb9 z0 z1 z2 z3 z4
            go_wp2_with fail
            exact ⟨⟨k + 1, by omega, by go_num, by rw [unhide HD], (unhide R).1, (unhide R).2⟩, by simp [intOf]; omega⟩
          · have hkn : k = i := by omega
            rw [List.take_of_length_le (by rw [bitsV_len]; omega)] at hown
            obtain ⟨a2, c2, hv', hI2⟩ := own_ints hown (by unfold maxLen; omega)
            rw [hv']
            clear hv' hown
            subst hkn
            have B4 := bstep B3 hbel
            have hR4 := hR3.below hbel
            have hS4 := hS3.below hbel
            have hQ4 := hQ3.below hbel
            have hN4 := hN3.below hbel
            have hx4 := hx0.below hbel
            clear hR3 hS3 hQ3 hN3 hx0 B3 hbel
            obtain ⟨z0, z1, z2, z3, z4⟩ := hx4
            go_wp2_with fail
            refine (Do_any d _ _ _ _ _ _ _ _ _ _ _ hN4 (runRegs d l) (bitsV x k) _ _ _ _ _ _ hQ4 hI2).mono ?_
            rintro e w5 ⟨oa5, on5, oc5, na5, nn5, nc5, rfl, hO5, hX5, hb5⟩
            rw [unhide P1]
            have B5 := bstep B4 hb5
            have hR5 := hR4.below hb5
            have hS5 := hS4.below hb5
            clear hR4 hS4 hQ4 hN4 z0 z1 z2 z3 z4 B4 hb5 hI2
            have HSV := hide (show ∀ j (hj : j < (runRegs d (l ++ [x])).length), (runRegs d (l ++ [x]))[j] = 0 ∨ (runRegs d (l ++ [x]))[j] = 1 by
              intro j hj
              have hm := List.getElem_mem hj
              generalize (runRegs d (l ++ [x]))[j] = z at hm ⊢
              rw [unhide P3] at hm
              exact doNext_vals (unhide P1) z hm)
            have HSL := hide hS5.1
            have hsm := hS5.2.1
            unfold maxLen at hsm
            have hs1 : sn ≤ (runRegs d (l ++ [x])).length := by have := unhide HSL; omega
            have hs2 : (runRegs d (l ++ [x])).length ≤ sn := by have := unhide HSL; omega
            go_wp2_with fail
            go_loop [19] (fun j' => ∃ j : Nat, j ≤ sn ∧ j' = .int .i64 j) (fun j' => sn - (intOf j').toNat)
            case atStart => exact ⟨0, Nat.zero_le _, rfl⟩
            case round =>
              obtain ⟨j, hj, rfl⟩ := hrel
              by_cases hjl : j < sn
              · have hji : (j : Int) < (sn : Int) := by omega
                obtain ⟨b, off, rfl, hbb, c1⟩ := hS5.at (show j < (runRegs d (l ++ [x])).length by omega)
                rcases (unhide HSV) j (by omega) with e | e
                all_goals
                  rw [e] at c1
                  clear e
                  go_wp2_with fail
                  exact ⟨⟨j + 1, by omega, by go_num⟩, by simp [intOf]; omega⟩
              · clear hs1 hs2 hsm
                go_wp2_with fail
                refine (tickBegun_any _).mono ?_
                rintro e w6 ⟨rfl, hb6⟩
                have B6 := bstep B5 hb6
                have hR6 := hR5.below hb6
                have hS6 := hS5.below hb6
                have hO6 := hO5.below hb6
                have hX6 := hX5.below hb6
                clear hR5 hS5 hO5 hX5 hb6 B5
                obtain ⟨b6, off6, ra6, rn6, rc6, rfl, hbb6, c6, hI6⟩ := hR6.at (k := an) (by have := hR6.1; omega)
                have HO := hide (show ((runRows d (l ++ [x]))[an]'(by have := hR6.1; omega)) = doOuts d (runRegs d l) (bitsV x k) by
                  have h1 := hR6.1
                  have h2 := congrArg List.length (unhide P2)
                  simp only [List.length_append, List.length_cons, List.length_nil] at h2
                  have h3 : an = (runRows d l).length := by omega
                  simp only [unhide P2]
                  rw [List.getElem_append_right (by omega)]
                  simp)
                have hki6 : (an : Int) < (an : Int) + 1 := by omega
                go_wp2_with fail
                refine (SameInts_any _ _ _ _ _ _ _ _ _ hI6 hO6).mono ?_
                rintro e w7 ⟨rfl, hb7⟩
                rw [decide_eq_true (unhide HO)]
                have B7 := bstep B6 hb7
                have hS7 := hS6.below hb7
                have hX7 := hX6.below hb7
                rw [unhide P3] at hS7
                clear HO hI6 c6 hS6 hO6 hX6 hb7 B6
                go_wp2_with fail
                refine (SameInts_any _ _ _ _ _ _ _ _ _ hS7 hX7).mono ?_
                rintro e w8 ⟨rfl, hb8⟩
                rw [decide_eq_true rfl]
                go_wp2_with fail
                go_ret
                exact ⟨rfl, bstep B7 hb8⟩
      · have hne : (runE d (l ++ [x]) != 0) = true := by simp [e1]
        clear e1
        go_wp2_with fail
        refine (tickBegun_any _).mono ?_
        rintro e w2 ⟨rfl, hb⟩
        go_wp2_with fail
        go_ret
        exact ⟨rfl, bstep B2 hb⟩
  · have hne : (runE d l != 0) = true := by simp [e0]
    clear e0
    go_wp2_with fail
    refine (tickBegun_any _).mono ?_
    rintro e w2 ⟨rfl, hb⟩
    go_wp2_with fail
    go_ret
    exact ⟨rfl, bstep B1 hb⟩
end Go.Proofs.Ytongajonecgdpac
