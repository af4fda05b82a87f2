/- The document's KeptOf. -/
import Derived.Test.YtongajonecgdpagDropP
namespace Go.Proofs.Ytongajonecgdpag
open Go.RowKit

set_option maxHeartbeats 1000000 in
theorem nexts2_any (d : NetD) (ins : Int) (ga ra oa : Option Addr) (gn gc rn rc on oc : Nat) (w : World) (h : NetAt w d ins ga gn ra rn oa on) (hrn : rn ≤ 20) :
    Calls Try.prog 78 #[.agg #[.int .i64 ins, .slice ga gn gc, .slice ra rn rc, .slice oa on oc]] w fun e w' => ∃ a c, e = .returned (.slice a rn c) ∧ Ints w' a rn (nextsV d) ∧ Hid (a = none → c = 0) ∧ Fresh w.heap.size a rn ∧ Below w.heap.size w w' := by
  have hb0 : Below w.heap.size w (w.alloc (.cells #[.int .i64 ins, .slice ga gn gc, .slice ra rn rc, .slice oa on oc] 39)) := (Below.refl _ _).alloc (Nat.le_refl _) _
  have hbox : Boxed (w.alloc (.cells #[.int .i64 ins, .slice ga gn gc, .slice ra rn rc, .slice oa on oc] 39)) w.heap.size ins ga gn gc ra rn rc oa on oc := Boxed.new _ _ _ _ _ _ _ _ _ _ _ _
  have HR : Hid (d.regs.length = rn) := h.regs.1.symm
  have hrs := h.regs
  have hrl : rn ≤ d.regs.length := by have := HR.out; omega
  obtain ⟨i0, hi, hz0, hz1, hz2⟩ := info_parts Try.infoInt
  clear h
  go_enter Try.func78, Try.ntmps78
  go_wp2_with fail
  go_loopw [3, 4] (fun v i wr => ∃ k : Nat, k ≤ rn ∧ i = .int .i64 k ∧ wr.ownsRow (w.heap.size + 1) 3 1 v k (intsV ((nextsV d).take k)) ∧ Below w.heap.size w wr ∧ Boxed wr w.heap.size ins ga gn gc ra rn rc oa on oc) (fun _ i _ => rn - (intOf i).toNat)
  case atStart => exact ⟨0, Nat.zero_le _, rfl, World.ownsRow_nil _ _ _ _, hb0, hbox⟩
  case round =>
    clear hb0 hbox
    obtain ⟨k, hk, rfl, hown, hbel, hbx⟩ := hrel
    have hbx0 := hbx
    obtain ⟨x0, x1, x2, x3, x4⟩ := hbx
    by_cases hlt : k < rn
    · have hltg : k < d.regs.length := by omega
      have hki : (k : Int) < (rn : Int) := by omega
      obtain ⟨b, off, rfl, hbb, c1, c2⟩ := (hrs.below hbel).at hltg
      have HT := hide (show intsV ((nextsV d).take (k + 1)) = intsV ((nextsV d).take k) ++ [.int .i64 d.regs[k].2] by
        rw [intsV_succ _ _ (by rw [nextsV_len]; exact hltg)]
        simp [nextsV])
      go_wp2_with (at_builtin; refine wpList_append_own _ rfl _ _ 37 rfl (w.heap.size + 1) 3 i0 (.int .i64 0) 1 8 Try.underlying37 hi hz0 hz1 hz2 rfl (by decide) _ _ _ rfl (hown.alloc _) ⟨wr.heap.size, 0, none⟩ 1 1 [.int .i64 (d.regs[k].2)] rfl rfl ?c1 ?c2 ?c3 ?c4 ?c5 ?_)
      case c1 =>
        intro j u hj
        match j, hj with
        | 0, hj => simp at hj; subst hj; simp [Addr.add]
      case c2 => intro u hu; simp at hu; subst hu; rfl
      case c3 => unfold maxLen; omega
      case c4 => omega
      case c5 => have := hbel.size; simp; omega
      intro v' w3 hown' hgrow _
      have hown2 := hown'
      rw [← unhide HT] at hown2
      have hb9 : Below (w.heap.size + 1) wr w3 := ((Below.refl _ wr).alloc (Nat.succ_le_of_lt x0) _).grown hgrow (by have := hbel.size; simp; omega) (fun k hk => (hown.lt k hk).1)
      have hb3 : Below w.heap.size w w3 := hbel.trans (hb9.mono (Nat.le_succ _))
      have hbx3 := hbx0.below' hb9 (Nat.lt_succ_self _)
      clear hown' hgrow
      have R := And.intro hown2 (And.intro hb3 hbx3)
      clear hown x1 x2 x3 x4 c1 c2
      go_wp2_with fail
      exact ⟨⟨k + 1, by omega, by go_num, R.1, R.2.1, R.2.2⟩, by simp [intOf]; omega⟩
    · have hkn : k = rn := by omega
      subst hkn
      rw [List.take_of_length_le (by rw [nextsV_len]; have := HR.out; omega)] at hown
      obtain ⟨a2, c2, hv, hI⟩ := own_ints hown (by unfold maxLen; omega)
      rw [hv] at hown
      have HZ := hide (own_nil hown)
      have hF := (own_fresh hown).down (Nat.le_succ w.heap.size)
      rw [hv]
      clear hv hown
      go_wp2_with fail
      go_ret
      exact ⟨_, _, rfl, hI, HZ, hF, hbel⟩

def kTo (bs : List Bool) (k : Nat) : List Int := (List.range k).map (toV bs)
theorem kTo_succ (bs : List Bool) (k : Nat) : kTo bs (k + 1) = kTo bs k ++ [toV bs k] := by simp [kTo, List.range_succ]
theorem kTo_len (bs : List Bool) (k : Nat) : (kTo bs k).length = k := by simp [kTo]
theorem at_le (bs : List Bool) (k : Nat) : atN bs k ≤ k := by
  have := List.length_filter_le (fun j => bs.getD j false) (List.range k)
  unfold atN; simpa using this

set_option maxRecDepth 100000 in
set_option maxHeartbeats 4000000 in
theorem KeptOf_any (d : NetD) (ins0 : Int) (ga ra oa : Option Addr) (gn gc rn rc on oc : Nat) (w : World) (h : NetAt w d ins0 ga gn ra rn oa on) (hck : checkE d = 0) (hnil : oa = none → oc = 0) :
    Calls Try.prog 52 #[.agg #[.int .i64 ins0, .slice ga gn gc, .slice ra rn rc, .slice oa on oc]] w fun e w' => ∃ a n c bs, e = .returned (.slice a n c) ∧ Ints w' a n (kTo bs n) ∧ n = bs.length ∧ Marks d.gates (needL d) bs ∧ Below w.heap.size w w' := by
  have hb0 : Below w.heap.size w (w.alloc (.cells #[.int .i64 ins0, .slice ga gn gc, .slice ra rn rc, .slice oa on oc] 39)) := (Below.refl _ _).alloc (Nat.le_refl _) _
  have hx : Boxed (w.alloc (.cells #[.int .i64 ins0, .slice ga gn gc, .slice ra rn rc, .slice oa on oc] 39)) w.heap.size ins0 ga gn gc ra rn rc oa on oc := Boxed.new _ _ _ _ _ _ _ _ _ _ _ _
  have hN := h.below hb0
  have hok := ok_of hck
  have hrn : rn ≤ 20 := by have := hok.regs; have := h.regs.1; omega
  have hon : on ≤ 3 := by have := hok.outs; have := h.outs.1; omega
  have HGL := hide hok.gates
  have HNE := hide (show needE d (needL d) = 0 by rw [needE_own]; exact hck)
  have HNI := hide hnil
  clear h hok hck hnil
  obtain ⟨i0, hi, hz0, hz1, hz2⟩ := info_parts Try.infoInt
  go_enter Try.func52, Try.ntmps52
  go_upto_region 1 with fail
  generalize hw1 : w.alloc (.cells #[.int .i64 ins0, .slice ga gn gc, .slice ra rn rc, .slice oa on oc] 39) = w1 at *
  clear hw1
  have hx0 := hx
  obtain ⟨x0, x1, x2, x3, x4⟩ := hx
  have hbd := (Below.refl w1.heap.size w1).drew
  have hAl : Below w1.heap.size w1 (w1.alloc (.cells #[] 3)).drew := ((Below.refl w1.heap.size w1).alloc (Nat.le_refl _) _).drew
  have how0 : (w1.alloc (.cells #[] 3)).drew.ownsRow w1.heap.size 3 1 (.slice (some ⟨w1.heap.size, 0, none⟩) 0 0) 0 (([] : List Int).map (fun x => Value.int .i64 x)) := (app_empty w1 _ _ rfl (Nat.le_refl _)).drew
  go_cut [3] (fun p wx => ∃ va vn vc bs, p = .slice va vn vc ∧ Bools wx va vn bs ∧ Marks d.gates (needL d) bs ∧ Below w1.heap.size w1 wx)
  case first =>
    go_region_held3 (fun W => Below w1.heap.size w1 W ∧ W.cell? ⟨w.heap.size, 0, none⟩ = some (.int .i64 ins0) ∧ W.cell? ⟨w.heap.size, 1, none⟩ = some (.slice ga gn gc) ∧ W.cell? ⟨w.heap.size, 2, none⟩ = some (.slice ra rn rc) ∧ W.cell? ⟨w.heap.size, 3, none⟩ = some (.slice oa on oc))
      ((first | exact held_start hx0 | with_reducible exact held_of hx0 hS5 | with_reducible exact held_of hx0 hS4 | with_reducible exact held_of hx0 hS1 | with_reducible exact held_of hx0 hAlN | with_reducible exact held_of hx0 hSN | with_reducible exact held_of hx0 hAl))
      ((first
        | (go_at_call 78; with_reducible refine (nexts2_any d _ _ _ _ _ _ _ _ _ _ _ (hN.below hS1) hrn).mono ?_; rintro e wN ⟨aN, cN, rfl, hIN, hnN, hFN, hbN⟩; have hSN := bstep hS1 hbN; have hOw := own_kept hOw1 (KeptG.of (G := []) hbN) (fun _ _ => List.not_mem_nil); have hINa := hIN; have hSb := hSN)
        | (go_at_call 78; with_reducible refine (nexts2_any d _ _ _ _ _ _ _ _ _ _ _ (hN.below hAl) hrn).mono ?_; rintro e wN ⟨aN, cN, rfl, hIN, hnN, hFN, hbN⟩; have hSN := bstep hAl hbN; have hOw0 := own_kept how0 (KeptG.of (G := []) hbN) (fun _ _ => List.not_mem_nil); have hfarN : ∀ k, (w1.alloc (.cells #[] 3)).drew.heap.size ≤ k → k ≠ w1.heap.size := fun k hk => by simp at hk; omega)
        | (go_at_call 78; with_reducible refine (nexts2_any d _ _ _ _ _ _ _ _ _ _ _ (hN.below hbd) hrn).mono ?_; rintro e wN ⟨aN, cN, rfl, hIN, hnN, hFN, hbN⟩; have hSN := bstep hbd hbN; have hAlN : Below w1.heap.size w1 (wN.alloc (.cells #[] 3)) := hSN.alloc hSN.size _; have hOwN := app_empty wN wN.heap.size wN.heap.size rfl (Nat.le_refl _))
        | (refine app_step (by rfl) _ _ (by rfl) wN.heap.size _ 0 [] (by rfl) hOwN d.outs oa on oc (by rfl) (unhide HNI) (hN.outs.below hAlN) (by omega) (by simp) ?_; intro v1 w2 hOw hgr hB1; rw [Nat.zero_add, List.nil_append] at hOw; have hS1 := hAlN.trans (hB1.mono hSN.size); have hSb := hS1; have hINa := hIN.below (((Below.refl _ wN).alloc (Nat.le_refl _) _).trans hB1))
        | (refine app_step (by rfl) _ _ (by rfl) w1.heap.size _ 0 [] (by rfl) hOw0 d.outs oa on oc (by rfl) (unhide HNI) (hN.outs.below hSN) (by omega) hSN.size ?_; intro v1 w2 hOw hgr hB1; rw [Nat.zero_add, List.nil_append] at hOw; have hS1 := hSN.trans hB1; have hSb := hS1; have hINa := hIN.keep hFN hgr.size (fun k h1 h2 => hgr.block k h2 (fun e => hfarN k h1 (by simpa [Value.ownBlock] using e.symm))))
        | (refine app_step (by rfl) _ _ (by rfl) w1.heap.size _ 0 [] (by rfl) how0 d.outs oa on oc (by rfl) (unhide HNI) (hN.outs.below hAl) (by omega) hAl.size ?_; intro v1 w2 hOw1 hgr hB1; rw [Nat.zero_add, List.nil_append] at hOw1; have hS1 := hAl.trans hB1)
        | (refine app_step (by rfl) _ _ (by rfl) _ _ _ _ (by rfl) hOw (nextsV d) aN rn cN (by rfl) (unhide hnN) hINa (by omega) (by first | exact hSb.size | exact Nat.le_trans (Nat.le_trans hB1.size (Nat.le_refl _)) (Nat.le_refl _)) ?_; intro v2 w4 hOw4 hgr4 hB4; have hS4 := hSb.trans (hB4.mono (by first | exact Nat.le_refl _ | exact hSN.size)); obtain ⟨a9, c9, rfl, hI9⟩ := own_ints hOw4 (by unfold maxLen; omega))
        | (go_at_call 77; with_reducible refine (NeedsOf_any d _ _ _ _ _ _ _ _ _ _ _ (hN.below hS4) (needL d) _ _ _ hI9 (unhide HNE)).mono ?_; rintro e w5 ⟨va, vn, vc, bs, rfl, hV, hM, hb5⟩; have hS5 := bstep hS4 hb5)))
    all_goals go_wp2_with fail
    all_goals go_meet
    all_goals exact ⟨_, _, _, _, rfl, hV, hM, hS5⟩
  case rest =>
    obtain ⟨va, vn, vc, bs, rfl, hV, hM, hS5⟩ := hcut
    rename World => w5
    have B5 := bstep hb0 hS5
    have HM := hide hM
    have HBL := hide hV.1
    have hvn : vn ≤ 200 := by have h1 := hV.1; have h2 := hM.1; have h3 := unhide HGL; omega
    clear hS5 hM how0 hAl hbd x0 x1 x2 x3 x4 hx0 hN hb0
    go_wp2_with fail
    go_loopw [4, 5, 6] (fun v' at' i wr => ∃ k : Nat, k ≤ vn ∧ i = .int .i64 k ∧ at' = .int .i64 (atN bs k : Nat) ∧ wr.ownsRow w5.heap.size 3 1 v' k (intsV (kTo bs k)) ∧ Below w5.heap.size w5 wr) (fun _ _ i _ => vn - (intOf i).toNat)
    case atStart => exact ⟨0, Nat.zero_le _, rfl, rfl, World.ownsRow_nil _ _ _ _, Below.refl _ _⟩
    case round =>
      obtain ⟨k, hk, rfl, rfl, hown, hbel⟩ := hrel
      by_cases hlt : k < vn
      · have hki : (k : Int) < (vn : Int) := by omega
        have hkl : k < bs.length := by have := unhide HBL; omega
        have hat := at_le bs k
        obtain ⟨b, off, rfl, hbb, c1⟩ := (hV.below hbel).at hkl
        cases eb : bs[k]
        · have hget : bs.getD k false = false := by simp [List.getD_eq_getElem?_getD, hkl, eb]
          rw [eb] at c1
          have HAT := hide (show atN bs (k + 1) = atN bs k by rw [atN_succ, hget]; simp)
          have HT := hide (show intsV (kTo bs (k + 1)) = intsV (kTo bs k) ++ [.int .i64 (-1)] by rw [kTo_succ, show toV bs k = -1 by unfold toV; rw [hget]; rfl]; simp [intsV])
          clear eb hget
          go_wp2_with (at_builtin; refine wpList_append_own _ rfl _ _ 37 rfl (w5.heap.size) 3 i0 (.int .i64 0) 1 8 Try.underlying37 hi hz0 hz1 hz2 rfl (by decide) _ _ _ rfl (hown.alloc _) ⟨wr.heap.size, 0, none⟩ 1 1 [.int .i64 (-1)] rfl rfl ?c1 ?c2 ?c3 ?c4 ?c5 ?_)
          case c1 =>
            intro j u hj
            match j, hj with
            | 0, hj => simp at hj; subst hj; simp [Addr.add]
          case c2 => intro u hu; simp at hu; subst hu; rfl
          case c3 => unfold maxLen; omega
          case c4 => omega
          case c5 => have := hbel.size; simp; omega
          intro v' w3 hown' hgrow _
          have hown2 := hown'
          rw [← unhide HT] at hown2
          have hb3 : Below w5.heap.size w5 w3 := hbel.trans (((Below.refl _ wr).alloc (hbel.size) _).grown hgrow (by have := hbel.size; simp; omega) (fun k hk => (hown.lt k hk).1))
          have R := hide (And.intro hown2 hb3)
          clear hown hown' hgrow hown2 hb3 c1 hbel
          go_wp2_with fail
          exact ⟨⟨k + 1, by omega, by go_num, by rw [unhide HAT], (unhide R).1, (unhide R).2⟩, by simp [intOf]; omega⟩
        · have hget : bs.getD k false = true := by simp [List.getD_eq_getElem?_getD, hkl, eb]
          rw [eb] at c1
          have HAT := hide (show atN bs (k + 1) = atN bs k + 1 by rw [atN_succ, hget]; simp)
          have HT := hide (show intsV (kTo bs (k + 1)) = intsV (kTo bs k) ++ [.int .i64 (atN bs k : Nat)] by rw [kTo_succ, toV_of hget]; simp [intsV])
          generalize atN bs k = q at *
          clear eb hget
          go_wp2_with (at_builtin; refine wpList_append_own _ rfl _ _ 37 rfl (w5.heap.size) 3 i0 (.int .i64 0) 1 8 Try.underlying37 hi hz0 hz1 hz2 rfl (by decide) _ _ _ rfl (hown.alloc _) ⟨wr.heap.size, 0, none⟩ 1 1 [.int .i64 (q : Int)] rfl rfl ?c1 ?c2 ?c3 ?c4 ?c5 ?_)
          case c1 =>
            intro j u hj
            match j, hj with
            | 0, hj => simp at hj; subst hj; simp [Addr.add]
          case c2 => intro u hu; simp at hu; subst hu; rfl
          case c3 => unfold maxLen; omega
          case c4 => omega
          case c5 => have := hbel.size; simp; omega
          intro v' w3 hown' hgrow _
          have hown2 := hown'
          rw [← unhide HT] at hown2
          have hb3 : Below w5.heap.size w5 w3 := hbel.trans (((Below.refl _ wr).alloc (hbel.size) _).grown hgrow (by have := hbel.size; simp; omega) (fun k hk => (hown.lt k hk).1))
          have R := hide (And.intro hown2 hb3)
          clear hown hown' hgrow hown2 hb3 c1 hbel
          go_wp2_with fail
          exact ⟨⟨k + 1, by omega, by go_num, by rw [unhide HAT]; go_num, (unhide R).1, (unhide R).2⟩, by simp [intOf]; omega⟩
      · have hkn : k = vn := by omega
        subst hkn
        obtain ⟨a2, c2, hv', hI⟩ := own_ints hown (by unfold maxLen; omega)
        have hI2 : Ints wr a2 k (kTo bs k) := hI
        rw [hv']
        clear hv' hown hI
        go_wp2_with fail
        go_ret
        exact ⟨_, _, _, bs, rfl, hI2, unhide HBL, unhide HM, bstep B5 hbel⟩
end Go.Proofs.Ytongajonecgdpag
