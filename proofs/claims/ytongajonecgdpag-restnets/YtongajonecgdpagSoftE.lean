/- eval.Step: what it answers lies in a row made since, no cell of it frozen. -/
import Derived.Test.YtongajonecgdpagSoftA
import Derived.Test.YtongajonecgdpagEvalP
namespace Go.Proofs.Ytongajonecgdpag
open Go.RowKit

set_option maxRecDepth 100000 in
set_option maxHeartbeats 2000000 in
theorem settle_soft (d : NetD) (ga : Option Addr) (gn gc : Nat) (w : World) (hG : Gates w ga gn d.gates) (regs ins : List Int) (qa ia : Option Addr) (qn qc inn ic : Nat) (hr : Ints w qa qn regs) (hi : Ints w ia inn ins) (hok : stepE d regs ins = 0) :
    Calls Try.prog 49 #[.agg #[.slice qa qn qc, .slice ia inn ic], .slice ga gn gc] w fun e w' => ∃ a n c v, e = .returned (.slice a n c) ∧ Ints w' a n v ∧ Soft w' w.heap.size a n ∧ Least d regs ins v ∧ vals v = true ∧ Below w.heap.size w w' := by
  have hb0 : Below w.heap.size w (w.alloc (.cells #[.slice qa qn qc, .slice ia inn ic] 85)) := (Below.refl _ _).alloc (Nat.le_refl _) _
  have hbox := HBox.new w qa ia qn qc inn ic 85
  obtain ⟨hck, hrl, hil, hvr, hvi⟩ := stepE_ok hok
  have HG : Hid (d.gates.length = gn) := hG.1.symm
  have hgn : gn ≤ 200 := by have := (counts_gates (check_ok hck).1).2.1; have := HG.out; omega
  have hgl : gn ≤ d.gates.length := by have := HG.out; omega
  have hgl2 : d.gates.length ≤ gn := by have := HG.out; omega
  have HRT : Hid (∀ k (hk : k < d.gates.length), Right d.gates[k] qn inn gn) := by
    intro k hk
    have := right_of hck k hk
    have e1 : d.regs.length = qn := by have := hr.1; omega
    have e2 : d.ins.toNat = inn := by have := hi.1; omega
    rw [e1, e2, HG.out] at this
    exact this
  have HVR := hide hvr
  have HVI := hide hvi
  obtain ⟨i0, hi0, hz0, hz1, hz2⟩ := info_parts Try.infoInt
  clear hok hck hrl hil hvr hvi
  go_enter Try.func49, Try.ntmps49
  go_wp2_with (at_make; refine wpList_make_full _ rfl _ _ 37 rfl w.heap.size 3 i0 (.int .i64 0) 1 Try.underlying37 hi0 hz0 hz1 .i64 .i64 (gn : Int) (gn : Int) gn rfl rfl rfl rfl ?c1 ?c2 ?c3 ?_)
  case c1 => rw [hz2]; omega
  case c2 => unfold maxLen; omega
  case c3 => simp
  intro w2 hown hgrow
  have hb2 : Below (w.alloc (.cells #[.slice qa qn qc, .slice ia inn ic] 85)).heap.size (w.alloc (.cells #[.slice qa qn qc, .slice ia inn ic] 85)) w2 := (Below.refl _ _).grown hgrow (Nat.le_refl _) (fun k hk => by simp at hk)
  have hrow0 := made_introw hown
  have bb : Below w.heap.size w w2 := bstep hb0 hb2
  have hbx := hbox.below hb2
  clear hown hgrow hb0 hb2 hbox hi0 hz0 hz1 hz2
  go_wp2_with fail
  go_loopw [15] (fun i wr => ∃ k : Nat, k ≤ gn ∧ i = .int .i64 k ∧ IntRow wr (w.heap.size + 1) (partTo 0 (List.replicate gn 2) k) ∧ Below w.heap.size w wr ∧ HBox wr w.heap.size qa ia qn qc inn ic) (fun i _ => gn - (intOf i).toNat)
  case atStart => exact ⟨0, Nat.zero_le _, rfl, by rw [partTo_zero, List.length_replicate]; exact hrow0, bb, hbx⟩
  case round =>
    clear hrow0 bb hbx
    obtain ⟨k, hk, rfl, hrow, hbel, hbx⟩ := hrel
    by_cases hlt : k < gn
    · have hki : (k : Int) < (gn : Int) := by omega
      have hpl : k < (partTo 0 (List.replicate gn 2) k).length := by rw [partTo_len _ _ _ (by simp; omega)]; simpa using hlt
      obtain ⟨z, c1⟩ : ∃ z, wr.cell? ⟨w.heap.size + 1, k, none⟩ = some (.int .i64 z) := ⟨_, hrow.cell k hpl⟩
      have c2 := hrow.frozen k
      have hrow2 := hrow.set k 2
      have hset := partTo_set 0 (List.replicate gn 2) k (by simpa using hlt)
      rw [List.getElem_replicate] at hset
      rw [hset] at hrow2
      have hbel2 : Below w.heap.size w (wr.setCell ⟨w.heap.size + 1, k, none⟩ (.int .i64 2)) := hbel.setCell (by simp) _
      have hbx2 := hbx.below' (B := w.heap.size + 1) ((Below.refl _ wr).setCell (p := ⟨w.heap.size + 1, k, none⟩) (Nat.le_refl _) (.int .i64 2)) (Nat.lt_succ_self _)
      clear hset hpl hrow
      go_wp2_with fail
      exact ⟨⟨k + 1, by omega, by go_num, hrow2, hbel2, hbx2⟩, by simp [intOf]; omega⟩
    have hkn : k = gn := by omega
    have hfull : partTo 0 (List.replicate gn 2) k = List.replicate gn 2 := by
      have := partTo_full 0 (List.replicate gn 2)
      rw [List.length_replicate] at this
      rw [hkn]; exact this
    rw [hfull] at hrow
    have HW0 := hide (Way.start d regs ins)
    clear hfull
    go_wp2_with fail
    go_loopg [7] (2 * gn + 1) (fun m c wr => ∃ b x, c = .bool b ∧ (2 * opens x + (if b then 1 else 0) ≤ m ∧ Way d regs ins x ∧ vals x = true ∧ (b = false → roundV d regs ins x = x)) ∧ IntRow wr (w.heap.size + 1) x ∧ Below w.heap.size w wr ∧ HBox wr w.heap.size qa ia qn qc inn ic)
    case atStart =>
      exact ⟨true, _, rfl, ⟨by have := opens_le_length (List.replicate gn 2); simp at this ⊢; omega, by have := unhide HW0; rw [HG.out] at this; exact this, vals_open _, fun h => by simp at h⟩, hrow, hbel, hbx⟩
    case round =>
      clear hrow hbel hbx HW0 hkn
      obtain ⟨b, x, rfl, ⟨hop, hway, hvx, hfix⟩, hrow, hbel, hbx⟩ := hrel
      have hxl : x.length = gn := by rw [hway.len]; exact HG.out
      have HXL := hide hxl
      cases b
      · have HL := hide (hway.least (hfix rfl))
        have hV : Ints _ (some ⟨w.heap.size + 1, 0, none⟩) gn x := hrow.ints gn (unhide HXL).symm (by have := unhide HXL; unfold maxLen; omega)
        have HVX := hide hvx
        have HVS := hide (hrow.soft (base := w.heap.size) (n := gn) (Nat.le_succ _))
        clear hop hway hvx hfix hxl
        go_wp2_with fail
        go_ret
        exact ⟨_, _, _, x, rfl, hV, unhide HVS, unhide HL, unhide HVX, hbel⟩
      · have HOP := hide hop
        have HP0 := hide (Pass.start d regs ins x)
        have HWY := hide hway
        have HVX := hide hvx
        clear hop hway hvx hxl hfix
        go_wp2_with fail
        go_loopw [7, 25] (fun c i wq => ∃ (k : Nat) (b : Bool) (y : List Int), k ≤ gn ∧ c = .bool b ∧ i = .int .i64 k ∧ (Way d regs ins y ∧ vals y = true ∧ Pass d regs ins x k b y) ∧ IntRow wq (w.heap.size + 1) y ∧ Below w.heap.size w wq ∧ HBox wq w.heap.size qa ia qn qc inn ic) (fun _ i _ => gn - (intOf i).toNat)
        case atStart => exact ⟨0, false, x, Nat.zero_le _, rfl, rfl, ⟨unhide HWY, unhide HVX, unhide HP0⟩, hrow, hbel, hbx⟩
        case round =>
          clear hrow hbel hbx HWY HVX HP0 HXL
          obtain ⟨k, b, y, hk, rfl, rfl, ⟨hway, hvy, hps⟩, hrow, hbel, hbx⟩ := hrel
          have hyl : y.length = gn := by rw [hway.len]; exact HG.out
          by_cases hlt : k < gn
          · have hltg : k < d.gates.length := by omega
            have hlty : k < y.length := by omega
            have hki : (k : Int) < (gn : Int) := by omega
            obtain ⟨bG, off, aa, an, ac, rfl, hbb, c1, c2, c3, hI⟩ := (hG.below hbel).at' hltg
            have d1 := hrow.cell k hlty
            have d2 := hrow.frozen k
            have hvl := hrow.lt
            have hbx0 := hbx
            obtain ⟨x0, x1, x2⟩ := hbx
            have hyk : y.getD k 2 = y[k] := by simp [List.getD_eq_getElem?_getD, hlty]
            by_cases e2 : y[k] = 2
            · have hy2 : y.getD k 2 = 2 := by rw [hyk]; exact e2
              have HWY := hide hway
              have HVY := hide hvy
              have HWS := hide (hway.set k hltg)
              have HVS := hide (vals_set (k := k) hvy (worthV_val d.gates[k] (unhide HVR) (unhide HVI) hvy))
              have HY2 := hide hy2
              have HPS := hide hps
              have HST := hide (show worthV d.gates[k] regs ins y = 2 → y.set k (worthV d.gates[k] regs ins y) = y from fun h => by rw [h]; exact set_same hlty hy2)
              have hal := (Below.refl _ wr).alloc (Nat.le_refl _) (.cells #[.int .i64 d.gates[k].kind, .int .i64 d.gates[k].n, .slice aa an ac] 46)
              have bbA := bstep hbel hal
              have rowA := hrow.below hal hvl
              have hbxA := hbx0.below hal
              have hI2 := hI.below hal
              have hV : Ints _ (some ⟨w.heap.size + 1, 0, none⟩) gn y := rowA.ints gn hyl.symm (by rw [hyl]; unfold maxLen; omega)
              clear hyk hy2 hway hvy hps hal
              go_wp2_with fail
              refine (value_any d.gates[k] aa an ac regs ins y qa ia (some ⟨w.heap.size + 1, 0, none⟩) qn qc inn ic gn gn _ hI2 (hr.below bbA) (hi.below bbA) hV (HRT.out k hltg) (unhide HVY)).mono ?_
              rintro e w4 ⟨rfl, hb4⟩
              have row4 := rowA.below hb4 rowA.lt
              have bb4 := bstep bbA hb4
              have hbx4 := hbxA.below hb4
              have f1 := row4.cell k hlty
              have f2 := row4.frozen k
              have row5 := row4.set k (worthV d.gates[k] regs ins y)
              have bb5 : Below w.heap.size w (w4.setCell ⟨w.heap.size + 1, k, none⟩ (.int .i64 (worthV d.gates[k] regs ins y))) := bb4.setCell (by simp) _
              have hbx5 := hbx4.below' (B := w.heap.size + 1) ((Below.refl _ w4).setCell (p := ⟨w.heap.size + 1, k, none⟩) (Nat.le_refl _) (.int .i64 (worthV d.gates[k] regs ins y))) (Nat.lt_succ_self _)
              have f3 : (w4.setCell ⟨w.heap.size + 1, k, none⟩ (.int .i64 (worthV d.gates[k] regs ins y))).cell? ⟨w.heap.size + 1, k, none⟩ = some (.int .i64 (worthV d.gates[k] regs ins y)) := by
                have := row5.cell k (by simpa using hlty)
                simpa using this
              have R := And.intro row5 (And.intro bb5 hbx5)
              clear row4 bb4 hbx4 row5 bb5 hbx5 hb4 rowA hbxA hV hI2 hrow hbel hbx0 x1 x2 c1 c2 c3 d1 d2 bbA hI
              cases b
              · by_cases e3 : worthV d.gates[k] regs ins y = 2
                · have hne : (worthV d.gates[k] regs ins y != 2) = false := by simp [e3]
                  have HP := hide (show Pass d regs ins x (k + 1) false (y.set k (worthV d.gates[k] regs ins y)) by rw [unhide HST e3]; exact (unhide HPS).stay hltg (by rw [e3]; exact (unhide HY2).symm))
                  clear e3
                  go_wp2_with fail
                  exact ⟨⟨k + 1, false, _, by omega, rfl, by go_num, ⟨unhide HWS, unhide HVS, unhide HP⟩, R.1, R.2.1, R.2.2⟩, by simp [intOf]; omega⟩
                · have hne : (worthV d.gates[k] regs ins y != 2) = true := by simp [e3]
                  have HP := hide ((unhide HPS).more hlty (unhide HY2) e3)
                  clear e3
                  go_wp2_with fail
                  exact ⟨⟨k + 1, true, _, by omega, rfl, by go_num, ⟨unhide HWS, unhide HVS, unhide HP⟩, R.1, R.2.1, R.2.2⟩, by simp [intOf]; omega⟩
              · have HP := hide (show Pass d regs ins x (k + 1) true (y.set k (worthV d.gates[k] regs ins y)) by
                  by_cases e3 : worthV d.gates[k] regs ins y = 2
                  · rw [unhide HST e3]; exact (unhide HPS).stay hltg (by rw [e3]; exact (unhide HY2).symm)
                  · exact (unhide HPS).more hlty (unhide HY2) e3)
                go_wp2_with fail
                exact ⟨⟨k + 1, true, _, by omega, rfl, by go_num, ⟨unhide HWS, unhide HVS, unhide HP⟩, R.1, R.2.1, R.2.2⟩, by simp [intOf]; omega⟩
            · have hq : (y[k] == 2) = false := by simp [e2]
              have HP := hide (hps.stay hltg (hway.stays hltg (by rw [hyk]; exact e2)))
              have HWY := hide hway
              have HVY := hide hvy
              have hal := (Below.refl _ wr).alloc (Nat.le_refl _) (.cells #[.int .i64 d.gates[k].kind, .int .i64 d.gates[k].n, .slice aa an ac] 46)
              have R := And.intro (hrow.below hal hvl) (And.intro (bstep hbel hal) (hbx0.below hal))
              clear e2 hyk hway hvy hps hal
              go_wp2_with fail
              exact ⟨⟨k + 1, b, y, by omega, rfl, by go_num, ⟨unhide HWY, unhide HVY, unhide HP⟩, R.1, R.2.1, R.2.2⟩, by simp [intOf]; omega⟩
          · have hkg : d.gates.length ≤ k := by omega
            cases b
            · have HF := hide (hps.fix hkg (by rw [hyl]; exact HG.out.symm))
              have HWY := hide hway
              have HVY := hide hvy
              have HLE := hide hps.1
              clear hway hvy hps hyl
              go_wp2_with fail
              go_roundg (2 * opens y)
              case measure => have h1 := unhide HOP; have h2 := unhide HLE; simp at h1; omega
              case rel => exact ⟨false, y, rfl, ⟨by simp, unhide HWY, unhide HVY, fun _ => unhide HF⟩, hrow, hbel, hbx⟩
            · have HLT := hide (hps.2.1 rfl)
              have HWY := hide hway
              have HVY := hide hvy
              clear hway hvy hps hyl
              go_wp2_with fail
              go_roundg (2 * opens y + 1)
              case measure => have h1 := unhide HOP; have h2 := unhide HLT; simp at h1; omega
              case rel => exact ⟨true, y, rfl, ⟨by simp, unhide HWY, unhide HVY, fun h => by simp at h⟩, hrow, hbel, hbx⟩

set_option maxHeartbeats 1000000 in
theorem Step_soft (d : NetD) (ins0 : Int) (ga ra oa : Option Addr) (gn gc rn rc on oc : Nat) (w : World) (h : NetAt w d ins0 ga gn ra rn oa on) (regs ins : List Int) (qa ia : Option Addr) (qn qc inn ic : Nat) (hr : Ints w qa qn regs) (hi : Ints w ia inn ins) :
    Calls Try.prog 18 #[.agg #[.int .i64 ins0, .slice ga gn gc, .slice ra rn rc, .slice oa on oc], .slice qa qn qc, .slice ia inn ic] w fun e w' => ∃ a n c v, e = .returned (.tuple #[.slice a n c, .int .i64 (stepE d regs ins)]) ∧ Ints w' a n v ∧ Soft w' w.heap.size a n ∧ StepAns d regs ins v ∧ Below w.heap.size w w' := by
  have hb0 : Below w.heap.size w (w.alloc (.cells #[.int .i64 ins0, .slice ga gn gc, .slice ra rn rc, .slice oa on oc] 39)) := (Below.refl _ _).alloc (Nat.le_refl _) _
  have hbox : Boxed (w.alloc (.cells #[.int .i64 ins0, .slice ga gn gc, .slice ra rn rc, .slice oa on oc] 39)) w.heap.size ins0 ga gn gc ra rn rc oa on oc := Boxed.new _ _ _ _ _ _ _ _ _ _ _ _
  have hN := h.below hb0
  have hr0 := hr.below hb0
  have hi0 := hi.below hb0
  clear h hr hi
  go_enter Try.func18, Try.ntmps18
  go_wp2_with fail
  refine (hold_any d _ _ _ _ _ _ _ _ _ _ _ hN regs ins _ _ _ _ _ _ hr0 hi0).mono ?_
  rintro e w1 ⟨rfl, hb⟩
  have B1 := bstep hb0 hb
  have hN1 := hN.below hb
  have hr1 := hr0.below hb
  have hi1 := hi0.below hb
  have hx1 := hbox.below hb
  clear hb hb0 hN hbox hr0 hi0
  by_cases e0 : stepE d regs ins = 0
  · have HE : Hid (stepE d regs ins = 0) := e0
    rw [holdV_ok e0, HE.out]
    clear e0
    have hal := (Below.refl _ w1).alloc (Nat.le_refl _) (.cells #[.slice qa qn qc, .slice ia inn ic] 85)
    have B2 := bstep B1 hal
    have hG2 := hN1.gates.below hal
    have hr2 := hr1.below hal
    have hi2 := hi1.below hal
    have hx2 := hx1.below hal
    clear hal B1 hN1 hr1 hi1 hx1
    obtain ⟨x0, x1, x2, x3, x4⟩ := hx2
    go_wp2_with fail
    refine (settle_soft d _ _ _ _ hG2 regs ins _ _ _ _ _ _ hr2 hi2 HE.out).mono ?_
    rintro e w2 ⟨a2, n2, c2, v2, rfl, hI2, hS2, hL2, hv2, hb2⟩
    go_wp2_with fail
    go_ret2
    exact ⟨a2, n2, c2, v2, ret_sl HE.out.symm, hI2, hS2.down B2.size, ⟨fun _ => ⟨hL2, hv2⟩, fun hh => absurd HE.out hh⟩, bstep B2 hb2⟩
  · have hne : (stepE d regs ins != 0) = true := by simp [e0]
    have HE := hide e0
    rw [holdV_no e0]
    clear e0
    have hal := (Below.refl _ w1).alloc (Nat.le_refl _) (.cells #[.slice none 0 0, .slice none 0 0] 85)
    have B2 := bstep B1 hal
    go_wp2_with fail
    go_ret2
    exact ⟨none, 0, 0, [], rfl, Ints.none _, Or.inl rfl, ⟨fun hh => absurd hh (unhide HE), fun _ => rfl⟩, B2⟩
end Go.Proofs.Ytongajonecgdpag
