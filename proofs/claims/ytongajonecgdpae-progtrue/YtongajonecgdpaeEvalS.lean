/- The document's answers of eval.Step and eval.Solves. -/
import Derived.Test.YtongajonecgdpaeEvalR
import Derived.Deep.LoopGhost
namespace Go.Proofs.Ytongajonecgdpae
open Go.RowKit

def stepE (d : NetD) (regs ins : List Int) : Int :=
  if checkE d = 0 then (if regs.length = d.regs.length ∧ (ins.length : Int) = d.ins then (if vals regs && vals ins then 0 else 3) else 1) else checkE d

theorem stepE_ok {d : NetD} {regs ins : List Int} (h : stepE d regs ins = 0) : checkE d = 0 ∧ regs.length = d.regs.length ∧ (ins.length : Int) = d.ins ∧ vals regs = true ∧ vals ins = true := by
  unfold stepE at h
  by_cases e : checkE d = 0
  · rw [if_pos e] at h
    by_cases e2 : regs.length = d.regs.length ∧ (ins.length : Int) = d.ins
    · rw [if_pos e2] at h
      cases h3 : vals regs <;> cases h4 : vals ins <;> simp [h3, h4] at h
      exact ⟨e, e2.1, e2.2, rfl, rfl⟩
    · rw [if_neg e2] at h; simp at h
  · rw [if_neg e] at h; exact absurd h e

set_option maxHeartbeats 1000000 in
theorem StepError_any (d : NetD) (ins0 : Int) (ga ra oa : Option Addr) (gn gc rn rc on oc : Nat) (w : World) (h : NetAt w d ins0 ga gn ra rn oa on) (regs ins : List Int) (qa ia : Option Addr) (qn qc inn ic : Nat) (hr : Ints w qa qn regs) (hi : Ints w ia inn ins) :
    Calls Try.prog 82 #[.agg #[.int .i64 ins0, .slice ga gn gc, .slice ra rn rc, .slice oa on oc], .slice qa qn qc, .slice ia inn ic] w fun e w' => e = .returned (.int .i64 (stepE d regs ins)) ∧ Below w.heap.size w w' := by
  have hb0 : Below w.heap.size w (w.alloc (.cells #[.int .i64 ins0, .slice ga gn gc, .slice ra rn rc, .slice oa on oc] 26)) := (Below.refl _ _).alloc (Nat.le_refl _) _
  have hbox : Boxed (w.alloc (.cells #[.int .i64 ins0, .slice ga gn gc, .slice ra rn rc, .slice oa on oc] 26)) w.heap.size ins0 ga gn gc ra rn rc oa on oc := Boxed.new _ _ _ _ _ _ _ _ _ _ _ _
  have hN := h.below hb0
  have hr0 := hr.below hb0
  have hi0 := hi.below hb0
  have HG : Hid (d.gates.length = gn) := h.gates.1.symm
  have HR : Hid (d.regs.length = rn) := h.regs.1.symm
  have HI : Hid (d.ins = ins0) := h.ins.symm
  have hqn := hr.1
  have hin := hi.1
  by_cases e0 : checkE d = 0
  case neg =>
    have HQ : Hid (stepE d regs ins = checkE d) := by simp [Hid, stepE, e0]
    have hne : (checkE d != 0) = true := by simp [e0]
    clear e0 h hr hi hqn hin
    go_enter Try.func82, Try.ntmps82
    go_wp2_with fail
    refine (CheckNet_any d _ _ _ _ _ _ _ _ _ _ _ hN).mono ?_
    rintro e w1 ⟨rfl, hb⟩
    have B1 := bstep hb0 hb
    have hr1 := hr0.below hb
    have hi1 := hi0.below hb
    have hx1 := hbox.below hb
    clear hb hb0 hN hbox hr0 hi0
    go_wp2_with fail
    go_ret
    exact ⟨ret_int HQ.out.symm, B1⟩
  have HE : Hid (checkE d = 0) := e0
  by_cases e1 : qn = rn
  case neg =>
    have HQ : Hid (stepE d regs ins = 1) := by
      unfold Hid stepE
      rw [if_pos e0, if_neg (fun hh => e1 (by have := hh.1; have := HR.out; omega))]
    have hne : ((qn : Int) != (rn : Int)) = true := by simp only [bne_iff_ne, ne_eq]; omega
    clear e0 e1 h hr hi hqn hin
    go_enter Try.func82, Try.ntmps82
    go_wp2_with fail
    refine (CheckNet_any d _ _ _ _ _ _ _ _ _ _ _ hN).mono ?_
    rintro e w1 ⟨rfl, hb⟩
    have B1 := bstep hb0 hb
    have hr1 := hr0.below hb
    have hi1 := hi0.below hb
    have hx1 := hbox.below hb
    clear hb hb0 hN hbox hr0 hi0
    rw [HE.out]
    obtain ⟨x0, x1, x2, x3, x4⟩ := hx1
    go_wp2_with fail
    go_ret
    exact ⟨ret_int HQ.out.symm, B1⟩
  have hne1 : ((qn : Int) != (rn : Int)) = false := by simp only [bne_eq_false_iff_eq]; omega
  by_cases e2 : (inn : Int) = ins0
  case neg =>
    have HQ : Hid (stepE d regs ins = 1) := by
      unfold Hid stepE
      rw [if_pos e0, if_neg (fun hh => e2 (by have := hh.2; have := HI.out; omega))]
    have hne : ((inn : Int) != ins0) = true := by simp only [bne_iff_ne, ne_eq]; omega
    clear e0 e1 e2 h hr hi hqn hin
    go_enter Try.func82, Try.ntmps82
    go_wp2_with fail
    refine (CheckNet_any d _ _ _ _ _ _ _ _ _ _ _ hN).mono ?_
    rintro e w1 ⟨rfl, hb⟩
    have B1 := bstep hb0 hb
    have hr1 := hr0.below hb
    have hi1 := hi0.below hb
    have hx1 := hbox.below hb
    clear hb hb0 hN hbox hr0 hi0
    rw [HE.out]
    obtain ⟨x0, x1, x2, x3, x4⟩ := hx1
    go_wp2_with fail
    go_ret
    exact ⟨ret_int HQ.out.symm, B1⟩
  have hne2 : ((inn : Int) != ins0) = false := by simp only [bne_eq_false_iff_eq]; omega
  have HQ : Hid (stepE d regs ins = if vals regs && vals ins then 0 else 3) := by
    unfold Hid stepE
    rw [if_pos e0, if_pos ⟨by have := HR.out; omega, by have := HI.out; omega⟩]
  clear e0 e1 e2 h hr hi hqn hin
  go_enter Try.func82, Try.ntmps82
  go_wp2_with fail
  refine (CheckNet_any d _ _ _ _ _ _ _ _ _ _ _ hN).mono ?_
  rintro e w1 ⟨rfl, hb⟩
  have B1 := bstep hb0 hb
  have hr1 := hr0.below hb
  have hi1 := hi0.below hb
  have hx1 := hbox.below hb
  clear hb hb0 hN hbox hr0 hi0
  rw [HE.out]
  obtain ⟨x0, x1, x2, x3, x4⟩ := hx1
  go_wp2_with fail
  refine (values_any _ _ _ _ _ hr1).mono ?_
  rintro e w' ⟨rfl, rfl⟩
  cases ev : vals regs
  · have HT : Hid (stepE d regs ins = 3) := by rw [HQ.out, ev]; rfl
    clear ev
    go_wp2_with fail
    go_ret
    exact ⟨ret_int HT.out.symm, B1⟩
  · have HV : Hid (vals regs = true) := ev
    clear ev
    go_wp2_with fail
    refine (values_any _ _ _ _ _ hi1).mono ?_
    rintro e w' ⟨rfl, rfl⟩
    cases ev : vals ins
    · have HT : Hid (stepE d regs ins = 3) := by rw [HQ.out, ev, Bool.and_false]; rfl
      clear ev
      go_wp2_with fail
      go_ret
      exact ⟨ret_int HT.out.symm, B1⟩
    · have HT : Hid (stepE d regs ins = 0) := by rw [HQ.out, ev, HV.out]; rfl
      clear ev
      go_wp2_with fail
      go_ret
      exact ⟨ret_int HT.out.symm, B1⟩

def is64 (xs : List Int) : Array Value := (xs.map (fun x => Value.int .i64 x)).toArray
/-- A row of ints: a block of its own. -/
def IntRow (w : World) (g : Nat) (xs : List Int) : Prop := w.heap[g]? = some (.cells (is64 xs) 3 (0, 0))
theorem IntRow.cell {w : World} {g : Nat} {xs : List Int} (h : IntRow w g xs) (k : Nat) (hk : k < xs.length) : w.cell? ⟨g, k, none⟩ = some (.int .i64 xs[k]) := by
  rw [cell_of_row w g k _ _ _ h]
  simp [is64, hk]
theorem IntRow.frozen {w : World} {g : Nat} {xs : List Int} (h : IntRow w g xs) (k : Nat) : w.frozen? ⟨g, k, none⟩ = false := frozen_of_row w g k _ _ h
theorem IntRow.set {w : World} {g : Nat} {xs : List Int} (h : IntRow w g xs) (k : Nat) (x : Int) : IntRow (w.setCell ⟨g, k, none⟩ (.int .i64 x)) g (xs.set k x) := by
  unfold IntRow
  rw [Go.heap_setCell_same w g k _ _ _ h]
  congr 2
  simp [is64]
theorem IntRow.lt {w : World} {g : Nat} {xs : List Int} (h : IntRow w g xs) : g < w.heap.size := (Array.getElem?_eq_some_iff.1 h).1
theorem IntRow.below {B : Nat} {w w' : World} {g : Nat} {xs : List Int} (h : IntRow w g xs) (hb : Below B w w') (hg : g < B) : IntRow w' g xs := by
  unfold IntRow; rw [hb.block g hg]; exact h
theorem IntRow.ints {w : World} {g : Nat} {xs : List Int} (h : IntRow w g xs) (n : Nat) (hn : n = xs.length) (hm : xs.length ≤ maxLen) : Ints w (some ⟨g, 0, none⟩) n xs :=
  ⟨hn, hm, Or.inr ⟨g, 0, rfl, h.lt, fun i hi => by rw [Nat.zero_add, h.cell i hi]⟩⟩
theorem made_introw {w : World} {base g n : Nat} (h : w.ownsRow base 3 1 (.slice (some ⟨g, 0, none⟩) n n) n (madeCells #[Value.int .i64 0] n).toList) : IntRow w g (List.replicate n 0) := by
  rcases h.2 with ⟨h1, _⟩ | ⟨g', cap, cur, hv, _, hh, _, _, hs, ht⟩
  · simp at h1
  · simp only [Value.slice.injEq, Option.some.injEq, Addr.mk.injEq, and_true, true_and] at hv
    obtain ⟨rfl, rfl⟩ := hv
    rw [toList_madeCells_one, List.take_of_length_le (by simp [hs])] at ht
    unfold IntRow
    rw [hh]
    congr 2
    apply Array.ext'
    rw [ht]; simp [is64]

/-- The first k of ys, and noughts behind. -/
def partTo (c : Int) (ys : List Int) (k : Nat) : List Int := ys.take k ++ List.replicate (ys.length - k) c
theorem partTo_len (c : Int) (ys : List Int) (k : Nat) (h : k ≤ ys.length) : (partTo c ys k).length = ys.length := by simp [partTo]; omega
theorem partTo_zero (c : Int) (ys : List Int) : partTo c ys 0 = List.replicate ys.length c := by simp [partTo]
theorem partTo_full (c : Int) (ys : List Int) : partTo c ys ys.length = ys := by simp [partTo]
theorem partTo_set (c : Int) (ys : List Int) (k : Nat) (h : k < ys.length) : (partTo c ys k).set k ys[k] = partTo c ys (k + 1) := by
  have e : ys.take (k + 1) = ys.take k ++ [ys[k]] := List.take_succ_eq_append_getElem h
  have hl : (ys.take k).length = k := by simp; omega
  unfold partTo
  rw [show ys.length - k = (ys.length - (k + 1)) + 1 from by omega, List.replicate_succ, e, List.set_append_right _ _ (by omega), hl, Nat.sub_self, List.set_cons_zero, List.append_assoc]
  rfl

set_option maxRecDepth 100000 in
set_option maxHeartbeats 2000000 in
theorem settled_any (d : NetD) (ins0 : Int) (ga ra oa : Option Addr) (gn gc rn rc on oc : Nat) (w : World) (h : NetAt w d ins0 ga gn ra rn oa on) (regs ins : List Int) (qa ia : Option Addr) (qn qc inn ic : Nat) (hr : Ints w qa qn regs) (hi : Ints w ia inn ins) (hok : stepE d regs ins = 0) :
    Calls Try.prog 83 #[.agg #[.int .i64 ins0, .slice ga gn gc, .slice ra rn rc, .slice oa on oc], .slice qa qn qc, .slice ia inn ic] w fun e w' => ∃ a n c v, e = .returned (.slice a n c) ∧ Ints w' a n v ∧ Least d regs ins v ∧ vals v = true ∧ Below w.heap.size w w' := by
  have hb0 : Below w.heap.size w (w.alloc (.cells #[.int .i64 ins0, .slice ga gn gc, .slice ra rn rc, .slice oa on oc] 26)) := (Below.refl _ _).alloc (Nat.le_refl _) _
  have hbox : Boxed (w.alloc (.cells #[.int .i64 ins0, .slice ga gn gc, .slice ra rn rc, .slice oa on oc] 26)) w.heap.size ins0 ga gn gc ra rn rc oa on oc := Boxed.new _ _ _ _ _ _ _ _ _ _ _ _
  obtain ⟨hck, hrl, hil, hvr, hvi⟩ := stepE_ok hok
  have HG : Hid (d.gates.length = gn) := h.gates.1.symm
  have hgn : gn ≤ 200 := by have := (counts_gates (check_ok hck).1).2.1; have := HG.out; omega
  have hgl : gn ≤ d.gates.length := by have := HG.out; omega
  have hgl2 : d.gates.length ≤ gn := by have := HG.out; omega
  have HRT : Hid (∀ k (hk : k < d.gates.length), Right d.gates[k] qn inn gn) := by
    intro k hk
    have := right_of hck k hk
    have e1 : d.regs.length = qn := by have := hr.1; omega
    have e2 : d.ins.toNat = inn := by have := hi.1; omega
    rw [e1, e2, HG.out] at this
    exact this
  have HVR := hide hvr
  have HVI := hide hvi
  obtain ⟨i0, hi0, hz0, hz1, hz2⟩ := info_parts Try.infoInt
  clear hok hck hrl hil hvr hvi
  go_enter Try.func83, Try.ntmps83
  go_wp2_with (at_make; refine wpList_make_full _ rfl _ _ 24 rfl w.heap.size 3 i0 (.int .i64 0) 1 Try.underlying24 hi0 hz0 hz1 .i64 .i64 (gn : Int) (gn : Int) gn rfl rfl rfl rfl ?c1 ?c2 ?c3 ?_)
  case c1 => rw [hz2]; omega
  case c2 => unfold maxLen; omega
  case c3 => simp
  intro w2 hown hgrow
  have hb2 : Below (w.alloc (.cells #[.int .i64 ins0, .slice ga gn gc, .slice ra rn rc, .slice oa on oc] 26)).heap.size (w.alloc (.cells #[.int .i64 ins0, .slice ga gn gc, .slice ra rn rc, .slice oa on oc] 26)) w2 := (Below.refl _ _).grown hgrow (Nat.le_refl _) (fun k hk => by simp at hk)
  have hrow0 := made_introw hown
  have bb : Below w.heap.size w w2 := bstep hb0 hb2
  have hbx := hbox.below hb2
  clear hown hgrow hb0 hb2 hbox
  go_wp2_with fail
  go_loopw [8] (fun i wr => ∃ k : Nat, k ≤ gn ∧ i = .int .i64 k ∧ IntRow wr (w.heap.size + 1) (partTo 0 (List.replicate gn 2) k) ∧ Below w.heap.size w wr ∧ Boxed wr w.heap.size ins0 ga gn gc ra rn rc oa on oc) (fun i _ => gn - (intOf i).toNat)
  case atStart => exact ⟨0, Nat.zero_le _, rfl, by rw [partTo_zero, List.length_replicate]; exact hrow0, bb, hbx⟩
  case round =>
    clear hrow0 bb hbx
    obtain ⟨k, hk, rfl, hrow, hbel, hbx⟩ := hrel
    by_cases hlt : k < gn
    · have hki : (k : Int) < (gn : Int) := by omega
      have hpl : k < (partTo 0 (List.replicate gn 2) k).length := by rw [partTo_len _ _ _ (by simp; omega)]; simpa using hlt
      obtain ⟨z, c1⟩ : ∃ z, wr.cell? ⟨w.heap.size + 1, k, none⟩ = some (.int .i64 z) := ⟨_, hrow.cell k hpl⟩
      have c2 := hrow.frozen k
      have hrow2 := hrow.set k 2
      have hset := partTo_set 0 (List.replicate gn 2) k (by simpa using hlt)
      rw [List.getElem_replicate] at hset
      rw [hset] at hrow2
      have hbel2 : Below w.heap.size w (wr.setCell ⟨w.heap.size + 1, k, none⟩ (.int .i64 2)) := hbel.setCell (by simp) _
      have hbx2 := hbx.below' (B := w.heap.size + 1) ((Below.refl _ wr).setCell (p := ⟨w.heap.size + 1, k, none⟩) (Nat.le_refl _) (.int .i64 2)) (Nat.lt_succ_self _)
      clear hset hpl hrow
      go_wp2_with fail
      exact ⟨⟨k + 1, by omega, by go_num, hrow2, hbel2, hbx2⟩, by simp [intOf]; omega⟩
    have hkn : k = gn := by omega
    have hfull : partTo 0 (List.replicate gn 2) k = List.replicate gn 2 := by
      have := partTo_full 0 (List.replicate gn 2)
      rw [List.length_replicate] at this
      rw [hkn]; exact this
    rw [hfull] at hrow
    have HW0 := hide (Way.start d regs ins)
    clear hfull
    go_wp2_with fail
    go_loopg [7] gn (fun m v wr => ∃ g0 x, v = .slice (some ⟨g0, 0, none⟩) gn gn ∧ (w.heap.size + 1 ≤ g0 ∧ opens x ≤ m ∧ Way d regs ins x ∧ vals x = true) ∧ IntRow wr g0 x ∧ Below w.heap.size w wr ∧ Boxed wr w.heap.size ins0 ga gn gc ra rn rc oa on oc)
    case atStart =>
      exact ⟨_, _, rfl, ⟨Nat.le_refl _, by have := opens_le_length (List.replicate gn 2); simpa using this, by have := unhide HW0; rw [HG.out] at this; exact this, vals_open _⟩, hrow, hbel, hbx⟩
    case round =>
      clear hrow hbel hbx HW0 hkn
      obtain ⟨g0, x, rfl, ⟨hg0, hop, hway, hvx⟩, hrow, hbel, hbx⟩ := hrel
      have HOP := hide hop
      have HWY := hide hway
      have HVX := hide hvx
      have hxl : x.length = gn := by rw [hway.len]; exact HG.out
      have HXL := hide hxl
      clear hop hway hvx hxl
      have hg0l := hrow.lt
      go_wp2_with (at_make; refine wpList_make_full _ rfl _ _ 24 rfl w.heap.size 3 i0 (.int .i64 0) 1 Try.underlying24 hi0 hz0 hz1 .i64 .i64 (gn : Int) (gn : Int) gn rfl rfl rfl rfl ?c1 ?c2 ?c3 ?_)
      case c1 => rw [hz2]; omega
      case c2 => unfold maxLen; omega
      case c3 => exact hbel.size
      intro w3 hown hgrow
      have hb3 : Below wr.heap.size wr w3 := (Below.refl _ _).grown hgrow (Nat.le_refl _) (fun k hk => by simp at hk)
      have hrow1 := made_introw hown
      have hrow0 := hrow.below hb3 hg0l
      have bb := bstep hbel hb3
      have hbx3 := hbx.below hb3
      have hg1 : w.heap.size + 1 ≤ wr.heap.size := by have := hbx.1; omega
      clear hown hgrow hb3 hrow hbel hbx
      generalize wr.heap.size = g1 at hrow1 hg0l hg1 ⊢
      go_wp2_with fail
      go_loopw [10] (fun i wq => ∃ k : Nat, k ≤ gn ∧ i = .int .i64 k ∧ IntRow wq g1 (partTo 0 (roundV d regs ins x) k) ∧ IntRow wq g0 x ∧ Below w.heap.size w wq ∧ Boxed wq w.heap.size ins0 ga gn gc ra rn rc oa on oc) (fun i _ => gn - (intOf i).toNat)
      case atStart => exact ⟨0, Nat.zero_le _, rfl, by rw [partTo_zero, roundV_len, HG.out]; exact hrow1, hrow0, bb, hbx3⟩
      case round =>
        clear hrow1 hrow0 bb hbx3
        obtain ⟨k, hk, rfl, rowN, rowV, hbel, hbx⟩ := hrel
        by_cases hlt : k < gn
        · have hltg : k < d.gates.length := by omega
          have hki : (k : Int) < (gn : Int) := by omega
          obtain ⟨b, off, aa, an, ac, rfl, hbb, c1, c2, c3, hI⟩ := (h.gates.below hbel).at' hltg
          have hV : Ints _ (some ⟨g0, 0, none⟩) gn x := rowV.ints gn (unhide HXL).symm (by have := unhide HXL; unfold maxLen; omega)
          have hbx0 := hbx
          obtain ⟨x0, x1, x2, x3, x4⟩ := hbx
          have lN := rowN.lt
          have lV := rowV.lt
          go_wp2_with fail
          refine (worth_any d.gates[k] aa an ac regs ins x qa ia (some ⟨g0, 0, none⟩) qn qc inn ic gn gn _ hI (hr.below hbel) (hi.below hbel) hV (HRT.out k hltg) (unhide HVX)).mono ?_
          rintro e w4 ⟨rfl, hb4⟩
          have rowN4 := rowN.below hb4 lN
          have rowV4 := rowV.below hb4 lV
          have bb4 := bstep hbel hb4
          have hbx4 := hbx0.below hb4
          have hRl : k < (roundV d regs ins x).length := by rw [roundV_len]; exact hltg
          have hpl : k < (partTo 0 (roundV d regs ins x) k).length := by rw [partTo_len _ _ _ (by omega)]; exact hRl
          obtain ⟨z, d1⟩ : ∃ z, w4.cell? ⟨g1, k, none⟩ = some (.int .i64 z) := ⟨_, rowN4.cell k hpl⟩
          have d2 := rowN4.frozen k
          have rowN5 := rowN4.set k (worthV d.gates[k] regs ins x)
          have hset := partTo_set 0 (roundV d regs ins x) k hRl
          rw [show (roundV d regs ins x)[k] = worthV d.gates[k] regs ins x from by simp [roundV]] at hset
          rw [hset] at rowN5
          have hne : g0 < g1 := hg0l
          have rowV5 := rowV4.below (B := g1) ((Below.refl _ w4).setCell (p := ⟨g1, k, none⟩) (Nat.le_refl _) (.int .i64 (worthV d.gates[k] regs ins x))) hne
          have bb5 : Below w.heap.size w (w4.setCell ⟨g1, k, none⟩ (.int .i64 (worthV d.gates[k] regs ins x))) := bb4.setCell (by show w.heap.size ≤ g1; omega) _
          have hbx5 := hbx4.below' (B := w.heap.size + 1) ((Below.refl _ w4).setCell (p := ⟨g1, k, none⟩) hg1 (.int .i64 (worthV d.gates[k] regs ins x))) (Nat.lt_succ_self _)
          clear hset hpl hRl c1 c2 c3 x1 x2 x3 x4 hb4 rowN rowV rowN4 rowV4 hV hbx0 hbx4
          go_wp2_with fail
          exact ⟨⟨k + 1, by omega, by go_num, rowN5, rowV5, bb5, hbx5⟩, by simp [intOf]; omega⟩
        have hkn : k = (roundV d regs ins x).length := by rw [roundV_len]; omega
        rw [hkn, partTo_full] at rowN
        have hRl : (roundV d regs ins x).length = gn := by rw [roundV_len]; exact HG.out
        have hNx : Ints _ (some ⟨g1, 0, none⟩) gn (roundV d regs ins x) := rowN.ints gn hRl.symm (by rw [hRl]; unfold maxLen; omega)
        have hV : Ints _ (some ⟨g0, 0, none⟩) gn x := rowV.ints gn (unhide HXL).symm (by have := unhide HXL; unfold maxLen; omega)
        have lN := rowN.lt
        have lV := rowV.lt
        clear hkn hRl
        go_wp2_with fail
        refine (SameInts_any _ _ _ _ _ _ _ _ _ hNx hV).mono ?_
        rintro e w4 ⟨rfl, hb4⟩
        have rowN4 := rowN.below hb4 lN
        have hV4 := hV.below hb4
        have bb4 := bstep hbel hb4
        have hbx4 := hbx.below hb4
        cases e : decide (roundV d regs ins x = x)
        · have hne : roundV d regs ins x ≠ x := by simpa using e
          have HF := hide ((unhide HWY).fewer hne)
          have HW2 := hide (unhide HWY).round
          have HV2 := hide (roundV_vals d (unhide HVR) (unhide HVI) (unhide HVX))
          clear e hne hb4 rowN rowV hV hNx hbel hbx
          go_wp2_with fail
          go_roundg (opens (roundV d regs ins x))
          case measure => have h1 := unhide HF; have h2 := unhide HOP; omega
          case rel => exact ⟨_, _, rfl, ⟨hg1, Nat.le_refl _, unhide HW2, unhide HV2⟩, rowN4, bb4, hbx4⟩
        · have he : roundV d regs ins x = x := by simpa using e
          have HL := hide ((unhide HWY).least he)
          clear e he hb4 rowN rowV hV hNx hbel hbx
          go_wp2_with fail
          go_ret
          exact ⟨_, _, _, x, rfl, hV4, unhide HL, unhide HVX, bb4⟩
end Go.Proofs.Ytongajonecgdpae
