/- SameNets, of two that are the same; so many that are open. -/
import Derived.Test.YtongajonecgdpagSweepM
import Derived.Test.YtongajonecgdpagNetO
import Derived.Test.YtongajonecgdpagTickB
import Derived.Laws.StructEq
namespace Go.Proofs.Ytongajonecgdpag
open Go.RowKit

set_option maxHeartbeats 1000000 in
theorem opens_any (n : Nat) (w : World) (hn : n ≤ 20) :
    Calls Try.prog 51 #[.int .i64 n] w fun e w' => ∃ a m c, e = .returned (.slice a m c) ∧ Ints w' a m (openV n) ∧ Below w.heap.size w w' := by
  obtain ⟨i0, hi, hz0, hz1, hz2⟩ := info_parts Try.infoInt
  go_enter Try.func51, Try.ntmps51
  go_wp2_with fail
  go_loopw [3, 4] (fun v' i wr => ∃ k : Nat, k ≤ n ∧ i = .int .i64 k ∧ wr.ownsRow w.heap.size 3 1 v' k (intsV (openV k)) ∧ Below w.heap.size w wr) (fun _ i _ => n - (intOf i).toNat)
  case atStart => exact ⟨0, Nat.zero_le _, rfl, World.ownsRow_nil _ _ _ _, Below.refl _ _⟩
  case round =>
    obtain ⟨k, hk, rfl, hown, hbel⟩ := hrel
    by_cases hlt : k < n
    · have hki : (k : Int) < (n : Int) := by omega
      have HT := hide (show intsV (openV (k + 1)) = intsV (openV k) ++ [.int .i64 2] by simp [openV, intsV, List.replicate_succ'])
      go_wp2_with (at_builtin; refine wpList_append_own _ rfl _ _ 37 rfl (w.heap.size) 3 i0 (.int .i64 0) 1 8 Try.underlying37 hi hz0 hz1 hz2 rfl (by decide) _ _ _ rfl (hown.alloc _) ⟨wr.heap.size, 0, none⟩ 1 1 [.int .i64 2] rfl rfl ?c1 ?c2 ?c3 ?c4 ?c5 ?_)
      case c1 =>
        intro j u hj
        match j, hj with
        | 0, hj => simp at hj; subst hj; simp [Addr.add]
      case c2 => intro u hu; simp at hu; subst hu; rfl
      case c3 => unfold maxLen; omega
      case c4 => omega
      case c5 => have := hbel.size; simp; omega
      intro v' w3 hown' hgrow _
      have hown2 := hown'
      rw [← unhide HT] at hown2
      have hb3 : Below w.heap.size w w3 := hbel.trans (((Below.refl _ wr).alloc (hbel.size) _).grown hgrow (by have := hbel.size; simp; omega) (fun k hk => (hown.lt k hk).1))
      have R := hide (And.intro hown2 hb3)
      clear hown hown' hgrow hown2 hb3
      go_wp2_with fail
      exact ⟨⟨k + 1, by omega, by go_num, (unhide R).1, (unhide R).2⟩, by simp [intOf]; omega⟩
    · have hkn : k = n := by omega
      obtain ⟨a2, c2, hv', hI⟩ := own_ints hown (by unfold maxLen; omega)
      rw [hv']
      rw [hkn] at hI
      clear hv' hown
      subst hkn
      go_wp2_with fail
      go_ret
      exact ⟨_, _, _, rfl, hI, hbel⟩

theorem neq_store (w : World) (b : Bool) (n : Int) : Sem.run Try.prog (binOp BinOp.neq 48 (.agg #[.bool b, .int .i64 n]) (.agg #[.bool b, .int .i64 n])) w = .ok (.bool false) w := by
  have hS : Try.prog.underlying 48 = some (.struct (Try.prog.fieldsOf 48)) := by kernel_rfl
  have hp : Try.prog.stoodInHeld 48 = false := by kernel_rfl
  have u3 := Try.underlying3
  have u4 := Try.underlying4
  rw [run_neq_struct, show (10000 : Nat) = 9999 + 1 from rfl, run_equalIn_agg w 9999 48 _ _ hS hp]
  simp only [Program.fieldsOf, Try.underlying48]
  go_simp
/-- The two nets' gates, as a drawn region needs them. -/
theorem held_two {w0 W : World} {b1 b2 : Nat} {i1 i2 : Int} {ga ra oa ga' ra' oa' : Option Addr} {gn gc rn rc on oc gn' gc' rn' rc' on' oc' : Nat} (hx : Boxed w0 b1 i1 ga gn gc ra rn rc oa on oc) (hy : Boxed w0 b2 i2 ga' gn' gc' ra' rn' rc' oa' on' oc')
    {p1 p2 p3 q1 q2 q3 : Addr} {u1 u2 u3 v1 v2 v3 : Value} (hp1 : p1.block < w0.heap.size ∧ w0.cell? p1 = some u1) (hp2 : p2.block < w0.heap.size ∧ w0.cell? p2 = some u2) (hp3 : p3.block < w0.heap.size ∧ w0.cell? p3 = some u3)
    (hq1 : q1.block < w0.heap.size ∧ w0.cell? q1 = some v1) (hq2 : q2.block < w0.heap.size ∧ w0.cell? q2 = some v2) (hq3 : q3.block < w0.heap.size ∧ w0.cell? q3 = some v3) (h : Below w0.heap.size w0 W) :
    Below w0.heap.size w0 W ∧ W.cell? ⟨b1, 1, none⟩ = some (.slice ga gn gc) ∧ W.cell? ⟨b2, 1, none⟩ = some (.slice ga' gn' gc') ∧ W.cell? p1 = some u1 ∧ W.cell? p2 = some u2 ∧ W.cell? p3 = some u3 ∧ W.cell? q1 = some v1 ∧ W.cell? q2 = some v2 ∧ W.cell? q3 = some v3 := by
  obtain ⟨_, _, x2, _, _⟩ := hx.below h
  obtain ⟨_, _, y2, _, _⟩ := hy.below h
  exact ⟨h, x2, y2, (h.cell hp1.1).trans hp1.2, (h.cell hp2.1).trans hp2.2, (h.cell hp3.1).trans hp3.2, (h.cell hq1.1).trans hq1.2, (h.cell hq2.1).trans hq2.2, (h.cell hq3.1).trans hq3.2⟩

set_option maxRecDepth 100000 in
set_option maxHeartbeats 4000000 in
theorem SameNets_any (d : NetD) (ins0 ins1 : Int) (ga ra oa ga' ra' oa' : Option Addr) (gn gc rn rc on oc gn' gc' rn' rc' on' oc' : Nat) (w : World) (h : NetAt w d ins0 ga gn ra rn oa on) (h' : NetAt w d ins1 ga' gn' ra' rn' oa' on') :
    Calls Try.prog 20 #[.agg #[.int .i64 ins0, .slice ga gn gc, .slice ra rn rc, .slice oa on oc], .agg #[.int .i64 ins1, .slice ga' gn' gc', .slice ra' rn' rc', .slice oa' on' oc']] w fun e w' => e = .returned (.bool true) ∧ Below w.heap.size w w' := by
  obtain rfl : ins0 = ins1 := by rw [h.ins, h'.ins]
  obtain rfl : gn = gn' := by rw [h.gates.1, h'.gates.1]
  obtain rfl : rn = rn' := by rw [h.regs.1, h'.regs.1]
  have hb1 : Below w.heap.size w (w.alloc (.cells #[.int .i64 ins0, .slice ga gn gc, .slice ra rn rc, .slice oa on oc] 39)) := (Below.refl _ _).alloc (Nat.le_refl _) _
  have hx1 : Boxed (w.alloc (.cells #[.int .i64 ins0, .slice ga gn gc, .slice ra rn rc, .slice oa on oc] 39)) w.heap.size ins0 ga gn gc ra rn rc oa on oc := Boxed.new _ _ _ _ _ _ _ _ _ _ _ _
  have hb2 := (Below.refl _ (w.alloc (.cells #[.int .i64 ins0, .slice ga gn gc, .slice ra rn rc, .slice oa on oc] 39))).alloc (Nat.le_refl _) (.cells #[.int .i64 ins0, .slice ga' gn gc', .slice ra' rn rc', .slice oa' on' oc'] 39)
  have hy1 := Boxed.new (w.alloc (.cells #[.int .i64 ins0, .slice ga gn gc, .slice ra rn rc, .slice oa on oc] 39)) ins0 ga' ra' oa' gn gc' rn rc' on' oc' 39
  have hsz : (w.alloc (.cells #[.int .i64 ins0, .slice ga gn gc, .slice ra rn rc, .slice oa on oc] 39)).heap.size = w.heap.size + 1 := by simp
  rw [hsz] at hy1
  have hx2 := hx1.below hb2
  have B := bstep hb1 hb2
  have hN := h.below B
  have hM := h'.below B
  clear hx1 hb1 hb2 hsz h h'
  have HG : Hid (d.gates.length = gn) := hN.gates.1.symm
  have HRl : Hid (d.regs.length = rn) := hN.regs.1.symm
  have hgm : gn ≤ maxLen := by rw [← HG.out]; exact hN.gates.2.1
  have hrm : rn ≤ maxLen := by rw [← HRl.out]; exact hN.regs.2.1
  unfold maxLen at hgm hrm
  have hx0 := hx2
  have hy0 := hy1
  obtain ⟨x0, x1, x2, x3, x4⟩ := hx2
  obtain ⟨y0, y1, y2, y3, y4⟩ := hy1
  go_enter Try.func20, Try.ntmps20
  go_wp2_with fail
  refine (SameInts_any _ _ _ _ _ _ _ _ _ hN.outs hM.outs).mono ?_
  rintro e w1 ⟨rfl, hb⟩
  rw [show decide (d.outs = d.outs) = true from decide_eq_true rfl]
  have B1 := bstep B hb
  have hN1 := hN.below hb
  have hM1 := hM.below hb
  have hx1 := hx0.below hb
  have hy1 := hy0.below hb
  clear hb B hN hM hx0 hy0 x0 x1 x2 x3 x4 y0 y1 y2 y3 y4
  go_wp2_with fail
  go_loopw [5] (fun i wr => ∃ k : Nat, k ≤ gn ∧ i = .int .i64 k ∧ Below w1.heap.size w1 wr) (fun i _ => gn - (intOf i).toNat)
  case atStart => exact ⟨0, Nat.zero_le _, rfl, Below.refl _ _⟩
  case round =>
    obtain ⟨k, hk, rfl, hbel⟩ := hrel
    have hxr := hx1.below hbel
    have hyr := hy1.below hbel
    have hxr0 := hxr
    have hyr0 := hyr
    obtain ⟨x0, x1, x2, x3, x4⟩ := hxr0
    obtain ⟨y0, y1, y2, y3, y4⟩ := hyr0
    by_cases hlt : k < gn
    · have hltg : k < d.gates.length := by have := HG.out; omega
      have hki : (k : Int) < (gn : Int) := by omega
      obtain ⟨b, off, aa, an, ac, rfl, hbb, c1, c2, c3, hI⟩ := (hN1.gates.below hbel).at' hltg
      obtain ⟨b', off', aa', an', ac', rfl, hbb', c1', c2', c3', hI'⟩ := (hM1.gates.below hbel).at' hltg
      have hbd := (Below.refl wr.heap.size wr).drew
      clear x1 x3 x4 y1 y3 y4
      go_wp2_with fail
      go_region_held3 (fun W => Below wr.heap.size wr W ∧ W.cell? ⟨w.heap.size, 1, none⟩ = some (.slice (some ⟨b, off, none⟩) gn gc) ∧ W.cell? ⟨w.heap.size + 1, 1, none⟩ = some (.slice (some ⟨b', off', none⟩) gn gc') ∧ W.cell? ⟨b, off + k * 3, none⟩ = some (.int .i64 d.gates[k].kind) ∧ W.cell? ⟨b, off + k * 3 + 1, none⟩ = some (.int .i64 d.gates[k].n) ∧ W.cell? ⟨b, off + k * 3 + 2, none⟩ = some (.slice aa an ac) ∧ W.cell? ⟨b', off' + k * 3, none⟩ = some (.int .i64 d.gates[k].kind) ∧ W.cell? ⟨b', off' + k * 3 + 1, none⟩ = some (.int .i64 d.gates[k].n) ∧ W.cell? ⟨b', off' + k * 3 + 2, none⟩ = some (.slice aa' an' ac'))
        ((first | exact held_two hxr hyr ⟨hbb, c1⟩ ⟨hbb, c2⟩ ⟨hbb, c3⟩ ⟨hbb', c1'⟩ ⟨hbb', c2'⟩ ⟨hbb', c3'⟩ hbd | exact held_two hxr hyr ⟨hbb, c1⟩ ⟨hbb, c2⟩ ⟨hbb, c3⟩ ⟨hbb', c1'⟩ ⟨hbb', c2'⟩ ⟨hbb', c3'⟩ hSB))
        ((first
          | (go_at_call 23; refine (SameInts_any _ _ _ _ _ _ _ _ _ (hI.below hbd) (hI'.below hbd)).mono ?_; rintro e wB ⟨rfl, hbB⟩; have hSB := bstep hbd hbB; rw [show decide (d.gates[k].args = d.gates[k].args) = true from decide_eq_true rfl])))
      all_goals (have R := hide (bstep hbel hSB))
      all_goals clear hSB hbd c1 c2 c3 c1' c2' c3' hI hI'
      all_goals go_wp2_with fail
      all_goals exact ⟨⟨k + 1, by omega, by go_num, unhide R⟩, by simp [intOf]; omega⟩
    · go_wp2_with fail
      clear x0 x1 x2 x3 x4 y0 y1 y2 y3 y4 hxr hyr
      go_loopw [6] (fun i wz => ∃ k : Nat, k ≤ rn ∧ i = .int .i64 k ∧ Below w1.heap.size w1 wz) (fun i _ => rn - (intOf i).toNat)
      case atStart => exact ⟨0, Nat.zero_le _, rfl, hbel⟩
      case round =>
        clear hbel
        obtain ⟨j, hj, rfl, hbel⟩ := hrel
        have hxr := hx1.below hbel
        have hyr := hy1.below hbel
        have hxr0 := hxr
        have hyr0 := hyr
        obtain ⟨x0, x1, x2, x3, x4⟩ := hxr0
        obtain ⟨y0, y1, y2, y3, y4⟩ := hyr0
        by_cases hlj : j < rn
        · have hltg : j < d.regs.length := by have := HRl.out; omega
          have hki : (j : Int) < (rn : Int) := by omega
          obtain ⟨b, off, rfl, hbb, c1, c2⟩ := (hN1.regs.below hbel).at hltg
          obtain ⟨b', off', rfl, hbb', c1', c2'⟩ := (hM1.regs.below hbel).at hltg
          have hcmp := fun W : World => neq_store W d.regs[j].1 d.regs[j].2
          clear x1 x2 x4 y1 y2 y4
          go_wp2_with fail
          go_region_held3 (fun W => W.cell? ⟨w.heap.size, 2, none⟩ = some (.slice (some ⟨b, off, none⟩) rn rc) ∧ W.cell? ⟨w.heap.size + 1, 2, none⟩ = some (.slice (some ⟨b', off', none⟩) rn rc') ∧ W.cell? ⟨b, off + j * 2, none⟩ = some (.bool d.regs[j].1) ∧ W.cell? ⟨b, off + j * 2 + 1, none⟩ = some (.int .i64 d.regs[j].2) ∧ W.cell? ⟨b', off' + j * 2, none⟩ = some (.bool d.regs[j].1) ∧ W.cell? ⟨b', off' + j * 2 + 1, none⟩ = some (.int .i64 d.regs[j].2))
            ((exact ⟨x3, y3, c1, c2, c1', c2'⟩))
            (fail)
          all_goals (have R := hide (show Below w1.heap.size w1 wr.drew from hbel.drew))
          all_goals clear c1 c2 c1' c2'
          all_goals go_wp2_with fail
          all_goals exact ⟨⟨j + 1, by omega, by go_num, unhide R⟩, by simp [intOf]; omega⟩
        · go_wp2_with fail
          go_ret
          exact ⟨rfl, bstep B1 hbel⟩
end Go.Proofs.Ytongajonecgdpag
