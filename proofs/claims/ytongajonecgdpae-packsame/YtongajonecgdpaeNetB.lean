/- The other askers of net.Check, and net.Check itself: what they answer, for every net that is read. -/
import Derived.Test.YtongajonecgdpaeNetA
namespace Go.Proofs.Ytongajonecgdpae
open Go.RowKit

def argsIn (gn : Nat) (g : GateD) : Bool := g.args.all (fun x => isB x gn)
def regsTo (d : NetD) (k : Nat) : Bool := (d.regs.take k).all (fun r => isB r.2 d.gates.length)
def outsTo (d : NetD) (k : Nat) : Bool := (d.outs.take k).all (fun x => isB x d.gates.length)
def argsTo (d : NetD) (k : Nat) : Bool := (d.gates.take k).all (argsIn d.gates.length)
def numbersB (d : NetD) : Bool := decide (0 ≤ d.ins) && regsTo d d.regs.length && outsTo d d.outs.length && argsTo d d.gates.length

set_option maxHeartbeats 2000000 in
theorem requireNumbers_any (d : NetD) (ins : Int) (ga ra oa : Option Addr) (gn gc rn rc on oc : Nat) (w : World) (h : NetAt w d ins ga gn ra rn oa on) (hsm : gn ≤ 200) :
    Calls Try.prog 92 #[.agg #[.int .i64 ins, .slice ga gn gc, .slice ra rn rc, .slice oa on oc]] w fun e w' => e = endOf (numbersB d) 3 ∧ Below w.heap.size w w' := by
  have hb0 : Below w.heap.size w (w.alloc (.cells #[.int .i64 ins, .slice ga gn gc, .slice ra rn rc, .slice oa on oc] 26)) := (Below.refl _ _).alloc (Nat.le_refl _) _
  have hbox : Boxed (w.alloc (.cells #[.int .i64 ins, .slice ga gn gc, .slice ra rn rc, .slice oa on oc] 26)) w.heap.size ins ga gn gc ra rn rc oa on oc := Boxed.new _ _ _ _ _ _ _ _ _ _ _ _
  have hg : d.gates.length = gn := h.gates.1.symm
  have hr : d.regs.length = rn := h.regs.1.symm
  have ho : d.outs.length = on := h.outs.1.symm
  have hi : d.ins = ins := h.ins.symm
  have hrm : rn ≤ maxLen := by have := h.regs.2.1; omega
  have hom : on ≤ maxLen := by have := h.outs.2.1; omega
  unfold maxLen at hrm hom
  have HG : Hid (d.gates.length = gn) := hg
  by_cases h1 : 0 ≤ ins
  case neg =>
    have HB : Hid (numbersB d = false) := by
      have e0 : decide (0 ≤ d.ins) = false := by simp; omega
      simp [Hid, numbersB, e0]
    have hd : decide (0 ≤ ins) = false := decide_eq_false (by omega)
    clear hg hr ho hi
    go_enter Try.func92, Try.ntmps92
    go_wp2_with fail
    refine (require_no _ _).mono ?_
    rintro e w' ⟨rfl, rfl⟩
    go_wp2_with fail
    exact ⟨rfl, end_no HB.out, hb0⟩
  have HB : Hid (numbersB d = (regsTo d d.regs.length && outsTo d d.outs.length && argsTo d d.gates.length)) := by
    have e0 : decide (0 ≤ d.ins) = true := by simp; omega
    simp [Hid, numbersB, e0]
  have hgl : gn ≤ d.gates.length := by omega
  have hgl2 : d.gates.length ≤ gn := by omega
  have hrl : rn ≤ d.regs.length := by omega
  have hrl2 : d.regs.length ≤ rn := by omega
  have hol : on ≤ d.outs.length := by omega
  have hol2 : d.outs.length ≤ on := by omega
  have hgs := h.gates
  have hrs := h.regs
  have hos := h.outs
  clear hg hr ho hi h
  go_enter Try.func92, Try.ntmps92
  go_wp2_with fail
  refine (require_yes _ _).mono ?_
  rintro e w' ⟨rfl, rfl⟩
  go_wp2_with fail
  go_loopw [17] (fun i wr => ∃ k : Nat, k ≤ rn ∧ i = .int .i64 k ∧ regsTo d k = true ∧ Below w.heap.size w wr ∧ Boxed wr w.heap.size ins ga gn gc ra rn rc oa on oc) (fun i _ => rn - (intOf i).toNat)
  case atStart => exact ⟨0, Nat.zero_le _, rfl, rfl, hb0, hbox⟩
  case round =>
    obtain ⟨k, hk, rfl, hno, hbel, hbx⟩ := hrel
    by_cases hlt : k < rn
    · have hltg : k < d.regs.length := by omega
      obtain ⟨b, off, rfl, hbb, c1, c2⟩ := (hrs.below hbel).at hltg
      have hb3 : Below wr.heap.size wr (wr.alloc (.cells #[.bool d.regs[k].1, .int .i64 d.regs[k].2] 74)) := (Below.refl _ _).alloc (Nat.le_refl _) _
      have HX := hbx
      obtain ⟨x0, x1, x2, x3, x4⟩ := hbx
      cases e : isB d.regs[k].2 gn
      · have HT : Hid (numbersB d = false) := by
          have : regsTo d d.regs.length = false := all_take_no _ d.regs k hltg (by rw [HG.out]; exact e)
          rw [HB.out, this]; rfl
        have HE : Hid (isB d.regs[k].2 gn = false) := e
        clear hno HB e
        go_wp2_with fail
        refine (isGate_any _ _ _ _ _ _ _ _ _ _ _ _).mono ?_
        rintro e w2 ⟨rfl, hb4⟩
        rw [HE.out]
        go_wp2_with fail
        refine (require_no _ _).mono ?_
        rintro e w' ⟨rfl, rfl⟩
        go_wp2_with fail
        exact ⟨rfl, end_no HT.out, bstep hbel (bstep hb3 hb4)⟩
      · have HT : Hid (regsTo d (k + 1) = true) := by
          have := all_take_succ (fun r : Bool × Int => isB r.2 d.gates.length) d.regs k hltg
          unfold regsTo at hno
          rw [hno, HG.out, e] at this
          rw [Hid, regsTo, HG.out]; exact this
        have HE : Hid (isB d.regs[k].2 gn = true) := e
        clear hno e
        go_wp2_with fail
        refine (isGate_any _ _ _ _ _ _ _ _ _ _ _ _).mono ?_
        rintro e w2 ⟨rfl, hb4⟩
        rw [HE.out]
        have hb5 := bstep hb3 hb4
        clear x1 x2 x3 x4 c1 c2 hb3 hb4
        go_wp2_with fail
        refine (require_yes _ _).mono ?_
        rintro e w' ⟨rfl, rfl⟩
        go_wp2_with fail
        exact ⟨⟨k + 1, by omega, by go_num, HT.out, bstep hbel hb5, HX.below hb5⟩, by simp [intOf]; omega⟩
    · have HT : Hid (numbersB d = (outsTo d d.outs.length && argsTo d d.gates.length)) := by
        have : regsTo d d.regs.length = true := by rw [← hno]; exact congrArg (regsTo d) (by omega)
        rw [HB.out, this]; rfl
      clear hno HB
      have hbel1 := hbel
      have HX1 := hbx
      obtain ⟨x0, x1, x2, x3, x4⟩ := hbx
      go_wp2_with fail
      clear x1 x2 x3 x4 hbel
      go_loopw [30] (fun i wr => ∃ k : Nat, k ≤ on ∧ i = .int .i64 k ∧ outsTo d k = true ∧ Below w.heap.size w wr ∧ Boxed wr w.heap.size ins ga gn gc ra rn rc oa on oc) (fun i _ => on - (intOf i).toNat)
      case atStart => exact ⟨0, Nat.zero_le _, rfl, rfl, hbel1, HX1⟩
      case round =>
        clear hbel1 HX1
        obtain ⟨k, hk, rfl, hno, hbel, hbx⟩ := hrel
        by_cases hlt : k < on
        · have hltg : k < d.outs.length := by omega
          obtain ⟨b, off, rfl, hbb, c1⟩ := (hos.below hbel).at hltg
          have HX := hbx
          obtain ⟨x0, x1, x2, x3, x4⟩ := hbx
          cases e : isB d.outs[k] gn
          · have HT2 : Hid (numbersB d = false) := by
              have : outsTo d d.outs.length = false := all_take_no _ d.outs k hltg (by rw [HG.out]; exact e)
              rw [HT.out, this]; rfl
            have HE : Hid (isB d.outs[k] gn = false) := e
            clear hno HT e
            go_wp2_with fail
            refine (isGate_any _ _ _ _ _ _ _ _ _ _ _ _).mono ?_
            rintro e w2 ⟨rfl, hb4⟩
            rw [HE.out]
            go_wp2_with fail
            refine (require_no _ _).mono ?_
            rintro e w' ⟨rfl, rfl⟩
            go_wp2_with fail
            exact ⟨rfl, end_no HT2.out, bstep hbel hb4⟩
          · have HT2 : Hid (outsTo d (k + 1) = true) := by
              have := all_take_succ (fun x : Int => isB x d.gates.length) d.outs k hltg
              unfold outsTo at hno
              rw [hno, HG.out, e] at this
              rw [Hid, outsTo, HG.out]; exact this
            have HE : Hid (isB d.outs[k] gn = true) := e
            clear hno e
            go_wp2_with fail
            refine (isGate_any _ _ _ _ _ _ _ _ _ _ _ _).mono ?_
            rintro e w2 ⟨rfl, hb4⟩
            rw [HE.out]
            clear x1 x2 x3 x4 c1
            go_wp2_with fail
            refine (require_yes _ _).mono ?_
            rintro e w' ⟨rfl, rfl⟩
            go_wp2_with fail
            exact ⟨⟨k + 1, by omega, by go_num, HT2.out, bstep hbel hb4, HX.below hb4⟩, by simp [intOf]; omega⟩
        · have HT2 : Hid (numbersB d = argsTo d d.gates.length) := by
            have : outsTo d d.outs.length = true := by rw [← hno]; exact congrArg (outsTo d) (by omega)
            rw [HT.out, this]; rfl
          clear hno HT
          have hbel1 := hbel
          have HX1 := hbx
          obtain ⟨x0, x1, x2, x3, x4⟩ := hbx
          go_wp2_with fail
          clear x1 x2 x3 x4 hbel
          go_loopw [42] (fun i wr => ∃ k : Nat, k ≤ gn ∧ i = .int .i64 k ∧ argsTo d k = true ∧ Below w.heap.size w wr ∧ Boxed wr w.heap.size ins ga gn gc ra rn rc oa on oc) (fun i _ => gn - (intOf i).toNat)
          case atStart => exact ⟨0, Nat.zero_le _, rfl, rfl, hbel1, HX1⟩
          case round =>
            clear hbel1 HX1
            obtain ⟨k, hk, rfl, hno, hbel, hbx⟩ := hrel
            by_cases hlt : k < gn
            · have hltg : k < d.gates.length := by omega
              obtain ⟨b, off, aa, ac, rfl, hbb, c1, c2, c3, hI⟩ := (hgs.below hbel).at hltg
              have hb3 : Below wr.heap.size wr (wr.alloc (.cells #[.int .i64 d.gates[k].kind, .int .i64 d.gates[k].n, .slice aa d.gates[k].args.length ac] 96)) := (Below.refl _ _).alloc (Nat.le_refl _) _
              have hal : d.gates[k].args.length ≤ maxLen := hI.2.1
              unfold maxLen at hal
              have HX := hbx
              have HQ : Hid (argsTo d (k + 1) = argsIn gn d.gates[k]) := by
                have := all_take_succ (argsIn d.gates.length) d.gates k hltg
                unfold argsTo at hno
                rw [hno] at this
                rw [Hid, argsTo, this, HG.out]; rfl
              have HN : Hid (argsIn gn d.gates[k] = false → numbersB d = false) := by
                intro e
                rw [HT2.out]; exact all_take_no _ d.gates k hltg (by rw [HG.out]; exact e)
              clear hno
              obtain ⟨x0, x1, x2, x3, x4⟩ := hbx
              go_wp2_with fail
              clear x1 x2 x3 x4 c1 c2 c3
              go_loopw [49] (fun i wq => ∃ j : Nat, j ≤ d.gates[k].args.length ∧ i = .int .i64 j ∧ (d.gates[k].args.take j).all (fun x => isB x gn) = true ∧ Below wr.heap.size wr wq) (fun i _ => d.gates[k].args.length - (intOf i).toNat)
              case atStart => exact ⟨0, Nat.zero_le _, rfl, rfl, hb3⟩
              case round =>
                obtain ⟨j, hj, rfl, hno2, hbq⟩ := hrel
                by_cases hlt2 : j < d.gates[k].args.length
                · obtain ⟨b2, off2, rfl, hbb2, c1⟩ := (hI.below hbq).at hlt2
                  obtain ⟨x0, x1, x2, x3, x4⟩ := HX.below hbq
                  cases e : isB d.gates[k].args[j] gn
                  · have HT4 : Hid (numbersB d = false) := by
                      apply HN.out
                      unfold argsIn
                      rw [List.all_eq_false]
                      exact ⟨_, List.getElem_mem hlt2, by rw [e]; simp⟩
                    have HE : Hid (isB d.gates[k].args[j] gn = false) := e
                    clear hno2 e
                    go_wp2_with fail
                    refine (isGate_any _ _ _ _ _ _ _ _ _ _ _ _).mono ?_
                    rintro e w2 ⟨rfl, hb4⟩
                    rw [HE.out]
                    go_wp2_with fail
                    refine (require_no _ _).mono ?_
                    rintro e w' ⟨rfl, rfl⟩
                    go_wp2_with fail
                    exact ⟨rfl, end_no HT4.out, bstep hbel (bstep hbq hb4)⟩
                  · have HT4 : Hid ((d.gates[k].args.take (j + 1)).all (fun x => isB x gn) = true) := by
                      have := all_take_succ (fun x : Int => isB x gn) d.gates[k].args j hlt2
                      rw [hno2, e] at this
                      exact this
                    have HE : Hid (isB d.gates[k].args[j] gn = true) := e
                    clear hno2 e
                    go_wp2_with fail
                    refine (isGate_any _ _ _ _ _ _ _ _ _ _ _ _).mono ?_
                    rintro e w2 ⟨rfl, hb4⟩
                    rw [HE.out]
                    clear x1 x2 x3 x4 c1
                    go_wp2_with fail
                    refine (require_yes _ _).mono ?_
                    rintro e w' ⟨rfl, rfl⟩
                    go_wp2_with fail
                    exact ⟨⟨j + 1, by omega, by go_num, HT4.out, bstep hbq hb4⟩, by simp [intOf]; omega⟩
                · have HT4 : Hid (argsTo d (k + 1) = true) := by
                    rw [HQ.out]; unfold argsIn
                    rw [List.take_of_length_le (by omega)] at hno2; exact hno2
                  clear hno2
                  go_wp2_with fail
                  exact ⟨⟨k + 1, by omega, by go_num, HT4.out, bstep hbel hbq, HX.below hbq⟩, by simp [intOf]; omega⟩
            · have HT3 : Hid (numbersB d = true) := by
                rw [HT2.out, ← hno]; exact congrArg (argsTo d) (by omega)
              clear hno HT2
              go_wp2_with fail
              go_end0
              exact ⟨end_yes HT3.out, hbel⟩
end Go.Proofs.Ytongajonecgdpae
