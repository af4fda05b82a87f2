/- The last askers of net.Check, its deferred call, and net.Check itself: what they answer, for every net that is read. -/
import Derived.Test.YtongajonecgdpaeNetB
namespace Go.Proofs.Ytongajonecgdpae
open Go.RowKit

def kindB (g : GateD) : Bool := decide (0 ≤ g.kind ∧ g.kind ≤ 6)
def kindsTo (d : NetD) (k : Nat) : Bool := (d.gates.take k).all kindB
def kindsB (d : NetD) : Bool := kindsTo d d.gates.length
def numB (ins : Int) (rn : Nat) (g : GateD) : Bool := if g.kind = 2 then isB g.n ins else if g.kind = 3 then isB g.n rn else g.n == 0
def argB (g : GateD) : Bool := if g.kind = 0 ∨ g.kind = 1 ∨ g.kind = 2 ∨ g.kind = 3 then (g.args.length : Int) == 0 else if g.kind = 6 then (g.args.length : Int) == 1 else true
def formB (d : NetD) (g : GateD) : Bool := numB d.ins d.regs.length g && argB g
def formsTo (d : NetD) (k : Nat) : Bool := (d.gates.take k).all (formB d)
def formsB (d : NetD) : Bool := formsTo d d.gates.length
def checkE (d : NetD) : Int := if countsB d then (if numbersB d then (if kindsB d then (if formsB d then 0 else 1) else 4) else 3) else 2

set_option maxHeartbeats 1000000 in
theorem requireKinds_any (d : NetD) (ins : Int) (ga ra oa : Option Addr) (gn gc rn rc on oc : Nat) (w : World) (h : NetAt w d ins ga gn ra rn oa on) (hsm : gn ≤ 200) :
    Calls Try.prog 93 #[.agg #[.int .i64 ins, .slice ga gn gc, .slice ra rn rc, .slice oa on oc]] w fun e w' => e = endOf (kindsB d) 4 ∧ Below w.heap.size w w' := by
  have hb0 : Below w.heap.size w (w.alloc (.cells #[.int .i64 ins, .slice ga gn gc, .slice ra rn rc, .slice oa on oc] 26)) := (Below.refl _ _).alloc (Nat.le_refl _) _
  have hbox : Boxed (w.alloc (.cells #[.int .i64 ins, .slice ga gn gc, .slice ra rn rc, .slice oa on oc] 26)) w.heap.size ins ga gn gc ra rn rc oa on oc := Boxed.new _ _ _ _ _ _ _ _ _ _ _ _
  have hg : d.gates.length = gn := h.gates.1.symm
  have hgl : gn ≤ d.gates.length := by omega
  have hgl2 : d.gates.length ≤ gn := by omega
  have hgs := h.gates
  clear hg h
  go_enter Try.func93, Try.ntmps93
  go_wp2_with fail
  go_loopw [7] (fun i wr => ∃ k : Nat, k ≤ gn ∧ i = .int .i64 k ∧ kindsTo d k = true ∧ Below w.heap.size w wr) (fun i _ => gn - (intOf i).toNat)
  case atStart => exact ⟨0, Nat.zero_le _, rfl, rfl, hb0⟩
  case round =>
    obtain ⟨k, hk, rfl, hno, hbel⟩ := hrel
    by_cases hlt : k < gn
    · have hltg : k < d.gates.length := by omega
      obtain ⟨b, off, aa, ac, rfl, hbb, c1, c2, c3, hI⟩ := (hgs.below hbel).at hltg
      have hb3 : Below w.heap.size w (wr.alloc (.cells #[.int .i64 d.gates[k].kind, .int .i64 d.gates[k].n, .slice aa d.gates[k].args.length ac] 96)) := hbel.alloc hbel.size _
      by_cases e1 : 0 ≤ d.gates[k].kind
      · by_cases e2 : d.gates[k].kind ≤ 6
        · have HT : Hid (kindsTo d (k + 1) = true) := by
            have := all_take_succ kindB d.gates k hltg
            unfold kindsTo at hno
            rw [hno] at this
            refine this.trans ?_
            simp [kindB]; omega
          clear hno
          go_wp2_with fail
          refine (require_yes _ _).mono ?_
          rintro e w' ⟨rfl, rfl⟩
          go_wp2_with fail
          exact ⟨⟨k + 1, by omega, by go_num, HT.out, hb3⟩, by simp [intOf]; omega⟩
        · have HT : Hid (kindsB d = false) := all_take_no kindB d.gates k hltg (by simp [kindB]; omega)
          have hd : decide (d.gates[k].kind ≤ 6) = false := decide_eq_false (by omega)
          clear hno
          go_wp2_with fail
          refine (require_no _ _).mono ?_
          rintro e w' ⟨rfl, rfl⟩
          go_wp2_with fail
          exact ⟨rfl, end_no HT.out, hb3⟩
      · have HT : Hid (kindsB d = false) := all_take_no kindB d.gates k hltg (by simp [kindB]; omega)
        have hd : decide (0 ≤ d.gates[k].kind) = false := decide_eq_false (by omega)
        clear hno
        go_wp2_with fail
        refine (require_no _ _).mono ?_
        rintro e w' ⟨rfl, rfl⟩
        go_wp2_with fail
        exact ⟨rfl, end_no HT.out, hb3⟩
    · have HT : Hid (kindsB d = true) := by rw [← hno]; exact congrArg (kindsTo d) (by omega)
      clear hno
      go_wp2_with fail
      go_end0
      exact ⟨end_yes HT.out, hbel⟩

set_option maxHeartbeats 1000000 in
theorem numberFits_any (ins : Int) (ga ra oa : Option Addr) (gn gc rn rc on oc : Nat) (w : World) (g : GateD) (aa : Option Addr) (ac : Nat) :
    Calls Try.prog 107 #[.agg #[.int .i64 ins, .slice ga gn gc, .slice ra rn rc, .slice oa on oc], .agg #[.int .i64 g.kind, .int .i64 g.n, .slice aa g.args.length ac]] w fun e w' => e = .returned (.bool (numB ins rn g)) ∧ Below w.heap.size w w' := by
  by_cases h2 : g.kind = 2
  · have HT : Hid (numB ins rn g = isB g.n ins) := by simp [Hid, numB, h2]
    have hk : (g.kind == 2) = true := by simp [h2]
    clear h2
    go_enter Try.func107, Try.ntmps107
    go_wp2_with fail
    refine (isBelow_any _ _ _).mono ?_
    rintro e w' ⟨rfl, rfl⟩
    rw [← HT.out]
    go_wp2_with fail
    go_ret
    exact ⟨rfl, (((Below.refl _ _).alloc (Nat.le_refl _) _).alloc (by simp) _)⟩
  have hk : (g.kind == 2) = false := by simp [h2]
  by_cases h3 : g.kind = 3
  · have HT : Hid (numB ins rn g = isB g.n rn) := by simp [Hid, numB, h3]
    have hk3 : (g.kind == 3) = true := by simp [h3]
    clear h2 h3
    go_enter Try.func107, Try.ntmps107
    go_wp2_with fail
    refine (isBelow_any _ _ _).mono ?_
    rintro e w' ⟨rfl, rfl⟩
    rw [← HT.out]
    go_wp2_with fail
    go_ret
    exact ⟨rfl, (((Below.refl _ _).alloc (Nat.le_refl _) _).alloc (by simp) _)⟩
  · have HT : Hid (numB ins rn g = (g.n == 0)) := by simp [Hid, numB, h2, h3]
    have hk3 : (g.kind == 3) = false := by simp [h3]
    clear h2 h3
    go_enter Try.func107, Try.ntmps107
    go_wp2_with fail
    go_ret
    exact ⟨ret_bool HT.out.symm, (((Below.refl _ _).alloc (Nat.le_refl _) _).alloc (by simp) _)⟩

set_option maxHeartbeats 1000000 in
theorem argsFit_any (w : World) (g : GateD) (aa : Option Addr) (ac : Nat) :
    Calls Try.prog 108 #[.agg #[.int .i64 g.kind, .int .i64 g.n, .slice aa g.args.length ac]] w fun e w' => e = .returned (.bool (argB g)) ∧ Below w.heap.size w w' := by
  have hk : g.kind = 0 ∨ g.kind = 1 ∨ g.kind = 2 ∨ g.kind = 3 ∨ g.kind = 6 ∨ (g.kind ≠ 0 ∧ g.kind ≠ 1 ∧ g.kind ≠ 2 ∧ g.kind ≠ 3 ∧ g.kind ≠ 6) := by omega
  rcases hk with hk | hk | hk | hk | hk | hk
  · have HT : Hid (argB g = ((g.args.length : Int) == 0)) := by unfold Hid argB; first | (rw [if_pos (by omega)]; done) | (rw [if_neg (by omega), if_pos (by omega)]; done) | (rw [if_neg (by omega), if_neg (by omega)]; done)
    have q0 : (g.kind == 0) = true := by simp; omega
    clear hk
    go_enter Try.func108, Try.ntmps108
    go_wp2_with fail
    go_ret
    exact ⟨ret_bool HT.out.symm, ((Below.refl _ _).alloc (Nat.le_refl _) _)⟩
  · have HT : Hid (argB g = ((g.args.length : Int) == 0)) := by unfold Hid argB; first | (rw [if_pos (by omega)]; done) | (rw [if_neg (by omega), if_pos (by omega)]; done) | (rw [if_neg (by omega), if_neg (by omega)]; done)
    have q0 : (g.kind == 0) = false := by simp; omega
    have q1 : (g.kind == 1) = true := by simp; omega
    clear hk
    go_enter Try.func108, Try.ntmps108
    go_wp2_with fail
    go_ret
    exact ⟨ret_bool HT.out.symm, ((Below.refl _ _).alloc (Nat.le_refl _) _)⟩
  · have HT : Hid (argB g = ((g.args.length : Int) == 0)) := by unfold Hid argB; first | (rw [if_pos (by omega)]; done) | (rw [if_neg (by omega), if_pos (by omega)]; done) | (rw [if_neg (by omega), if_neg (by omega)]; done)
    have q0 : (g.kind == 0) = false := by simp; omega
    have q1 : (g.kind == 1) = false := by simp; omega
    have q2 : (g.kind == 2) = true := by simp; omega
    clear hk
    go_enter Try.func108, Try.ntmps108
    go_wp2_with fail
    go_ret
    exact ⟨ret_bool HT.out.symm, ((Below.refl _ _).alloc (Nat.le_refl _) _)⟩
  · have HT : Hid (argB g = ((g.args.length : Int) == 0)) := by unfold Hid argB; first | (rw [if_pos (by omega)]; done) | (rw [if_neg (by omega), if_pos (by omega)]; done) | (rw [if_neg (by omega), if_neg (by omega)]; done)
    have q0 : (g.kind == 0) = false := by simp; omega
    have q1 : (g.kind == 1) = false := by simp; omega
    have q2 : (g.kind == 2) = false := by simp; omega
    have q3 : (g.kind == 3) = true := by simp; omega
    clear hk
    go_enter Try.func108, Try.ntmps108
    go_wp2_with fail
    go_ret
    exact ⟨ret_bool HT.out.symm, ((Below.refl _ _).alloc (Nat.le_refl _) _)⟩
  · have HT : Hid (argB g = ((g.args.length : Int) == 1)) := by unfold Hid argB; first | (rw [if_pos (by omega)]; done) | (rw [if_neg (by omega), if_pos (by omega)]; done) | (rw [if_neg (by omega), if_neg (by omega)]; done)
    have q0 : (g.kind == 0) = false := by simp; omega
    have q1 : (g.kind == 1) = false := by simp; omega
    have q2 : (g.kind == 2) = false := by simp; omega
    have q3 : (g.kind == 3) = false := by simp; omega
    have q6 : (g.kind == 6) = true := by simp; omega
    clear hk
    go_enter Try.func108, Try.ntmps108
    go_wp2_with fail
    go_ret
    exact ⟨ret_bool HT.out.symm, ((Below.refl _ _).alloc (Nat.le_refl _) _)⟩
  · have HT : Hid (argB g = true) := by unfold Hid argB; first | (rw [if_pos (by omega)]; done) | (rw [if_neg (by omega), if_pos (by omega)]; done) | (rw [if_neg (by omega), if_neg (by omega)]; done)
    have q0 : (g.kind == 0) = false := by simp; omega
    have q1 : (g.kind == 1) = false := by simp; omega
    have q2 : (g.kind == 2) = false := by simp; omega
    have q3 : (g.kind == 3) = false := by simp; omega
    have q6 : (g.kind == 6) = false := by simp; omega
    clear hk
    go_enter Try.func108, Try.ntmps108
    go_wp2_with fail
    go_ret
    exact ⟨ret_bool HT.out.symm, ((Below.refl _ _).alloc (Nat.le_refl _) _)⟩

set_option maxHeartbeats 1000000 in
theorem requireForms_any (d : NetD) (ins : Int) (ga ra oa : Option Addr) (gn gc rn rc on oc : Nat) (w : World) (h : NetAt w d ins ga gn ra rn oa on) (hsm : gn ≤ 200) :
    Calls Try.prog 94 #[.agg #[.int .i64 ins, .slice ga gn gc, .slice ra rn rc, .slice oa on oc]] w fun e w' => e = endOf (formsB d) 1 ∧ Below w.heap.size w w' := by
  have hb0 : Below w.heap.size w (w.alloc (.cells #[.int .i64 ins, .slice ga gn gc, .slice ra rn rc, .slice oa on oc] 26)) := (Below.refl _ _).alloc (Nat.le_refl _) _
  have hbox : Boxed (w.alloc (.cells #[.int .i64 ins, .slice ga gn gc, .slice ra rn rc, .slice oa on oc] 26)) w.heap.size ins ga gn gc ra rn rc oa on oc := Boxed.new _ _ _ _ _ _ _ _ _ _ _ _
  have hg : d.gates.length = gn := h.gates.1.symm
  have HR : Hid (d.regs.length = rn) := h.regs.1.symm
  have HI : Hid (d.ins = ins) := h.ins.symm
  have hgl : gn ≤ d.gates.length := by omega
  have hgl2 : d.gates.length ≤ gn := by omega
  have hgs := h.gates
  clear hg h
  go_enter Try.func94, Try.ntmps94
  go_wp2_with fail
  go_loopw [7] (fun i wr => ∃ k : Nat, k ≤ gn ∧ i = .int .i64 k ∧ formsTo d k = true ∧ Below w.heap.size w wr ∧ Boxed wr w.heap.size ins ga gn gc ra rn rc oa on oc) (fun i _ => gn - (intOf i).toNat)
  case atStart => exact ⟨0, Nat.zero_le _, rfl, rfl, hb0, hbox⟩
  case round =>
    obtain ⟨k, hk, rfl, hno, hbel, hbx⟩ := hrel
    by_cases hlt : k < gn
    · have hltg : k < d.gates.length := by omega
      obtain ⟨b, off, aa, ac, rfl, hbb, c1, c2, c3, hI⟩ := (hgs.below hbel).at hltg
      have hb3 : Below wr.heap.size wr (wr.alloc (.cells #[.int .i64 d.gates[k].kind, .int .i64 d.gates[k].n, .slice aa d.gates[k].args.length ac] 96)) := (Below.refl _ _).alloc (Nat.le_refl _) _
      have HX := hbx
      have HQ : Hid (formsTo d (k + 1) = (numB ins rn d.gates[k] && argB d.gates[k])) := by
        have := all_take_succ (formB d) d.gates k hltg
        unfold formsTo at hno
        rw [hno] at this
        rw [Hid, formsTo, this, formB, HR.out, HI.out]; rfl
      have HN : Hid ((numB ins rn d.gates[k] && argB d.gates[k]) = false → formsB d = false) := by
        intro e
        exact all_take_no (formB d) d.gates k hltg (by rw [formB, HR.out, HI.out]; exact e)
      clear hno
      obtain ⟨x0, x1, x2, x3, x4⟩ := hbx
      go_wp2_with fail
      refine (numberFits_any _ _ _ _ _ _ _ _ _ _ _ d.gates[k] _ _).mono ?_
      rintro e w2 ⟨rfl, hb4⟩
      have hb5 := bstep hb3 hb4
      have hgc : w2.cell? ⟨wr.heap.size, 0, none⟩ = some (.int .i64 d.gates[k].kind) ∧ w2.cell? ⟨wr.heap.size, 1, none⟩ = some (.int .i64 d.gates[k].n) ∧ w2.cell? ⟨wr.heap.size, 2, none⟩ = some (.slice aa d.gates[k].args.length ac) := by
        refine ⟨?_, ?_, ?_⟩
        all_goals (rw [hb4.cell (by simp)]; rw [World.cell?_alloc_new]; rfl)
      obtain ⟨y0, y1, y2⟩ := hgc
      clear x1 x2 x3 x4 c1 c2 c3 hb3
      cases e : numB ins rn d.gates[k]
      · have HT : Hid (formsB d = false) := HN.out (by rw [e]; rfl)
        clear e
        go_wp2_with fail
        refine (require_no _ _).mono ?_
        rintro e w' ⟨rfl, rfl⟩
        go_wp2_with fail
        exact ⟨rfl, end_no HT.out, bstep hbel hb5⟩
      · have HE : Hid (numB ins rn d.gates[k] = true) := e
        clear e
        go_wp2_with fail
        refine (require_yes _ _).mono ?_
        rintro e w' ⟨rfl, rfl⟩
        go_wp2_with fail
        refine (argsFit_any _ d.gates[k] _ _).mono ?_
        rintro e w3 ⟨rfl, hb6⟩
        have hb7 := bstep hb5 hb6
        clear y0 y1 y2 hb4
        cases e : argB d.gates[k]
        · have HT : Hid (formsB d = false) := HN.out (by rw [e, HE.out]; rfl)
          clear e
          go_wp2_with fail
          refine (require_no _ _).mono ?_
          rintro e w' ⟨rfl, rfl⟩
          go_wp2_with fail
          exact ⟨rfl, end_no HT.out, bstep hbel hb7⟩
        · have HT : Hid (formsTo d (k + 1) = true) := by rw [HQ.out, HE.out, e]; rfl
          clear e
          go_wp2_with fail
          refine (require_yes _ _).mono ?_
          rintro e w' ⟨rfl, rfl⟩
          go_wp2_with fail
          exact ⟨⟨k + 1, by omega, by go_num, HT.out, bstep hbel hb7, HX.below hb7⟩, by simp [intOf]; omega⟩
    · have HT : Hid (formsB d = true) := by rw [← hno]; exact congrArg (formsTo d) (by omega)
      clear hno
      go_wp2_with fail
      go_end0
      exact ⟨end_yes HT.out, hbel⟩
end Go.Proofs.Ytongajonecgdpae
