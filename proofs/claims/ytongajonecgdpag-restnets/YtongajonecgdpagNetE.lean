/- The document's answer of net.Check (linchpinref.CheckNet): the same as the program's, for every net that is read. -/
import Derived.Test.YtongajonecgdpagNetA
namespace Go.Proofs.Ytongajonecgdpag
open Go.RowKit

theorem Gates.at' {w : World} {a : Option Addr} {n : Nat} {gs : List GateD} (h : Gates w a n gs) {k : Nat} (hk : k < gs.length) :
    ∃ b off aa an ac, a = some ⟨b, off, Option.none⟩ ∧ b < w.heap.size ∧ w.cell? ⟨b, off + k * 3, Option.none⟩ = some (.int .i64 gs[k].kind) ∧ w.cell? ⟨b, off + k * 3 + 1, Option.none⟩ = some (.int .i64 gs[k].n) ∧
      w.cell? ⟨b, off + k * 3 + 2, Option.none⟩ = some (.slice aa an ac) ∧ Ints w aa an gs[k].args := by
  obtain ⟨b, off, aa, ac, h1, h2, h3, h4, h5, h6⟩ := h.at hk
  exact ⟨b, off, aa, _, ac, h1, h2, h3, h4, h5, h6⟩

theorem within_isB (x : Int) (n : Nat) : decide (0 ≤ x ∧ x ≤ (n : Int) - 1) = isB x n := by
  unfold isB; rw [Bool.eq_iff_iff, decide_eq_true_iff, decide_eq_true_iff]; omega
theorem within_isB' (x m : Int) : decide (0 ≤ x ∧ x ≤ m - 1) = isB x m := by
  unfold isB; rw [Bool.eq_iff_iff, decide_eq_true_iff, decide_eq_true_iff]; omega
theorem within_zero (x : Int) : decide (0 ≤ x ∧ x ≤ 0) = (x == 0) := by
  rw [Bool.eq_iff_iff, decide_eq_true_iff, beq_iff_eq]; omega

set_option maxRecDepth 100000 in
set_option maxHeartbeats 4000000 in
theorem CheckNet_any (d : NetD) (ins : Int) (ga ra oa : Option Addr) (gn gc rn rc on oc : Nat) (w : World) (h : NetAt w d ins ga gn ra rn oa on) :
    Calls Try.prog 34 #[.agg #[.int .i64 ins, .slice ga gn gc, .slice ra rn rc, .slice oa on oc]] w fun e w' => e = .returned (.int .i64 (checkE d)) ∧ Below w.heap.size w w' := by
  have hb0 : Below w.heap.size w (w.alloc (.cells #[.int .i64 ins, .slice ga gn gc, .slice ra rn rc, .slice oa on oc] 39)) := (Below.refl _ _).alloc (Nat.le_refl _) _
  have hbox : Boxed (w.alloc (.cells #[.int .i64 ins, .slice ga gn gc, .slice ra rn rc, .slice oa on oc] 39)) w.heap.size ins ga gn gc ra rn rc oa on oc := Boxed.new _ _ _ _ _ _ _ _ _ _ _ _
  have hg : d.gates.length = gn := h.gates.1.symm
  have hr : d.regs.length = rn := h.regs.1.symm
  have ho : d.outs.length = on := h.outs.1.symm
  have hi : d.ins = ins := h.ins.symm
  rcases Int.lt_or_le 3 ins with h1 | h1
  · have HB : Hid (checkE d = 2) := by
      have e0 : decide (d.ins ≤ 3) = false := by simp; omega
      have e1 : countsB d = false := by simp [countsB, e0]
      simp [Hid, checkE, e1]
    clear hg hr ho hi
    go_enter Try.func34, Try.ntmps34
    go_wp2_with fail
    go_ret
    exact ⟨ret_int HB.out.symm, hb0⟩

  rcases Int.lt_or_le 200 (gn : Int) with h2 | h2
  · have HB : Hid (checkE d = 2) := by
      have e0 : decide (d.gates.length ≤ 200) = false := by simp; omega
      have e1 : countsB d = false := by simp [countsB, e0]
      simp [Hid, checkE, e1]
    clear hg hr ho hi
    go_enter Try.func34, Try.ntmps34
    go_wp2_with fail
    go_ret
    exact ⟨ret_int HB.out.symm, hb0⟩

  rcases Int.lt_or_le 20 (rn : Int) with h3 | h3
  · have HB : Hid (checkE d = 2) := by
      have e0 : decide (d.regs.length ≤ 20) = false := by simp; omega
      have e1 : countsB d = false := by simp [countsB, e0]
      simp [Hid, checkE, e1]
    clear hg hr ho hi
    go_enter Try.func34, Try.ntmps34
    go_wp2_with fail
    go_ret
    exact ⟨ret_int HB.out.symm, hb0⟩

  rcases Int.lt_or_le 3 (on : Int) with h4 | h4
  · have HB : Hid (checkE d = 2) := by
      have e0 : decide (d.outs.length ≤ 3) = false := by simp; omega
      have e1 : countsB d = false := by simp [countsB, e0]
      simp [Hid, checkE, e1]
    clear hg hr ho hi
    go_enter Try.func34, Try.ntmps34
    go_wp2_with fail
    go_ret
    exact ⟨ret_int HB.out.symm, hb0⟩

  have HB : Hid (countsB d = countsTo d.gates d.gates.length) := by
    have e1 : decide (d.ins ≤ 3) = true := by simp; omega
    have e2 : decide (d.gates.length ≤ 200) = true := by simp; omega
    have e3 : decide (d.regs.length ≤ 20) = true := by simp; omega
    have e4 : decide (d.outs.length ≤ 3) = true := by simp; omega
    simp only [Hid, countsB, e1, e2, e3, e4, Bool.true_and]
  have HG : Hid (d.gates.length = gn) := hg
  have HR : Hid (d.regs.length = rn) := hr
  have HI : Hid (d.ins = ins) := hi
  have hgl : gn ≤ d.gates.length := by omega
  have hgl2 : d.gates.length ≤ gn := by omega
  have hrl : rn ≤ d.regs.length := by omega
  have hrl2 : d.regs.length ≤ rn := by omega
  have hol : on ≤ d.outs.length := by omega
  have hol2 : d.outs.length ≤ on := by omega
  have hgw := h.gates
  have hgs := h.gates.below hb0
  have hrs := h.regs.below hb0
  have hos := h.outs.below hb0
  clear hg hr ho hi h
  go_enter Try.func34, Try.ntmps34
  go_wp2_with fail
  go_loop [3] (fun i => ∃ k : Nat, k ≤ gn ∧ i = .int .i64 k ∧ countsTo d.gates k = true) (fun i => gn - (intOf i).toNat)
  case atStart => exact ⟨0, Nat.zero_le _, rfl, rfl⟩
  case round =>
    obtain ⟨k, hk, rfl, hno⟩ := hrel
    by_cases hlt : k < gn
    · have hltg : k < d.gates.length := by omega
      obtain ⟨b, off, aa, ac, rfl, hbb, c1, c2, c3, hI⟩ := hgs.at hltg
      have HX := hbox
      obtain ⟨x0, x1, x2, x3, x4⟩ := hbox
      rcases Int.lt_or_le 16 (d.gates[k].args.length : Int) with e | e
      · have HT : Hid (checkE d = 2) := by
          have : countsB d = false := by rw [HB.out]; exact all_take_no _ d.gates k hltg (by simp; omega)
          simp [Hid, checkE, this]
        clear hno HB
        go_wp2_with fail
        go_ret
        exact ⟨ret_int HT.out.symm, hb0⟩
      · have HT : Hid (countsTo d.gates (k + 1) = true) := by
          have := all_take_succ (fun g : GateD => decide (g.args.length ≤ 16)) d.gates k hltg
          unfold countsTo at hno
          rw [hno] at this
          refine this.trans ?_
          simp; omega
        clear hno
        go_wp2_with fail
        exact ⟨⟨k + 1, by omega, by go_num, HT.out⟩, by simp [intOf]; omega⟩
    have H1 : Hid (countsB d = true) := by rw [HB.out, ← hno]; exact congrArg (countsTo d.gates) (by omega)
    clear hno HB
    obtain ⟨x0, x1, x2, x3, x4⟩ := hbox
    rcases Int.lt_or_le ins 0 with h5 | h5
    · have HT : Hid (checkE d = 3) := by
        have e1 : decide (0 ≤ d.ins) = false := by rw [HI.out]; simp; omega
        have : numbersB d = false := by simp [numbersB, e1]
        simp [Hid, checkE, H1.out, this]
      go_wp2_with fail
      go_ret
      exact ⟨ret_int HT.out.symm, hb0⟩
    have HB : Hid (numbersB d = (regsTo d d.regs.length && outsTo d d.outs.length && argsTo d d.gates.length)) := by
      have e0 : decide (0 ≤ d.ins) = true := by rw [HI.out]; simp; omega
      simp [Hid, numbersB, e0]
    have H3 : Hid (numbersB d = false → checkE d = 3) := by intro e; simp [checkE, H1.out, e]
    go_wp2_with fail
    go_loop [5] (fun i => ∃ k : Nat, k ≤ rn ∧ i = .int .i64 k ∧ regsTo d k = true) (fun i => rn - (intOf i).toNat)
    case atStart => exact ⟨0, Nat.zero_le _, rfl, rfl⟩
    case round =>
      obtain ⟨k, hk, rfl, hno⟩ := hrel
      by_cases hlt : k < rn
      · have hltg : k < d.regs.length := by omega
        obtain ⟨b, off, rfl, hbb, c1, c2⟩ := hrs.at hltg
        cases e : isB d.regs[k].2 gn
        · have HT : Hid (checkE d = 3) := by
            have : regsTo d d.regs.length = false := all_take_no _ d.regs k hltg (by rw [HG.out]; exact e)
            exact H3.out (by rw [HB.out, this]; rfl)
          have HE : Hid (isB d.regs[k].2 gn = false) := e
          clear hno HB e
          go_wp2_with fail
          refine (within_any _ _ _ _).mono ?_
          rintro e w' ⟨rfl, rfl⟩
          rw [within_isB, HE.out]
          go_wp2_with fail
          go_ret
          exact ⟨ret_int HT.out.symm, hb0⟩
        · have HT : Hid (regsTo d (k + 1) = true) := by
            have := all_take_succ (fun r : Bool × Int => isB r.2 d.gates.length) d.regs k hltg
            unfold regsTo at hno
            rw [hno, HG.out, e] at this
            rw [Hid, regsTo, HG.out]; exact this
          have HE : Hid (isB d.regs[k].2 gn = true) := e
          clear hno e
          go_wp2_with fail
          refine (within_any _ _ _ _).mono ?_
          rintro e w' ⟨rfl, rfl⟩
          rw [within_isB, HE.out]
          go_wp2_with fail
          exact ⟨⟨k + 1, by omega, by go_num, HT.out⟩, by simp [intOf]; omega⟩
      have HT : Hid (numbersB d = (outsTo d d.outs.length && argsTo d d.gates.length)) := by
        have : regsTo d d.regs.length = true := by rw [← hno]; exact congrArg (regsTo d) (by omega)
        rw [HB.out, this]; rfl
      clear hno HB
      go_wp2_with fail
      go_loop [6] (fun i => ∃ k : Nat, k ≤ on ∧ i = .int .i64 k ∧ outsTo d k = true) (fun i => on - (intOf i).toNat)
      case atStart => exact ⟨0, Nat.zero_le _, rfl, rfl⟩
      case round =>
        obtain ⟨k, hk, rfl, hno⟩ := hrel
        by_cases hlt : k < on
        · have hltg : k < d.outs.length := by omega
          obtain ⟨b, off, rfl, hbb, c1⟩ := hos.at hltg
          cases e : isB d.outs[k] gn
          · have HT2 : Hid (checkE d = 3) := by
              have : outsTo d d.outs.length = false := all_take_no _ d.outs k hltg (by rw [HG.out]; exact e)
              exact H3.out (by rw [HT.out, this]; rfl)
            have HE : Hid (isB d.outs[k] gn = false) := e
            clear hno HT e
            go_wp2_with fail
            refine (within_any _ _ _ _).mono ?_
            rintro e w' ⟨rfl, rfl⟩
            rw [within_isB, HE.out]
            go_wp2_with fail
            go_ret
            exact ⟨ret_int HT2.out.symm, hb0⟩
          · have HT2 : Hid (outsTo d (k + 1) = true) := by
              have := all_take_succ (fun x : Int => isB x d.gates.length) d.outs k hltg
              unfold outsTo at hno
              rw [hno, HG.out, e] at this
              rw [Hid, outsTo, HG.out]; exact this
            have HE : Hid (isB d.outs[k] gn = true) := e
            clear hno e
            go_wp2_with fail
            refine (within_any _ _ _ _).mono ?_
            rintro e w' ⟨rfl, rfl⟩
            rw [within_isB, HE.out]
            go_wp2_with fail
            exact ⟨⟨k + 1, by omega, by go_num, HT2.out⟩, by simp [intOf]; omega⟩
        have HT2 : Hid (numbersB d = argsTo d d.gates.length) := by
          have : outsTo d d.outs.length = true := by rw [← hno]; exact congrArg (outsTo d) (by omega)
          rw [HT.out, this]; rfl
        clear hno HT
        go_wp2_with fail
        go_loop [7] (fun i => ∃ k : Nat, k ≤ gn ∧ i = .int .i64 k ∧ argsTo d k = true) (fun i => gn - (intOf i).toNat)
        case atStart => exact ⟨0, Nat.zero_le _, rfl, rfl⟩
        case round =>
          obtain ⟨k, hk, rfl, hno⟩ := hrel
          by_cases hlt : k < gn
          · have hltg : k < d.gates.length := by omega
            obtain ⟨b, off, aa, ac, rfl, hbb, c1, c2, c3, hI⟩ := hgs.at hltg
            have hal : d.gates[k].args.length ≤ maxLen := hI.2.1
            unfold maxLen at hal
            have HQ : Hid (argsTo d (k + 1) = argsIn gn d.gates[k]) := by
              have := all_take_succ (argsIn d.gates.length) d.gates k hltg
              unfold argsTo at hno
              rw [hno] at this
              rw [Hid, argsTo, this, HG.out]; rfl
            have HN : Hid (argsIn gn d.gates[k] = false → checkE d = 3) := by
              intro e
              exact H3.out (by rw [HT2.out]; exact all_take_no _ d.gates k hltg (by rw [HG.out]; exact e))
            clear hno
            go_wp2_with fail
            go_loop [8] (fun i => ∃ j : Nat, j ≤ d.gates[k].args.length ∧ i = .int .i64 j ∧ (d.gates[k].args.take j).all (fun x => isB x gn) = true) (fun i => d.gates[k].args.length - (intOf i).toNat)
            case atStart => exact ⟨0, Nat.zero_le _, rfl, rfl⟩
            case round =>
              obtain ⟨j, hj, rfl, hno2⟩ := hrel
              by_cases hlt2 : j < d.gates[k].args.length
              · obtain ⟨b2, off2, rfl, hbb2, c4⟩ := hI.at hlt2
                cases e : isB d.gates[k].args[j] gn
                · have HT4 : Hid (checkE d = 3) := by
                    apply HN.out
                    unfold argsIn
                    rw [List.all_eq_false]
                    exact ⟨_, List.getElem_mem hlt2, by rw [e]; simp⟩
                  have HE : Hid (isB d.gates[k].args[j] gn = false) := e
                  clear hno2 e
                  go_wp2_with fail
                  refine (within_any _ _ _ _).mono ?_
                  rintro e w' ⟨rfl, rfl⟩
                  rw [within_isB, HE.out]
                  go_wp2_with fail
                  go_ret
                  exact ⟨ret_int HT4.out.symm, hb0⟩
                · have HT4 : Hid ((d.gates[k].args.take (j + 1)).all (fun x => isB x gn) = true) := by
                    have := all_take_succ (fun x : Int => isB x gn) d.gates[k].args j hlt2
                    rw [hno2, e] at this
                    exact this
                  have HE : Hid (isB d.gates[k].args[j] gn = true) := e
                  clear hno2 e
                  go_wp2_with fail
                  refine (within_any _ _ _ _).mono ?_
                  rintro e w' ⟨rfl, rfl⟩
                  rw [within_isB, HE.out]
                  go_wp2_with fail
                  exact ⟨⟨j + 1, by omega, by go_num, HT4.out⟩, by simp [intOf]; omega⟩
              · have HT4 : Hid (argsTo d (k + 1) = true) := by
                  rw [HQ.out]; unfold argsIn
                  rw [List.take_of_length_le (by omega)] at hno2; exact hno2
                clear hno2
                go_wp2_with fail
                exact ⟨⟨k + 1, by omega, by go_num, HT4.out⟩, by simp [intOf]; omega⟩
          have H2 : Hid (numbersB d = true) := by rw [HT2.out, ← hno]; exact congrArg (argsTo d) (by omega)
          have H4 : Hid (kindsB d = false → checkE d = 4) := by intro e; simp [checkE, H1.out, H2.out, e]
          clear hno HT2
          go_wp2_with fail
          go_loop [9] (fun i => ∃ k : Nat, k ≤ gn ∧ i = .int .i64 k ∧ kindsTo d k = true) (fun i => gn - (intOf i).toNat)
          case atStart => exact ⟨0, Nat.zero_le _, rfl, rfl⟩
          case round =>
            obtain ⟨k, hk, rfl, hno⟩ := hrel
            by_cases hlt : k < gn
            · have hltg : k < d.gates.length := by omega
              obtain ⟨b, off, aa, ac, rfl, hbb, c1, c2, c3, hI⟩ := hgs.at hltg
              cases e : kindB d.gates[k]
              · have HT : Hid (checkE d = 4) := H4.out (all_take_no kindB d.gates k hltg e)
                have HE : Hid (decide (0 ≤ d.gates[k].kind ∧ d.gates[k].kind ≤ 6) = false) := e
                clear hno e
                go_wp2_with fail
                refine (within_any _ _ _ _).mono ?_
                rintro e w' ⟨rfl, rfl⟩
                rw [HE.out]
                go_wp2_with fail
                go_ret
                exact ⟨ret_int HT.out.symm, hb0⟩
              · have HT : Hid (kindsTo d (k + 1) = true) := by
                  have := all_take_succ kindB d.gates k hltg
                  unfold kindsTo at hno
                  rw [hno, e] at this
                  exact this
                have HE : Hid (decide (0 ≤ d.gates[k].kind ∧ d.gates[k].kind ≤ 6) = true) := e
                clear hno e
                go_wp2_with fail
                refine (within_any _ _ _ _).mono ?_
                rintro e w' ⟨rfl, rfl⟩
                rw [HE.out]
                go_wp2_with fail
                exact ⟨⟨k + 1, by omega, by go_num, HT.out⟩, by simp [intOf]; omega⟩
            have HK : Hid (kindsB d = true) := by rw [← hno]; exact congrArg (kindsTo d) (by omega)
            have H5 : Hid (formsB d = false → checkE d = 1) := by intro e; simp [checkE, H1.out, H2.out, HK.out, e]
            have H6 : Hid (formsB d = true → checkE d = 0) := by intro e; simp [checkE, H1.out, H2.out, HK.out, e]
            have HK2 : Hid (∀ k (hk : k < d.gates.length), 0 ≤ d.gates[k].kind ∧ d.gates[k].kind ≤ 6) := by
              intro k hk
              have := HK.out
              unfold kindsB kindsTo at this
              rw [List.take_length, List.all_eq_true] at this
              have := this _ (List.getElem_mem hk)
              simpa [kindB] using this
            clear hno H3 H4
            go_wp2_with fail
            clear x1 x2 x3 x4
            go_loopw [10] (fun i wr => ∃ k : Nat, k ≤ gn ∧ i = .int .i64 k ∧ formsTo d k = true ∧ Below w.heap.size w wr ∧ Boxed wr w.heap.size ins ga gn gc ra rn rc oa on oc) (fun i _ => gn - (intOf i).toNat)
            case atStart => exact ⟨0, Nat.zero_le _, rfl, rfl, hb0, Boxed.new _ _ _ _ _ _ _ _ _ _ _ _⟩
            case round =>
              obtain ⟨k, hk, rfl, hno, hbel, hbx⟩ := hrel
              by_cases hlt : k < gn
              · have hltg : k < d.gates.length := by omega
                obtain ⟨b, off, aa, an, ac, rfl, hbb, c1, c2, c3, hI⟩ := (hgw.below hbel).at' hltg
                have HL : Hid (d.gates[k].args.length = an) := hI.1.symm
                have hb3 : Below w.heap.size w (wr.alloc (.cells #[.int .i64 d.gates[k].kind, .int .i64 d.gates[k].n, .slice aa an ac] 46)) := hbel.alloc hbel.size _
                have hbx3 : Boxed (wr.alloc (.cells #[.int .i64 d.gates[k].kind, .int .i64 d.gates[k].n, .slice aa an ac] 46)) w.heap.size ins (some ⟨b, off, none⟩) gn gc ra rn rc oa on oc := hbx.below ((Below.refl _ _).alloc (Nat.le_refl _) _)
                have HQ : Hid (formsTo d (k + 1) = (numB ins rn d.gates[k] && argB d.gates[k])) := by
                  have := all_take_succ (formB d) d.gates k hltg
                  unfold formsTo at hno
                  rw [hno] at this
                  rw [Hid, formsTo, this, formB, HR.out, HI.out]; rfl
                have HN : Hid ((numB ins rn d.gates[k] && argB d.gates[k]) = false → checkE d = 1) := by
                  intro e
                  exact H5.out (all_take_no (formB d) d.gates k hltg (by rw [formB, HR.out, HI.out]; exact e))
                have hkr := HK2.out k hltg
                have hkd : d.gates[k].kind = 2 ∨ d.gates[k].kind = 3 ∨ (d.gates[k].kind = 0 ∨ d.gates[k].kind = 1) ∨ d.gates[k].kind = 6 ∨ (d.gates[k].kind = 4 ∨ d.gates[k].kind = 5) := by omega
                clear hno hkr
                obtain ⟨x0, x1, x2, x3, x4⟩ := hbx
                rcases hkd with hkd | hkd | hkd | hkd | hkd
                · have HNE : Hid (numB ins rn d.gates[k] = isB d.gates[k].n ins) := by unfold Hid numB; first | (rw [if_pos (by omega)]; done) | (rw [if_neg (by omega), if_pos (by omega)]; done) | (rw [if_neg (by omega), if_neg (by omega)]; done)
                  have q2 : (d.gates[k].kind == 2) = true := by simp only [beq_iff_eq]; omega
                  have q6 : (d.gates[k].kind == 6) = false := by simp only [beq_eq_false_iff_ne, ne_eq]; omega
                  have ql : d.gates[k].kind ≤ 3 := by omega
                  have HAE : Hid (argB d.gates[k] = ((d.gates[k].args.length : Int) == 0)) := by unfold Hid argB; rw [if_pos (by omega)]
                  clear hkd
                  cases e : isB d.gates[k].n ins
                  · have HT : Hid (checkE d = 1) := HN.out (by rw [HNE.out, e]; rfl)
                    have HE : Hid (isB d.gates[k].n ins = false) := e
                    clear e
                    go_wp2_with fail
                    refine (within_any _ _ _ _).mono ?_
                    rintro e w' ⟨rfl, rfl⟩
                    rw [within_isB', HE.out]
                    go_wp2_with fail
                    go_ret
                    exact ⟨ret_int HT.out.symm, hb3⟩
                  · have HE : Hid (isB d.gates[k].n ins = true) := e
                    clear e
                    rcases Int.lt_or_le 0 (an : Int) with hz | hz
                    · have ha : Hid (((d.gates[k].args.length : Int) == 0) = false) := by unfold Hid; rw [HL.out]; simp only [beq_eq_false_iff_ne, ne_eq]; omega
                      have HT : Hid (checkE d = 1) := HN.out (by rw [HNE.out, HE.out, HAE.out, ha.out]; rfl)
                      go_wp2_with fail
                      refine (within_any _ _ _ _).mono ?_
                      rintro e w' ⟨rfl, rfl⟩
                      rw [within_isB', HE.out]
                      go_wp2_with fail
                      go_ret
                      exact ⟨ret_int HT.out.symm, hb3⟩
                    · have ha : Hid (((d.gates[k].args.length : Int) == 0) = true) := by unfold Hid; rw [HL.out]; simp only [beq_iff_eq]; omega
                      obtain rfl : an = 0 := by omega
                      clear hz
                      have HT : Hid (formsTo d (k + 1) = true) := by rw [HQ.out, HNE.out, HE.out, HAE.out, ha.out]; rfl
                      go_wp2_with fail
                      refine (within_any _ _ _ _).mono ?_
                      rintro e w' ⟨rfl, rfl⟩
                      rw [within_isB', HE.out]
                      go_wp2_with fail
                      exact ⟨⟨k + 1, by omega, by go_num, HT.out, hb3, hbx3⟩, by simp [intOf]; omega⟩
                · have HNE : Hid (numB ins rn d.gates[k] = isB d.gates[k].n rn) := by unfold Hid numB; first | (rw [if_pos (by omega)]; done) | (rw [if_neg (by omega), if_pos (by omega)]; done) | (rw [if_neg (by omega), if_neg (by omega)]; done)
                  have q2 : (d.gates[k].kind == 2) = false := by simp only [beq_eq_false_iff_ne, ne_eq]; omega
                  have q3 : (d.gates[k].kind == 3) = true := by simp only [beq_iff_eq]; omega
                  have q6 : (d.gates[k].kind == 6) = false := by simp only [beq_eq_false_iff_ne, ne_eq]; omega
                  have ql : d.gates[k].kind ≤ 3 := by omega
                  have HAE : Hid (argB d.gates[k] = ((d.gates[k].args.length : Int) == 0)) := by unfold Hid argB; rw [if_pos (by omega)]
                  clear hkd
                  cases e : isB d.gates[k].n rn
                  · have HT : Hid (checkE d = 1) := HN.out (by rw [HNE.out, e]; rfl)
                    have HE : Hid (isB d.gates[k].n rn = false) := e
                    clear e
                    go_wp2_with fail
                    refine (within_any _ _ _ _).mono ?_
                    rintro e w' ⟨rfl, rfl⟩
                    rw [within_isB, HE.out]
                    go_wp2_with fail
                    go_ret
                    exact ⟨ret_int HT.out.symm, hb3⟩
                  · have HE : Hid (isB d.gates[k].n rn = true) := e
                    clear e
                    rcases Int.lt_or_le 0 (an : Int) with hz | hz
                    · have ha : Hid (((d.gates[k].args.length : Int) == 0) = false) := by unfold Hid; rw [HL.out]; simp only [beq_eq_false_iff_ne, ne_eq]; omega
                      have HT : Hid (checkE d = 1) := HN.out (by rw [HNE.out, HE.out, HAE.out, ha.out]; rfl)
                      go_wp2_with fail
                      refine (within_any _ _ _ _).mono ?_
                      rintro e w' ⟨rfl, rfl⟩
                      rw [within_isB, HE.out]
                      go_wp2_with fail
                      go_ret
                      exact ⟨ret_int HT.out.symm, hb3⟩
                    · have ha : Hid (((d.gates[k].args.length : Int) == 0) = true) := by unfold Hid; rw [HL.out]; simp only [beq_iff_eq]; omega
                      obtain rfl : an = 0 := by omega
                      clear hz
                      have HT : Hid (formsTo d (k + 1) = true) := by rw [HQ.out, HNE.out, HE.out, HAE.out, ha.out]; rfl
                      go_wp2_with fail
                      refine (within_any _ _ _ _).mono ?_
                      rintro e w' ⟨rfl, rfl⟩
                      rw [within_isB, HE.out]
                      go_wp2_with fail
                      exact ⟨⟨k + 1, by omega, by go_num, HT.out, hb3, hbx3⟩, by simp [intOf]; omega⟩
                · have HNE : Hid (numB ins rn d.gates[k] = (d.gates[k].n == 0)) := by unfold Hid numB; first | (rw [if_pos (by omega)]; done) | (rw [if_neg (by omega), if_pos (by omega)]; done) | (rw [if_neg (by omega), if_neg (by omega)]; done)
                  have q2 : (d.gates[k].kind == 2) = false := by simp only [beq_eq_false_iff_ne, ne_eq]; omega
                  have q3 : (d.gates[k].kind == 3) = false := by simp only [beq_eq_false_iff_ne, ne_eq]; omega
                  have q6 : (d.gates[k].kind == 6) = false := by simp only [beq_eq_false_iff_ne, ne_eq]; omega
                  have ql : d.gates[k].kind ≤ 3 := by omega
                  have HAE : Hid (argB d.gates[k] = ((d.gates[k].args.length : Int) == 0)) := by unfold Hid argB; rw [if_pos (by omega)]
                  clear hkd
                  cases e : (d.gates[k].n == 0)
                  · have HT : Hid (checkE d = 1) := HN.out (by rw [HNE.out, e]; rfl)
                    have HE : Hid ((d.gates[k].n == 0) = false) := e
                    clear e
                    go_wp2_with fail
                    refine (within_any _ _ _ _).mono ?_
                    rintro e w' ⟨rfl, rfl⟩
                    rw [within_zero, HE.out]
                    go_wp2_with fail
                    go_ret
                    exact ⟨ret_int HT.out.symm, hb3⟩
                  · have HE : Hid ((d.gates[k].n == 0) = true) := e
                    clear e
                    rcases Int.lt_or_le 0 (an : Int) with hz | hz
                    · have ha : Hid (((d.gates[k].args.length : Int) == 0) = false) := by unfold Hid; rw [HL.out]; simp only [beq_eq_false_iff_ne, ne_eq]; omega
                      have HT : Hid (checkE d = 1) := HN.out (by rw [HNE.out, HE.out, HAE.out, ha.out]; rfl)
                      go_wp2_with fail
                      refine (within_any _ _ _ _).mono ?_
                      rintro e w' ⟨rfl, rfl⟩
                      rw [within_zero, HE.out]
                      go_wp2_with fail
                      go_ret
                      exact ⟨ret_int HT.out.symm, hb3⟩
                    · have ha : Hid (((d.gates[k].args.length : Int) == 0) = true) := by unfold Hid; rw [HL.out]; simp only [beq_iff_eq]; omega
                      obtain rfl : an = 0 := by omega
                      clear hz
                      have HT : Hid (formsTo d (k + 1) = true) := by rw [HQ.out, HNE.out, HE.out, HAE.out, ha.out]; rfl
                      go_wp2_with fail
                      refine (within_any _ _ _ _).mono ?_
                      rintro e w' ⟨rfl, rfl⟩
                      rw [within_zero, HE.out]
                      go_wp2_with fail
                      exact ⟨⟨k + 1, by omega, by go_num, HT.out, hb3, hbx3⟩, by simp [intOf]; omega⟩
                · have HNE : Hid (numB ins rn d.gates[k] = (d.gates[k].n == 0)) := by unfold Hid numB; first | (rw [if_pos (by omega)]; done) | (rw [if_neg (by omega), if_pos (by omega)]; done) | (rw [if_neg (by omega), if_neg (by omega)]; done)
                  have q2 : (d.gates[k].kind == 2) = false := by simp only [beq_eq_false_iff_ne, ne_eq]; omega
                  have q3 : (d.gates[k].kind == 3) = false := by simp only [beq_eq_false_iff_ne, ne_eq]; omega
                  have q6 : (d.gates[k].kind == 6) = true := by simp only [beq_iff_eq]; omega
                  have ql : decide (d.gates[k].kind ≤ 3) = false := decide_eq_false (by omega)
                  have HAE : Hid (argB d.gates[k] = ((d.gates[k].args.length : Int) == 1)) := by unfold Hid argB; rw [if_neg (by omega), if_pos (by omega)]
                  clear hkd
                  cases e : (d.gates[k].n == 0)
                  · have HT : Hid (checkE d = 1) := HN.out (by rw [HNE.out, e]; rfl)
                    have HE : Hid ((d.gates[k].n == 0) = false) := e
                    clear e
                    go_wp2_with fail
                    refine (within_any _ _ _ _).mono ?_
                    rintro e w' ⟨rfl, rfl⟩
                    rw [within_zero, HE.out]
                    go_wp2_with fail
                    go_ret
                    exact ⟨ret_int HT.out.symm, hb3⟩
                  · have HE : Hid ((d.gates[k].n == 0) = true) := e
                    clear e
                    by_cases hz : (an : Int) = 1
                    · have ha : Hid (((d.gates[k].args.length : Int) == 1) = true) := by unfold Hid; rw [HL.out]; simp only [beq_iff_eq]; omega
                      have hq : ((an : Int) != 1) = false := by simp only [bne_eq_false_iff_eq]; omega
                      clear hz
                      have HT : Hid (formsTo d (k + 1) = true) := by rw [HQ.out, HNE.out, HE.out, HAE.out, ha.out]; rfl
                      go_wp2_with fail
                      refine (within_any _ _ _ _).mono ?_
                      rintro e w' ⟨rfl, rfl⟩
                      rw [within_zero, HE.out]
                      go_wp2_with fail
                      exact ⟨⟨k + 1, by omega, by go_num, HT.out, hb3, hbx3⟩, by simp [intOf]; omega⟩
                    · have ha : Hid (((d.gates[k].args.length : Int) == 1) = false) := by unfold Hid; rw [HL.out]; simp only [beq_eq_false_iff_ne, ne_eq]; omega
                      have hq : ((an : Int) != 1) = true := by simp only [bne_iff_ne, ne_eq]; omega
                      clear hz
                      have HT : Hid (checkE d = 1) := HN.out (by rw [HNE.out, HE.out, HAE.out, ha.out]; rfl)
                      go_wp2_with fail
                      refine (within_any _ _ _ _).mono ?_
                      rintro e w' ⟨rfl, rfl⟩
                      rw [within_zero, HE.out]
                      go_wp2_with fail
                      go_ret
                      exact ⟨ret_int HT.out.symm, hb3⟩
                · have HNE : Hid (numB ins rn d.gates[k] = (d.gates[k].n == 0)) := by unfold Hid numB; first | (rw [if_pos (by omega)]; done) | (rw [if_neg (by omega), if_pos (by omega)]; done) | (rw [if_neg (by omega), if_neg (by omega)]; done)
                  have q2 : (d.gates[k].kind == 2) = false := by simp only [beq_eq_false_iff_ne, ne_eq]; omega
                  have q3 : (d.gates[k].kind == 3) = false := by simp only [beq_eq_false_iff_ne, ne_eq]; omega
                  have q6 : (d.gates[k].kind == 6) = false := by simp only [beq_eq_false_iff_ne, ne_eq]; omega
                  have ql : decide (d.gates[k].kind ≤ 3) = false := decide_eq_false (by omega)
                  have HAE : Hid (argB d.gates[k] = true) := by unfold Hid argB; rw [if_neg (by omega), if_neg (by omega)]
                  clear hkd
                  cases e : (d.gates[k].n == 0)
                  · have HT : Hid (checkE d = 1) := HN.out (by rw [HNE.out, e]; rfl)
                    have HE : Hid ((d.gates[k].n == 0) = false) := e
                    clear e
                    go_wp2_with fail
                    refine (within_any _ _ _ _).mono ?_
                    rintro e w' ⟨rfl, rfl⟩
                    rw [within_zero, HE.out]
                    go_wp2_with fail
                    go_ret
                    exact ⟨ret_int HT.out.symm, hb3⟩
                  · have HE : Hid ((d.gates[k].n == 0) = true) := e
                    clear e
                    have HT : Hid (formsTo d (k + 1) = true) := by rw [HQ.out, HNE.out, HE.out, HAE.out]; rfl
                    go_wp2_with fail
                    refine (within_any _ _ _ _).mono ?_
                    rintro e w' ⟨rfl, rfl⟩
                    rw [within_zero, HE.out]
                    go_wp2_with fail
                    exact ⟨⟨k + 1, by omega, by go_num, HT.out, hb3, hbx3⟩, by simp [intOf]; omega⟩
              · have HT : Hid (checkE d = 0) := H6.out (by rw [← hno]; exact congrArg (formsTo d) (by omega))
                clear hno
                obtain ⟨x0, x1, x2, x3, x4⟩ := hbx
                go_wp2_with fail
                go_ret
                exact ⟨ret_int HT.out.symm, hbel⟩
end Go.Proofs.Ytongajonecgdpag
