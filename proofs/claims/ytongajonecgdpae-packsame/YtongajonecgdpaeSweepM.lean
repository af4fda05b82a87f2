/- Sweeping (plain): what may be, gate by gate; folded, each gate is settled as it was. -/
import Derived.Test.YtongajonecgdpaeTickM
namespace Go.Proofs.Ytongajonecgdpae
open Go.RowKit

/-- A gate that may be in a net of n gates, rn registers, ins inputs. -/
structure GOk (n rn : Nat) (ins : Int) (g : GateD) : Prop where
  few : g.args.length ≤ 16
  args : ∀ x ∈ g.args, 0 ≤ x ∧ x < n
  kind : 0 ≤ g.kind ∧ g.kind ≤ 6
  num : numB ins rn g = true
  arg : argB g = true
structure NOk (d : NetD) : Prop where
  ins : 0 ≤ d.ins ∧ d.ins ≤ 3
  gates : d.gates.length ≤ 200
  regs : d.regs.length ≤ 20
  outs : d.outs.length ≤ 3
  each : ∀ g ∈ d.gates, GOk d.gates.length d.regs.length d.ins g
  nexts : ∀ r ∈ d.regs, 0 ≤ r.2 ∧ r.2 < d.gates.length
  out : ∀ x ∈ d.outs, 0 ≤ x ∧ x < d.gates.length
theorem check_of {d : NetD} (h : NOk d) : checkE d = 0 := by
  have c1 : countsB d = true := by
    simp only [countsB, countsTo, List.take_length, Bool.and_eq_true, decide_eq_true_iff, List.all_eq_true]
    exact ⟨⟨⟨⟨h.ins.2, h.gates⟩, h.regs⟩, h.outs⟩, fun g hg => (h.each g hg).few⟩
  have c2 : numbersB d = true := by
    simp only [numbersB, regsTo, outsTo, argsTo, argsIn, isB, List.take_length, Bool.and_eq_true, decide_eq_true_iff, List.all_eq_true]
    exact ⟨⟨⟨h.ins.1, h.nexts⟩, h.out⟩, fun g hg => (h.each g hg).args⟩
  have c3 : kindsB d = true := by
    simp only [kindsB, kindsTo, kindB, List.take_length, decide_eq_true_iff, List.all_eq_true]
    exact fun g hg => (h.each g hg).kind
  have c4 : formsB d = true := by
    simp only [formsB, formsTo, formB, List.take_length, Bool.and_eq_true, List.all_eq_true]
    exact fun g hg => ⟨(h.each g hg).num, (h.each g hg).arg⟩
  unfold checkE
  rw [if_pos c1, if_pos c2, if_pos c3, if_pos c4]
theorem ok_of {d : NetD} (h : checkE d = 0) : NOk d := by
  obtain ⟨h1, h2, h3, h4⟩ := check_ok h
  simp only [countsB, countsTo, List.take_length, Bool.and_eq_true, decide_eq_true_iff, List.all_eq_true] at h1
  simp only [numbersB, regsTo, outsTo, argsTo, argsIn, isB, List.take_length, Bool.and_eq_true, decide_eq_true_iff, List.all_eq_true] at h2
  simp only [kindsB, kindsTo, kindB, List.take_length, decide_eq_true_iff, List.all_eq_true] at h3
  simp only [formsB, formsTo, formB, List.take_length, Bool.and_eq_true, List.all_eq_true] at h4
  exact ⟨⟨h2.1.1.1, h1.1.1.1.1⟩, h1.1.1.1.2, h1.1.1.2, h1.1.2, fun g hg => ⟨h1.2 g hg, h2.2 g hg, h3 g hg, (h4 g hg).1, (h4 g hg).2⟩, h2.1.1.2, h2.1.2⟩

/-- All that is handed in is open. -/
def openV (n : Nat) : List Int := List.replicate n 2
theorem open_le (n : Nat) (x : List Int) : Le (openV n) x := by
  intro k
  left
  simp only [openV, List.getD_eq_getElem?_getD, List.getElem?_replicate]
  split <;> rfl
def foldV (d : NetD) : List Int := lfp d (openV d.regs.length) (openV d.ins.toNat)
def foldG (v : Int) (g : GateD) : GateD := if v = 0 then ⟨0, 0, []⟩ else if v = 1 then ⟨1, 0, []⟩ else g
def foldD (d : NetD) : NetD := { d with gates := List.zipWith foldG (foldV d) d.gates }
theorem foldV_len (d : NetD) : (foldV d).length = d.gates.length := (lfp_least d _ _).len
theorem fold_len (d : NetD) : (foldD d).gates.length = d.gates.length := by simp [foldD, foldV_len]
theorem fold_at (d : NetD) (k : Nat) (hk : k < d.gates.length) (hk' : k < (foldD d).gates.length) : (foldD d).gates[k] = foldG ((foldV d).getD k 2) d.gates[k] := by
  have h : k < (foldV d).length := by rw [foldV_len]; exact hk
  simp [foldD, List.getD_eq_getElem?_getD, h]
theorem worth_fold0 (r i v : List Int) : worthV ⟨0, 0, []⟩ r i v = 0 := rfl
theorem worth_fold1 (r i v : List Int) : worthV ⟨1, 0, []⟩ r i v = 1 := rfl

/-- What stands settled with all open stands so whatever is handed in. -/
theorem foldV_le (d : NetD) (r i : List Int) : Le (foldV d) (lfp d r i) := Least.more (open_le _ _) (open_le _ _) (lfp_least d _ _) (lfp_least d r i)
theorem foldV_val (d : NetD) (k : Nat) : (foldV d).getD k 2 = 0 ∨ (foldV d).getD k 2 = 1 ∨ (foldV d).getD k 2 = 2 :=
  getD_val (iter_vals d (vals_open _) (vals_open _) _) k
theorem fold_lfp (d : NetD) (r i : List Int) : lfp (foldD d) r i = lfp d r i := by
  have hl := fold_len d
  have hv := lfp_least d r i
  have hu := lfp_least (foldD d) r i
  have h0 := lfp_least d (openV d.regs.length) (openV d.ins.toNat)
  have hul : (lfp (foldD d) r i).length = d.gates.length := by rw [hu.len, hl]
  -- what is least for the net solves the folded one
  have s1 : roundV (foldD d) r i (lfp d r i) = lfp d r i := by
    apply List.ext_getElem (by rw [roundV_len, hl, hv.len])
    intro k h1 h2
    have hk : k < d.gates.length := by rw [hv.len] at h2; exact h2
    have hk' : k < (foldD d).gates.length := by rw [hl]; exact hk
    have e1 : (roundV (foldD d) r i (lfp d r i))[k] = worthV (foldD d).gates[k] r i (lfp d r i) := by simp [roundV]
    have e2 : worthV d.gates[k] r i (lfp d r i) = (lfp d r i)[k] := by
      have e3 : (roundV d r i (lfp d r i))[k]'(by rw [roundV_len]; exact hk) = worthV d.gates[k] r i (lfp d r i) := by simp [roundV]
      rw [← e3]; simp only [hv.fix]
    have hget : (lfp d r i).getD k 2 = (lfp d r i)[k] := by simp [List.getD_eq_getElem?_getD, h2]
    rw [e1, fold_at d k hk hk']
    have hle := foldV_le d r i k
    rw [hget] at hle
    rcases foldV_val d k with h | h | h
    · rw [h] at hle ⊢
      rw [show foldG 0 d.gates[k] = ⟨0, 0, []⟩ from rfl, worth_fold0]; omega
    · rw [h] at hle ⊢
      rw [show foldG 1 d.gates[k] = ⟨1, 0, []⟩ from rfl, worth_fold1]; omega
    · rw [h]; exact e2
  -- what is least for the folded one solves the net
  have hle0 : Le (foldV d) (lfp (foldD d) r i) := by
    intro k
    by_cases hk : k < d.gates.length
    · have hk' : k < (foldD d).gates.length := by rw [hl]; exact hk
      have e1 := roundV_at (foldD d) r i (lfp (foldD d) r i) k hk'
      rw [hu.fix, fold_at d k hk hk'] at e1
      rcases foldV_val d k with h | h | h
      · right; rw [h] at e1 ⊢; rw [e1]; rfl
      · right; rw [h] at e1 ⊢; rw [e1]; rfl
      · left; exact h
    · left; rw [List.getD_eq_getElem?_getD, List.getElem?_eq_none (by rw [foldV_len]; omega)]; rfl
  have s2 : roundV d r i (lfp (foldD d) r i) = lfp (foldD d) r i := by
    apply List.ext_getElem (by rw [roundV_len, hul])
    intro k h1 h2
    have hk : k < d.gates.length := by rw [hul] at h2; exact h2
    have hk' : k < (foldD d).gates.length := by rw [hl]; exact hk
    have e1 := roundV_at (foldD d) r i (lfp (foldD d) r i) k hk'
    have hget : (lfp (foldD d) r i).getD k 2 = (lfp (foldD d) r i)[k] := by simp [List.getD_eq_getElem?_getD, h2]
    rw [hu.fix, fold_at d k hk hk', hget] at e1
    have e0 := roundV_at d (openV d.regs.length) (openV d.ins.toNat) (foldV d) k hk
    rw [show roundV d (openV d.regs.length) (openV d.ins.toNat) (foldV d) = foldV d from h0.fix] at e0
    have hw := worthV_le d.gates[k] (open_le d.regs.length r) (open_le d.ins.toNat i) hle0
    show (roundV d r i (lfp (foldD d) r i))[k] = _
    have e4 : (roundV d r i (lfp (foldD d) r i))[k] = worthV d.gates[k] r i (lfp (foldD d) r i) := by simp [roundV]
    rw [e4, e1]
    rcases foldV_val d k with h | h | h
    · rw [h] at e0 ⊢
      rw [← e0] at hw
      rw [show foldG 0 d.gates[k] = ⟨0, 0, []⟩ from rfl, worth_fold0]; omega
    · rw [h] at e0 ⊢
      rw [← e0] at hw
      rw [show foldG 1 d.gates[k] = ⟨1, 0, []⟩ from rfl, worth_fold1]; omega
    · rw [h]; rfl
  exact Le.antisymm (by rw [hul, hv.len]) (hu.least _ (by rw [hv.len, hl]) s1) (hv.least _ hul s2)
theorem fold_twice (d : NetD) : foldD (foldD d) = foldD d := by
  have hv : foldV (foldD d) = foldV d := fold_lfp d _ _
  have hg : (foldD (foldD d)).gates = (foldD d).gates := by
    apply List.ext_getElem (by rw [fold_len])
    intro k h1 h2
    have hk : k < d.gates.length := by rw [fold_len] at h2; exact h2
    rw [fold_at (foldD d) k h2 h1, hv, fold_at d k hk h2]
    unfold foldG
    split
    · rfl
    · split <;> rfl
  show ({ foldD d with gates := (foldD (foldD d)).gates } : NetD) = foldD d
  rw [hg]
theorem fold_ok {d : NetD} (h : checkE d = 0) : checkE (foldD d) = 0 := by
  have ho := ok_of h
  apply check_of
  refine ⟨ho.ins, by rw [fold_len]; exact ho.gates, ho.regs, ho.outs, ?_, fun r hr => by rw [fold_len]; exact ho.nexts r hr, fun x hx => by rw [fold_len]; exact ho.out x hx⟩
  intro g hg
  rw [fold_len]
  obtain ⟨k, hk, rfl⟩ := List.getElem_of_mem hg
  have hk' : k < d.gates.length := by rw [fold_len] at hk; exact hk
  rw [fold_at d k hk' hk]
  have hgk := ho.each _ (List.getElem_mem hk')
  rcases foldV_val d k with h | h | h
  · rw [h]; exact ⟨by simp [foldG], by simp [foldG], by simp [foldG], by simp [foldG, numB], by simp [foldG, argB]⟩
  · rw [h]; exact ⟨by simp [foldG], by simp [foldG], by simp [foldG], by simp [foldG, numB], by simp [foldG, argB]⟩
  · rw [h]; exact hgk
theorem fold_step {d : NetD} (h : checkE d = 0) (r i : List Int) : stepE (foldD d) r i = stepE d r i := by
  unfold stepE
  rw [if_pos h, if_pos (fold_ok h)]
  rfl
end Go.Proofs.Ytongajonecgdpae
