/- Sweeping (plain): what may be, gate by gate; folded, each gate is settled as it was. -/
import Derived.Test.YtongajonecgdpagGreatDoorTickB
import Derived.Test.YtongajonecgdpagGreatDoorEvalM
namespace Go.Proofs.YtongajonecgdpagGreatDoor
open Go.RowKit

/-- A gate that may be in a net of n gates, rn registers, ins inputs. -/
structure GOk (n rn : Nat) (ins : Int) (g : GateD) : Prop where
  few : g.args.length ≤ 16
  args : ∀ x ∈ g.args, 0 ≤ x ∧ x < n
  kind : 0 ≤ g.kind ∧ g.kind ≤ 6
  num : numB ins rn g = true
  arg : argB g = true
structure NOk (d : NetD) : Prop where
  ins : 0 ≤ d.ins ∧ d.ins ≤ 3
  gates : d.gates.length ≤ 200
  regs : d.regs.length ≤ 20
  outs : d.outs.length ≤ 3
  each : ∀ g ∈ d.gates, GOk d.gates.length d.regs.length d.ins g
  nexts : ∀ r ∈ d.regs, 0 ≤ r.2 ∧ r.2 < d.gates.length
  out : ∀ x ∈ d.outs, 0 ≤ x ∧ x < d.gates.length
theorem check_of {d : NetD} (h : NOk d) : checkE d = 0 := by
  have c1 : countsB d = true := by
    simp only [countsB, countsTo, List.take_length, Bool.and_eq_true, decide_eq_true_iff, List.all_eq_true]
    exact ⟨⟨⟨⟨h.ins.2, h.gates⟩, h.regs⟩, h.outs⟩, fun g hg => (h.each g hg).few⟩
  have c2 : numbersB d = true := by
    simp only [numbersB, regsTo, outsTo, argsTo, argsIn, isB, List.take_length, Bool.and_eq_true, decide_eq_true_iff, List.all_eq_true]
    exact ⟨⟨⟨h.ins.1, h.nexts⟩, h.out⟩, fun g hg => (h.each g hg).args⟩
  have c3 : kindsB d = true := by
    simp only [kindsB, kindsTo, kindB, List.take_length, decide_eq_true_iff, List.all_eq_true]
    exact fun g hg => (h.each g hg).kind
  have c4 : formsB d = true := by
    simp only [formsB, formsTo, formB, List.take_length, Bool.and_eq_true, List.all_eq_true]
    exact fun g hg => ⟨(h.each g hg).num, (h.each g hg).arg⟩
  unfold checkE
  rw [if_pos c1, if_pos c2, if_pos c3, if_pos c4]
theorem ok_of {d : NetD} (h : checkE d = 0) : NOk d := by
  obtain ⟨h1, h2, h3, h4⟩ := check_ok h
  simp only [countsB, countsTo, List.take_length, Bool.and_eq_true, decide_eq_true_iff, List.all_eq_true] at h1
  simp only [numbersB, regsTo, outsTo, argsTo, argsIn, isB, List.take_length, Bool.and_eq_true, decide_eq_true_iff, List.all_eq_true] at h2
  simp only [kindsB, kindsTo, kindB, List.take_length, decide_eq_true_iff, List.all_eq_true] at h3
  simp only [formsB, formsTo, formB, List.take_length, Bool.and_eq_true, List.all_eq_true] at h4
  exact ⟨⟨h2.1.1.1, h1.1.1.1.1⟩, h1.1.1.1.2, h1.1.1.2, h1.1.2, fun g hg => ⟨h1.2 g hg, h2.2 g hg, h3 g hg, (h4 g hg).1, (h4 g hg).2⟩, h2.1.1.2, h2.1.2⟩

/-- All that is handed in is open. -/
def openV (n : Nat) : List Int := List.replicate n 2
theorem open_le (n : Nat) (x : List Int) : Le (openV n) x := by
  intro k
  left
  simp only [openV, List.getD_eq_getElem?_getD, List.getElem?_replicate]
  split <;> rfl
def foldV (d : NetD) : List Int := lfp d (openV d.regs.length) (openV d.ins.toNat)
def foldG (v : Int) (g : GateD) : GateD := if v = 0 then ⟨0, 0, []⟩ else if v = 1 then ⟨1, 0, []⟩ else g
def foldD (d : NetD) : NetD := { d with gates := List.zipWith foldG (foldV d) d.gates }
theorem foldV_len (d : NetD) : (foldV d).length = d.gates.length := (lfp_least d _ _).len
theorem fold_len (d : NetD) : (foldD d).gates.length = d.gates.length := by simp [foldD, foldV_len]
theorem fold_at (d : NetD) (k : Nat) (hk : k < d.gates.length) (hk' : k < (foldD d).gates.length) : (foldD d).gates[k] = foldG ((foldV d).getD k 2) d.gates[k] := by
  have h : k < (foldV d).length := by rw [foldV_len]; exact hk
  simp [foldD, List.getD_eq_getElem?_getD, h]
theorem worth_fold0 (r i v : List Int) : worthV ⟨0, 0, []⟩ r i v = 0 := rfl
theorem worth_fold1 (r i v : List Int) : worthV ⟨1, 0, []⟩ r i v = 1 := rfl

/-- What stands settled with all open stands so whatever is handed in. -/
theorem foldV_le (d : NetD) (r i : List Int) : Le (foldV d) (lfp d r i) := Least.more (open_le _ _) (open_le _ _) (lfp_least d _ _) (lfp_least d r i)
theorem foldV_val (d : NetD) (k : Nat) : (foldV d).getD k 2 = 0 ∨ (foldV d).getD k 2 = 1 ∨ (foldV d).getD k 2 = 2 :=
  getD_val (iter_vals d (vals_open _) (vals_open _) _) k
theorem fold_lfp (d : NetD) (r i : List Int) : lfp (foldD d) r i = lfp d r i := by
  have hl := fold_len d
  have hv := lfp_least d r i
  have hu := lfp_least (foldD d) r i
  have h0 := lfp_least d (openV d.regs.length) (openV d.ins.toNat)
  have hul : (lfp (foldD d) r i).length = d.gates.length := by rw [hu.len, hl]
  -- what is least for the net solves the folded one
  have s1 : roundV (foldD d) r i (lfp d r i) = lfp d r i := by
    apply List.ext_getElem (by rw [roundV_len, hl, hv.len])
    intro k h1 h2
    have hk : k < d.gates.length := by rw [hv.len] at h2; exact h2
    have hk' : k < (foldD d).gates.length := by rw [hl]; exact hk
    have e1 : (roundV (foldD d) r i (lfp d r i))[k] = worthV (foldD d).gates[k] r i (lfp d r i) := by simp [roundV]
    have e2 : worthV d.gates[k] r i (lfp d r i) = (lfp d r i)[k] := by
      have e3 : (roundV d r i (lfp d r i))[k]'(by rw [roundV_len]; exact hk) = worthV d.gates[k] r i (lfp d r i) := by simp [roundV]
      rw [← e3]; simp only [hv.fix]
    have hget : (lfp d r i).getD k 2 = (lfp d r i)[k] := by simp [List.getD_eq_getElem?_getD, h2]
    rw [e1, fold_at d k hk hk']
    have hle := foldV_le d r i k
    rw [hget] at hle
    rcases foldV_val d k with h | h | h
    · rw [h] at hle ⊢
      rw [show foldG 0 d.gates[k] = ⟨0, 0, []⟩ from rfl, worth_fold0]; omega
    · rw [h] at hle ⊢
      rw [show foldG 1 d.gates[k] = ⟨1, 0, []⟩ from rfl, worth_fold1]; omega
    · rw [h]; exact e2
  -- what is least for the folded one solves the net
  have hle0 : Le (foldV d) (lfp (foldD d) r i) := by
    intro k
    by_cases hk : k < d.gates.length
    · have hk' : k < (foldD d).gates.length := by rw [hl]; exact hk
      have e1 := roundV_at (foldD d) r i (lfp (foldD d) r i) k hk'
      rw [hu.fix, fold_at d k hk hk'] at e1
      rcases foldV_val d k with h | h | h
      · right; rw [h] at e1 ⊢; rw [e1]; rfl
      · right; rw [h] at e1 ⊢; rw [e1]; rfl
      · left; exact h
    · left; rw [List.getD_eq_getElem?_getD, List.getElem?_eq_none (by rw [foldV_len]; omega)]; rfl
  have s2 : roundV d r i (lfp (foldD d) r i) = lfp (foldD d) r i := by
    apply List.ext_getElem (by rw [roundV_len, hul])
    intro k h1 h2
    have hk : k < d.gates.length := by rw [hul] at h2; exact h2
    have hk' : k < (foldD d).gates.length := by rw [hl]; exact hk
    have e1 := roundV_at (foldD d) r i (lfp (foldD d) r i) k hk'
    have hget : (lfp (foldD d) r i).getD k 2 = (lfp (foldD d) r i)[k] := by simp [List.getD_eq_getElem?_getD, h2]
    rw [hu.fix, fold_at d k hk hk', hget] at e1
    have e0 := roundV_at d (openV d.regs.length) (openV d.ins.toNat) (foldV d) k hk
    rw [show roundV d (openV d.regs.length) (openV d.ins.toNat) (foldV d) = foldV d from h0.fix] at e0
    have hw := worthV_le d.gates[k] (open_le d.regs.length r) (open_le d.ins.toNat i) hle0
    show (roundV d r i (lfp (foldD d) r i))[k] = _
    have e4 : (roundV d r i (lfp (foldD d) r i))[k] = worthV d.gates[k] r i (lfp (foldD d) r i) := by simp [roundV]
    rw [e4, e1]
    rcases foldV_val d k with h | h | h
    · rw [h] at e0 ⊢
      rw [← e0] at hw
      rw [show foldG 0 d.gates[k] = ⟨0, 0, []⟩ from rfl, worth_fold0]; omega
    · rw [h] at e0 ⊢
      rw [← e0] at hw
      rw [show foldG 1 d.gates[k] = ⟨1, 0, []⟩ from rfl, worth_fold1]; omega
    · rw [h]; rfl
  exact Le.antisymm (by rw [hul, hv.len]) (hu.least _ (by rw [hv.len, hl]) s1) (hv.least _ hul s2)
theorem fold_twice (d : NetD) : foldD (foldD d) = foldD d := by
  have hv : foldV (foldD d) = foldV d := fold_lfp d _ _
  have hg : (foldD (foldD d)).gates = (foldD d).gates := by
    apply List.ext_getElem (by rw [fold_len])
    intro k h1 h2
    have hk : k < d.gates.length := by rw [fold_len] at h2; exact h2
    rw [fold_at (foldD d) k h2 h1, hv, fold_at d k hk h2]
    unfold foldG
    split
    · rfl
    · split <;> rfl
  show ({ foldD d with gates := (foldD (foldD d)).gates } : NetD) = foldD d
  rw [hg]
theorem fold_ok {d : NetD} (h : checkE d = 0) : checkE (foldD d) = 0 := by
  have ho := ok_of h
  apply check_of
  refine ⟨ho.ins, by rw [fold_len]; exact ho.gates, ho.regs, ho.outs, ?_, fun r hr => by rw [fold_len]; exact ho.nexts r hr, fun x hx => by rw [fold_len]; exact ho.out x hx⟩
  intro g hg
  rw [fold_len]
  obtain ⟨k, hk, rfl⟩ := List.getElem_of_mem hg
  have hk' : k < d.gates.length := by rw [fold_len] at hk; exact hk
  rw [fold_at d k hk' hk]
  have hgk := ho.each _ (List.getElem_mem hk')
  rcases foldV_val d k with h | h | h
  · rw [h]; exact ⟨by simp [foldG], by simp [foldG], by simp [foldG], by simp [foldG, numB], by simp [foldG, argB]⟩
  · rw [h]; exact ⟨by simp [foldG], by simp [foldG], by simp [foldG], by simp [foldG, numB], by simp [foldG, argB]⟩
  · rw [h]; exact hgk
theorem fold_step {d : NetD} (h : checkE d = 0) (r i : List Int) : stepE (foldD d) r i = stepE d r i := by
  unfold stepE
  rw [if_pos h, if_pos (fold_ok h)]
  rfl

/-- The gates that stay, in their order; how many of the first k stay; where gate k goes (-1: it goes). -/
def keptL (bs : List Bool) : List Nat := (List.range bs.length).filter (fun k => bs.getD k false)
def atN (bs : List Bool) (k : Nat) : Nat := ((List.range k).filter (fun j => bs.getD j false)).length
def toV (bs : List Bool) (k : Nat) : Int := if bs.getD k false then (atN bs k : Int) else -1
theorem marked_lt {bs : List Bool} {k : Nat} (h : bs.getD k false = true) : k < bs.length := by
  rcases Nat.lt_or_ge k bs.length with h1 | h1
  · exact h1
  · rw [List.getD_eq_getElem?_getD, List.getElem?_eq_none h1] at h; simp at h
theorem atN_succ (bs : List Bool) (k : Nat) : atN bs (k + 1) = atN bs k + (if bs.getD k false then 1 else 0) := by
  unfold atN
  rw [List.range_succ, List.filter_append, List.length_append, List.filter_cons, List.filter_nil]
  cases bs.getD k false <;> rfl
theorem range_split (k r : Nat) : List.range (k + 1 + r) = List.range k ++ (k :: (List.range r).map (· + (k + 1))) := by
  rw [List.range_add, List.range_succ, List.append_assoc]
  simp [Nat.add_comm]
theorem kept_at {bs : List Bool} {k : Nat} (h : bs.getD k false = true) : (keptL bs)[atN bs k]? = some k := by
  have hk := marked_lt h
  obtain ⟨r, hr⟩ : ∃ r, bs.length = k + 1 + r := ⟨bs.length - (k + 1), by omega⟩
  unfold keptL atN
  rw [hr, range_split, List.filter_append, List.filter_cons, if_pos h, List.getElem?_append_right (Nat.le_refl _), Nat.sub_self]
  rfl
theorem kept_mem {bs : List Bool} {k : Nat} : k ∈ keptL bs ↔ bs.getD k false = true := by
  unfold keptL
  rw [List.mem_filter, List.mem_range]
  exact ⟨fun h => h.2, fun h => ⟨marked_lt h, h⟩⟩
theorem kept_len (bs : List Bool) : (keptL bs).length = atN bs bs.length := rfl
theorem kept_le (bs : List Bool) : (keptL bs).length ≤ bs.length := by
  have := List.length_filter_le (fun k => bs.getD k false) (List.range bs.length)
  simpa [keptL] using this
theorem at_lt {bs : List Bool} {k : Nat} (h : bs.getD k false = true) : atN bs k < (keptL bs).length := by
  rcases Nat.lt_or_ge (atN bs k) (keptL bs).length with h1 | h1
  · exact h1
  · have := kept_at h; rw [List.getElem?_eq_none h1] at this; simp at this
theorem toV_of {bs : List Bool} {k : Nat} (h : bs.getD k false = true) : toV bs k = (atN bs k : Int) := by unfold toV; rw [if_pos h]

def dropG (bs : List Bool) (g : GateD) : GateD := ⟨g.kind, g.n, g.args.map (fun x => toV bs x.toNat)⟩
def dropW (d : NetD) (bs : List Bool) : NetD :=
  { ins := d.ins, gates := (keptL bs).map (fun k => dropG bs (d.gates.getD k ⟨0, 0, []⟩)), regs := d.regs.map (fun r => (r.1, toV bs r.2.toNat)), outs := d.outs.map (fun x => toV bs x.toNat) }
/-- Who stays has his args, and what is put out and what registers take stays. -/
structure Clo (d : NetD) (bs : List Bool) : Prop where
  len : bs.length = d.gates.length
  args : ∀ k (hk : k < d.gates.length), bs.getD k false = true → ∀ x ∈ d.gates[k].args, bs.getD x.toNat false = true
  outs : ∀ x ∈ d.outs, bs.getD x.toNat false = true
  regs : ∀ r ∈ d.regs, bs.getD r.2.toNat false = true
def needL (d : NetD) : List Int := d.outs ++ nextsV d
theorem clo_of {d : NetD} {bs : List Bool} (h : Marks d.gates (needL d) bs) (hc : checkE d = 0) : Clo d bs := by
  have ho := ok_of hc
  have hin : ∀ x : Int, 0 ≤ x ∧ x < d.gates.length → x.toNat < d.gates.length := fun x hx => by omega
  refine ⟨h.1, ?_, ?_, ?_⟩
  · intro k hk hb x hx
    rw [h.2 x.toNat (hin x ((ho.each _ (List.getElem_mem hk)).args x hx))]
    exact Need.arg hk ((h.2 k hk).1 hb) hx
  · intro x hx
    rw [h.2 x.toNat (hin x (ho.out x hx))]
    exact Need.mem (List.mem_append_left _ hx)
  · intro r hr
    rw [h.2 r.2.toNat (hin r.2 (ho.nexts r hr))]
    exact Need.mem (List.mem_append_right _ (List.mem_map.2 ⟨r, hr, rfl⟩))
def restr (bs : List Bool) (v : List Int) : List Int := (keptL bs).map (fun k => v.getD k 2)
theorem restr_at {bs : List Bool} (v : List Int) {k : Nat} (h : bs.getD k false = true) : (restr bs v).getD (atN bs k) 2 = v.getD k 2 := by
  unfold restr
  rw [List.getD_eq_getElem?_getD, List.getElem?_map, kept_at h]
  rfl
theorem restr_to {bs : List Bool} (v : List Int) {x : Int} (h : bs.getD x.toNat false = true) : (restr bs v).getD (toV bs x.toNat).toNat 2 = v.getD x.toNat 2 := by
  rw [toV_of h, Int.toNat_natCast, restr_at v h]
theorem worth_restr {bs : List Bool} {g : GateD} (r i v : List Int) (h : ∀ x ∈ g.args, bs.getD x.toNat false = true) : worthV (dropG bs g) r i (restr bs v) = worthV g r i v := by
  have hm : (dropG bs g).args.map (fun x => (restr bs v).getD x.toNat 2) = g.args.map (fun x => v.getD x.toNat 2) := by
    show (g.args.map (fun x => toV bs x.toNat)).map (fun x => (restr bs v).getD x.toNat 2) = _
    rw [List.map_map]
    exact List.map_congr_left (fun x hx => restr_to v (h x hx))
  unfold worthV
  rw [hm]
  rfl
theorem drop_len (d : NetD) (bs : List Bool) : (dropW d bs).gates.length = (keptL bs).length := by simp [dropW]
theorem round_restr {d : NetD} {bs : List Bool} (hc : Clo d bs) (r i v : List Int) : roundV (dropW d bs) r i (restr bs v) = restr bs (roundV d r i v) := by
  unfold roundV restr dropW
  rw [List.map_map]
  apply List.map_congr_left
  intro k hk
  have hb := kept_mem.1 hk
  have hkl : k < d.gates.length := by rw [← hc.len]; exact marked_lt hb
  have hg : d.gates.getD k ⟨0, 0, []⟩ = d.gates[k] := by simp [List.getD_eq_getElem?_getD, hkl]
  show worthV (dropG bs (d.gates.getD k ⟨0, 0, []⟩)) r i (restr bs v) = _
  rw [hg, worth_restr r i v (hc.args k hkl hb)]
  simp [List.getD_eq_getElem?_getD, hkl]
theorem iter_restr {d : NetD} {bs : List Bool} (hc : Clo d bs) (r i : List Int) : ∀ m, iterV (dropW d bs) r i m = restr bs (iterV d r i m)
  | 0 => by
    show List.replicate (dropW d bs).gates.length 2 = restr bs (List.replicate d.gates.length 2)
    rw [drop_len]
    unfold restr
    symm
    rw [List.eq_replicate_iff]
    refine ⟨by simp, fun y hy => ?_⟩
    obtain ⟨k, _, rfl⟩ := List.mem_map.1 hy
    simp only [List.getD_eq_getElem?_getD, List.getElem?_replicate]
    split <;> rfl
  | m + 1 => by
    show roundV (dropW d bs) r i (iterV (dropW d bs) r i m) = restr bs (roundV d r i (iterV d r i m))
    rw [iter_restr hc r i m, round_restr hc]
/-- What stays is settled as it was. -/
theorem drop_lfp {d : NetD} {bs : List Bool} (hc : Clo d bs) (r i : List Int) : lfp (dropW d bs) r i = restr bs (lfp d r i) := by
  have hw := iter_way (dropW d bs) r i d.gates.length
  rw [iter_restr hc] at hw
  have hf : roundV (dropW d bs) r i (restr bs (lfp d r i)) = restr bs (lfp d r i) := by rw [round_restr hc, (lfp_least d r i).fix]
  exact ((hw.least hf).is).symm
theorem restr_open {bs : List Bool} {v : List Int} (hl : bs.length = v.length) (h : opens v = 0) : opens (restr bs v) = 0 := by
  unfold opens at h ⊢
  rw [List.length_eq_zero_iff, List.filter_eq_nil_iff] at h ⊢
  intro x hx
  obtain ⟨k, hk, rfl⟩ := List.mem_map.1 hx
  have hkl : k < v.length := by rw [← hl]; exact marked_lt (kept_mem.1 hk)
  rw [List.getD_eq_getElem?_getD, List.getElem?_eq_getElem hkl]
  exact h _ (List.getElem_mem hkl)
theorem pick_restr {bs : List Bool} {v : List Int} (hl : bs.length = v.length) (l : List Int) (h : ∀ x ∈ l, bs.getD x.toNat false = true) : pickV (restr bs v) (l.map (fun x => toV bs x.toNat)) = pickV v l := by
  unfold pickV
  rw [List.map_map]
  apply List.map_congr_left
  intro x hx
  have hb := h x hx
  have h1 := at_lt hb
  have h2 : x.toNat < v.length := by rw [← hl]; exact marked_lt hb
  have h3 := restr_to v hb
  show (restr bs v).getD (toV bs x.toNat).toNat 0 = v.getD x.toNat 0
  rw [toV_of hb, Int.toNat_natCast] at h3 ⊢
  have h4 : atN bs x.toNat < (restr bs v).length := by simpa [restr] using h1
  simp only [List.getD_eq_getElem?_getD, List.getElem?_eq_getElem h4, List.getElem?_eq_getElem h2, Option.getD_some] at h3 ⊢
  exact h3
theorem drop_ok {d : NetD} {bs : List Bool} (hc : Clo d bs) (h : checkE d = 0) : checkE (dropW d bs) = 0 := by
  have ho := ok_of h
  apply check_of
  have hin : ∀ x : Int, bs.getD x.toNat false = true → 0 ≤ toV bs x.toNat ∧ toV bs x.toNat < ((dropW d bs).gates.length : Int) := by
    intro x hb
    rw [toV_of hb, drop_len]
    have := at_lt hb
    omega
  refine ⟨ho.ins, by rw [drop_len]; have := kept_le bs; have := hc.len; have := ho.gates; omega, by simp [dropW]; exact ho.regs, by simp [dropW]; exact ho.outs, ?_, ?_, ?_⟩
  · intro g hg
    obtain ⟨k, hk, rfl⟩ := List.mem_map.1 hg
    have hb := kept_mem.1 hk
    have hkl : k < d.gates.length := by rw [← hc.len]; exact marked_lt hb
    have hge : d.gates.getD k ⟨0, 0, []⟩ = d.gates[k] := by simp [List.getD_eq_getElem?_getD, hkl]
    have hgk := ho.each _ (List.getElem_mem hkl)
    rw [hge]
    refine ⟨by simpa [dropG] using hgk.few, ?_, hgk.kind, ?_, ?_⟩
    · intro x hx
      obtain ⟨y, hy, rfl⟩ := List.mem_map.1 hx
      exact hin y (hc.args k hkl hb y hy)
    · have := hgk.num
      unfold numB at this ⊢
      simpa [dropG, dropW] using this
    · have := hgk.arg
      unfold argB at this ⊢
      simpa [dropG] using this
  · intro r hr
    obtain ⟨q, hq, rfl⟩ := List.mem_map.1 hr
    exact hin q.2 (hc.regs q hq)
  · intro x hx
    obtain ⟨y, hy, rfl⟩ := List.mem_map.1 hx
    exact hin y (hc.outs y hy)
theorem drop_step {d : NetD} {bs : List Bool} (hc : Clo d bs) (h : checkE d = 0) (r i : List Int) : stepE (dropW d bs) r i = stepE d r i := by
  unfold stepE
  rw [if_pos h, if_pos (drop_ok hc h)]
  simp [dropW]
/-- Where an instant was settled, the same comes of it. -/
theorem drop_do {d : NetD} {bs : List Bool} (hc : Clo d bs) {r i : List Int} (h : doE d r i = 0) : doE (dropW d bs) r i = 0 ∧ doOuts (dropW d bs) r i = doOuts d r i ∧ doNext (dropW d bs) r i = doNext d r i := by
  obtain ⟨hs, ho⟩ := doE_ok h
  have hck := (stepE_ok hs).1
  have hl : bs.length = (lfp d r i).length := by rw [hc.len, (lfp_least d r i).len]
  have e0 : doE (dropW d bs) r i = 0 := by
    unfold doE
    rw [drop_step hc hck, if_pos hs, drop_lfp hc, if_pos (restr_open hl ho)]
  refine ⟨e0, ?_, ?_⟩
  · unfold doOuts
    rw [if_pos e0, if_pos h, drop_lfp hc]
    exact pick_restr hl _ hc.outs
  · unfold doNext
    rw [if_pos e0, if_pos h, drop_lfp hc]
    have : nextsV (dropW d bs) = (nextsV d).map (fun x => toV bs x.toNat) := by simp [nextsV, dropW]
    rw [this]
    exact pick_restr hl _ (fun x hx => by obtain ⟨q, hq, rfl⟩ := List.mem_map.1 hx; exact hc.regs q hq)
theorem drop_run {d : NetD} {bs : List Bool} (hc : Clo d bs) {l : List Int} (h : runE d l = 0) : runE (dropW d bs) l = 0 ∧ runRows (dropW d bs) l = runRows d l ∧ runRegs (dropW d bs) l = runRegs d l := by
  obtain ⟨hck, ht, he⟩ := runE_ok h
  have hb : begins (dropW d bs) = begins d := by simp [begins, dropW]
  have key : ∀ k, k ≤ l.length → stateAt (dropW d bs) l k = stateAt d l k ∧ errTo (dropW d bs) l k = 0 := by
    intro k
    induction k with
    | zero => intro _; exact ⟨hb, rfl⟩
    | succ k ih =>
      intro hk
      obtain ⟨h1, h2⟩ := ih (by omega)
      have ha := errAt_of he k (by omega)
      unfold errAt at ha
      obtain ⟨d1, d2, d3⟩ := drop_do hc ha
      constructor
      · show doNext (dropW d bs) (stateAt (dropW d bs) l k) (bitsV (l.getD k 0) (dropW d bs).ins.toNat) = _
        rw [h1]; exact d3
      · show (if errTo (dropW d bs) l k = 0 then errAt (dropW d bs) l k else errTo (dropW d bs) l k) = 0
        rw [if_pos h2]
        unfold errAt
        rw [h1]; exact d1
  have hE : runE (dropW d bs) l = 0 := by
    unfold runE
    rw [if_pos (drop_ok hc hck), show (dropW d bs).ins = d.ins from rfl, if_pos ht]
    exact (key _ (Nat.le_refl _)).2
  refine ⟨hE, ?_, ?_⟩
  · unfold runRows
    rw [if_pos hE, if_pos h]
    unfold rowsTo
    apply List.map_congr_left
    intro k hk
    have hk' := List.mem_range.1 hk
    have ha := errAt_of he k hk'
    unfold errAt at ha
    unfold outAt
    rw [(key k (by omega)).1]
    exact (drop_do hc ha).2.1
  · unfold runRegs
    rw [if_pos hE, if_pos h]
    exact (key _ (Nat.le_refl _)).1

/-- Folded, an instant is what it was. -/
theorem fold_do {d : NetD} (h : checkE d = 0) (r i : List Int) : doE (foldD d) r i = doE d r i ∧ doOuts (foldD d) r i = doOuts d r i ∧ doNext (foldD d) r i = doNext d r i := by
  have e0 : doE (foldD d) r i = doE d r i := by unfold doE; rw [fold_step h, fold_lfp]
  refine ⟨e0, ?_, ?_⟩
  · unfold doOuts; rw [e0, fold_lfp]; rfl
  · unfold doNext; rw [e0, fold_lfp]; rfl
theorem fold_run {d : NetD} (h : checkE d = 0) (l : List Int) : runE (foldD d) l = runE d l ∧ runRows (foldD d) l = runRows d l ∧ runRegs (foldD d) l = runRegs d l := by
  have hs : ∀ k, stateAt (foldD d) l k = stateAt d l k := by
    intro k
    induction k with
    | zero => rfl
    | succ k ih =>
      show doNext (foldD d) (stateAt (foldD d) l k) (bitsV (l.getD k 0) (foldD d).ins.toNat) = _
      rw [ih]; exact (fold_do h _ _).2.2
  have ha : ∀ k, errAt (foldD d) l k = errAt d l k := fun k => by unfold errAt; rw [hs]; exact (fold_do h _ _).1
  have he : ∀ k, errTo (foldD d) l k = errTo d l k := by
    intro k
    induction k with
    | zero => rfl
    | succ k ih =>
      show (if errTo (foldD d) l k = 0 then errAt (foldD d) l k else errTo (foldD d) l k) = (if errTo d l k = 0 then errAt d l k else errTo d l k)
      rw [ih, ha]
  have hE : runE (foldD d) l = runE d l := by
    unfold runE
    rw [if_pos h, if_pos (fold_ok h), show (foldD d).ins = d.ins from rfl, he]
  refine ⟨hE, ?_, ?_⟩
  · unfold runRows
    rw [hE]
    unfold rowsTo
    split
    · apply List.map_congr_left
      intro k _
      unfold outAt; rw [hs]; exact (fold_do h _ _).2.1
    · rfl
  · unfold runRegs; rw [hE, hs]

/-- What stays is needed, by what stays: dropped once more nothing changes. -/
theorem drop_needed {d : NetD} {bs cs : List Bool} (hm : Marks d.gates (needL d) bs) (hck : checkE d = 0) (hm' : Marks (dropW d bs).gates (needL (dropW d bs)) cs) : ∀ k, k < (keptL bs).length → cs.getD k false = true := by
  have hc := clo_of hm hck
  have ho := ok_of hck
  intro j hj
  have hj' : j < (dropW d bs).gates.length := by rw [drop_len]; exact hj
  rw [hm'.2 j hj']
  -- the gate that has gone there
  have hmem : (keptL bs)[j] ∈ keptL bs := List.getElem_mem hj
  have hb := kept_mem.1 hmem
  have hkl : (keptL bs)[j] < d.gates.length := by rw [← hc.len]; exact marked_lt hb
  have hn := (hm.2 _ hkl).1 hb
  intro S h1 h2
  have key := hn (fun k => Need d.gates (needL d) k ∧ S (atN bs k)) (by
      intro x hx
      refine ⟨Need.mem hx, ?_⟩
      rcases List.mem_append.1 hx with hx | hx
      · have h3 := h1 (toV bs x.toNat) (List.mem_append_left _ (List.mem_map.2 ⟨x, hx, rfl⟩))
        rw [toV_of (hc.outs x hx), Int.toNat_natCast] at h3
        exact h3
      · obtain ⟨q, hq, rfl⟩ := List.mem_map.1 hx
        have h3 := h1 (toV bs q.2.toNat) (List.mem_append_right _ (List.mem_map.2 ⟨(q.1, toV bs q.2.toNat), List.mem_map.2 ⟨q, hq, rfl⟩, rfl⟩))
        rw [toV_of (hc.regs q hq), Int.toNat_natCast] at h3
        exact h3) (by
      intro k hkl ⟨hN, hS⟩ x hx
      refine ⟨Need.arg hkl hN hx, ?_⟩
      have hbk := (hm.2 k hkl).2 hN
      have hbx := hc.args k hkl hbk x hx
      have hat : atN bs k < (dropW d bs).gates.length := by rw [drop_len]; exact at_lt hbk
      have hg : (dropW d bs).gates[atN bs k] = dropG bs d.gates[k] := by
        have h5 := kept_at hbk
        have e1 : (dropW d bs).gates[atN bs k]? = some (dropG bs d.gates[k]) := by
          show ((keptL bs).map (fun k => dropG bs (d.gates.getD k ⟨0, 0, []⟩)))[atN bs k]? = _
          rw [List.getElem?_map, h5]
          simp [List.getD_eq_getElem?_getD, hkl]
        rw [List.getElem?_eq_getElem hat] at e1
        simpa using e1
      have h3 := h2 (atN bs k) hat hS (toV bs x.toNat) (by rw [hg]; exact List.mem_map.2 ⟨x, hx, rfl⟩)
      rw [toV_of hbx, Int.toNat_natCast] at h3
      exact h3)
  have hat : atN bs (keptL bs)[j] = j := by
    have h5 := kept_at hb
    have h6 := at_lt hb
    rw [List.getElem?_eq_getElem h6] at h5
    have h7 : (keptL bs)[atN bs (keptL bs)[j]] = (keptL bs)[j] := by simpa using h5
    have hnd : (keptL bs).Nodup := List.Pairwise.filter _ List.nodup_range
    have hp := List.pairwise_iff_getElem.1 hnd
    rcases Nat.lt_trichotomy (atN bs (keptL bs)[j]) j with h8 | h8 | h8
    · exact absurd h7 (hp _ _ h6 hj h8)
    · exact h8
    · exact absurd h7.symm (hp _ _ hj h6 h8)
  rw [← hat]
  exact key.2
theorem all_true {cs : List Bool} (h : ∀ k, k < cs.length → cs.getD k false = true) : keptL cs = List.range cs.length ∧ ∀ k, k < cs.length → toV cs k = (k : Int) := by
  have hf : ∀ n, n ≤ cs.length → (List.range n).filter (fun k => cs.getD k false) = List.range n := by
    intro n hn
    rw [List.filter_eq_self]
    intro k hk
    exact h k (by have := List.mem_range.1 hk; omega)
  refine ⟨hf _ (Nat.le_refl _), fun k hk => ?_⟩
  rw [toV_of (h k hk)]
  unfold atN
  rw [hf k (by omega)]
  simp
theorem drop_twice {d : NetD} {bs cs : List Bool} (hm : Marks d.gates (needL d) bs) (hck : checkE d = 0) (hm' : Marks (dropW d bs).gates (needL (dropW d bs)) cs) : dropW (dropW d bs) cs = dropW d bs := by
  have hcl := clo_of hm hck
  have ho := ok_of (drop_ok hcl hck)
  have hl : cs.length = (dropW d bs).gates.length := hm'.1
  obtain ⟨h1, h2⟩ := all_true (cs := cs) (fun k hk => drop_needed hm hck hm' k (by rw [← drop_len d bs, ← hl]; exact hk))
  generalize dropW d bs = D at *
  have hx : ∀ x : Int, 0 ≤ x ∧ x < D.gates.length → toV cs x.toNat = x := fun x hx => by rw [h2 x.toNat (by omega)]; omega
  have hg : (keptL cs).map (fun k => dropG cs (D.gates.getD k ⟨0, 0, []⟩)) = D.gates := by
    rw [h1]
    apply List.ext_getElem (by simp [hl])
    intro k h3 h4
    have e1 : D.gates.getD k ⟨0, 0, []⟩ = D.gates[k] := by simp [List.getD_eq_getElem?_getD, h4]
    rw [List.getElem_map, List.getElem_range, e1]
    have hgk := ho.each _ (List.getElem_mem h4)
    have ha : D.gates[k].args.map (fun x => toV cs x.toNat) = D.gates[k].args := by
      conv => rhs; rw [← List.map_id D.gates[k].args]
      exact List.map_congr_left (fun x hx' => hx x (hgk.args x hx'))
    unfold dropG
    rw [ha]
  have hr : D.regs.map (fun r => (r.1, toV cs r.2.toNat)) = D.regs := by
    conv => rhs; rw [← List.map_id D.regs]
    exact List.map_congr_left (fun r hr => by show (r.1, toV cs r.2.toNat) = r; rw [hx r.2 (ho.nexts r hr)])
  have hout : D.outs.map (fun x => toV cs x.toNat) = D.outs := by
    conv => rhs; rw [← List.map_id D.outs]
    exact List.map_congr_left (fun x hx' => hx x (ho.out x hx'))
  unfold dropW
  rw [hg, hr, hout]

/-- It does not stand there, and its args do. -/
def rdy (d : NetD) (o : List Nat) (k : Nat) : Bool := decide (k ∉ o) && (d.gates.getD k ⟨0, 0, []⟩).args.all (fun x => decide (x.toNat ∈ o))
/-- The least from k on. -/
def nxtFrom (d : NetD) (o : List Nat) (k : Nat) : Option Nat := ((List.range d.gates.length).drop k).find? (rdy d o)
def nxt (d : NetD) (o : List Nat) : Option Nat := nxtFrom d o 0
theorem nxtFrom_end (d : NetD) (o : List Nat) (k : Nat) (h : d.gates.length ≤ k) : nxtFrom d o k = none := by
  unfold nxtFrom; rw [List.drop_of_length_le (by simpa using h)]; rfl
theorem nxtFrom_step (d : NetD) (o : List Nat) (k : Nat) (h : k < d.gates.length) : nxtFrom d o k = if rdy d o k then some k else nxtFrom d o (k + 1) := by
  unfold nxtFrom
  rw [List.drop_eq_getElem_cons (by simpa using h), List.find?_cons, List.getElem_range]
  cases rdy d o k <;> rfl
theorem nxt_some {d : NetD} {o : List Nat} {k : Nat} (h : nxt d o = some k) : k < d.gates.length ∧ rdy d o k = true := by
  unfold nxt nxtFrom at h
  rw [List.drop_zero] at h
  exact ⟨List.mem_range.1 (List.mem_of_find?_eq_some h), List.find?_some h⟩
def ordTo (d : NetD) : Nat → List Nat
  | 0 => []
  | m + 1 => match nxt d (ordTo d m) with
    | some k => ordTo d m ++ [k]
    | none => ordTo d m
theorem ordTo_some {d : NetD} {m k : Nat} (h : nxt d (ordTo d m) = some k) : ordTo d (m + 1) = ordTo d m ++ [k] := by
  show (match nxt d (ordTo d m) with | some k => ordTo d m ++ [k] | none => ordTo d m) = _
  rw [h]
theorem ordTo_none {d : NetD} {m : Nat} (h : nxt d (ordTo d m) = none) : ∀ j, m ≤ j → ordTo d j = ordTo d m := by
  intro j
  induction j with
  | zero => intro hj; rw [show m = 0 by omega]
  | succ j ih =>
    intro hj
    by_cases e : m = j + 1
    · rw [e]
    · have := ih (by omega)
      show (match nxt d (ordTo d j) with | some k => ordTo d j ++ [k] | none => ordTo d j) = _
      rw [this, h]
theorem ordTo_le (d : NetD) : ∀ m, (ordTo d m).length ≤ m
  | 0 => Nat.le_refl _
  | m + 1 => by
    have := ordTo_le d m
    show (match nxt d (ordTo d m) with | some k => ordTo d m ++ [k] | none => ordTo d m).length ≤ m + 1
    cases nxt d (ordTo d m) <;> simp <;> omega
/-- Is there such an order? -/
def hasOrd (d : NetD) : Bool := decide ((ordTo d d.gates.length).length = d.gates.length)
theorem hasOrd_no {d : NetD} {m : Nat} (hm : m < d.gates.length) (h : nxt d (ordTo d m) = none) : hasOrd d = false := by
  unfold hasOrd
  rw [ordTo_none h _ (Nat.le_of_lt hm)]
  have := ordTo_le d m
  simp; omega
def orderE (d : NetD) : Int := if checkE d = 0 then (if hasOrd d then 0 else 5) else checkE d
def orderL (d : NetD) : List Int := if orderE d = 0 then (ordTo d d.gates.length).map (fun (k : Nat) => (k : Int)) else []
theorem orderE_ok {d : NetD} (h : orderE d = 0) : checkE d = 0 ∧ hasOrd d = true := by
  unfold orderE at h
  by_cases e : checkE d = 0
  · rw [if_pos e] at h
    cases h2 : hasOrd d
    · rw [h2] at h; simp at h
    · exact ⟨e, rfl⟩
  · rw [if_neg e] at h; exact absurd h e
/-- Each stands once, behind its args. -/
structure Ord (d : NetD) (o : List Nat) : Prop where
  nodup : o.Nodup
  lt : ∀ k ∈ o, k < d.gates.length
  args : ∀ i (hi : i < o.length), ∀ x ∈ (d.gates.getD o[i] ⟨0, 0, []⟩).args, x.toNat ∈ o.take i
theorem ord_to (d : NetD) : ∀ m, Ord d (ordTo d m)
  | 0 => ⟨List.nodup_nil, by simp [ordTo], by intro i hi; simp [ordTo] at hi⟩
  | m + 1 => by
    have h := ord_to d m
    cases e : nxt d (ordTo d m) with
    | none => rw [ordTo_none e (m + 1) (Nat.le_succ _)]; exact h
    | some k =>
      rw [ordTo_some e]
      obtain ⟨hk, hr⟩ := nxt_some e
      unfold rdy at hr
      simp only [Bool.and_eq_true, decide_eq_true_iff, List.all_eq_true] at hr
      refine ⟨?_, ?_, ?_⟩
      · rw [List.nodup_append]
        exact ⟨h.nodup, by simp, fun a ha b hb => by have : b = k := by simpa using hb
                                                     rw [this]; intro hh; rw [hh] at ha; exact hr.1 ha⟩
      · intro j hj
        rcases List.mem_append.1 hj with hj | hj
        · exact h.lt j hj
        · have : j = k := by simpa using hj
          rw [this]; exact hk
      · intro i hi x hx
        have hi' : i < (ordTo d m).length + 1 := by simpa using hi
        by_cases e2 : i < (ordTo d m).length
        · rw [List.getElem_append_left e2] at hx
          rw [List.take_append_of_le_length (Nat.le_of_lt e2)]
          exact h.args i e2 x hx
        · have ei : i = (ordTo d m).length := by omega
          subst ei
          rw [List.getElem_append_right (Nat.le_refl _)] at hx
          rw [List.take_append_of_le_length (Nat.le_refl _), List.take_length]
          exact hr.2 x (by simpa using hx)
theorem ord_full {d : NetD} (h : hasOrd d = true) : ∀ k, k < d.gates.length → k ∈ ordTo d d.gates.length := by
  have hl : (ordTo d d.gates.length).length = d.gates.length := by unfold hasOrd at h; simpa using h
  have ho := ord_to d d.gates.length
  intro k hk
  -- as many, each below, none twice: all of them
  have key : ∀ (n : Nat) (o : List Nat), o.Nodup → (∀ j ∈ o, j < n) → o.length = n → ∀ k, k < n → k ∈ o := by
    intro n
    induction n with
    | zero => intro o _ _ _ k hk; omega
    | succ n ih =>
      intro o hn hlt hlen k hk
      by_cases hm : n ∈ o
      · by_cases ek : k = n
        · rw [ek]; exact hm
        · have h1 : (o.erase n).Nodup := hn.erase n
          have h2 : ∀ j ∈ o.erase n, j < n := by
            intro j hj
            have hj1 := hlt j (List.mem_of_mem_erase hj)
            have : j ≠ n := fun e => by rw [e] at hj; exact (List.Nodup.not_mem_erase hn) hj
            omega
          have h3 : (o.erase n).length = n := by rw [List.length_erase_of_mem hm, hlen]; rfl
          exact List.mem_of_mem_erase (ih _ h1 h2 h3 k (by omega))
      · exfalso
        have h2 : ∀ j ∈ o, j < n := by
          intro j hj
          have := hlt j hj
          have : j ≠ n := fun e => hm (by rw [← e]; exact hj)
          omega
        -- n + 1 different ones below n
        have h5 : ∀ (n : Nat) (o : List Nat), o.Nodup → (∀ j ∈ o, j < n) → o.length ≤ n := by
          intro n
          induction n with
          | zero =>
            intro o _ hl
            cases o with
            | nil => exact Nat.le_refl _
            | cons a o => exact absurd (hl a (by simp)) (by omega)
          | succ n ih2 =>
            intro o hn hl
            by_cases hm : n ∈ o
            · have h1 := ih2 (o.erase n) (hn.erase n) (by
                intro j hj
                have hj1 := hl j (List.mem_of_mem_erase hj)
                have : j ≠ n := fun e => by rw [e] at hj; exact (List.Nodup.not_mem_erase hn) hj
                omega)
              rw [List.length_erase_of_mem hm] at h1
              omega
            · have := ih2 o hn (by
                intro j hj
                have := hl j hj
                have : j ≠ n := fun e => hm (by rw [← e]; exact hj)
                omega)
              omega
        have := h5 n o hn h2
        omega
  exact key _ _ ho.nodup ho.lt hl k hk

/-- The marks. -/
def doneL (o : List Nat) (n : Nat) : List Bool := (List.range n).map (fun k => decide (k ∈ o))
theorem doneL_len (o : List Nat) (n : Nat) : (doneL o n).length = n := by simp [doneL]
theorem doneL_nil (n : Nat) : doneL [] n = List.replicate n false := by
  apply List.ext_getElem (by simp [doneL])
  intro i h1 h2; simp [doneL]
theorem doneL_get (o : List Nat) {n k : Nat} (h : k < n) : (doneL o n).getD k false = decide (k ∈ o) := by
  simp [doneL, List.getD_eq_getElem?_getD, h]
theorem doneL_set (o : List Nat) {n k : Nat} : (doneL o n).set k true = doneL (o ++ [k]) n := by
  apply List.ext_getElem (by simp [doneL])
  intro i h1 h2
  simp only [List.getElem_set, doneL, List.getElem_map, List.getElem_range]
  by_cases e : k = i
  · subst e; simp
  · rw [if_neg e]
    have : (i ∈ o ++ [k]) = (i ∈ o) := by rw [eq_iff_iff, List.mem_append, List.mem_singleton]; exact ⟨fun h => h.resolve_right (fun h => e h.symm), Or.inl⟩
    simp only [this]

/-- A gate's value hangs on its args' alone. -/
theorem worthV_congr (g : GateD) (r i : List Int) {u v : List Int} (h : ∀ x ∈ g.args, u.getD x.toNat 2 = v.getD x.toNat 2) : worthV g r i u = worthV g r i v := by
  have hm : g.args.map (fun x => u.getD x.toNat 2) = g.args.map (fun x => v.getD x.toNat 2) := List.map_congr_left h
  unfold worthV
  rw [hm]
theorem tell_closed {d o : Int} {xs : List Int} (hd : d ≠ 2) (ho : o ≠ 2) (h : ∀ x ∈ xs, x ≠ 2) : tellV d o xs ≠ 2 := by
  unfold tellV
  split
  · exact hd
  · split
    · rename_i h2
      rw [has_true] at h2
      exact fun _ => h 2 h2 rfl
    · exact ho
theorem worth_closed {g : GateD} {r i v : List Int} {rn inn gn : Nat} (hR : Right g rn inn gn) (hr : ∀ x ∈ r, x ≠ 2) (hi : ∀ x ∈ i, x ≠ 2) (hrl : r.length = rn) (hil : i.length = inn) (hv : ∀ x ∈ g.args, v.getD x.toNat 2 = 0 ∨ v.getD x.toNat 2 = 1) : worthV g r i v ≠ 2 := by
  have hall : ∀ y ∈ g.args.map (fun x => v.getD x.toNat 2), y ≠ 2 := by
    intro y hy; obtain ⟨x, hx, rfl⟩ := List.mem_map.1 hy; have := hv x hx; omega
  have hall2 : ∀ y ∈ g.args.map (fun x => v.getD x.toNat 2), y = 0 ∨ y = 1 := by
    intro y hy; obtain ⟨x, hx, rfl⟩ := List.mem_map.1 hy; exact hv x hx
  unfold worthV
  split
  · decide
  · split
    · rename_i hk
      have h := (hR.inp hk).2
      rw [List.getD_eq_getElem?_getD, List.getElem?_eq_getElem (by omega)]
      exact hi _ (List.getElem_mem _)
    · split
      · rename_i hk
        have h := (hR.reg hk).2
        rw [List.getD_eq_getElem?_getD, List.getElem?_eq_getElem (by omega)]
        exact hr _ (List.getElem_mem _)
      · split
        · exact tell_closed (by decide) (by decide) hall
        · split
          · exact tell_closed (by decide) (by decide) hall
          · split
            · rename_i hk
              have h1 := hR.one hk
              have h2 : (g.args.map (fun x => v.getD x.toNat 2)).getD 0 2 = 0 ∨ (g.args.map (fun x => v.getD x.toNat 2)).getD 0 2 = 1 := by
                rw [List.getD_eq_getElem?_getD, List.getElem?_eq_getElem (by simp; omega)]
                exact hall2 _ (List.getElem_mem _)
              unfold not1
              rw [if_neg (by omega)]
              omega
            · decide
theorem lfp_vals (d : NetD) {r i : List Int} (hr : vals r = true) (hi : vals i = true) (k : Nat) : (lfp d r i).getD k 2 = 0 ∨ (lfp d r i).getD k 2 = 1 ∨ (lfp d r i).getD k 2 = 2 := getD_val (iter_vals d hr hi _) k
theorem lfp_at (d : NetD) (r i : List Int) (k : Nat) (hk : k < d.gates.length) : worthV d.gates[k] r i (lfp d r i) = (lfp d r i).getD k 2 := by
  have := roundV_at d r i (lfp d r i) k hk
  rw [(lfp_least d r i).fix] at this
  exact this.symm
/-- Where there is an order, and nothing that is handed in is open, nothing is. -/
theorem lfp_closed {d : NetD} (hc : checkE d = 0) (ho : hasOrd d = true) {r i : List Int} (hs : stepE d r i = 0) (hr : ∀ x ∈ r, x ≠ 2) (hi : ∀ x ∈ i, x ≠ 2) : ∀ k, k < d.gates.length → (lfp d r i).getD k 2 ≠ 2 := by
  obtain ⟨_, hrl, hil, hvr, hvi⟩ := stepE_ok hs
  have hO := ord_to d d.gates.length
  have key : ∀ m, m ≤ (ordTo d d.gates.length).length → ∀ k ∈ (ordTo d d.gates.length).take m, (lfp d r i).getD k 2 ≠ 2 := by
    intro m
    induction m with
    | zero => intro _ k hk; simp at hk
    | succ m ih =>
      intro hm k hk
      have hm' : m < (ordTo d d.gates.length).length := by omega
      rw [List.take_succ_eq_append_getElem hm'] at hk
      rcases List.mem_append.1 hk with hk | hk
      · exact ih (by omega) k hk
      · have ek : k = (ordTo d d.gates.length)[m] := by simpa using hk
        have hkl : k < d.gates.length := by rw [ek]; exact hO.lt _ (List.getElem_mem hm')
        rw [← lfp_at d r i k hkl]
        refine worth_closed (right_of hc k hkl) hr hi hrl (by omega) (fun x hx => ?_)
        have hg : d.gates.getD k ⟨0, 0, []⟩ = d.gates[k] := by simp [List.getD_eq_getElem?_getD, hkl]
        have hin := hO.args m hm' x (by rw [← ek, hg]; exact hx)
        have h1 := ih (by omega) _ hin
        have h2 := lfp_vals d hvr hvi x.toNat
        omega
  intro k hk
  refine key _ (Nat.le_refl _) k ?_
  rw [List.take_length]
  exact ord_full ho k hk
/-- Reckoned in the order, each gate's value is what is settled. -/
theorem order_next {d : NetD} {r i u : List Int} {m : Nat} (hm : m < (ordTo d d.gates.length).length) (h : ∀ k ∈ (ordTo d d.gates.length).take m, u.getD k 2 = (lfp d r i).getD k 2) :
    worthV (d.gates.getD (ordTo d d.gates.length)[m] ⟨0, 0, []⟩) r i u = (lfp d r i).getD (ordTo d d.gates.length)[m] 2 := by
  have hO := ord_to d d.gates.length
  have hkl := hO.lt _ (List.getElem_mem hm)
  have hg : d.gates.getD (ordTo d d.gates.length)[m] ⟨0, 0, []⟩ = d.gates[(ordTo d d.gates.length)[m]] := by simp [List.getD_eq_getElem?_getD, hkl]
  rw [← lfp_at d r i _ hkl, hg]
  exact worthV_congr _ r i (fun x hx => h _ (hO.args m hm x (by rw [hg]; exact hx)))
end Go.Proofs.YtongajonecgdpagGreatDoor
