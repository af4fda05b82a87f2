/- Dropping (plain): what stays is settled as it was. -/
import Derived.Test.YtongajonecgdpadSweepM
namespace Go.Proofs.Ytongajonecgdpad
open Go.RowKit

/-- The gates that stay, in their order; how many of the first k stay; where gate k goes (-1: it goes). -/
def keptL (bs : List Bool) : List Nat := (List.range bs.length).filter (fun k => bs.getD k false)
def atN (bs : List Bool) (k : Nat) : Nat := ((List.range k).filter (fun j => bs.getD j false)).length
def toV (bs : List Bool) (k : Nat) : Int := if bs.getD k false then (atN bs k : Int) else -1
theorem marked_lt {bs : List Bool} {k : Nat} (h : bs.getD k false = true) : k < bs.length := by
  rcases Nat.lt_or_ge k bs.length with h1 | h1
  · exact h1
  · rw [List.getD_eq_getElem?_getD, List.getElem?_eq_none h1] at h; simp at h
theorem atN_succ (bs : List Bool) (k : Nat) : atN bs (k + 1) = atN bs k + (if bs.getD k false then 1 else 0) := by
  unfold atN
  rw [List.range_succ, List.filter_append, List.length_append, List.filter_cons, List.filter_nil]
  cases bs.getD k false <;> rfl
theorem range_split (k r : Nat) : List.range (k + 1 + r) = List.range k ++ (k :: (List.range r).map (· + (k + 1))) := by
  rw [List.range_add, List.range_succ, List.append_assoc]
  simp [Nat.add_comm]
theorem kept_at {bs : List Bool} {k : Nat} (h : bs.getD k false = true) : (keptL bs)[atN bs k]? = some k := by
  have hk := marked_lt h
  obtain ⟨r, hr⟩ : ∃ r, bs.length = k + 1 + r := ⟨bs.length - (k + 1), by omega⟩
  unfold keptL atN
  rw [hr, range_split, List.filter_append, List.filter_cons, if_pos h, List.getElem?_append_right (Nat.le_refl _), Nat.sub_self]
  rfl
theorem kept_mem {bs : List Bool} {k : Nat} : k ∈ keptL bs ↔ bs.getD k false = true := by
  unfold keptL
  rw [List.mem_filter, List.mem_range]
  exact ⟨fun h => h.2, fun h => ⟨marked_lt h, h⟩⟩
theorem kept_len (bs : List Bool) : (keptL bs).length = atN bs bs.length := rfl
theorem kept_le (bs : List Bool) : (keptL bs).length ≤ bs.length := by
  have := List.length_filter_le (fun k => bs.getD k false) (List.range bs.length)
  simpa [keptL] using this
theorem at_lt {bs : List Bool} {k : Nat} (h : bs.getD k false = true) : atN bs k < (keptL bs).length := by
  rcases Nat.lt_or_ge (atN bs k) (keptL bs).length with h1 | h1
  · exact h1
  · have := kept_at h; rw [List.getElem?_eq_none h1] at this; simp at this
theorem toV_of {bs : List Bool} {k : Nat} (h : bs.getD k false = true) : toV bs k = (atN bs k : Int) := by unfold toV; rw [if_pos h]

def dropG (bs : List Bool) (g : GateD) : GateD := ⟨g.kind, g.n, g.args.map (fun x => toV bs x.toNat)⟩
def dropW (d : NetD) (bs : List Bool) : NetD :=
  { ins := d.ins, gates := (keptL bs).map (fun k => dropG bs (d.gates.getD k ⟨0, 0, []⟩)), regs := d.regs.map (fun r => (r.1, toV bs r.2.toNat)), outs := d.outs.map (fun x => toV bs x.toNat) }
/-- Who stays has his args, and what is put out and what registers take stays. -/
structure Clo (d : NetD) (bs : List Bool) : Prop where
  len : bs.length = d.gates.length
  args : ∀ k (hk : k < d.gates.length), bs.getD k false = true → ∀ x ∈ d.gates[k].args, bs.getD x.toNat false = true
  outs : ∀ x ∈ d.outs, bs.getD x.toNat false = true
  regs : ∀ r ∈ d.regs, bs.getD r.2.toNat false = true
def needL (d : NetD) : List Int := d.outs ++ nextsV d
theorem clo_of {d : NetD} {bs : List Bool} (h : Marks d.gates (needL d) bs) (hc : checkE d = 0) : Clo d bs := by
  have ho := ok_of hc
  have hin : ∀ x : Int, 0 ≤ x ∧ x < d.gates.length → x.toNat < d.gates.length := fun x hx => by omega
  refine ⟨h.1, ?_, ?_, ?_⟩
  · intro k hk hb x hx
    rw [h.2 x.toNat (hin x ((ho.each _ (List.getElem_mem hk)).args x hx))]
    exact Need.arg hk ((h.2 k hk).1 hb) hx
  · intro x hx
    rw [h.2 x.toNat (hin x (ho.out x hx))]
    exact Need.mem (List.mem_append_left _ hx)
  · intro r hr
    rw [h.2 r.2.toNat (hin r.2 (ho.nexts r hr))]
    exact Need.mem (List.mem_append_right _ (List.mem_map.2 ⟨r, hr, rfl⟩))
def restr (bs : List Bool) (v : List Int) : List Int := (keptL bs).map (fun k => v.getD k 2)
theorem restr_at {bs : List Bool} (v : List Int) {k : Nat} (h : bs.getD k false = true) : (restr bs v).getD (atN bs k) 2 = v.getD k 2 := by
  unfold restr
  rw [List.getD_eq_getElem?_getD, List.getElem?_map, kept_at h]
  rfl
theorem restr_to {bs : List Bool} (v : List Int) {x : Int} (h : bs.getD x.toNat false = true) : (restr bs v).getD (toV bs x.toNat).toNat 2 = v.getD x.toNat 2 := by
  rw [toV_of h, Int.toNat_natCast, restr_at v h]
theorem worth_restr {bs : List Bool} {g : GateD} (r i v : List Int) (h : ∀ x ∈ g.args, bs.getD x.toNat false = true) : worthV (dropG bs g) r i (restr bs v) = worthV g r i v := by
  have hm : (dropG bs g).args.map (fun x => (restr bs v).getD x.toNat 2) = g.args.map (fun x => v.getD x.toNat 2) := by
    show (g.args.map (fun x => toV bs x.toNat)).map (fun x => (restr bs v).getD x.toNat 2) = _
    rw [List.map_map]
    exact List.map_congr_left (fun x hx => restr_to v (h x hx))
  unfold worthV
  rw [hm]
  rfl
theorem drop_len (d : NetD) (bs : List Bool) : (dropW d bs).gates.length = (keptL bs).length := by simp [dropW]
theorem round_restr {d : NetD} {bs : List Bool} (hc : Clo d bs) (r i v : List Int) : roundV (dropW d bs) r i (restr bs v) = restr bs (roundV d r i v) := by
  unfold roundV restr dropW
  rw [List.map_map]
  apply List.map_congr_left
  intro k hk
  have hb := kept_mem.1 hk
  have hkl : k < d.gates.length := by rw [← hc.len]; exact marked_lt hb
  have hg : d.gates.getD k ⟨0, 0, []⟩ = d.gates[k] := by simp [List.getD_eq_getElem?_getD, hkl]
  show worthV (dropG bs (d.gates.getD k ⟨0, 0, []⟩)) r i (restr bs v) = _
  rw [hg, worth_restr r i v (hc.args k hkl hb)]
  simp [List.getD_eq_getElem?_getD, hkl]
theorem iter_restr {d : NetD} {bs : List Bool} (hc : Clo d bs) (r i : List Int) : ∀ m, iterV (dropW d bs) r i m = restr bs (iterV d r i m)
  | 0 => by
    show List.replicate (dropW d bs).gates.length 2 = restr bs (List.replicate d.gates.length 2)
    rw [drop_len]
    unfold restr
    symm
    rw [List.eq_replicate_iff]
    refine ⟨by simp, fun y hy => ?_⟩
    obtain ⟨k, _, rfl⟩ := List.mem_map.1 hy
    simp only [List.getD_eq_getElem?_getD, List.getElem?_replicate]
    split <;> rfl
  | m + 1 => by
    show roundV (dropW d bs) r i (iterV (dropW d bs) r i m) = restr bs (roundV d r i (iterV d r i m))
    rw [iter_restr hc r i m, round_restr hc]
/-- What stays is settled as it was. -/
theorem drop_lfp {d : NetD} {bs : List Bool} (hc : Clo d bs) (r i : List Int) : lfp (dropW d bs) r i = restr bs (lfp d r i) := by
  have hw := iter_way (dropW d bs) r i d.gates.length
  rw [iter_restr hc] at hw
  have hf : roundV (dropW d bs) r i (restr bs (lfp d r i)) = restr bs (lfp d r i) := by rw [round_restr hc, (lfp_least d r i).fix]
  exact ((hw.least hf).is).symm
theorem restr_open {bs : List Bool} {v : List Int} (hl : bs.length = v.length) (h : opens v = 0) : opens (restr bs v) = 0 := by
  unfold opens at h ⊢
  rw [List.length_eq_zero_iff, List.filter_eq_nil_iff] at h ⊢
  intro x hx
  obtain ⟨k, hk, rfl⟩ := List.mem_map.1 hx
  have hkl : k < v.length := by rw [← hl]; exact marked_lt (kept_mem.1 hk)
  rw [List.getD_eq_getElem?_getD, List.getElem?_eq_getElem hkl]
  exact h _ (List.getElem_mem hkl)
theorem pick_restr {bs : List Bool} {v : List Int} (hl : bs.length = v.length) (l : List Int) (h : ∀ x ∈ l, bs.getD x.toNat false = true) : pickV (restr bs v) (l.map (fun x => toV bs x.toNat)) = pickV v l := by
  unfold pickV
  rw [List.map_map]
  apply List.map_congr_left
  intro x hx
  have hb := h x hx
  have h1 := at_lt hb
  have h2 : x.toNat < v.length := by rw [← hl]; exact marked_lt hb
  have h3 := restr_to v hb
  show (restr bs v).getD (toV bs x.toNat).toNat 0 = v.getD x.toNat 0
  rw [toV_of hb, Int.toNat_natCast] at h3 ⊢
  have h4 : atN bs x.toNat < (restr bs v).length := by simpa [restr] using h1
  simp only [List.getD_eq_getElem?_getD, List.getElem?_eq_getElem h4, List.getElem?_eq_getElem h2, Option.getD_some] at h3 ⊢
  exact h3
theorem drop_ok {d : NetD} {bs : List Bool} (hc : Clo d bs) (h : checkE d = 0) : checkE (dropW d bs) = 0 := by
  have ho := ok_of h
  apply check_of
  have hin : ∀ x : Int, bs.getD x.toNat false = true → 0 ≤ toV bs x.toNat ∧ toV bs x.toNat < ((dropW d bs).gates.length : Int) := by
    intro x hb
    rw [toV_of hb, drop_len]
    have := at_lt hb
    omega
  refine ⟨ho.ins, by rw [drop_len]; have := kept_le bs; have := hc.len; have := ho.gates; omega, by simp [dropW]; exact ho.regs, by simp [dropW]; exact ho.outs, ?_, ?_, ?_⟩
  · intro g hg
    obtain ⟨k, hk, rfl⟩ := List.mem_map.1 hg
    have hb := kept_mem.1 hk
    have hkl : k < d.gates.length := by rw [← hc.len]; exact marked_lt hb
    have hge : d.gates.getD k ⟨0, 0, []⟩ = d.gates[k] := by simp [List.getD_eq_getElem?_getD, hkl]
    have hgk := ho.each _ (List.getElem_mem hkl)
    rw [hge]
    refine ⟨by simpa [dropG] using hgk.few, ?_, hgk.kind, ?_, ?_⟩
    · intro x hx
      obtain ⟨y, hy, rfl⟩ := List.mem_map.1 hx
      exact hin y (hc.args k hkl hb y hy)
    · have := hgk.num
      unfold numB at this ⊢
      simpa [dropG, dropW] using this
    · have := hgk.arg
      unfold argB at this ⊢
      simpa [dropG] using this
  · intro r hr
    obtain ⟨q, hq, rfl⟩ := List.mem_map.1 hr
    exact hin q.2 (hc.regs q hq)
  · intro x hx
    obtain ⟨y, hy, rfl⟩ := List.mem_map.1 hx
    exact hin y (hc.outs y hy)
theorem drop_step {d : NetD} {bs : List Bool} (hc : Clo d bs) (h : checkE d = 0) (r i : List Int) : stepE (dropW d bs) r i = stepE d r i := by
  unfold stepE
  rw [if_pos h, if_pos (drop_ok hc h)]
  simp [dropW]
/-- Where an instant was settled, the same comes of it. -/
theorem drop_do {d : NetD} {bs : List Bool} (hc : Clo d bs) {r i : List Int} (h : doE d r i = 0) : doE (dropW d bs) r i = 0 ∧ doOuts (dropW d bs) r i = doOuts d r i ∧ doNext (dropW d bs) r i = doNext d r i := by
  obtain ⟨hs, ho⟩ := doE_ok h
  have hck := (stepE_ok hs).1
  have hl : bs.length = (lfp d r i).length := by rw [hc.len, (lfp_least d r i).len]
  have e0 : doE (dropW d bs) r i = 0 := by
    unfold doE
    rw [drop_step hc hck, if_pos hs, drop_lfp hc, if_pos (restr_open hl ho)]
  refine ⟨e0, ?_, ?_⟩
  · unfold doOuts
    rw [if_pos e0, if_pos h, drop_lfp hc]
    exact pick_restr hl _ hc.outs
  · unfold doNext
    rw [if_pos e0, if_pos h, drop_lfp hc]
    have : nextsV (dropW d bs) = (nextsV d).map (fun x => toV bs x.toNat) := by simp [nextsV, dropW]
    rw [this]
    exact pick_restr hl _ (fun x hx => by obtain ⟨q, hq, rfl⟩ := List.mem_map.1 hx; exact hc.regs q hq)
theorem drop_run {d : NetD} {bs : List Bool} (hc : Clo d bs) {l : List Int} (h : runE d l = 0) : runE (dropW d bs) l = 0 ∧ runRows (dropW d bs) l = runRows d l ∧ runRegs (dropW d bs) l = runRegs d l := by
  obtain ⟨hck, ht, he⟩ := runE_ok h
  have hb : begins (dropW d bs) = begins d := by simp [begins, dropW]
  have key : ∀ k, k ≤ l.length → stateAt (dropW d bs) l k = stateAt d l k ∧ errTo (dropW d bs) l k = 0 := by
    intro k
    induction k with
    | zero => intro _; exact ⟨hb, rfl⟩
    | succ k ih =>
      intro hk
      obtain ⟨h1, h2⟩ := ih (by omega)
      have ha := errAt_of he k (by omega)
      unfold errAt at ha
      obtain ⟨d1, d2, d3⟩ := drop_do hc ha
      constructor
      · show doNext (dropW d bs) (stateAt (dropW d bs) l k) (bitsV (l.getD k 0) (dropW d bs).ins.toNat) = _
        rw [h1]; exact d3
      · show (if errTo (dropW d bs) l k = 0 then errAt (dropW d bs) l k else errTo (dropW d bs) l k) = 0
        rw [if_pos h2]
        unfold errAt
        rw [h1]; exact d1
  have hE : runE (dropW d bs) l = 0 := by
    unfold runE
    rw [if_pos (drop_ok hc hck), show (dropW d bs).ins = d.ins from rfl, if_pos ht]
    exact (key _ (Nat.le_refl _)).2
  refine ⟨hE, ?_, ?_⟩
  · unfold runRows
    rw [if_pos hE, if_pos h]
    unfold rowsTo
    apply List.map_congr_left
    intro k hk
    have hk' := List.mem_range.1 hk
    have ha := errAt_of he k hk'
    unfold errAt at ha
    unfold outAt
    rw [(key k (by omega)).1]
    exact (drop_do hc ha).2.1
  · unfold runRegs
    rw [if_pos hE, if_pos h]
    exact (key _ (Nat.le_refl _)).1

/-- Folded, an instant is what it was. -/
theorem fold_do {d : NetD} (h : checkE d = 0) (r i : List Int) : doE (foldD d) r i = doE d r i ∧ doOuts (foldD d) r i = doOuts d r i ∧ doNext (foldD d) r i = doNext d r i := by
  have e0 : doE (foldD d) r i = doE d r i := by unfold doE; rw [fold_step h, fold_lfp]
  refine ⟨e0, ?_, ?_⟩
  · unfold doOuts; rw [e0, fold_lfp]; rfl
  · unfold doNext; rw [e0, fold_lfp]; rfl
theorem fold_run {d : NetD} (h : checkE d = 0) (l : List Int) : runE (foldD d) l = runE d l ∧ runRows (foldD d) l = runRows d l ∧ runRegs (foldD d) l = runRegs d l := by
  have hs : ∀ k, stateAt (foldD d) l k = stateAt d l k := by
    intro k
    induction k with
    | zero => rfl
    | succ k ih =>
      show doNext (foldD d) (stateAt (foldD d) l k) (bitsV (l.getD k 0) (foldD d).ins.toNat) = _
      rw [ih]; exact (fold_do h _ _).2.2
  have ha : ∀ k, errAt (foldD d) l k = errAt d l k := fun k => by unfold errAt; rw [hs]; exact (fold_do h _ _).1
  have he : ∀ k, errTo (foldD d) l k = errTo d l k := by
    intro k
    induction k with
    | zero => rfl
    | succ k ih =>
      show (if errTo (foldD d) l k = 0 then errAt (foldD d) l k else errTo (foldD d) l k) = (if errTo d l k = 0 then errAt d l k else errTo d l k)
      rw [ih, ha]
  have hE : runE (foldD d) l = runE d l := by
    unfold runE
    rw [if_pos h, if_pos (fold_ok h), show (foldD d).ins = d.ins from rfl, he]
  refine ⟨hE, ?_, ?_⟩
  · unfold runRows
    rw [hE]
    unfold rowsTo
    split
    · apply List.map_congr_left
      intro k _
      unfold outAt; rw [hs]; exact (fold_do h _ _).2.1
    · rfl
  · unfold runRegs; rw [hE, hs]

/-- What stays is needed, by what stays: dropped once more nothing changes. -/
theorem drop_needed {d : NetD} {bs cs : List Bool} (hm : Marks d.gates (needL d) bs) (hck : checkE d = 0) (hm' : Marks (dropW d bs).gates (needL (dropW d bs)) cs) : ∀ k, k < (keptL bs).length → cs.getD k false = true := by
  have hc := clo_of hm hck
  have ho := ok_of hck
  intro j hj
  have hj' : j < (dropW d bs).gates.length := by rw [drop_len]; exact hj
  rw [hm'.2 j hj']
  -- the gate that has gone there
  have hmem : (keptL bs)[j] ∈ keptL bs := List.getElem_mem hj
  have hb := kept_mem.1 hmem
  have hkl : (keptL bs)[j] < d.gates.length := by rw [← hc.len]; exact marked_lt hb
  have hn := (hm.2 _ hkl).1 hb
  intro S h1 h2
  have key := hn (fun k => Need d.gates (needL d) k ∧ S (atN bs k)) (by
      intro x hx
      refine ⟨Need.mem hx, ?_⟩
      rcases List.mem_append.1 hx with hx | hx
      · have h3 := h1 (toV bs x.toNat) (List.mem_append_left _ (List.mem_map.2 ⟨x, hx, rfl⟩))
        rw [toV_of (hc.outs x hx), Int.toNat_natCast] at h3
        exact h3
      · obtain ⟨q, hq, rfl⟩ := List.mem_map.1 hx
        have h3 := h1 (toV bs q.2.toNat) (List.mem_append_right _ (List.mem_map.2 ⟨(q.1, toV bs q.2.toNat), List.mem_map.2 ⟨q, hq, rfl⟩, rfl⟩))
        rw [toV_of (hc.regs q hq), Int.toNat_natCast] at h3
        exact h3) (by
      intro k hkl ⟨hN, hS⟩ x hx
      refine ⟨Need.arg hkl hN hx, ?_⟩
      have hbk := (hm.2 k hkl).2 hN
      have hbx := hc.args k hkl hbk x hx
      have hat : atN bs k < (dropW d bs).gates.length := by rw [drop_len]; exact at_lt hbk
      have hg : (dropW d bs).gates[atN bs k] = dropG bs d.gates[k] := by
        have h5 := kept_at hbk
        have e1 : (dropW d bs).gates[atN bs k]? = some (dropG bs d.gates[k]) := by
          show ((keptL bs).map (fun k => dropG bs (d.gates.getD k ⟨0, 0, []⟩)))[atN bs k]? = _
          rw [List.getElem?_map, h5]
          simp [List.getD_eq_getElem?_getD, hkl]
        rw [List.getElem?_eq_getElem hat] at e1
        simpa using e1
      have h3 := h2 (atN bs k) hat hS (toV bs x.toNat) (by rw [hg]; exact List.mem_map.2 ⟨x, hx, rfl⟩)
      rw [toV_of hbx, Int.toNat_natCast] at h3
      exact h3)
  have hat : atN bs (keptL bs)[j] = j := by
    have h5 := kept_at hb
    have h6 := at_lt hb
    rw [List.getElem?_eq_getElem h6] at h5
    have h7 : (keptL bs)[atN bs (keptL bs)[j]] = (keptL bs)[j] := by simpa using h5
    have hnd : (keptL bs).Nodup := List.Pairwise.filter _ List.nodup_range
    have hp := List.pairwise_iff_getElem.1 hnd
    rcases Nat.lt_trichotomy (atN bs (keptL bs)[j]) j with h8 | h8 | h8
    · exact absurd h7 (hp _ _ h6 hj h8)
    · exact h8
    · exact absurd h7.symm (hp _ _ hj h6 h8)
  rw [← hat]
  exact key.2
theorem all_true {cs : List Bool} (h : ∀ k, k < cs.length → cs.getD k false = true) : keptL cs = List.range cs.length ∧ ∀ k, k < cs.length → toV cs k = (k : Int) := by
  have hf : ∀ n, n ≤ cs.length → (List.range n).filter (fun k => cs.getD k false) = List.range n := by
    intro n hn
    rw [List.filter_eq_self]
    intro k hk
    exact h k (by have := List.mem_range.1 hk; omega)
  refine ⟨hf _ (Nat.le_refl _), fun k hk => ?_⟩
  rw [toV_of (h k hk)]
  unfold atN
  rw [hf k (by omega)]
  simp
theorem drop_twice {d : NetD} {bs cs : List Bool} (hm : Marks d.gates (needL d) bs) (hck : checkE d = 0) (hm' : Marks (dropW d bs).gates (needL (dropW d bs)) cs) : dropW (dropW d bs) cs = dropW d bs := by
  have hcl := clo_of hm hck
  have ho := ok_of (drop_ok hcl hck)
  have hl : cs.length = (dropW d bs).gates.length := hm'.1
  obtain ⟨h1, h2⟩ := all_true (cs := cs) (fun k hk => drop_needed hm hck hm' k (by rw [← drop_len d bs, ← hl]; exact hk))
  generalize dropW d bs = D at *
  have hx : ∀ x : Int, 0 ≤ x ∧ x < D.gates.length → toV cs x.toNat = x := fun x hx => by rw [h2 x.toNat (by omega)]; omega
  have hg : (keptL cs).map (fun k => dropG cs (D.gates.getD k ⟨0, 0, []⟩)) = D.gates := by
    rw [h1]
    apply List.ext_getElem (by simp [hl])
    intro k h3 h4
    have e1 : D.gates.getD k ⟨0, 0, []⟩ = D.gates[k] := by simp [List.getD_eq_getElem?_getD, h4]
    rw [List.getElem_map, List.getElem_range, e1]
    have hgk := ho.each _ (List.getElem_mem h4)
    have ha : D.gates[k].args.map (fun x => toV cs x.toNat) = D.gates[k].args := by
      conv => rhs; rw [← List.map_id D.gates[k].args]
      exact List.map_congr_left (fun x hx' => hx x (hgk.args x hx'))
    unfold dropG
    rw [ha]
  have hr : D.regs.map (fun r => (r.1, toV cs r.2.toNat)) = D.regs := by
    conv => rhs; rw [← List.map_id D.regs]
    exact List.map_congr_left (fun r hr => by show (r.1, toV cs r.2.toNat) = r; rw [hx r.2 (ho.nexts r hr)])
  have hout : D.outs.map (fun x => toV cs x.toNat) = D.outs := by
    conv => rhs; rw [← List.map_id D.outs]
    exact List.map_congr_left (fun x hx' => hx x (ho.out x hx'))
  unfold dropW
  rw [hg, hr, hout]
end Go.Proofs.Ytongajonecgdpad
