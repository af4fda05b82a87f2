/- Sweeping (plain): what may be, gate by gate; folded, each gate is settled as it was. -/
import Derived.Test.YtongajonecgdpagGreatDoorTickB
import Derived.Test.YtongajonecgdpagGreatDoorEvalM
namespace Go.Proofs.YtongajonecgdpagGreatDoor
open Go.RowKit

/-- A gate that may be in a net of n gates, rn registers, ins inputs. -/
structure GOk (n rn : Nat) (ins : Int) (g : GateD) : Prop where
  few : g.args.length ≤ 16
  args : ∀ x ∈ g.args, 0 ≤ x ∧ x < n
  kind : 0 ≤ g.kind ∧ g.kind ≤ 6
  num : numB ins rn g = true
  arg : argB g = true
structure NOk (d : NetD) : Prop where
  ins : 0 ≤ d.ins ∧ d.ins ≤ 3
  gates : d.gates.length ≤ 200
  regs : d.regs.length ≤ 20
  outs : d.outs.length ≤ 3
  each : ∀ g ∈ d.gates, GOk d.gates.length d.regs.length d.ins g
  nexts : ∀ r ∈ d.regs, 0 ≤ r.2 ∧ r.2 < d.gates.length
  out : ∀ x ∈ d.outs, 0 ≤ x ∧ x < d.gates.length
theorem check_of {d : NetD} (h : NOk d) : checkE d = 0 := by
  have c1 : countsB d = true := by
    simp only [countsB, countsTo, List.take_length, Bool.and_eq_true, decide_eq_true_iff, List.all_eq_true]
    exact ⟨⟨⟨⟨h.ins.2, h.gates⟩, h.regs⟩, h.outs⟩, fun g hg => (h.each g hg).few⟩
  have c2 : numbersB d = true := by
    simp only [numbersB, regsTo, outsTo, argsTo, argsIn, isB, List.take_length, Bool.and_eq_true, decide_eq_true_iff, List.all_eq_true]
    exact ⟨⟨⟨h.ins.1, h.nexts⟩, h.out⟩, fun g hg => (h.each g hg).args⟩
  have c3 : kindsB d = true := by
    simp only [kindsB, kindsTo, kindB, List.take_length, decide_eq_true_iff, List.all_eq_true]
    exact fun g hg => (h.each g hg).kind
  have c4 : formsB d = true := by
    simp only [formsB, formsTo, formB, List.take_length, Bool.and_eq_true, List.all_eq_true]
    exact fun g hg => ⟨(h.each g hg).num, (h.each g hg).arg⟩
  unfold checkE
  rw [if_pos c1, if_pos c2, if_pos c3, if_pos c4]
/-- The gates that stay, in their order; how many of the first k stay; where gate k goes (-1: it goes). -/
def keptL (bs : List Bool) : List Nat := (List.range bs.length).filter (fun k => bs.getD k false)
def atN (bs : List Bool) (k : Nat) : Nat := ((List.range k).filter (fun j => bs.getD j false)).length
def toV (bs : List Bool) (k : Nat) : Int := if bs.getD k false then (atN bs k : Int) else -1
theorem marked_lt {bs : List Bool} {k : Nat} (h : bs.getD k false = true) : k < bs.length := by
  rcases Nat.lt_or_ge k bs.length with h1 | h1
  · exact h1
  · rw [List.getD_eq_getElem?_getD, List.getElem?_eq_none h1] at h; simp at h
theorem range_split (k r : Nat) : List.range (k + 1 + r) = List.range k ++ (k :: (List.range r).map (· + (k + 1))) := by
  rw [List.range_add, List.range_succ, List.append_assoc]
  simp [Nat.add_comm]
theorem kept_at {bs : List Bool} {k : Nat} (h : bs.getD k false = true) : (keptL bs)[atN bs k]? = some k := by
  have hk := marked_lt h
  obtain ⟨r, hr⟩ : ∃ r, bs.length = k + 1 + r := ⟨bs.length - (k + 1), by omega⟩
  unfold keptL atN
  rw [hr, range_split, List.filter_append, List.filter_cons, if_pos h, List.getElem?_append_right (Nat.le_refl _), Nat.sub_self]
  rfl
theorem kept_mem {bs : List Bool} {k : Nat} : k ∈ keptL bs ↔ bs.getD k false = true := by
  unfold keptL
  rw [List.mem_filter, List.mem_range]
  exact ⟨fun h => h.2, fun h => ⟨marked_lt h, h⟩⟩
theorem toV_of {bs : List Bool} {k : Nat} (h : bs.getD k false = true) : toV bs k = (atN bs k : Int) := by unfold toV; rw [if_pos h]

def dropG (bs : List Bool) (g : GateD) : GateD := ⟨g.kind, g.n, g.args.map (fun x => toV bs x.toNat)⟩
def dropW (d : NetD) (bs : List Bool) : NetD :=
  { ins := d.ins, gates := (keptL bs).map (fun k => dropG bs (d.gates.getD k ⟨0, 0, []⟩)), regs := d.regs.map (fun r => (r.1, toV bs r.2.toNat)), outs := d.outs.map (fun x => toV bs x.toNat) }
/-- Who stays has his args, and what is put out and what registers take stays. -/
structure Clo (d : NetD) (bs : List Bool) : Prop where
  len : bs.length = d.gates.length
  args : ∀ k (hk : k < d.gates.length), bs.getD k false = true → ∀ x ∈ d.gates[k].args, bs.getD x.toNat false = true
  outs : ∀ x ∈ d.outs, bs.getD x.toNat false = true
  regs : ∀ r ∈ d.regs, bs.getD r.2.toNat false = true
def restr (bs : List Bool) (v : List Int) : List Int := (keptL bs).map (fun k => v.getD k 2)
theorem restr_at {bs : List Bool} (v : List Int) {k : Nat} (h : bs.getD k false = true) : (restr bs v).getD (atN bs k) 2 = v.getD k 2 := by
  unfold restr
  rw [List.getD_eq_getElem?_getD, List.getElem?_map, kept_at h]
  rfl
theorem restr_to {bs : List Bool} (v : List Int) {x : Int} (h : bs.getD x.toNat false = true) : (restr bs v).getD (toV bs x.toNat).toNat 2 = v.getD x.toNat 2 := by
  rw [toV_of h, Int.toNat_natCast, restr_at v h]
theorem worth_restr {bs : List Bool} {g : GateD} (r i v : List Int) (h : ∀ x ∈ g.args, bs.getD x.toNat false = true) : worthV (dropG bs g) r i (restr bs v) = worthV g r i v := by
  have hm : (dropG bs g).args.map (fun x => (restr bs v).getD x.toNat 2) = g.args.map (fun x => v.getD x.toNat 2) := by
    show (g.args.map (fun x => toV bs x.toNat)).map (fun x => (restr bs v).getD x.toNat 2) = _
    rw [List.map_map]
    exact List.map_congr_left (fun x hx => restr_to v (h x hx))
  unfold worthV
  rw [hm]
  rfl
theorem drop_len (d : NetD) (bs : List Bool) : (dropW d bs).gates.length = (keptL bs).length := by simp [dropW]
theorem round_restr {d : NetD} {bs : List Bool} (hc : Clo d bs) (r i v : List Int) : roundV (dropW d bs) r i (restr bs v) = restr bs (roundV d r i v) := by
  unfold roundV restr dropW
  rw [List.map_map]
  apply List.map_congr_left
  intro k hk
  have hb := kept_mem.1 hk
  have hkl : k < d.gates.length := by rw [← hc.len]; exact marked_lt hb
  have hg : d.gates.getD k ⟨0, 0, []⟩ = d.gates[k] := by simp [List.getD_eq_getElem?_getD, hkl]
  show worthV (dropG bs (d.gates.getD k ⟨0, 0, []⟩)) r i (restr bs v) = _
  rw [hg, worth_restr r i v (hc.args k hkl hb)]
  simp [List.getD_eq_getElem?_getD, hkl]
theorem iter_restr {d : NetD} {bs : List Bool} (hc : Clo d bs) (r i : List Int) : ∀ m, iterV (dropW d bs) r i m = restr bs (iterV d r i m)
  | 0 => by
    show List.replicate (dropW d bs).gates.length 2 = restr bs (List.replicate d.gates.length 2)
    rw [drop_len]
    unfold restr
    symm
    rw [List.eq_replicate_iff]
    refine ⟨by simp, fun y hy => ?_⟩
    obtain ⟨k, _, rfl⟩ := List.mem_map.1 hy
    simp only [List.getD_eq_getElem?_getD, List.getElem?_replicate]
    split <;> rfl
  | m + 1 => by
    show roundV (dropW d bs) r i (iterV (dropW d bs) r i m) = restr bs (roundV d r i (iterV d r i m))
    rw [iter_restr hc r i m, round_restr hc]
/-- It does not stand there, and its args do. -/
def rdy (d : NetD) (o : List Nat) (k : Nat) : Bool := decide (k ∉ o) && (d.gates.getD k ⟨0, 0, []⟩).args.all (fun x => decide (x.toNat ∈ o))
/-- The least from k on. -/
def nxtFrom (d : NetD) (o : List Nat) (k : Nat) : Option Nat := ((List.range d.gates.length).drop k).find? (rdy d o)
def nxt (d : NetD) (o : List Nat) : Option Nat := nxtFrom d o 0
theorem nxt_some {d : NetD} {o : List Nat} {k : Nat} (h : nxt d o = some k) : k < d.gates.length ∧ rdy d o k = true := by
  unfold nxt nxtFrom at h
  rw [List.drop_zero] at h
  exact ⟨List.mem_range.1 (List.mem_of_find?_eq_some h), List.find?_some h⟩
def ordTo (d : NetD) : Nat → List Nat
  | 0 => []
  | m + 1 => match nxt d (ordTo d m) with
    | some k => ordTo d m ++ [k]
    | none => ordTo d m
theorem ordTo_some {d : NetD} {m k : Nat} (h : nxt d (ordTo d m) = some k) : ordTo d (m + 1) = ordTo d m ++ [k] := by
  show (match nxt d (ordTo d m) with | some k => ordTo d m ++ [k] | none => ordTo d m) = _
  rw [h]
theorem ordTo_none {d : NetD} {m : Nat} (h : nxt d (ordTo d m) = none) : ∀ j, m ≤ j → ordTo d j = ordTo d m := by
  intro j
  induction j with
  | zero => intro hj; rw [show m = 0 by omega]
  | succ j ih =>
    intro hj
    by_cases e : m = j + 1
    · rw [e]
    · have := ih (by omega)
      show (match nxt d (ordTo d j) with | some k => ordTo d j ++ [k] | none => ordTo d j) = _
      rw [this, h]
/-- Is there such an order? -/
def hasOrd (d : NetD) : Bool := decide ((ordTo d d.gates.length).length = d.gates.length)
/-- Each stands once, behind its args. -/
structure Ord (d : NetD) (o : List Nat) : Prop where
  nodup : o.Nodup
  lt : ∀ k ∈ o, k < d.gates.length
  args : ∀ i (hi : i < o.length), ∀ x ∈ (d.gates.getD o[i] ⟨0, 0, []⟩).args, x.toNat ∈ o.take i
theorem ord_to (d : NetD) : ∀ m, Ord d (ordTo d m)
  | 0 => ⟨List.nodup_nil, by simp [ordTo], by intro i hi; simp [ordTo] at hi⟩
  | m + 1 => by
    have h := ord_to d m
    cases e : nxt d (ordTo d m) with
    | none => rw [ordTo_none e (m + 1) (Nat.le_succ _)]; exact h
    | some k =>
      rw [ordTo_some e]
      obtain ⟨hk, hr⟩ := nxt_some e
      unfold rdy at hr
      simp only [Bool.and_eq_true, decide_eq_true_iff, List.all_eq_true] at hr
      refine ⟨?_, ?_, ?_⟩
      · rw [List.nodup_append]
        exact ⟨h.nodup, by simp, fun a ha b hb => by have : b = k := by simpa using hb
                                                     rw [this]; intro hh; rw [hh] at ha; exact hr.1 ha⟩
      · intro j hj
        rcases List.mem_append.1 hj with hj | hj
        · exact h.lt j hj
        · have : j = k := by simpa using hj
          rw [this]; exact hk
      · intro i hi x hx
        have hi' : i < (ordTo d m).length + 1 := by simpa using hi
        by_cases e2 : i < (ordTo d m).length
        · rw [List.getElem_append_left e2] at hx
          rw [List.take_append_of_le_length (Nat.le_of_lt e2)]
          exact h.args i e2 x hx
        · have ei : i = (ordTo d m).length := by omega
          subst ei
          rw [List.getElem_append_right (Nat.le_refl _)] at hx
          rw [List.take_append_of_le_length (Nat.le_refl _), List.take_length]
          exact hr.2 x (by simpa using hx)
theorem ord_full {d : NetD} (h : hasOrd d = true) : ∀ k, k < d.gates.length → k ∈ ordTo d d.gates.length := by
  have hl : (ordTo d d.gates.length).length = d.gates.length := by unfold hasOrd at h; simpa using h
  have ho := ord_to d d.gates.length
  intro k hk
  -- as many, each below, none twice: all of them
  have key : ∀ (n : Nat) (o : List Nat), o.Nodup → (∀ j ∈ o, j < n) → o.length = n → ∀ k, k < n → k ∈ o := by
    intro n
    induction n with
    | zero => intro o _ _ _ k hk; omega
    | succ n ih =>
      intro o hn hlt hlen k hk
      by_cases hm : n ∈ o
      · by_cases ek : k = n
        · rw [ek]; exact hm
        · have h1 : (o.erase n).Nodup := hn.erase n
          have h2 : ∀ j ∈ o.erase n, j < n := by
            intro j hj
            have hj1 := hlt j (List.mem_of_mem_erase hj)
            have : j ≠ n := fun e => by rw [e] at hj; exact (List.Nodup.not_mem_erase hn) hj
            omega
          have h3 : (o.erase n).length = n := by rw [List.length_erase_of_mem hm, hlen]; rfl
          exact List.mem_of_mem_erase (ih _ h1 h2 h3 k (by omega))
      · exfalso
        have h2 : ∀ j ∈ o, j < n := by
          intro j hj
          have := hlt j hj
          have : j ≠ n := fun e => hm (by rw [← e]; exact hj)
          omega
        -- n + 1 different ones below n
        have h5 : ∀ (n : Nat) (o : List Nat), o.Nodup → (∀ j ∈ o, j < n) → o.length ≤ n := by
          intro n
          induction n with
          | zero =>
            intro o _ hl
            cases o with
            | nil => exact Nat.le_refl _
            | cons a o => exact absurd (hl a (by simp)) (by omega)
          | succ n ih2 =>
            intro o hn hl
            by_cases hm : n ∈ o
            · have h1 := ih2 (o.erase n) (hn.erase n) (by
                intro j hj
                have hj1 := hl j (List.mem_of_mem_erase hj)
                have : j ≠ n := fun e => by rw [e] at hj; exact (List.Nodup.not_mem_erase hn) hj
                omega)
              rw [List.length_erase_of_mem hm] at h1
              omega
            · have := ih2 o hn (by
                intro j hj
                have := hl j hj
                have : j ≠ n := fun e => hm (by rw [← e]; exact hj)
                omega)
              omega
        have := h5 n o hn h2
        omega
  exact key _ _ ho.nodup ho.lt hl k hk

theorem tell_closed {d o : Int} {xs : List Int} (hd : d ≠ 2) (ho : o ≠ 2) (h : ∀ x ∈ xs, x ≠ 2) : tellV d o xs ≠ 2 := by
  unfold tellV
  split
  · exact hd
  · split
    · rename_i h2
      rw [has_true] at h2
      exact fun _ => h 2 h2 rfl
    · exact ho
theorem worth_closed {g : GateD} {r i v : List Int} {rn inn gn : Nat} (hR : Right g rn inn gn) (hr : ∀ x ∈ r, x ≠ 2) (hi : ∀ x ∈ i, x ≠ 2) (hrl : r.length = rn) (hil : i.length = inn) (hv : ∀ x ∈ g.args, v.getD x.toNat 2 = 0 ∨ v.getD x.toNat 2 = 1) : worthV g r i v ≠ 2 := by
  have hall : ∀ y ∈ g.args.map (fun x => v.getD x.toNat 2), y ≠ 2 := by
    intro y hy; obtain ⟨x, hx, rfl⟩ := List.mem_map.1 hy; have := hv x hx; omega
  have hall2 : ∀ y ∈ g.args.map (fun x => v.getD x.toNat 2), y = 0 ∨ y = 1 := by
    intro y hy; obtain ⟨x, hx, rfl⟩ := List.mem_map.1 hy; exact hv x hx
  unfold worthV
  split
  · decide
  · split
    · rename_i hk
      have h := (hR.inp hk).2
      rw [List.getD_eq_getElem?_getD, List.getElem?_eq_getElem (by omega)]
      exact hi _ (List.getElem_mem _)
    · split
      · rename_i hk
        have h := (hR.reg hk).2
        rw [List.getD_eq_getElem?_getD, List.getElem?_eq_getElem (by omega)]
        exact hr _ (List.getElem_mem _)
      · split
        · exact tell_closed (by decide) (by decide) hall
        · split
          · exact tell_closed (by decide) (by decide) hall
          · split
            · rename_i hk
              have h1 := hR.one hk
              have h2 : (g.args.map (fun x => v.getD x.toNat 2)).getD 0 2 = 0 ∨ (g.args.map (fun x => v.getD x.toNat 2)).getD 0 2 = 1 := by
                rw [List.getD_eq_getElem?_getD, List.getElem?_eq_getElem (by simp; omega)]
                exact hall2 _ (List.getElem_mem _)
              unfold not1
              rw [if_neg (by omega)]
              omega
            · decide
theorem lfp_vals (d : NetD) {r i : List Int} (hr : vals r = true) (hi : vals i = true) (k : Nat) : (lfp d r i).getD k 2 = 0 ∨ (lfp d r i).getD k 2 = 1 ∨ (lfp d r i).getD k 2 = 2 := getD_val (iter_vals d hr hi _) k
theorem lfp_at (d : NetD) (r i : List Int) (k : Nat) (hk : k < d.gates.length) : worthV d.gates[k] r i (lfp d r i) = (lfp d r i).getD k 2 := by
  have := roundV_at d r i (lfp d r i) k hk
  rw [(lfp_least d r i).fix] at this
  exact this.symm
/-- Where there is an order, and nothing that is handed in is open, nothing is. -/
theorem lfp_closed {d : NetD} (hc : checkE d = 0) (ho : hasOrd d = true) {r i : List Int} (hs : stepE d r i = 0) (hr : ∀ x ∈ r, x ≠ 2) (hi : ∀ x ∈ i, x ≠ 2) : ∀ k, k < d.gates.length → (lfp d r i).getD k 2 ≠ 2 := by
  obtain ⟨_, hrl, hil, hvr, hvi⟩ := stepE_ok hs
  have hO := ord_to d d.gates.length
  have key : ∀ m, m ≤ (ordTo d d.gates.length).length → ∀ k ∈ (ordTo d d.gates.length).take m, (lfp d r i).getD k 2 ≠ 2 := by
    intro m
    induction m with
    | zero => intro _ k hk; simp at hk
    | succ m ih =>
      intro hm k hk
      have hm' : m < (ordTo d d.gates.length).length := by omega
      rw [List.take_succ_eq_append_getElem hm'] at hk
      rcases List.mem_append.1 hk with hk | hk
      · exact ih (by omega) k hk
      · have ek : k = (ordTo d d.gates.length)[m] := by simpa using hk
        have hkl : k < d.gates.length := by rw [ek]; exact hO.lt _ (List.getElem_mem hm')
        rw [← lfp_at d r i k hkl]
        refine worth_closed (right_of hc k hkl) hr hi hrl (by omega) (fun x hx => ?_)
        have hg : d.gates.getD k ⟨0, 0, []⟩ = d.gates[k] := by simp [List.getD_eq_getElem?_getD, hkl]
        have hin := hO.args m hm' x (by rw [← ek, hg]; exact hx)
        have h1 := ih (by omega) _ hin
        have h2 := lfp_vals d hvr hvi x.toNat
        omega
  intro k hk
  refine key _ (Nat.le_refl _) k ?_
  rw [List.take_length]
  exact ord_full ho k hk
end Go.Proofs.YtongajonecgdpagGreatDoor
