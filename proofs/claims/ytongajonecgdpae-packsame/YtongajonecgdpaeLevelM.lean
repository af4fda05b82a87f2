/- Levels (plain): always the least one next whose args all stand there. -/
import Derived.Test.YtongajonecgdpaeSweepM
import Derived.Test.YtongajonecgdpaeEvalR
namespace Go.Proofs.Ytongajonecgdpae
open Go.RowKit

/-- It does not stand there, and its args do. -/
def rdy (d : NetD) (o : List Nat) (k : Nat) : Bool := decide (k ∉ o) && (d.gates.getD k ⟨0, 0, []⟩).args.all (fun x => decide (x.toNat ∈ o))
/-- The least from k on. -/
def nxtFrom (d : NetD) (o : List Nat) (k : Nat) : Option Nat := ((List.range d.gates.length).drop k).find? (rdy d o)
def nxt (d : NetD) (o : List Nat) : Option Nat := nxtFrom d o 0
theorem nxtFrom_end (d : NetD) (o : List Nat) (k : Nat) (h : d.gates.length ≤ k) : nxtFrom d o k = none := by
  unfold nxtFrom; rw [List.drop_of_length_le (by simpa using h)]; rfl
theorem nxtFrom_step (d : NetD) (o : List Nat) (k : Nat) (h : k < d.gates.length) : nxtFrom d o k = if rdy d o k then some k else nxtFrom d o (k + 1) := by
  unfold nxtFrom
  rw [List.drop_eq_getElem_cons (by simpa using h), List.find?_cons, List.getElem_range]
  cases rdy d o k <;> rfl
theorem nxt_some {d : NetD} {o : List Nat} {k : Nat} (h : nxt d o = some k) : k < d.gates.length ∧ rdy d o k = true := by
  unfold nxt nxtFrom at h
  rw [List.drop_zero] at h
  exact ⟨List.mem_range.1 (List.mem_of_find?_eq_some h), List.find?_some h⟩
def ordTo (d : NetD) : Nat → List Nat
  | 0 => []
  | m + 1 => match nxt d (ordTo d m) with
    | some k => ordTo d m ++ [k]
    | none => ordTo d m
theorem ordTo_some {d : NetD} {m k : Nat} (h : nxt d (ordTo d m) = some k) : ordTo d (m + 1) = ordTo d m ++ [k] := by
  show (match nxt d (ordTo d m) with | some k => ordTo d m ++ [k] | none => ordTo d m) = _
  rw [h]
theorem ordTo_none {d : NetD} {m : Nat} (h : nxt d (ordTo d m) = none) : ∀ j, m ≤ j → ordTo d j = ordTo d m := by
  intro j
  induction j with
  | zero => intro hj; rw [show m = 0 by omega]
  | succ j ih =>
    intro hj
    by_cases e : m = j + 1
    · rw [e]
    · have := ih (by omega)
      show (match nxt d (ordTo d j) with | some k => ordTo d j ++ [k] | none => ordTo d j) = _
      rw [this, h]
theorem ordTo_le (d : NetD) : ∀ m, (ordTo d m).length ≤ m
  | 0 => Nat.le_refl _
  | m + 1 => by
    have := ordTo_le d m
    show (match nxt d (ordTo d m) with | some k => ordTo d m ++ [k] | none => ordTo d m).length ≤ m + 1
    cases nxt d (ordTo d m) <;> simp <;> omega
/-- Is there such an order? -/
def hasOrd (d : NetD) : Bool := decide ((ordTo d d.gates.length).length = d.gates.length)
theorem hasOrd_no {d : NetD} {m : Nat} (hm : m < d.gates.length) (h : nxt d (ordTo d m) = none) : hasOrd d = false := by
  unfold hasOrd
  rw [ordTo_none h _ (Nat.le_of_lt hm)]
  have := ordTo_le d m
  simp; omega
def orderE (d : NetD) : Int := if checkE d = 0 then (if hasOrd d then 0 else 5) else checkE d
def orderL (d : NetD) : List Int := if orderE d = 0 then (ordTo d d.gates.length).map (fun (k : Nat) => (k : Int)) else []
theorem orderE_ok {d : NetD} (h : orderE d = 0) : checkE d = 0 ∧ hasOrd d = true := by
  unfold orderE at h
  by_cases e : checkE d = 0
  · rw [if_pos e] at h
    cases h2 : hasOrd d
    · rw [h2] at h; simp at h
    · exact ⟨e, rfl⟩
  · rw [if_neg e] at h; exact absurd h e
/-- Each stands once, behind its args. -/
structure Ord (d : NetD) (o : List Nat) : Prop where
  nodup : o.Nodup
  lt : ∀ k ∈ o, k < d.gates.length
  args : ∀ i (hi : i < o.length), ∀ x ∈ (d.gates.getD o[i] ⟨0, 0, []⟩).args, x.toNat ∈ o.take i
theorem ord_to (d : NetD) : ∀ m, Ord d (ordTo d m)
  | 0 => ⟨List.nodup_nil, by simp [ordTo], by intro i hi; simp [ordTo] at hi⟩
  | m + 1 => by
    have h := ord_to d m
    cases e : nxt d (ordTo d m) with
    | none => rw [ordTo_none e (m + 1) (Nat.le_succ _)]; exact h
    | some k =>
      rw [ordTo_some e]
      obtain ⟨hk, hr⟩ := nxt_some e
      unfold rdy at hr
      simp only [Bool.and_eq_true, decide_eq_true_iff, List.all_eq_true] at hr
      refine ⟨?_, ?_, ?_⟩
      · rw [List.nodup_append]
        exact ⟨h.nodup, by simp, fun a ha b hb => by have : b = k := by simpa using hb
                                                     rw [this]; intro hh; rw [hh] at ha; exact hr.1 ha⟩
      · intro j hj
        rcases List.mem_append.1 hj with hj | hj
        · exact h.lt j hj
        · have : j = k := by simpa using hj
          rw [this]; exact hk
      · intro i hi x hx
        have hi' : i < (ordTo d m).length + 1 := by simpa using hi
        by_cases e2 : i < (ordTo d m).length
        · rw [List.getElem_append_left e2] at hx
          rw [List.take_append_of_le_length (Nat.le_of_lt e2)]
          exact h.args i e2 x hx
        · have ei : i = (ordTo d m).length := by omega
          subst ei
          rw [List.getElem_append_right (Nat.le_refl _)] at hx
          rw [List.take_append_of_le_length (Nat.le_refl _), List.take_length]
          exact hr.2 x (by simpa using hx)
theorem ord_full {d : NetD} (h : hasOrd d = true) : ∀ k, k < d.gates.length → k ∈ ordTo d d.gates.length := by
  have hl : (ordTo d d.gates.length).length = d.gates.length := by unfold hasOrd at h; simpa using h
  have ho := ord_to d d.gates.length
  intro k hk
  -- as many, each below, none twice: all of them
  have key : ∀ (n : Nat) (o : List Nat), o.Nodup → (∀ j ∈ o, j < n) → o.length = n → ∀ k, k < n → k ∈ o := by
    intro n
    induction n with
    | zero => intro o _ _ _ k hk; omega
    | succ n ih =>
      intro o hn hlt hlen k hk
      by_cases hm : n ∈ o
      · by_cases ek : k = n
        · rw [ek]; exact hm
        · have h1 : (o.erase n).Nodup := hn.erase n
          have h2 : ∀ j ∈ o.erase n, j < n := by
            intro j hj
            have hj1 := hlt j (List.mem_of_mem_erase hj)
            have : j ≠ n := fun e => by rw [e] at hj; exact (List.Nodup.not_mem_erase hn) hj
            omega
          have h3 : (o.erase n).length = n := by rw [List.length_erase_of_mem hm, hlen]; rfl
          exact List.mem_of_mem_erase (ih _ h1 h2 h3 k (by omega))
      · exfalso
        have h2 : ∀ j ∈ o, j < n := by
          intro j hj
          have := hlt j hj
          have : j ≠ n := fun e => hm (by rw [← e]; exact hj)
          omega
        -- n + 1 different ones below n
        have h5 : ∀ (n : Nat) (o : List Nat), o.Nodup → (∀ j ∈ o, j < n) → o.length ≤ n := by
          intro n
          induction n with
          | zero =>
            intro o _ hl
            cases o with
            | nil => exact Nat.le_refl _
            | cons a o => exact absurd (hl a (by simp)) (by omega)
          | succ n ih2 =>
            intro o hn hl
            by_cases hm : n ∈ o
            · have h1 := ih2 (o.erase n) (hn.erase n) (by
                intro j hj
                have hj1 := hl j (List.mem_of_mem_erase hj)
                have : j ≠ n := fun e => by rw [e] at hj; exact (List.Nodup.not_mem_erase hn) hj
                omega)
              rw [List.length_erase_of_mem hm] at h1
              omega
            · have := ih2 o hn (by
                intro j hj
                have := hl j hj
                have : j ≠ n := fun e => hm (by rw [← e]; exact hj)
                omega)
              omega
        have := h5 n o hn h2
        omega
  exact key _ _ ho.nodup ho.lt hl k hk

/-- The marks. -/
def doneL (o : List Nat) (n : Nat) : List Bool := (List.range n).map (fun k => decide (k ∈ o))
theorem doneL_len (o : List Nat) (n : Nat) : (doneL o n).length = n := by simp [doneL]
theorem doneL_nil (n : Nat) : doneL [] n = List.replicate n false := by
  apply List.ext_getElem (by simp [doneL])
  intro i h1 h2; simp [doneL]
theorem doneL_get (o : List Nat) {n k : Nat} (h : k < n) : (doneL o n).getD k false = decide (k ∈ o) := by
  simp [doneL, List.getD_eq_getElem?_getD, h]
theorem doneL_set (o : List Nat) {n k : Nat} : (doneL o n).set k true = doneL (o ++ [k]) n := by
  apply List.ext_getElem (by simp [doneL])
  intro i h1 h2
  simp only [List.getElem_set, doneL, List.getElem_map, List.getElem_range]
  by_cases e : k = i
  · subst e; simp
  · rw [if_neg e]
    have : (i ∈ o ++ [k]) = (i ∈ o) := by rw [eq_iff_iff, List.mem_append, List.mem_singleton]; exact ⟨fun h => h.resolve_right (fun h => e h.symm), Or.inl⟩
    simp only [this]

/-- A gate's value hangs on its args' alone. -/
theorem worthV_congr (g : GateD) (r i : List Int) {u v : List Int} (h : ∀ x ∈ g.args, u.getD x.toNat 2 = v.getD x.toNat 2) : worthV g r i u = worthV g r i v := by
  have hm : g.args.map (fun x => u.getD x.toNat 2) = g.args.map (fun x => v.getD x.toNat 2) := List.map_congr_left h
  unfold worthV
  rw [hm]
theorem tell_closed {d o : Int} {xs : List Int} (hd : d ≠ 2) (ho : o ≠ 2) (h : ∀ x ∈ xs, x ≠ 2) : tellV d o xs ≠ 2 := by
  unfold tellV
  split
  · exact hd
  · split
    · rename_i h2
      rw [has_true] at h2
      exact fun _ => h 2 h2 rfl
    · exact ho
theorem worth_closed {g : GateD} {r i v : List Int} {rn inn gn : Nat} (hR : Right g rn inn gn) (hr : ∀ x ∈ r, x ≠ 2) (hi : ∀ x ∈ i, x ≠ 2) (hrl : r.length = rn) (hil : i.length = inn) (hv : ∀ x ∈ g.args, v.getD x.toNat 2 = 0 ∨ v.getD x.toNat 2 = 1) : worthV g r i v ≠ 2 := by
  have hall : ∀ y ∈ g.args.map (fun x => v.getD x.toNat 2), y ≠ 2 := by
    intro y hy; obtain ⟨x, hx, rfl⟩ := List.mem_map.1 hy; have := hv x hx; omega
  have hall2 : ∀ y ∈ g.args.map (fun x => v.getD x.toNat 2), y = 0 ∨ y = 1 := by
    intro y hy; obtain ⟨x, hx, rfl⟩ := List.mem_map.1 hy; exact hv x hx
  unfold worthV
  split
  · decide
  · split
    · rename_i hk
      have h := (hR.inp hk).2
      rw [List.getD_eq_getElem?_getD, List.getElem?_eq_getElem (by omega)]
      exact hi _ (List.getElem_mem _)
    · split
      · rename_i hk
        have h := (hR.reg hk).2
        rw [List.getD_eq_getElem?_getD, List.getElem?_eq_getElem (by omega)]
        exact hr _ (List.getElem_mem _)
      · split
        · exact tell_closed (by decide) (by decide) hall
        · split
          · exact tell_closed (by decide) (by decide) hall
          · split
            · rename_i hk
              have h1 := hR.one hk
              have h2 : (g.args.map (fun x => v.getD x.toNat 2)).getD 0 2 = 0 ∨ (g.args.map (fun x => v.getD x.toNat 2)).getD 0 2 = 1 := by
                rw [List.getD_eq_getElem?_getD, List.getElem?_eq_getElem (by simp; omega)]
                exact hall2 _ (List.getElem_mem _)
              unfold not1
              rw [if_neg (by omega)]
              omega
            · decide
theorem lfp_vals (d : NetD) {r i : List Int} (hr : vals r = true) (hi : vals i = true) (k : Nat) : (lfp d r i).getD k 2 = 0 ∨ (lfp d r i).getD k 2 = 1 ∨ (lfp d r i).getD k 2 = 2 := getD_val (iter_vals d hr hi _) k
theorem lfp_at (d : NetD) (r i : List Int) (k : Nat) (hk : k < d.gates.length) : worthV d.gates[k] r i (lfp d r i) = (lfp d r i).getD k 2 := by
  have := roundV_at d r i (lfp d r i) k hk
  rw [(lfp_least d r i).fix] at this
  exact this.symm
/-- Where there is an order, and nothing that is handed in is open, nothing is. -/
theorem lfp_closed {d : NetD} (hc : checkE d = 0) (ho : hasOrd d = true) {r i : List Int} (hs : stepE d r i = 0) (hr : ∀ x ∈ r, x ≠ 2) (hi : ∀ x ∈ i, x ≠ 2) : ∀ k, k < d.gates.length → (lfp d r i).getD k 2 ≠ 2 := by
  obtain ⟨_, hrl, hil, hvr, hvi⟩ := stepE_ok hs
  have hO := ord_to d d.gates.length
  have key : ∀ m, m ≤ (ordTo d d.gates.length).length → ∀ k ∈ (ordTo d d.gates.length).take m, (lfp d r i).getD k 2 ≠ 2 := by
    intro m
    induction m with
    | zero => intro _ k hk; simp at hk
    | succ m ih =>
      intro hm k hk
      have hm' : m < (ordTo d d.gates.length).length := by omega
      rw [List.take_succ_eq_append_getElem hm'] at hk
      rcases List.mem_append.1 hk with hk | hk
      · exact ih (by omega) k hk
      · have ek : k = (ordTo d d.gates.length)[m] := by simpa using hk
        have hkl : k < d.gates.length := by rw [ek]; exact hO.lt _ (List.getElem_mem hm')
        rw [← lfp_at d r i k hkl]
        refine worth_closed (right_of hc k hkl) hr hi hrl (by omega) (fun x hx => ?_)
        have hg : d.gates.getD k ⟨0, 0, []⟩ = d.gates[k] := by simp [List.getD_eq_getElem?_getD, hkl]
        have hin := hO.args m hm' x (by rw [← ek, hg]; exact hx)
        have h1 := ih (by omega) _ hin
        have h2 := lfp_vals d hvr hvi x.toNat
        omega
  intro k hk
  refine key _ (Nat.le_refl _) k ?_
  rw [List.take_length]
  exact ord_full ho k hk
/-- Reckoned in the order, each gate's value is what is settled. -/
theorem order_next {d : NetD} {r i u : List Int} {m : Nat} (hm : m < (ordTo d d.gates.length).length) (h : ∀ k ∈ (ordTo d d.gates.length).take m, u.getD k 2 = (lfp d r i).getD k 2) :
    worthV (d.gates.getD (ordTo d d.gates.length)[m] ⟨0, 0, []⟩) r i u = (lfp d r i).getD (ordTo d d.gates.length)[m] 2 := by
  have hO := ord_to d d.gates.length
  have hkl := hO.lt _ (List.getElem_mem hm)
  have hg : d.gates.getD (ordTo d d.gates.length)[m] ⟨0, 0, []⟩ = d.gates[(ordTo d d.gates.length)[m]] := by simp [List.getD_eq_getElem?_getD, hkl]
  rw [← lfp_at d r i _ hkl, hg]
  exact worthV_congr _ r i (fun x hx => h _ (hO.args m hm x (by rw [hg]; exact hx)))
end Go.Proofs.Ytongajonecgdpae
