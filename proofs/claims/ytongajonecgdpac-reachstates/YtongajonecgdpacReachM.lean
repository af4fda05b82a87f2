/- What is reached (plain): state by state, for each number of inputs, what comes by Do, if it is new. -/
import Derived.Test.YtongajonecgdpacTickM
namespace Go.Proofs.Ytongajonecgdpac
open Go.RowKit

structure St where
  sts : List (List Int)
  ws : List (List Int)
  err : Int
  way : List Int

def nextS (d : NetD) (s : St) (k x : Nat) : List Int := doNext d (s.sts.getD k []) (bitsV x d.ins.toNat)
def errS (d : NetD) (s : St) (k x : Nat) : Int := doE d (s.sts.getD k []) (bitsV x d.ins.toNat)
def wayS (s : St) (k x : Nat) : List Int := s.ws.getD k [] ++ [(x : Int)]
def visit (d : NetD) (k x : Nat) (s : St) : St :=
  if s.err ≠ 0 then s
  else if errS d s k x ≠ 0 then { s with err := errS d s k x, way := wayS s k x }
  else if nextS d s k x ∈ s.sts then s
  else if s.sts.length = 64 then { s with err := 2, way := [] }
  else { s with sts := s.sts ++ [nextS d s k x], ws := s.ws ++ [wayS s k x] }
def visitTo (d : NetD) (k : Nat) (s : St) : Nat → St
  | 0 => s
  | x + 1 => visit d k x (visitTo d k s x)
def reach0 (d : NetD) : St := ⟨[begins d], [[]], 0, []⟩
def reachTo (d : NetD) : Nat → St
  | 0 => reach0 d
  | k + 1 => if k < (reachTo d k).sts.length then visitTo d k (reachTo d k) (2 ^ d.ins.toNat) else reachTo d k
def reachAll (d : NetD) : St := reachTo d 64

theorem visit_stop {d : NetD} {k x : Nat} {s : St} (h : s.err ≠ 0) : visit d k x s = s := by unfold visit; rw [if_pos h]
theorem visitTo_stop {d : NetD} {k : Nat} {s : St} {x : Nat} (h : (visitTo d k s x).err ≠ 0) : ∀ m, x ≤ m → visitTo d k s m = visitTo d k s x := by
  intro m
  induction m with
  | zero => intro hm; rw [show x = 0 by omega]
  | succ m ih =>
    intro hm
    by_cases e : x = m + 1
    · rw [e]
    · have := ih (by omega)
      show visit d k m (visitTo d k s m) = _
      rw [this, visit_stop h]
theorem visitTo_of_stop {d : NetD} {k : Nat} {s : St} (h : s.err ≠ 0) (m : Nat) : visitTo d k s m = s := visitTo_stop (x := 0) h m (Nat.zero_le _)
theorem reachTo_stop {d : NetD} {k : Nat} (h : (reachTo d k).err ≠ 0) : ∀ m, k ≤ m → reachTo d m = reachTo d k := by
  intro m
  induction m with
  | zero => intro hm; rw [show k = 0 by omega]
  | succ m ih =>
    intro hm
    by_cases e : k = m + 1
    · rw [e]
    · have := ih (by omega)
      show (if m < (reachTo d m).sts.length then visitTo d m (reachTo d m) (2 ^ d.ins.toNat) else reachTo d m) = _
      rw [this]
      by_cases hl : m < (reachTo d k).sts.length
      · rw [if_pos hl, visitTo_of_stop h]
      · rw [if_neg hl]
theorem reachTo_end {d : NetD} {k : Nat} (h : (reachTo d k).sts.length ≤ k) : ∀ m, k ≤ m → reachTo d m = reachTo d k := by
  intro m
  induction m with
  | zero => intro hm; rw [show k = 0 by omega]
  | succ m ih =>
    intro hm
    by_cases e : k = m + 1
    · rw [e]
    · have := ih (by omega)
      show (if m < (reachTo d m).sts.length then visitTo d m (reachTo d m) (2 ^ d.ins.toNat) else reachTo d m) = _
      rw [this, if_neg (by omega)]

theorem visit_more (d : NetD) (k x : Nat) (s : St) : ∃ t u, (visit d k x s).sts = s.sts ++ t ∧ (visit d k x s).ws = s.ws ++ u ∧ t.length = u.length := by
  unfold visit
  split
  · exact ⟨[], [], by simp, by simp, rfl⟩
  · split
    · exact ⟨[], [], by simp, by simp, rfl⟩
    · split
      · exact ⟨[], [], by simp, by simp, rfl⟩
      · split
        · exact ⟨[], [], by simp, by simp, rfl⟩
        · exact ⟨_, _, rfl, rfl, rfl⟩
theorem visitTo_more (d : NetD) (k : Nat) (s : St) : ∀ x, ∃ t u, (visitTo d k s x).sts = s.sts ++ t ∧ (visitTo d k s x).ws = s.ws ++ u ∧ t.length = u.length
  | 0 => ⟨[], [], by simp [visitTo], by simp [visitTo], rfl⟩
  | x + 1 => by
    obtain ⟨t, u, h1, h2, h3⟩ := visitTo_more d k s x
    obtain ⟨t', u', h1', h2', h3'⟩ := visit_more d k x (visitTo d k s x)
    exact ⟨t ++ t', u ++ u', by show (visit d k x (visitTo d k s x)).sts = _; rw [h1', h1, List.append_assoc], by show (visit d k x (visitTo d k s x)).ws = _; rw [h2', h2, List.append_assoc], by simp [h3, h3']⟩
theorem getD_more {α : Type} {l m t : List α} {z : α} (h : m = l ++ t) {k : Nat} (hk : k < l.length) : m.getD k z = l.getD k z := by
  rw [h]; simp [List.getD_eq_getElem?_getD, List.getElem?_append_left hk]
theorem visit_ok {d : NetD} {k x : Nat} {s : St} (h : (visit d k x s).err = 0) : s.err = 0 ∧ errS d s k x = 0 ∧ nextS d s k x ∈ (visit d k x s).sts := by
  unfold visit at h ⊢
  by_cases e1 : s.err ≠ 0
  · rw [if_pos e1] at h; exact absurd h e1
  · rw [if_neg e1] at h ⊢
    by_cases e2 : errS d s k x ≠ 0
    · rw [if_pos e2] at h; exact absurd h e2
    · rw [if_neg e2] at h ⊢
      refine ⟨by simpa using e1, by simpa using e2, ?_⟩
      by_cases e3 : nextS d s k x ∈ s.sts
      · rw [if_pos e3]; exact e3
      · rw [if_neg e3] at h ⊢
        by_cases e4 : s.sts.length = 64
        · rw [if_pos e4] at h; simp at h
        · rw [if_neg e4]; simp
theorem visitTo_ok {d : NetD} {k : Nat} {s : St} {m : Nat} (h : (visitTo d k s m).err = 0) (x : Nat) (hx : x ≤ m) : (visitTo d k s x).err = 0 := by
  apply Classical.byContradiction
  intro hne
  rw [visitTo_stop hne m hx] at h
  exact hne h
theorem visitTo_all {d : NetD} {k : Nat} {s : St} (hk : k < s.sts.length) {m : Nat} (h : (visitTo d k s m).err = 0) (x : Nat) (hx : x < m) : errS d s k x = 0 ∧ nextS d s k x ∈ (visitTo d k s m).sts := by
  have h1 : (visit d k x (visitTo d k s x)).err = 0 := visitTo_ok h (x + 1) hx
  obtain ⟨_, h2, h3⟩ := visit_ok h1
  obtain ⟨t, u, e1, e2, _⟩ := visitTo_more d k s x
  have hg : (visitTo d k s x).sts.getD k [] = s.sts.getD k [] := getD_more e1 hk
  unfold errS at h2
  unfold nextS at h3
  rw [hg] at h2 h3
  refine ⟨h2, ?_⟩
  have h4 : ∀ m', x + 1 ≤ m' → ∃ t, (visitTo d k s m').sts = (visitTo d k s (x + 1)).sts ++ t := by
    intro m'
    induction m' with
    | zero => intro hm; omega
    | succ m' ih =>
      intro hm
      by_cases e : x + 1 = m' + 1
      · exact ⟨[], by rw [e]; simp⟩
      · obtain ⟨t1, ht1⟩ := ih (by omega)
        obtain ⟨t2, _, ht2, _, _⟩ := visit_more d k m' (visitTo d k s m')
        exact ⟨t1 ++ t2, by show (visit d k m' (visitTo d k s m')).sts = _; rw [ht2, ht1, List.append_assoc]⟩
  obtain ⟨t5, h5⟩ := h4 m hx
  rw [h5]
  exact List.mem_append_left _ h3
theorem reachTo_ok {d : NetD} {m : Nat} (h : (reachTo d m).err = 0) (k : Nat) (hk : k ≤ m) : (reachTo d k).err = 0 := by
  apply Classical.byContradiction
  intro hne
  rw [reachTo_stop hne m hk] at h
  exact hne h
/-- What is reached from the first k states is among them. -/
theorem reachTo_closed (d : NetD) : ∀ k, (reachTo d k).err = 0 → ∀ j, j < k → j < (reachTo d k).sts.length → ∀ x, x < 2 ^ d.ins.toNat → errS d (reachTo d k) j x = 0 ∧ nextS d (reachTo d k) j x ∈ (reachTo d k).sts
  | 0, _, j, hj, _, _, _ => absurd hj (by omega)
  | k + 1, h, j, hj, hl, x, hx => by
    have h0 := reachTo_ok h k (by omega)
    by_cases hlt : k < (reachTo d k).sts.length
    · have e : reachTo d (k + 1) = visitTo d k (reachTo d k) (2 ^ d.ins.toNat) := by show (if _ then _ else _) = _; rw [if_pos hlt]
      rw [e] at h hl ⊢
      obtain ⟨t, u, e1, e2, _⟩ := visitTo_more d k (reachTo d k) (2 ^ d.ins.toNat)
      have hjl : j < (reachTo d k).sts.length := by omega
      have hg : (visitTo d k (reachTo d k) (2 ^ d.ins.toNat)).sts.getD j [] = (reachTo d k).sts.getD j [] := getD_more e1 hjl
      unfold errS nextS
      rw [hg]
      by_cases hjk : j = k
      · subst hjk
        exact visitTo_all hlt h x hx
      · have := reachTo_closed d k h0 j (by omega) hjl x hx
        refine ⟨this.1, ?_⟩
        rw [e1]
        exact List.mem_append_left _ this.2
    · have e : reachTo d (k + 1) = reachTo d k := by show (if _ then _ else _) = _; rw [if_neg hlt]
      rw [e] at h hl ⊢
      exact reachTo_closed d k h j (by omega) hl x hx
theorem reachTo_more (d : NetD) : ∀ k, ∃ t u, (reachTo d k).sts = begins d :: t ∧ (reachTo d k).ws = [] :: u ∧ t.length = u.length
  | 0 => ⟨[], [], rfl, rfl, rfl⟩
  | k + 1 => by
    obtain ⟨t, u, h1, h2, h3⟩ := reachTo_more d k
    by_cases hlt : k < (reachTo d k).sts.length
    · have e : reachTo d (k + 1) = visitTo d k (reachTo d k) (2 ^ d.ins.toNat) := by show (if _ then _ else _) = _; rw [if_pos hlt]
      obtain ⟨t', u', e1, e2, e3⟩ := visitTo_more d k (reachTo d k) (2 ^ d.ins.toNat)
      exact ⟨t ++ t', u ++ u', by rw [e, e1, h1]; simp, by rw [e, e2, h2]; simp, by simp [h3, e3]⟩
    · have e : reachTo d (k + 1) = reachTo d k := by show (if _ then _ else _) = _; rw [if_neg hlt]
      rw [e]; exact ⟨t, u, h1, h2, h3⟩
theorem visit_len (d : NetD) (k x : Nat) (s : St) (h : s.sts.length ≤ 64) : (visit d k x s).sts.length ≤ 64 := by
  unfold visit
  split
  · exact h
  · split
    · exact h
    · split
      · exact h
      · split
        · exact h
        · show (s.sts ++ [_]).length ≤ 64; simp; omega
theorem visitTo_len (d : NetD) (k : Nat) (s : St) (h : s.sts.length ≤ 64) : ∀ x, (visitTo d k s x).sts.length ≤ 64
  | 0 => h
  | x + 1 => visit_len d k x _ (visitTo_len d k s h x)
theorem reachTo_len (d : NetD) : ∀ k, (reachTo d k).sts.length ≤ 64
  | 0 => by show (1 : Nat) ≤ 64; decide
  | k + 1 => by
    show (if k < (reachTo d k).sts.length then visitTo d k (reachTo d k) (2 ^ d.ins.toNat) else reachTo d k).sts.length ≤ 64
    split
    · exact visitTo_len d k _ (reachTo_len d k) _
    · exact reachTo_len d k
/-- Wherever a run ends is a state that is reached, and no run has an error of its own. -/
theorem reach_all {d : NetD} (h : (reachAll d).err = 0) (l : List Int) (hl : ∀ k (hk : k < l.length), 0 ≤ l[k] ∧ l[k] < 2 ^ d.ins.toNat) : ∀ k, k ≤ l.length → errTo d l k = 0 ∧ stateAt d l k ∈ (reachAll d).sts
  | 0, _ => ⟨rfl, by obtain ⟨t, u, h1, _⟩ := reachTo_more d 64; show begins d ∈ (reachTo d 64).sts; rw [h1]; simp⟩
  | k + 1, hk => by
    obtain ⟨h1, h2⟩ := reach_all h l hl k (by omega)
    obtain ⟨j, hj, e⟩ := List.getElem_of_mem h2
    obtain ⟨p1, p2⟩ := hl k (by omega)
    have hx : l[k].toNat < 2 ^ d.ins.toNat := by
      have h6 : ((2 ^ d.ins.toNat : Nat) : Int) = 2 ^ d.ins.toNat := by rw [Int.natCast_pow]; rfl
      omega
    have h3 := reachTo_closed d 64 h j (Nat.lt_of_lt_of_le hj (reachTo_len d 64)) hj l[k].toNat hx
    have hsj : (reachTo d 64).sts.getD j [] = stateAt d l k := by
      have hj' : j < (reachTo d 64).sts.length := hj
      rw [List.getD_eq_getElem?_getD, List.getElem?_eq_getElem hj']
      exact e
    have hxk : ((l[k].toNat : Nat) : Int) = l.getD k 0 := by
      have : l.getD k 0 = l[k] := by simp [List.getD_eq_getElem?_getD, show k < l.length by omega]
      rw [this]; omega
    unfold errS nextS at h3
    rw [hsj, hxk] at h3
    refine ⟨?_, h3.2⟩
    show (if errTo d l k = 0 then errAt d l k else errTo d l k) = 0
    rw [if_pos h1]
    exact h3.1
end Go.Proofs.Ytongajonecgdpac
