/- What is reached (plain): state by state, for each number of inputs, what comes by Do, if it is new. -/
import Derived.Test.YtccokpnmdfalpaaGreatDoorTickB
import Derived.Test.YtccokpnmdfalpaaGreatDoorTickP
import Derived.Maps.OwnSet
namespace Go.Proofs.YtccokpnmdfalpaaGreatDoor
open Go.RowKit

structure St where
  sts : List (List Int)
  ws : List (List Int)
  err : Int
  way : List Int

def nextS (d : NetD) (s : St) (k x : Nat) : List Int := doNext d (s.sts.getD k []) (bitsV x d.ins.toNat)
def errS (d : NetD) (s : St) (k x : Nat) : Int := doE d (s.sts.getD k []) (bitsV x d.ins.toNat)
def wayS (s : St) (k x : Nat) : List Int := s.ws.getD k [] ++ [(x : Int)]
def visit (d : NetD) (k x : Nat) (s : St) : St :=
  if s.err ≠ 0 then s
  else if errS d s k x ≠ 0 then { s with err := errS d s k x, way := wayS s k x }
  else if nextS d s k x ∈ s.sts then s
  else if s.sts.length = 64 then { s with err := 2, way := [] }
  else { s with sts := s.sts ++ [nextS d s k x], ws := s.ws ++ [wayS s k x] }
def visitTo (d : NetD) (k : Nat) (s : St) : Nat → St
  | 0 => s
  | x + 1 => visit d k x (visitTo d k s x)
def reach0 (d : NetD) : St := ⟨[begins d], [[]], 0, []⟩
def reachTo (d : NetD) : Nat → St
  | 0 => reach0 d
  | k + 1 => if k < (reachTo d k).sts.length then visitTo d k (reachTo d k) (2 ^ d.ins.toNat) else reachTo d k
def reachAll (d : NetD) : St := reachTo d 64

theorem visit_stop {d : NetD} {k x : Nat} {s : St} (h : s.err ≠ 0) : visit d k x s = s := by unfold visit; rw [if_pos h]
theorem visitTo_stop {d : NetD} {k : Nat} {s : St} {x : Nat} (h : (visitTo d k s x).err ≠ 0) : ∀ m, x ≤ m → visitTo d k s m = visitTo d k s x := by
  intro m
  induction m with
  | zero => intro hm; rw [show x = 0 by omega]
  | succ m ih =>
    intro hm
    by_cases e : x = m + 1
    · rw [e]
    · have := ih (by omega)
      show visit d k m (visitTo d k s m) = _
      rw [this, visit_stop h]
theorem visitTo_of_stop {d : NetD} {k : Nat} {s : St} (h : s.err ≠ 0) (m : Nat) : visitTo d k s m = s := visitTo_stop (x := 0) h m (Nat.zero_le _)
theorem reachTo_stop {d : NetD} {k : Nat} (h : (reachTo d k).err ≠ 0) : ∀ m, k ≤ m → reachTo d m = reachTo d k := by
  intro m
  induction m with
  | zero => intro hm; rw [show k = 0 by omega]
  | succ m ih =>
    intro hm
    by_cases e : k = m + 1
    · rw [e]
    · have := ih (by omega)
      show (if m < (reachTo d m).sts.length then visitTo d m (reachTo d m) (2 ^ d.ins.toNat) else reachTo d m) = _
      rw [this]
      by_cases hl : m < (reachTo d k).sts.length
      · rw [if_pos hl, visitTo_of_stop h]
      · rw [if_neg hl]
theorem reachTo_end {d : NetD} {k : Nat} (h : (reachTo d k).sts.length ≤ k) : ∀ m, k ≤ m → reachTo d m = reachTo d k := by
  intro m
  induction m with
  | zero => intro hm; rw [show k = 0 by omega]
  | succ m ih =>
    intro hm
    by_cases e : k = m + 1
    · rw [e]
    · have := ih (by omega)
      show (if m < (reachTo d m).sts.length then visitTo d m (reachTo d m) (2 ^ d.ins.toNat) else reachTo d m) = _
      rw [this, if_neg (by omega)]

theorem visit_more (d : NetD) (k x : Nat) (s : St) : ∃ t u, (visit d k x s).sts = s.sts ++ t ∧ (visit d k x s).ws = s.ws ++ u ∧ t.length = u.length := by
  unfold visit
  split
  · exact ⟨[], [], by simp, by simp, rfl⟩
  · split
    · exact ⟨[], [], by simp, by simp, rfl⟩
    · split
      · exact ⟨[], [], by simp, by simp, rfl⟩
      · split
        · exact ⟨[], [], by simp, by simp, rfl⟩
        · exact ⟨_, _, rfl, rfl, rfl⟩
theorem visitTo_more (d : NetD) (k : Nat) (s : St) : ∀ x, ∃ t u, (visitTo d k s x).sts = s.sts ++ t ∧ (visitTo d k s x).ws = s.ws ++ u ∧ t.length = u.length
  | 0 => ⟨[], [], by simp [visitTo], by simp [visitTo], rfl⟩
  | x + 1 => by
    obtain ⟨t, u, h1, h2, h3⟩ := visitTo_more d k s x
    obtain ⟨t', u', h1', h2', h3'⟩ := visit_more d k x (visitTo d k s x)
    exact ⟨t ++ t', u ++ u', by show (visit d k x (visitTo d k s x)).sts = _; rw [h1', h1, List.append_assoc], by show (visit d k x (visitTo d k s x)).ws = _; rw [h2', h2, List.append_assoc], by simp [h3, h3']⟩
theorem getD_more {α : Type} {l m t : List α} {z : α} (h : m = l ++ t) {k : Nat} (hk : k < l.length) : m.getD k z = l.getD k z := by
  rw [h]; simp [List.getD_eq_getElem?_getD, List.getElem?_append_left hk]
theorem visit_ok {d : NetD} {k x : Nat} {s : St} (h : (visit d k x s).err = 0) : s.err = 0 ∧ errS d s k x = 0 ∧ nextS d s k x ∈ (visit d k x s).sts := by
  unfold visit at h ⊢
  by_cases e1 : s.err ≠ 0
  · rw [if_pos e1] at h; exact absurd h e1
  · rw [if_neg e1] at h ⊢
    by_cases e2 : errS d s k x ≠ 0
    · rw [if_pos e2] at h; exact absurd h e2
    · rw [if_neg e2] at h ⊢
      refine ⟨by simpa using e1, by simpa using e2, ?_⟩
      by_cases e3 : nextS d s k x ∈ s.sts
      · rw [if_pos e3]; exact e3
      · rw [if_neg e3] at h ⊢
        by_cases e4 : s.sts.length = 64
        · rw [if_pos e4] at h; simp at h
        · rw [if_neg e4]; simp
theorem visitTo_ok {d : NetD} {k : Nat} {s : St} {m : Nat} (h : (visitTo d k s m).err = 0) (x : Nat) (hx : x ≤ m) : (visitTo d k s x).err = 0 := by
  apply Classical.byContradiction
  intro hne
  rw [visitTo_stop hne m hx] at h
  exact hne h
theorem visitTo_all {d : NetD} {k : Nat} {s : St} (hk : k < s.sts.length) {m : Nat} (h : (visitTo d k s m).err = 0) (x : Nat) (hx : x < m) : errS d s k x = 0 ∧ nextS d s k x ∈ (visitTo d k s m).sts := by
  have h1 : (visit d k x (visitTo d k s x)).err = 0 := visitTo_ok h (x + 1) hx
  obtain ⟨_, h2, h3⟩ := visit_ok h1
  obtain ⟨t, u, e1, e2, _⟩ := visitTo_more d k s x
  have hg : (visitTo d k s x).sts.getD k [] = s.sts.getD k [] := getD_more e1 hk
  unfold errS at h2
  unfold nextS at h3
  rw [hg] at h2 h3
  refine ⟨h2, ?_⟩
  have h4 : ∀ m', x + 1 ≤ m' → ∃ t, (visitTo d k s m').sts = (visitTo d k s (x + 1)).sts ++ t := by
    intro m'
    induction m' with
    | zero => intro hm; omega
    | succ m' ih =>
      intro hm
      by_cases e : x + 1 = m' + 1
      · exact ⟨[], by rw [e]; simp⟩
      · obtain ⟨t1, ht1⟩ := ih (by omega)
        obtain ⟨t2, _, ht2, _, _⟩ := visit_more d k m' (visitTo d k s m')
        exact ⟨t1 ++ t2, by show (visit d k m' (visitTo d k s m')).sts = _; rw [ht2, ht1, List.append_assoc]⟩
  obtain ⟨t5, h5⟩ := h4 m hx
  rw [h5]
  exact List.mem_append_left _ h3
theorem reachTo_ok {d : NetD} {m : Nat} (h : (reachTo d m).err = 0) (k : Nat) (hk : k ≤ m) : (reachTo d k).err = 0 := by
  apply Classical.byContradiction
  intro hne
  rw [reachTo_stop hne m hk] at h
  exact hne h
/-- What is reached from the first k states is among them. -/
theorem reachTo_closed (d : NetD) : ∀ k, (reachTo d k).err = 0 → ∀ j, j < k → j < (reachTo d k).sts.length → ∀ x, x < 2 ^ d.ins.toNat → errS d (reachTo d k) j x = 0 ∧ nextS d (reachTo d k) j x ∈ (reachTo d k).sts
  | 0, _, j, hj, _, _, _ => absurd hj (by omega)
  | k + 1, h, j, hj, hl, x, hx => by
    have h0 := reachTo_ok h k (by omega)
    by_cases hlt : k < (reachTo d k).sts.length
    · have e : reachTo d (k + 1) = visitTo d k (reachTo d k) (2 ^ d.ins.toNat) := by show (if _ then _ else _) = _; rw [if_pos hlt]
      rw [e] at h hl ⊢
      obtain ⟨t, u, e1, e2, _⟩ := visitTo_more d k (reachTo d k) (2 ^ d.ins.toNat)
      have hjl : j < (reachTo d k).sts.length := by omega
      have hg : (visitTo d k (reachTo d k) (2 ^ d.ins.toNat)).sts.getD j [] = (reachTo d k).sts.getD j [] := getD_more e1 hjl
      unfold errS nextS
      rw [hg]
      by_cases hjk : j = k
      · subst hjk
        exact visitTo_all hlt h x hx
      · have := reachTo_closed d k h0 j (by omega) hjl x hx
        refine ⟨this.1, ?_⟩
        rw [e1]
        exact List.mem_append_left _ this.2
    · have e : reachTo d (k + 1) = reachTo d k := by show (if _ then _ else _) = _; rw [if_neg hlt]
      rw [e] at h hl ⊢
      exact reachTo_closed d k h j (by omega) hl x hx
theorem reachTo_more (d : NetD) : ∀ k, ∃ t u, (reachTo d k).sts = begins d :: t ∧ (reachTo d k).ws = [] :: u ∧ t.length = u.length
  | 0 => ⟨[], [], rfl, rfl, rfl⟩
  | k + 1 => by
    obtain ⟨t, u, h1, h2, h3⟩ := reachTo_more d k
    by_cases hlt : k < (reachTo d k).sts.length
    · have e : reachTo d (k + 1) = visitTo d k (reachTo d k) (2 ^ d.ins.toNat) := by show (if _ then _ else _) = _; rw [if_pos hlt]
      obtain ⟨t', u', e1, e2, e3⟩ := visitTo_more d k (reachTo d k) (2 ^ d.ins.toNat)
      exact ⟨t ++ t', u ++ u', by rw [e, e1, h1]; simp, by rw [e, e2, h2]; simp, by simp [h3, e3]⟩
    · have e : reachTo d (k + 1) = reachTo d k := by show (if _ then _ else _) = _; rw [if_neg hlt]
      rw [e]; exact ⟨t, u, h1, h2, h3⟩
theorem visit_len (d : NetD) (k x : Nat) (s : St) (h : s.sts.length ≤ 64) : (visit d k x s).sts.length ≤ 64 := by
  unfold visit
  split
  · exact h
  · split
    · exact h
    · split
      · exact h
      · split
        · exact h
        · show (s.sts ++ [_]).length ≤ 64; simp; omega
theorem visitTo_len (d : NetD) (k : Nat) (s : St) (h : s.sts.length ≤ 64) : ∀ x, (visitTo d k s x).sts.length ≤ 64
  | 0 => h
  | x + 1 => visit_len d k x _ (visitTo_len d k s h x)
theorem reachTo_len (d : NetD) : ∀ k, (reachTo d k).sts.length ≤ 64
  | 0 => by show (1 : Nat) ≤ 64; decide
  | k + 1 => by
    show (if k < (reachTo d k).sts.length then visitTo d k (reachTo d k) (2 ^ d.ins.toNat) else reachTo d k).sts.length ≤ 64
    split
    · exact visitTo_len d k _ (reachTo_len d k) _
    · exact reachTo_len d k
/-- Wherever a run ends is a state that is reached, and no run has an error of its own. -/
theorem reach_all {d : NetD} (h : (reachAll d).err = 0) (l : List Int) (hl : ∀ k (hk : k < l.length), 0 ≤ l[k] ∧ l[k] < 2 ^ d.ins.toNat) : ∀ k, k ≤ l.length → errTo d l k = 0 ∧ stateAt d l k ∈ (reachAll d).sts
  | 0, _ => ⟨rfl, by obtain ⟨t, u, h1, _⟩ := reachTo_more d 64; show begins d ∈ (reachTo d 64).sts; rw [h1]; simp⟩
  | k + 1, hk => by
    obtain ⟨h1, h2⟩ := reach_all h l hl k (by omega)
    obtain ⟨j, hj, e⟩ := List.getElem_of_mem h2
    obtain ⟨p1, p2⟩ := hl k (by omega)
    have hx : l[k].toNat < 2 ^ d.ins.toNat := by
      have h6 : ((2 ^ d.ins.toNat : Nat) : Int) = 2 ^ d.ins.toNat := by rw [Int.natCast_pow]; rfl
      omega
    have h3 := reachTo_closed d 64 h j (Nat.lt_of_lt_of_le hj (reachTo_len d 64)) hj l[k].toNat hx
    have hsj : (reachTo d 64).sts.getD j [] = stateAt d l k := by
      have hj' : j < (reachTo d 64).sts.length := hj
      rw [List.getD_eq_getElem?_getD, List.getElem?_eq_getElem hj']
      exact e
    have hxk : ((l[k].toNat : Nat) : Int) = l.getD k 0 := by
      have : l.getD k 0 = l[k] := by simp [List.getD_eq_getElem?_getD, show k < l.length by omega]
      rw [this]; omega
    unfold errS nextS at h3
    rw [hsj, hxk] at h3
    refine ⟨?_, h3.2⟩
    show (if errTo d l k = 0 then errAt d l k else errTo d l k) = 0
    rw [if_pos h1]
    exact h3.1

/-- A state: so many values, each No or Yes. -/
def IsSt (n : Nat) (x : List Int) : Prop := x.length = n ∧ ∀ y ∈ x, y = 0 ∨ y = 1
def numTo (x : List Int) : Nat → Int
  | 0 => 0
  | k + 1 => numTo x k + (if x.getD k 0 = 1 then 2 ^ k else 0)
def numV (x : List Int) : Int := numTo x x.length
theorem numTo_lt (x : List Int) : ∀ k, 0 ≤ numTo x k ∧ numTo x k < 2 ^ k
  | 0 => ⟨Int.le_refl _, by show (0 : Int) < 2 ^ 0; decide⟩
  | k + 1 => by
    have h := numTo_lt x k
    have hp : (0 : Int) < 2 ^ k := Int.pow_pos (by decide)
    have he : (2 : Int) ^ (k + 1) = 2 ^ k * 2 := Int.pow_succ 2 k
    unfold numTo
    rw [he]
    split <;> omega
theorem numTo_inj (x y : List Int) : ∀ k, numTo x k = numTo y k → ∀ i, i < k → (x.getD i 0 = 1 ↔ y.getD i 0 = 1)
  | 0, _, i, hi => absurd hi (by omega)
  | k + 1, h, i, hi => by
    have hx := numTo_lt x k
    have hy := numTo_lt y k
    have hk : (x.getD k 0 = 1 ↔ y.getD k 0 = 1) ∧ numTo x k = numTo y k := by
      unfold numTo at h
      by_cases e1 : x.getD k 0 = 1 <;> by_cases e2 : y.getD k 0 = 1
      · rw [if_pos e1, if_pos e2] at h; exact ⟨⟨fun _ => e2, fun _ => e1⟩, by omega⟩
      · rw [if_pos e1, if_neg e2] at h; omega
      · rw [if_neg e1, if_pos e2] at h; omega
      · rw [if_neg e1, if_neg e2] at h; exact ⟨⟨fun h => absurd h e1, fun h => absurd h e2⟩, by omega⟩
    by_cases e : i = k
    · rw [e]; exact hk.1
    · exact numTo_inj x y k hk.2 i (by omega)
theorem numV_inj {n : Nat} {x y : List Int} (hx : IsSt n x) (hy : IsSt n y) (h : numV x = numV y) : x = y := by
  unfold numV at h
  rw [hx.1, hy.1] at h
  apply List.ext_getElem (by rw [hx.1, hy.1])
  intro i h1 h2
  have := numTo_inj x y n h i (by have := hx.1; omega)
  simp only [List.getD_eq_getElem?_getD, List.getElem?_eq_getElem h1, List.getElem?_eq_getElem h2, Option.getD_some] at this
  have a := hx.2 _ (List.getElem_mem h1)
  have b := hy.2 _ (List.getElem_mem h2)
  rcases a with a | a <;> rcases b with b | b
  · rw [a, b]
  · have := this.2 b; omega
  · have := this.1 a; omega
  · rw [a, b]
theorem numV_le {n : Nat} {x : List Int} (hx : IsSt n x) (hn : n ≤ 20) : 0 ≤ numV x ∧ numV x < 1048576 := by
  have h := numTo_lt x x.length
  have h2 := power_le x.length (by rw [hx.1]; exact hn)
  unfold numV
  omega

theorem begins_st (d : NetD) : IsSt d.regs.length (begins d) := by
  refine ⟨by simp [begins], fun y hy => ?_⟩
  obtain ⟨r, _, rfl⟩ := List.mem_map.1 hy
  split <;> simp
theorem doNext_st {d : NetD} {regs ins : List Int} (h : doE d regs ins = 0) : IsSt d.regs.length (doNext d regs ins) := by
  refine ⟨?_, doNext_vals h⟩
  unfold doNext
  rw [if_pos h, pickV_len, nextsV_len]
theorem st_vals {n : Nat} {x : List Int} (h : IsSt n x) : vals x = true := by
  rw [vals_true]; intro y hy; have := h.2 y hy; omega
theorem bits_vals (x : Int) (n : Nat) : vals (bitsV x n) = true := by
  rw [vals_true]; intro y hy
  obtain ⟨k, _, rfl⟩ := List.mem_map.1 hy
  have := Int.emod_nonneg (x / 2 ^ k) (show (2 : Int) ≠ 0 by decide)
  have := Int.emod_lt_of_pos (x / 2 ^ k) (show (0 : Int) < 2 by decide)
  omega
theorem st_step {d : NetD} (hc : checkE d = 0) (hi : 0 ≤ d.ins) {st : List Int} (h : IsSt d.regs.length st) (x : Int) : doE d st (bitsV x d.ins.toNat) = 0 ∨ doE d st (bitsV x d.ins.toNat) = 6 := by
  have hs : stepE d st (bitsV x d.ins.toNat) = 0 := by
    unfold stepE
    rw [if_pos hc, if_pos ⟨h.1, by rw [bitsV_len]; omega⟩, st_vals h, bits_vals]
    rfl
  unfold doE
  rw [if_pos hs]
  split
  · exact Or.inl rfl
  · exact Or.inr rfl

/-- By these inputs, instant by instant and all right, one comes to that state. -/
def Goes (d : NetD) (l st : List Int) : Prop := (∀ y ∈ l, 0 ≤ y ∧ y < 2 ^ d.ins.toNat) ∧ errTo d l l.length = 0 ∧ stateAt d l l.length = st
theorem Goes.snoc {d : NetD} {l st : List Int} (h : Goes d l st) {x : Nat} (hx : x < 2 ^ d.ins.toNat) (he : doE d st (bitsV x d.ins.toNat) = 0) : Goes d (l ++ [(x : Int)]) (doNext d st (bitsV x d.ins.toNat)) := by
  obtain ⟨h1, h2, h3⟩ := h
  have hx' : (x : Int) < 2 ^ d.ins.toNat := by
    have h6 : ((2 ^ d.ins.toNat : Nat) : Int) = 2 ^ d.ins.toNat := by rw [Int.natCast_pow]; rfl
    omega
  have hl : (l ++ [(x : Int)]).length = l.length + 1 := by simp
  have hs : stateAt d (l ++ [(x : Int)]) l.length = st := by rw [stateAt_snoc d l x l.length (Nat.le_refl _)]; exact h3
  have ha : errAt d (l ++ [(x : Int)]) l.length = 0 := by unfold errAt; rw [hs, getD_last]; exact he
  refine ⟨fun y hy => ?_, ?_, ?_⟩
  · rcases List.mem_append.1 hy with h | h
    · exact h1 y h
    · have : y = (x : Int) := by simpa using h
      rw [this]; exact ⟨by omega, hx'⟩
  · rw [hl]
    show (if errTo d (l ++ [(x : Int)]) l.length = 0 then errAt d (l ++ [(x : Int)]) l.length else errTo d (l ++ [(x : Int)]) l.length) = 0
    rw [errTo_snoc d l x l.length (Nat.le_refl _), if_pos h2, ha]
  · rw [hl]
    show doNext d (stateAt d (l ++ [(x : Int)]) l.length) (bitsV ((l ++ [(x : Int)]).getD l.length 0) d.ins.toNat) = _
    rw [hs, getD_last]

structure Inv (d : NetD) (s : St) : Prop where
  st : ∀ x ∈ s.sts, IsSt d.regs.length x
  len : s.sts.length = s.ws.length
  nodup : s.sts.Nodup
  goes : ∀ i, i < s.sts.length → Goes d (s.ws.getD i []) (s.sts.getD i [])
  err : s.err = 0 ∨ s.err = 2 ∨ s.err = 6
  way : s.err = 6 → ∃ l st, ∃ x : Nat, s.way = l ++ [(x : Int)] ∧ x < 2 ^ d.ins.toNat ∧ Goes d l st ∧ doE d st (bitsV x d.ins.toNat) = 6
  none : s.err = 0 → s.way = []

theorem Inv.start (d : NetD) : Inv d (reach0 d) := by
  refine ⟨?_, rfl, ?_, ?_, Or.inl rfl, ?_, fun _ => rfl⟩
  · intro x hx
    have : x = begins d := by simpa [reach0] using hx
    rw [this]; exact begins_st d
  · simp [reach0]
  · intro i hi
    have : i = 0 := by simp [reach0] at hi; exact hi
    subst this
    exact ⟨by simp [reach0], rfl, rfl⟩
  · intro h; simp [reach0] at h
theorem inv_visit {d : NetD} (hc : checkE d = 0) (hi : 0 ≤ d.ins) {s : St} (h : Inv d s) {k x : Nat} (hk : k < s.sts.length) (hx : x < 2 ^ d.ins.toNat) : Inv d (visit d k x s) := by
  unfold visit
  by_cases e1 : s.err ≠ 0
  · rw [if_pos e1]; exact h
  rw [if_neg e1]
  have hst : IsSt d.regs.length (s.sts.getD k []) := h.st _ (by rw [List.getD_eq_getElem?_getD, List.getElem?_eq_getElem hk]; exact List.getElem_mem hk)
  have hg := h.goes k hk
  by_cases e2 : errS d s k x ≠ 0
  · rw [if_pos e2]
    have e6 : errS d s k x = 6 := by
      rcases st_step hc hi hst x with h1 | h1
      · exact absurd h1 e2
      · exact h1
    exact ⟨h.st, h.len, h.nodup, h.goes, Or.inr (Or.inr e6), fun _ => ⟨_, _, x, rfl, hx, hg, e6⟩, fun h0 => absurd h0 e2⟩
  rw [if_neg e2]
  have e2' : errS d s k x = 0 := by simpa using e2
  by_cases e3 : nextS d s k x ∈ s.sts
  · rw [if_pos e3]; exact h
  rw [if_neg e3]
  by_cases e4 : s.sts.length = 64
  · rw [if_pos e4]
    exact ⟨h.st, h.len, h.nodup, h.goes, Or.inr (Or.inl rfl), fun h6 => by simp at h6, fun h0 => by simp at h0⟩
  rw [if_neg e4]
  refine ⟨?_, by simp [h.len], ?_, ?_, h.err, h.way, h.none⟩
  · intro y hy
    rcases List.mem_append.1 hy with h1 | h1
    · exact h.st y h1
    · have : y = nextS d s k x := by simpa using h1
      rw [this]; exact doNext_st e2'
  · show (s.sts ++ [nextS d s k x]).Nodup
    rw [List.nodup_append]
    refine ⟨h.nodup, by simp, fun a ha b hb => ?_⟩
    have : b = nextS d s k x := by simpa using hb
    rw [this]; intro e; rw [e] at ha; exact e3 ha
  · intro i hi2
    have hi2' : i < s.sts.length + 1 := by simpa using hi2
    by_cases e : i < s.sts.length
    · show Goes d ((s.ws ++ [wayS s k x]).getD i []) ((s.sts ++ [nextS d s k x]).getD i [])
      rw [getD_more rfl e, getD_more rfl (by rw [← h.len]; exact e)]
      exact h.goes i e
    · have ei : i = s.sts.length := by omega
      subst ei
      have g1 : (s.sts ++ [nextS d s k x]).getD s.sts.length [] = nextS d s k x := by simp [List.getD_eq_getElem?_getD]
      have g2 : (s.ws ++ [wayS s k x]).getD s.sts.length [] = wayS s k x := by rw [h.len]; simp [List.getD_eq_getElem?_getD]
      show Goes d ((s.ws ++ [wayS s k x]).getD s.sts.length []) ((s.sts ++ [nextS d s k x]).getD s.sts.length [])
      rw [g1, g2]
      exact hg.snoc hx e2'
theorem inv_visitTo {d : NetD} (hc : checkE d = 0) (hi : 0 ≤ d.ins) {s : St} (h : Inv d s) {k : Nat} (hk : k < s.sts.length) : ∀ x, x ≤ 2 ^ d.ins.toNat → Inv d (visitTo d k s x)
  | 0, _ => h
  | x + 1, hx => by
    obtain ⟨t, u, e1, _, _⟩ := visitTo_more d k s x
    exact inv_visit hc hi (inv_visitTo hc hi h hk x (by omega)) (by rw [e1]; simp; omega) (by omega)
theorem inv_reachTo {d : NetD} (hc : checkE d = 0) (hi : 0 ≤ d.ins) : ∀ k, Inv d (reachTo d k)
  | 0 => Inv.start d
  | k + 1 => by
    show Inv d (if k < (reachTo d k).sts.length then visitTo d k (reachTo d k) (2 ^ d.ins.toNat) else reachTo d k)
    by_cases e : k < (reachTo d k).sts.length
    · rw [if_pos e]; exact inv_visitTo hc hi (inv_reachTo hc hi k) e _ (Nat.le_refl _)
    · rw [if_neg e]; exact inv_reachTo hc hi k

/-- Where the walk ends. -/
theorem reach_done {d : NetD} {k : Nat} (h : (reachTo d k).sts.length ≤ k) (hk : k ≤ 64) : reachAll d = reachTo d k := reachTo_end h 64 hk
theorem reach_next {d : NetD} {k : Nat} (h : k < (reachTo d k).sts.length) : reachTo d (k + 1) = visitTo d k (reachTo d k) (2 ^ d.ins.toNat) := by
  show (if _ then _ else _) = _; rw [if_pos h]
theorem reach_err {d : NetD} {k x : Nat} (h : k < (reachTo d k).sts.length) (hx : x < 2 ^ d.ins.toNat) (he : (visit d k x (visitTo d k (reachTo d k) x)).err ≠ 0) : reachAll d = visit d k x (visitTo d k (reachTo d k) x) := by
  have h1 : visitTo d k (reachTo d k) (2 ^ d.ins.toNat) = visit d k x (visitTo d k (reachTo d k) x) := visitTo_stop (x := x + 1) he _ hx
  have h2 := reach_next h
  have h3 : (reachTo d (k + 1)).err ≠ 0 := by rw [h2, h1]; exact he
  have hk : k + 1 ≤ 64 := by have := reachTo_len d k; omega
  show reachTo d 64 = _
  rw [reachTo_stop h3 64 hk, h2, h1]

open Go.Maps
/-- What lay in w lies in w', but for the blocks G. -/
def Kept (w w' : World) (G : List (Option Nat)) : Prop := w.heap.size ≤ w'.heap.size ∧ ∀ k, k < w.heap.size → some k ∉ G → w'.heap[k]? = w.heap[k]?
theorem Kept.of_below {w w' : World} (h : Below w.heap.size w w') (G : List (Option Nat)) : Kept w w' G := ⟨h.size, fun k hk _ => h.block k hk⟩
theorem Kept.of_grown {w w' : World} {g : Option Nat} (h : w.grownBy w' g) {G : List (Option Nat)} (hg : g ∈ G) : Kept w w' G := ⟨h.size, fun k hk hn => h.block k hk (fun e => hn (by rw [e]; exact hg))⟩
theorem Kept.trans {w w1 w2 : World} {G : List (Option Nat)} (h : Kept w w1 G) (h' : Kept w1 w2 G) : Kept w w2 G :=
  ⟨Nat.le_trans h.1 h'.1, fun k hk hn => (h'.2 k (Nat.lt_of_lt_of_le hk h.1) hn).trans (h.2 k hk hn)⟩
theorem grown_setCell (w : World) (b k : Nat) (v : Value) : w.grownBy (w.setCell ⟨b, k, none⟩ v) (some b) :=
  ⟨rfl, rfl, rfl, by simp, fun i _ hi => Go.heap_setCell_other w _ i v (fun e => hi (by rw [e]))⟩

/-- Numbers in memory, and in none of the blocks G. -/
def OffG (w : World) (G : List (Option Nat)) (a : Option Addr) (n : Nat) (xs : List Int) : Prop := Ints w a n xs ∧ (n = 0 ∨ ∃ b off, a = some ⟨b, off, none⟩ ∧ b < w.heap.size ∧ some b ∉ G)
theorem OffG.kept {w w' : World} {G G' : List (Option Nat)} {a : Option Addr} {n : Nat} {xs : List Int} (h : OffG w G a n xs) (hk : Kept w w' G) (hG : ∀ b, b < w.heap.size → some b ∉ G → some b ∉ G') : OffG w' G' a n xs := by
  obtain ⟨⟨h1, h2, h3⟩, h4⟩ := h
  rcases h4 with h4 | ⟨b, off, ha, hl, hne⟩
  · exact ⟨⟨h1, h2, Or.inl (List.length_eq_zero_iff.1 (by omega))⟩, Or.inl h4⟩
  · refine ⟨⟨h1, h2, ?_⟩, Or.inr ⟨b, off, ha, Nat.lt_of_lt_of_le hl hk.1, hG b hl hne⟩⟩
    rcases h3 with h3 | ⟨b', off', ha', hl', hc⟩
    · exact Or.inl h3
    · rw [ha] at ha'
      injection ha' with ha'
      injection ha' with e1 e2 _
      subst e1; subst e2
      refine Or.inr ⟨b, off, ha, Nat.lt_of_lt_of_le hl hk.1, fun i hi => ?_⟩
      rw [World.cell?_of_block (w := w) (hk.2 b hl hne)]
      exact hc i hi
theorem OffG.fresh {w : World} {base : Nat} {G : List (Option Nat)} {a : Option Addr} {n : Nat} {xs : List Int} (h : Ints w a n xs) (hF : Fresh base a n) (hg : ∀ k, some k ∈ G → k < base) : OffG w G a n xs := by
  refine ⟨h, ?_⟩
  rcases hF with hF | ⟨b, off, ha, hb⟩
  · exact Or.inl hF
  · rcases h.2.2 with h3 | ⟨b', off', ha', hl', hc⟩
    · exact Or.inl (by rw [h.1, h3]; rfl)
    · rw [ha] at ha'
      injection ha' with ha'
      injection ha' with e1 e2 _
      exact Or.inr ⟨b, off, ha, by omega, fun e => by have := hg b e; omega⟩
/-- What was there ahead of the blocks G. -/
theorem OffG.early {w w' : World} {G : List (Option Nat)} {a : Option Addr} {n : Nat} {xs : List Int} (h : Ints w a n xs) (hb : Below w.heap.size w w') (hg : ∀ k, some k ∈ G → w.heap.size ≤ k) : OffG w' G a n xs := by
  refine ⟨h.below hb, ?_⟩
  rcases h.2.2 with h3 | ⟨b, off, ha, hl, hc⟩
  · exact Or.inl (by rw [h.1, h3]; rfl)
  · exact Or.inr ⟨b, off, ha, Nat.lt_of_lt_of_le hl hb.size, fun e => by have := hg b e; omega⟩

/-- Places: pairs of slices. -/
def Pairs (w : World) (G : List (Option Nat)) (vs : List Value) (sts ws : List (List Int)) : Prop :=
  sts.length = ws.length ∧ vs.length = sts.length * 2 ∧ ∀ i (_ : i < sts.length), ∃ a n c a' n' c', vs[i * 2]? = some (.slice a n c) ∧ vs[i * 2 + 1]? = some (.slice a' n' c') ∧ OffG w G a n (sts.getD i []) ∧ OffG w G a' n' (ws.getD i []) ∧ (a' = none → n' = 0 ∧ c' = 0)
theorem Pairs.nil (w : World) (G : List (Option Nat)) : Pairs w G [] [] [] := ⟨rfl, rfl, fun i hi => absurd hi (by simp)⟩
theorem Pairs.kept {w w' : World} {G G' : List (Option Nat)} {vs : List Value} {sts ws : List (List Int)} (h : Pairs w G vs sts ws) (hk : Kept w w' G) (hG : ∀ b, b < w.heap.size → some b ∉ G → some b ∉ G') : Pairs w' G' vs sts ws :=
  ⟨h.1, h.2.1, fun i hi => by
    obtain ⟨a, n, c, a', n', c', e1, e2, o1, o2, z⟩ := h.2.2 i hi
    exact ⟨a, n, c, a', n', c', e1, e2, o1.kept hk hG, o2.kept hk hG, z⟩⟩
theorem Pairs.snoc {w : World} {G : List (Option Nat)} {vs : List Value} {sts ws : List (List Int)} {a a' : Option Addr} {n c n' c' : Nat} {x y : List Int} (h : Pairs w G vs sts ws) (hx : OffG w G a n x) (hy : OffG w G a' n' y) (hz : a' = none → n' = 0 ∧ c' = 0) :
    Pairs w G (vs ++ [.slice a n c, .slice a' n' c']) (sts ++ [x]) (ws ++ [y]) := by
  obtain ⟨h1, h2, h3⟩ := h
  refine ⟨by simp [h1], by simp [h2]; omega, fun i hi => ?_⟩
  have hi' : i < sts.length + 1 := by simpa using hi
  by_cases e : i < sts.length
  · obtain ⟨a0, n0, c0, a1, n1, c1, e1, e2, o1, o2, z⟩ := h3 i e
    refine ⟨a0, n0, c0, a1, n1, c1, ?_, ?_, ?_, ?_, z⟩
    · rw [List.getElem?_append_left (by omega)]; exact e1
    · rw [List.getElem?_append_left (by omega)]; exact e2
    · rw [getD_more rfl e]; exact o1
    · rw [getD_more rfl (by omega)]; exact o2
  · have ei : i = sts.length := by omega
    subst ei
    refine ⟨a, n, c, a', n', c', ?_, ?_, ?_, ?_, hz⟩
    · rw [List.getElem?_append_right (by omega), h2]; simp
    · rw [List.getElem?_append_right (by omega), h2]; simp
    · simpa [List.getD_eq_getElem?_getD] using hx
    · rw [h1]; simpa [List.getD_eq_getElem?_getD] using hy

/-- The map says of each state whether it is among those. -/
def SMap (rl : Nat) (sts : List (List Int)) (D : DataW Unit) : Prop := ∀ x, IsSt rl x → ∃ c, D.atKey (.int .i64 (numV x)) (.lit (.int .i64 0)) = .lit (.int .i64 c) ∧ (0 < c ↔ x ∈ sts)
theorem SMap.nil (rl : Nat) : SMap rl [] (.map []) := fun x _ => ⟨0, rfl, by simp⟩
theorem SMap.put {rl : Nat} {sts : List (List Int)} {D : DataW Unit} (h : SMap rl sts D) (hD : IsMap D) {x : List Int} (hx : IsSt rl x) (n : Int) (hn : 0 < n) : SMap rl (sts ++ [x]) (D.put (.int .i64 (numV x)) (.lit (.int .i64 n))) := by
  intro y hy
  by_cases e : y = x
  · subst e
    exact ⟨n, atKey_put_same hD (by first | trivial | rfl | (simp [WideAt.IsKeyLit])) _ _, by simp; exact hn⟩
  · obtain ⟨c, h1, h2⟩ := h y hy
    refine ⟨c, ?_, ?_⟩
    · rw [atKey_put_other (fun hh => e (numV_inj hy hx (by injection hh)))]; exact h1
    · rw [h2]; simp [e]

/-- The net's cells. -/
structure NC where
  i : Nat
  ga : Option Addr
  gn : Nat
  gc : Nat
  ra : Option Addr
  rn : Nat
  rc : Nat
  oa : Option Addr
  on : Nat
  oc : Nat
theorem ownsMap_below {w w' : World} {m n : Nat} {D : DataW Unit} (h : w.ownsMap Tryz.prog 3 (plainElem (H := Unit) Tryz.prog 3) m n D) (hb : Below w.heap.size w w') : w'.ownsMap Tryz.prog 3 (plainElem (H := Unit) Tryz.prog 3) m n D := by
  have hl := h.lt
  obtain ⟨es, clock, h1, h2⟩ := h
  exact ⟨es, clock, (hb.block m hl).trans h1, h2⟩
theorem or_pow (x : List Int) (k : Nat) (hk : k ≤ 20) : bits .or .i64 (numTo x k) (wrap64 (2 ^ k)) = numTo x k + 2 ^ k := by
  have h := numTo_lt x k
  have hp := power_le k hk
  have hp0 : (0 : Int) < 2 ^ k := Int.pow_pos (by decide)
  have e62 : (2 : Int) ^ 62 = 4611686018427387904 := by decide
  have hw : wrap64 (2 ^ k) = 2 ^ k := by unfold wrap64; omega
  rw [hw]
  obtain ⟨a, ha⟩ := Int.eq_ofNat_of_zero_le h.1
  obtain ⟨b, hb⟩ := Int.eq_ofNat_of_zero_le (Int.le_of_lt hp0)
  have n62 : (2 : Nat) ^ 62 = 4611686018427387904 := by decide
  have h1 := (bits_nat .i64 62 (by decide) wraps_i64 a b (by rw [n62]; omega) (by rw [n62]; omega)).2
  have h2 := (bits_nat .i64 62 (by decide) wraps_i64 b a (by rw [n62]; omega) (by rw [n62]; omega)).2
  have h3 := bits_join .i64 62 (by decide) wraps_i64 k (2 ^ k) (numTo x k) (Int.le_of_lt hp0) (Int.emod_self) (by rw [e62]; omega) h.1 h.2 (by rw [e62]; omega)
  rw [ha, hb] at h3 ⊢
  rw [h1, Nat.or_comm, ← h2, h3]
  omega

theorem nil_eq (w : World) : Sem.run Tryz.prog (binOp BinOp.eql 28 (Value.slice none 0 0) (Value.slice none 0 0)) w = .ok (.bool true) w := by kernel_rfl
theorem nil_ne (w : World) (ad : Addr) (n c : Nat) : Sem.run Tryz.prog (binOp BinOp.eql 28 (Value.slice (some ad) n c) (Value.slice none 0 0)) w = .ok (.bool false) w := by kernel_rfl

set_option maxRecDepth 100000 in
set_option maxHeartbeats 1000000 in
theorem Clone_any (xs : List Int) (a : Option Addr) (n c : Nat) (w : World) (h : Ints w a n xs) (hz : a = none → n = 0 ∧ c = 0) (hn : n ≤ 100) :
    Calls Tryz.prog 119 #[.slice a n c] w fun e w' => ∃ v, e = .returned v ∧ w'.ownsRow w.heap.size 3 1 v n (xs.map (fun x => Value.int .i64 x)) ∧ Below w.heap.size w w' := by
  cases a with
  | none =>
    obtain ⟨rfl, rfl⟩ := hz rfl
    have hx : xs = [] := List.length_eq_zero_iff.1 h.1.symm
    subst hx
    have hne := nil_eq w
    go_enter Tryz.func119, Tryz.ntmps119
    go_wp2_with fail
    go_ret
    exact ⟨_, rfl, World.ownsRow_nil _ _ _ _, Below.refl _ _⟩
  | some ad =>
    obtain ⟨i0, hi, hz0, hz1, hz2⟩ := info_parts Tryz.infoInt
    have HI := hide h
    have HN := hide h.1
    have hne := nil_ne w ad n c
    clear h hz
    go_enter Tryz.func119, Tryz.ntmps119
    go_wp2_with (at_builtin; refine wpList_append_own _ rfl _ _ 28 rfl w.heap.size 3 i0 (.int .i64 0) 1 8 Tryz.underlying28 hi hz0 hz1 hz2 rfl (by decide) _ 0 (([] : List Int).map (fun x => Value.int .i64 x)) rfl (app_empty w w.heap.size w.heap.size rfl (Nat.le_refl _)) ad n c (xs.map (fun x => Value.int .i64 x)) rfl ?c0 ?c1 ?c2 ?c3 ?c4 ?c5 ?_)
    case c0 => have := unhide HN; simp; omega
    case c1 =>
      intro j u hj
      obtain ⟨h1, h2, h3⟩ := (unhide HI).below ((Below.refl _ w).alloc (Nat.le_refl _) (.cells #[] 3))
      rcases h3 with h3 | ⟨b, off, h4, _, hcell⟩
      · subst h3; simp at hj
      · simp at h4; subst h4
        have hj' : j < xs.length := by
          rcases Nat.lt_or_ge j xs.length with h | h
          · exact h
          · rw [List.getElem?_eq_none (by simpa using h)] at hj; simp at hj
        rw [addr_plus, hcell j hj']
        simpa [hj'] using hj
    case c2 =>
      intro u hu
      obtain ⟨z, _, rfl⟩ := List.mem_map.1 hu
      rfl
    case c3 => unfold maxLen; omega
    case c4 => omega
    case c5 => simp
    intro v' w3 hown' hgrow _
    have hb3 : Below w.heap.size w w3 := ((Below.refl _ w).alloc (Nat.le_refl _) _).grown hgrow (by simp) (fun k hk => by simp [Value.ownBlock] at hk; omega)
    have hown2 : w3.ownsRow w.heap.size 3 1 v' n (xs.map (fun x => Value.int .i64 x)) := by
      simpa using hown'
    clear hown' hgrow
    go_wp2_with fail
    go_ret
    exact ⟨_, rfl, hown2, hb3⟩
end Go.Proofs.YtccokpnmdfalpaaGreatDoor
