/- What is reached (plain), further: states and their numbers; no state twice; by what each is reached. -/
import Derived.Test.YtongajonecgdpacReachM
namespace Go.Proofs.Ytongajonecgdpac
open Go.RowKit

/-- A state: so many values, each No or Yes. -/
def IsSt (n : Nat) (x : List Int) : Prop := x.length = n ∧ ∀ y ∈ x, y = 0 ∨ y = 1
def numTo (x : List Int) : Nat → Int
  | 0 => 0
  | k + 1 => numTo x k + (if x.getD k 0 = 1 then 2 ^ k else 0)
def numV (x : List Int) : Int := numTo x x.length
theorem numTo_lt (x : List Int) : ∀ k, 0 ≤ numTo x k ∧ numTo x k < 2 ^ k
  | 0 => ⟨Int.le_refl _, by show (0 : Int) < 2 ^ 0; decide⟩
  | k + 1 => by
    have h := numTo_lt x k
    have hp : (0 : Int) < 2 ^ k := Int.pow_pos (by decide)
    have he : (2 : Int) ^ (k + 1) = 2 ^ k * 2 := Int.pow_succ 2 k
    unfold numTo
    rw [he]
    split <;> omega
theorem numTo_inj (x y : List Int) : ∀ k, numTo x k = numTo y k → ∀ i, i < k → (x.getD i 0 = 1 ↔ y.getD i 0 = 1)
  | 0, _, i, hi => absurd hi (by omega)
  | k + 1, h, i, hi => by
    have hx := numTo_lt x k
    have hy := numTo_lt y k
    have hk : (x.getD k 0 = 1 ↔ y.getD k 0 = 1) ∧ numTo x k = numTo y k := by
      unfold numTo at h
      by_cases e1 : x.getD k 0 = 1 <;> by_cases e2 : y.getD k 0 = 1
      · rw [if_pos e1, if_pos e2] at h; exact ⟨⟨fun _ => e2, fun _ => e1⟩, by omega⟩
      · rw [if_pos e1, if_neg e2] at h; omega
      · rw [if_neg e1, if_pos e2] at h; omega
      · rw [if_neg e1, if_neg e2] at h; exact ⟨⟨fun h => absurd h e1, fun h => absurd h e2⟩, by omega⟩
    by_cases e : i = k
    · rw [e]; exact hk.1
    · exact numTo_inj x y k hk.2 i (by omega)
theorem numV_inj {n : Nat} {x y : List Int} (hx : IsSt n x) (hy : IsSt n y) (h : numV x = numV y) : x = y := by
  unfold numV at h
  rw [hx.1, hy.1] at h
  apply List.ext_getElem (by rw [hx.1, hy.1])
  intro i h1 h2
  have := numTo_inj x y n h i (by have := hx.1; omega)
  simp only [List.getD_eq_getElem?_getD, List.getElem?_eq_getElem h1, List.getElem?_eq_getElem h2, Option.getD_some] at this
  have a := hx.2 _ (List.getElem_mem h1)
  have b := hy.2 _ (List.getElem_mem h2)
  rcases a with a | a <;> rcases b with b | b
  · rw [a, b]
  · have := this.2 b; omega
  · have := this.1 a; omega
  · rw [a, b]
theorem numV_le {n : Nat} {x : List Int} (hx : IsSt n x) (hn : n ≤ 20) : 0 ≤ numV x ∧ numV x < 1048576 := by
  have h := numTo_lt x x.length
  have h2 := power_le x.length (by rw [hx.1]; exact hn)
  unfold numV
  omega

theorem begins_st (d : NetD) : IsSt d.regs.length (begins d) := by
  refine ⟨by simp [begins], fun y hy => ?_⟩
  obtain ⟨r, _, rfl⟩ := List.mem_map.1 hy
  split <;> simp
theorem doNext_st {d : NetD} {regs ins : List Int} (h : doE d regs ins = 0) : IsSt d.regs.length (doNext d regs ins) := by
  refine ⟨?_, doNext_vals h⟩
  unfold doNext
  rw [if_pos h, pickV_len, nextsV_len]
theorem st_vals {n : Nat} {x : List Int} (h : IsSt n x) : vals x = true := by
  rw [vals_true]; intro y hy; have := h.2 y hy; omega
theorem bits_vals (x : Int) (n : Nat) : vals (bitsV x n) = true := by
  rw [vals_true]; intro y hy
  obtain ⟨k, _, rfl⟩ := List.mem_map.1 hy
  have := Int.emod_nonneg (x / 2 ^ k) (show (2 : Int) ≠ 0 by decide)
  have := Int.emod_lt_of_pos (x / 2 ^ k) (show (0 : Int) < 2 by decide)
  omega
theorem st_step {d : NetD} (hc : checkE d = 0) (hi : 0 ≤ d.ins) {st : List Int} (h : IsSt d.regs.length st) (x : Int) : doE d st (bitsV x d.ins.toNat) = 0 ∨ doE d st (bitsV x d.ins.toNat) = 6 := by
  have hs : stepE d st (bitsV x d.ins.toNat) = 0 := by
    unfold stepE
    rw [if_pos hc, if_pos ⟨h.1, by rw [bitsV_len]; omega⟩, st_vals h, bits_vals]
    rfl
  unfold doE
  rw [if_pos hs]
  split
  · exact Or.inl rfl
  · exact Or.inr rfl

/-- By these inputs, instant by instant and all right, one comes to that state. -/
def Goes (d : NetD) (l st : List Int) : Prop := (∀ y ∈ l, 0 ≤ y ∧ y < 2 ^ d.ins.toNat) ∧ errTo d l l.length = 0 ∧ stateAt d l l.length = st
theorem Goes.snoc {d : NetD} {l st : List Int} (h : Goes d l st) {x : Nat} (hx : x < 2 ^ d.ins.toNat) (he : doE d st (bitsV x d.ins.toNat) = 0) : Goes d (l ++ [(x : Int)]) (doNext d st (bitsV x d.ins.toNat)) := by
  obtain ⟨h1, h2, h3⟩ := h
  have hx' : (x : Int) < 2 ^ d.ins.toNat := by
    have h6 : ((2 ^ d.ins.toNat : Nat) : Int) = 2 ^ d.ins.toNat := by rw [Int.natCast_pow]; rfl
    omega
  have hl : (l ++ [(x : Int)]).length = l.length + 1 := by simp
  have hs : stateAt d (l ++ [(x : Int)]) l.length = st := by rw [stateAt_snoc d l x l.length (Nat.le_refl _)]; exact h3
  have ha : errAt d (l ++ [(x : Int)]) l.length = 0 := by unfold errAt; rw [hs, getD_last]; exact he
  refine ⟨fun y hy => ?_, ?_, ?_⟩
  · rcases List.mem_append.1 hy with h | h
    · exact h1 y h
    · have : y = (x : Int) := by simpa using h
      rw [this]; exact ⟨by omega, hx'⟩
  · rw [hl]
    show (if errTo d (l ++ [(x : Int)]) l.length = 0 then errAt d (l ++ [(x : Int)]) l.length else errTo d (l ++ [(x : Int)]) l.length) = 0
    rw [errTo_snoc d l x l.length (Nat.le_refl _), if_pos h2, ha]
  · rw [hl]
    show doNext d (stateAt d (l ++ [(x : Int)]) l.length) (bitsV ((l ++ [(x : Int)]).getD l.length 0) d.ins.toNat) = _
    rw [hs, getD_last]

structure Inv (d : NetD) (s : St) : Prop where
  st : ∀ x ∈ s.sts, IsSt d.regs.length x
  len : s.sts.length = s.ws.length
  nodup : s.sts.Nodup
  goes : ∀ i, i < s.sts.length → Goes d (s.ws.getD i []) (s.sts.getD i [])
  err : s.err = 0 ∨ s.err = 2 ∨ s.err = 6
  way : s.err = 6 → ∃ l st, ∃ x : Nat, s.way = l ++ [(x : Int)] ∧ x < 2 ^ d.ins.toNat ∧ Goes d l st ∧ doE d st (bitsV x d.ins.toNat) = 6
  none : s.err = 0 → s.way = []

theorem Inv.start (d : NetD) : Inv d (reach0 d) := by
  refine ⟨?_, rfl, ?_, ?_, Or.inl rfl, ?_, fun _ => rfl⟩
  · intro x hx
    have : x = begins d := by simpa [reach0] using hx
    rw [this]; exact begins_st d
  · simp [reach0]
  · intro i hi
    have : i = 0 := by simp [reach0] at hi; exact hi
    subst this
    exact ⟨by simp [reach0], rfl, rfl⟩
  · intro h; simp [reach0] at h
theorem inv_visit {d : NetD} (hc : checkE d = 0) (hi : 0 ≤ d.ins) {s : St} (h : Inv d s) {k x : Nat} (hk : k < s.sts.length) (hx : x < 2 ^ d.ins.toNat) : Inv d (visit d k x s) := by
  unfold visit
  by_cases e1 : s.err ≠ 0
  · rw [if_pos e1]; exact h
  rw [if_neg e1]
  have hst : IsSt d.regs.length (s.sts.getD k []) := h.st _ (by rw [List.getD_eq_getElem?_getD, List.getElem?_eq_getElem hk]; exact List.getElem_mem hk)
  have hg := h.goes k hk
  by_cases e2 : errS d s k x ≠ 0
  · rw [if_pos e2]
    have e6 : errS d s k x = 6 := by
      rcases st_step hc hi hst x with h1 | h1
      · exact absurd h1 e2
      · exact h1
    exact ⟨h.st, h.len, h.nodup, h.goes, Or.inr (Or.inr e6), fun _ => ⟨_, _, x, rfl, hx, hg, e6⟩, fun h0 => absurd h0 e2⟩
  rw [if_neg e2]
  have e2' : errS d s k x = 0 := by simpa using e2
  by_cases e3 : nextS d s k x ∈ s.sts
  · rw [if_pos e3]; exact h
  rw [if_neg e3]
  by_cases e4 : s.sts.length = 64
  · rw [if_pos e4]
    exact ⟨h.st, h.len, h.nodup, h.goes, Or.inr (Or.inl rfl), fun h6 => by simp at h6, fun h0 => by simp at h0⟩
  rw [if_neg e4]
  refine ⟨?_, by simp [h.len], ?_, ?_, h.err, h.way, h.none⟩
  · intro y hy
    rcases List.mem_append.1 hy with h1 | h1
    · exact h.st y h1
    · have : y = nextS d s k x := by simpa using h1
      rw [this]; exact doNext_st e2'
  · show (s.sts ++ [nextS d s k x]).Nodup
    rw [List.nodup_append]
    refine ⟨h.nodup, by simp, fun a ha b hb => ?_⟩
    have : b = nextS d s k x := by simpa using hb
    rw [this]; intro e; rw [e] at ha; exact e3 ha
  · intro i hi2
    have hi2' : i < s.sts.length + 1 := by simpa using hi2
    by_cases e : i < s.sts.length
    · show Goes d ((s.ws ++ [wayS s k x]).getD i []) ((s.sts ++ [nextS d s k x]).getD i [])
      rw [getD_more rfl e, getD_more rfl (by rw [← h.len]; exact e)]
      exact h.goes i e
    · have ei : i = s.sts.length := by omega
      subst ei
      have g1 : (s.sts ++ [nextS d s k x]).getD s.sts.length [] = nextS d s k x := by simp [List.getD_eq_getElem?_getD]
      have g2 : (s.ws ++ [wayS s k x]).getD s.sts.length [] = wayS s k x := by rw [h.len]; simp [List.getD_eq_getElem?_getD]
      show Goes d ((s.ws ++ [wayS s k x]).getD s.sts.length []) ((s.sts ++ [nextS d s k x]).getD s.sts.length [])
      rw [g1, g2]
      exact hg.snoc hx e2'
theorem inv_visitTo {d : NetD} (hc : checkE d = 0) (hi : 0 ≤ d.ins) {s : St} (h : Inv d s) {k : Nat} (hk : k < s.sts.length) : ∀ x, x ≤ 2 ^ d.ins.toNat → Inv d (visitTo d k s x)
  | 0, _ => h
  | x + 1, hx => by
    obtain ⟨t, u, e1, _, _⟩ := visitTo_more d k s x
    exact inv_visit hc hi (inv_visitTo hc hi h hk x (by omega)) (by rw [e1]; simp; omega) (by omega)
theorem inv_reachTo {d : NetD} (hc : checkE d = 0) (hi : 0 ≤ d.ins) : ∀ k, Inv d (reachTo d k)
  | 0 => Inv.start d
  | k + 1 => by
    show Inv d (if k < (reachTo d k).sts.length then visitTo d k (reachTo d k) (2 ^ d.ins.toNat) else reachTo d k)
    by_cases e : k < (reachTo d k).sts.length
    · rw [if_pos e]; exact inv_visitTo hc hi (inv_reachTo hc hi k) e _ (Nat.le_refl _)
    · rw [if_neg e]; exact inv_reachTo hc hi k

/-- Where the walk ends. -/
theorem reach_done {d : NetD} {k : Nat} (h : (reachTo d k).sts.length ≤ k) (hk : k ≤ 64) : reachAll d = reachTo d k := reachTo_end h 64 hk
theorem reach_next {d : NetD} {k : Nat} (h : k < (reachTo d k).sts.length) : reachTo d (k + 1) = visitTo d k (reachTo d k) (2 ^ d.ins.toNat) := by
  show (if _ then _ else _) = _; rw [if_pos h]
theorem reach_err {d : NetD} {k x : Nat} (h : k < (reachTo d k).sts.length) (hx : x < 2 ^ d.ins.toNat) (he : (visit d k x (visitTo d k (reachTo d k) x)).err ≠ 0) : reachAll d = visit d k x (visitTo d k (reachTo d k) x) := by
  have h1 : visitTo d k (reachTo d k) (2 ^ d.ins.toNat) = visit d k x (visitTo d k (reachTo d k) x) := visitTo_stop (x := x + 1) he _ hx
  have h2 := reach_next h
  have h3 : (reachTo d (k + 1)).err ≠ 0 := by rw [h2, h1]; exact he
  have hk : k + 1 ≤ 64 := by have := reachTo_len d k; omega
  show reachTo d 64 = _
  rw [reachTo_stop h3 64 hk, h2, h1]
end Go.Proofs.Ytongajonecgdpac
