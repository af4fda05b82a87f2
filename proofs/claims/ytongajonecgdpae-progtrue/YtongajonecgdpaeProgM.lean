/- Programs (plain): what is one, and where its parts lie. -/
import Derived.Test.YtongajonecgdpaeTernA
namespace Go.Proofs.Ytongajonecgdpae
open Go.RowKit

structure NodeD where
  kind : Int
  sig : Int

def hasP (k : Int) : Bool := decide (5 ≤ k ∧ k ≤ 8)
def waitK (k : Int) : Bool := k == 1 || k == 2 || k == 4
def mostS (k : Int) : Int := if k = 4 ∨ k = 7 ∨ k = 3 ∨ k = 8 then 2 else 0
def pkTo (p : List NodeD) (k : Nat) : Bool := (p.take k).all (fun x => decide (0 ≤ x.kind ∧ x.kind ≤ 8))
def psTo (p : List NodeD) (k : Nat) : Bool := (p.take k).all (fun x => decide (0 ≤ x.sig ∧ x.sig ≤ mostS x.kind))
/-- So many parts are asked for: are they just there? -/
def okF : Nat → List NodeD → Bool
  | o, [] => o == 0
  | 0, _ :: _ => false
  | o + 1, x :: xs => okF (if hasP x.kind then o + 2 else o) xs
/-- How many nodes so many parts are. -/
def spanP : Nat → List NodeD → Nat
  | 0, _ => 0
  | _ + 1, [] => 0
  | o + 1, x :: xs => spanP (if hasP x.kind then o + 2 else o) xs + 1
def checkP (p : List NodeD) : Int := if p.length ≤ 14 then (if pkTo p p.length then (if psTo p p.length then (if okF 1 p then 0 else 1) else 3) else 4) else 2
def endP (p : List NodeD) (k : Nat) : Nat := k + spanP 1 (p.drop k)

theorem spanP_split : ∀ (l : List NodeD) (a b : Nat), spanP (a + b) l = spanP a l + spanP b (l.drop (spanP a l))
  | [], 0, b => by simp [spanP]
  | [], a + 1, b => by
    have h : a + 1 + b = (a + b) + 1 := by omega
    rw [h]
    cases b <;> simp [spanP]
  | x :: xs, 0, b => by simp [spanP]
  | x :: xs, a + 1, b => by
    have h : a + 1 + b = (a + b) + 1 := by omega
    have h2 : (if hasP x.kind then a + b + 2 else a + b) = (if hasP x.kind then a + 2 else a) + b := by split <;> omega
    rw [h]
    show spanP (if hasP x.kind then a + b + 2 else a + b) xs + 1 = spanP (if hasP x.kind then a + 2 else a) xs + 1 + spanP b ((x :: xs).drop (spanP (if hasP x.kind then a + 2 else a) xs + 1))
    rw [h2, spanP_split xs (if hasP x.kind then a + 2 else a) b, List.drop_succ_cons]
    omega
theorem ok_split : ∀ (l : List NodeD) (a b : Nat), okF (a + b) l = true → spanP a l ≤ l.length ∧ okF b (l.drop (spanP a l)) = true ∧ okF a (l.take (spanP a l)) = true
  | [], 0, b, h => by simp [spanP] at h ⊢; exact ⟨h, rfl⟩
  | [], a + 1, b, h => by simp [okF] at h
  | x :: xs, 0, b, h => by simp [spanP] at h ⊢; exact ⟨h, rfl⟩
  | x :: xs, a + 1, b, h => by
    have e1 : a + 1 + b = (a + b) + 1 := by omega
    have h2 : (if hasP x.kind then a + b + 2 else a + b) = (if hasP x.kind then a + 2 else a) + b := by split <;> omega
    rw [e1] at h
    have h' : okF (if hasP x.kind then a + b + 2 else a + b) xs = true := h
    rw [h2] at h'
    obtain ⟨h3, h4, h5⟩ := ok_split xs (if hasP x.kind then a + 2 else a) b h'
    refine ⟨?_, ?_, ?_⟩
    · show spanP (if hasP x.kind then a + 2 else a) xs + 1 ≤ xs.length + 1
      omega
    · show okF b ((x :: xs).drop (spanP (if hasP x.kind then a + 2 else a) xs + 1)) = true
      rw [List.drop_succ_cons]; exact h4
    · show okF (a + 1) ((x :: xs).take (spanP (if hasP x.kind then a + 2 else a) xs + 1)) = true
      rw [List.take_succ_cons]; exact h5
theorem ok_some {o : Nat} {l : List NodeD} (h : okF (o + 1) l = true) : 0 < l.length := by
  cases l with
  | nil => simp [okF] at h
  | cons x xs => simp
theorem ok_none {l : List NodeD} (h : okF 0 l = true) : l = [] := by
  cases l with
  | nil => rfl
  | cons x xs => simp [okF] at h
theorem drop_at {p : List NodeD} {k : Nat} (hk : k < p.length) : p.drop k = p[k] :: p.drop (k + 1) := List.drop_eq_getElem_cons hk
theorem ok_next {p : List NodeD} {k o : Nat} (hk : k < p.length) (h : okF o (p.drop k) = true) : ∃ q, o = q + 1 ∧ okF (if hasP p[k].kind then q + 2 else q) (p.drop (k + 1)) = true := by
  rw [drop_at hk] at h
  cases o with
  | zero => simp [okF] at h
  | succ q => exact ⟨q, rfl, h⟩
theorem ok_drop {p : List NodeD} (h : okF 1 p = true) : ∀ k, k ≤ p.length → ∃ o, okF o (p.drop k) = true
  | 0, _ => ⟨1, by simpa using h⟩
  | k + 1, hk => by
    obtain ⟨o, ho⟩ := ok_drop h k (by omega)
    obtain ⟨q, _, h2⟩ := ok_next (by omega) ho
    exact ⟨_, h2⟩
theorem ok_here {p : List NodeD} (h : okF 1 p = true) {k : Nat} (hk : k < p.length) : ∃ q, okF (1 + q) (p.drop k) = true ∧ okF (if hasP p[k].kind then q + 2 else q) (p.drop (k + 1)) = true := by
  obtain ⟨o, ho⟩ := ok_drop h k (by omega)
  obtain ⟨q, rfl, h2⟩ := ok_next hk ho
  exact ⟨q, by rw [Nat.add_comm]; exact ho, h2⟩
theorem end_gt {p : List NodeD} {k : Nat} (hk : k < p.length) : k < endP p k := by
  unfold endP
  rw [drop_at hk]
  show k < k + (spanP (if hasP p[k].kind then 0 + 2 else 0) (p.drop (k + 1)) + 1)
  omega
theorem end_le {p : List NodeD} (h : okF 1 p = true) {k : Nat} (hk : k < p.length) : endP p k ≤ p.length := by
  obtain ⟨q, h1, _⟩ := ok_here h hk
  have := (ok_split _ 1 q h1).1
  unfold endP
  rw [List.length_drop] at this
  omega
theorem end_leaf {p : List NodeD} {k : Nat} (hk : k < p.length) (hp : hasP p[k].kind = false) : endP p k = k + 1 := by
  unfold endP
  rw [drop_at hk]
  show k + (spanP (if hasP p[k].kind then 0 + 2 else 0) (p.drop (k + 1)) + 1) = k + 1
  rw [hp]
  simp [spanP]
theorem end_node {p : List NodeD} {k : Nat} (hk : k < p.length) (hp : hasP p[k].kind = true) : endP p k = endP p (endP p (k + 1)) := by
  unfold endP
  rw [drop_at hk]
  show k + (spanP (if hasP p[k].kind then 0 + 2 else 0) (p.drop (k + 1)) + 1) = _
  rw [hp]
  have h1 := spanP_split (p.drop (k + 1)) 1 1
  rw [List.drop_drop] at h1
  simp only [if_true]
  rw [h1]
  omega
theorem end_two {p : List NodeD} (h : okF 1 p = true) {k : Nat} (hk : k < p.length) (hp : hasP p[k].kind = true) : k + 1 < p.length ∧ endP p (k + 1) < p.length := by
  obtain ⟨q, _, h2⟩ := ok_here h hk
  rw [hp] at h2
  simp only [if_true] at h2
  have h3 := ok_some (o := q + 1) h2
  rw [List.length_drop] at h3
  have h4 : okF (1 + (q + 1)) (p.drop (k + 1)) = true := by rw [show 1 + (q + 1) = q + 2 by omega]; exact h2
  obtain ⟨h5, h6, _⟩ := ok_split _ 1 (q + 1) h4
  have h7 := ok_some h6
  rw [List.length_drop, List.length_drop] at h7
  unfold endP
  omega
/-- From a node on to where the next one would begin: a program. -/
theorem ok_part {p : List NodeD} (h : okF 1 p = true) {k : Nat} (hk : k < p.length) : okF 1 ((p.drop k).take (endP p k - k)) = true := by
  obtain ⟨q, h1, _⟩ := ok_here h hk
  have := (ok_split _ 1 q h1).2.2
  unfold endP
  rw [Nat.add_sub_cancel_left]
  exact this
/-- What is open when k nodes have come (-: too many). -/
theorem ok_open {o : Nat} {x : NodeD} {xs : List NodeD} : okF o (x :: xs) = (decide (o ≠ 0) && okF (if hasP x.kind then o - 1 + 2 else o - 1) xs) := by
  cases o with
  | zero => rfl
  | succ o => simp [okF]
structure POk (p : List NodeD) : Prop where
  few : p.length ≤ 14
  kinds : ∀ x ∈ p, 0 ≤ x.kind ∧ x.kind ≤ 8
  sigs : ∀ x ∈ p, 0 ≤ x.sig ∧ x.sig ≤ mostS x.kind
  form : okF 1 p = true
theorem pok_of {p : List NodeD} (h : checkP p = 0) : POk p := by
  unfold checkP at h
  split at h
  · rename_i h1
    split at h
    · rename_i h2
      split at h
      · rename_i h3
        split at h
        · rename_i h4
          simp only [pkTo, psTo, List.take_length, List.all_eq_true, decide_eq_true_iff] at h2 h3
          exact ⟨h1, h2, h3, h4⟩
        · simp at h
      · simp at h
    · simp at h
  · simp at h
theorem of_pok {p : List NodeD} (h : POk p) : checkP p = 0 := by
  unfold checkP
  have h2 : pkTo p p.length = true := by simp only [pkTo, List.take_length, List.all_eq_true, decide_eq_true_iff]; exact h.kinds
  have h3 : psTo p p.length = true := by simp only [psTo, List.take_length, List.all_eq_true, decide_eq_true_iff]; exact h.sigs
  rw [if_pos h.few, h2, h3, h.form]; rfl
theorem part_ok {p : List NodeD} (h : checkP p = 0) {k : Nat} (hk : k < p.length) : checkP ((p.drop k).take (endP p k - k)) = 0 := by
  have ho := pok_of h
  have hm : ∀ x ∈ (p.drop k).take (endP p k - k), x ∈ p := fun x hx => List.mem_of_mem_drop (List.mem_of_mem_take hx)
  refine of_pok ⟨?_, fun x hx => ho.kinds x (hm x hx), fun x hx => ho.sigs x (hm x hx), ok_part ho.form hk⟩
  have h1 := List.length_take_le (endP p k - k) (p.drop k)
  have h2 := ho.few
  have h3 : (p.drop k).length ≤ p.length := by rw [List.length_drop]; omega
  have h4 : ((p.drop k).take (endP p k - k)).length ≤ (p.drop k).length := by rw [List.length_take]; omega
  omega
end Go.Proofs.Ytongajonecgdpae
