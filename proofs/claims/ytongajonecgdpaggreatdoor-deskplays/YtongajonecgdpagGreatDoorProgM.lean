/- Programs (plain): what is one, and where its parts lie. -/
import Derived.Test.YtongajonecgdpagGreatDoorTernA
import Derived.Test.YtongajonecgdpagGreatDoorNetA
import Derived.Test.YtongajonecgdpagGreatDoorNetO
namespace Go.Proofs.YtongajonecgdpagGreatDoor
open Go.RowKit

structure NodeD where
  kind : Int
  sig : Int

def hasP (k : Int) : Bool := decide (5 ≤ k ∧ k ≤ 8)
def waitK (k : Int) : Bool := k == 1 || k == 2 || k == 4
def mostS (k : Int) : Int := if k = 4 ∨ k = 7 ∨ k = 3 ∨ k = 8 then 2 else 0
def pkTo (p : List NodeD) (k : Nat) : Bool := (p.take k).all (fun x => decide (0 ≤ x.kind ∧ x.kind ≤ 8))
def psTo (p : List NodeD) (k : Nat) : Bool := (p.take k).all (fun x => decide (0 ≤ x.sig ∧ x.sig ≤ mostS x.kind))
/-- So many parts are asked for: are they just there? -/
def okF : Nat → List NodeD → Bool
  | o, [] => o == 0
  | 0, _ :: _ => false
  | o + 1, x :: xs => okF (if hasP x.kind then o + 2 else o) xs
/-- How many nodes so many parts are. -/
def spanP : Nat → List NodeD → Nat
  | 0, _ => 0
  | _ + 1, [] => 0
  | o + 1, x :: xs => spanP (if hasP x.kind then o + 2 else o) xs + 1
def checkP (p : List NodeD) : Int := if p.length ≤ 14 then (if pkTo p p.length then (if psTo p p.length then (if okF 1 p then 0 else 1) else 3) else 4) else 2
def endP (p : List NodeD) (k : Nat) : Nat := k + spanP 1 (p.drop k)

theorem spanP_split : ∀ (l : List NodeD) (a b : Nat), spanP (a + b) l = spanP a l + spanP b (l.drop (spanP a l))
  | [], 0, b => by simp [spanP]
  | [], a + 1, b => by
    have h : a + 1 + b = (a + b) + 1 := by omega
    rw [h]
    cases b <;> simp [spanP]
  | x :: xs, 0, b => by simp [spanP]
  | x :: xs, a + 1, b => by
    have h : a + 1 + b = (a + b) + 1 := by omega
    have h2 : (if hasP x.kind then a + b + 2 else a + b) = (if hasP x.kind then a + 2 else a) + b := by split <;> omega
    rw [h]
    show spanP (if hasP x.kind then a + b + 2 else a + b) xs + 1 = spanP (if hasP x.kind then a + 2 else a) xs + 1 + spanP b ((x :: xs).drop (spanP (if hasP x.kind then a + 2 else a) xs + 1))
    rw [h2, spanP_split xs (if hasP x.kind then a + 2 else a) b, List.drop_succ_cons]
    omega
theorem ok_split : ∀ (l : List NodeD) (a b : Nat), okF (a + b) l = true → spanP a l ≤ l.length ∧ okF b (l.drop (spanP a l)) = true ∧ okF a (l.take (spanP a l)) = true
  | [], 0, b, h => by simp [spanP] at h ⊢; exact ⟨h, rfl⟩
  | [], a + 1, b, h => by simp [okF] at h
  | x :: xs, 0, b, h => by simp [spanP] at h ⊢; exact ⟨h, rfl⟩
  | x :: xs, a + 1, b, h => by
    have e1 : a + 1 + b = (a + b) + 1 := by omega
    have h2 : (if hasP x.kind then a + b + 2 else a + b) = (if hasP x.kind then a + 2 else a) + b := by split <;> omega
    rw [e1] at h
    have h' : okF (if hasP x.kind then a + b + 2 else a + b) xs = true := h
    rw [h2] at h'
    obtain ⟨h3, h4, h5⟩ := ok_split xs (if hasP x.kind then a + 2 else a) b h'
    refine ⟨?_, ?_, ?_⟩
    · show spanP (if hasP x.kind then a + 2 else a) xs + 1 ≤ xs.length + 1
      omega
    · show okF b ((x :: xs).drop (spanP (if hasP x.kind then a + 2 else a) xs + 1)) = true
      rw [List.drop_succ_cons]; exact h4
    · show okF (a + 1) ((x :: xs).take (spanP (if hasP x.kind then a + 2 else a) xs + 1)) = true
      rw [List.take_succ_cons]; exact h5
theorem ok_some {o : Nat} {l : List NodeD} (h : okF (o + 1) l = true) : 0 < l.length := by
  cases l with
  | nil => simp [okF] at h
  | cons x xs => simp
theorem ok_none {l : List NodeD} (h : okF 0 l = true) : l = [] := by
  cases l with
  | nil => rfl
  | cons x xs => simp [okF] at h
theorem drop_at {p : List NodeD} {k : Nat} (hk : k < p.length) : p.drop k = p[k] :: p.drop (k + 1) := List.drop_eq_getElem_cons hk
theorem ok_next {p : List NodeD} {k o : Nat} (hk : k < p.length) (h : okF o (p.drop k) = true) : ∃ q, o = q + 1 ∧ okF (if hasP p[k].kind then q + 2 else q) (p.drop (k + 1)) = true := by
  rw [drop_at hk] at h
  cases o with
  | zero => simp [okF] at h
  | succ q => exact ⟨q, rfl, h⟩
theorem ok_drop {p : List NodeD} (h : okF 1 p = true) : ∀ k, k ≤ p.length → ∃ o, okF o (p.drop k) = true
  | 0, _ => ⟨1, by simpa using h⟩
  | k + 1, hk => by
    obtain ⟨o, ho⟩ := ok_drop h k (by omega)
    obtain ⟨q, _, h2⟩ := ok_next (by omega) ho
    exact ⟨_, h2⟩
theorem ok_here {p : List NodeD} (h : okF 1 p = true) {k : Nat} (hk : k < p.length) : ∃ q, okF (1 + q) (p.drop k) = true ∧ okF (if hasP p[k].kind then q + 2 else q) (p.drop (k + 1)) = true := by
  obtain ⟨o, ho⟩ := ok_drop h k (by omega)
  obtain ⟨q, rfl, h2⟩ := ok_next hk ho
  exact ⟨q, by rw [Nat.add_comm]; exact ho, h2⟩
theorem end_gt {p : List NodeD} {k : Nat} (hk : k < p.length) : k < endP p k := by
  unfold endP
  rw [drop_at hk]
  show k < k + (spanP (if hasP p[k].kind then 0 + 2 else 0) (p.drop (k + 1)) + 1)
  omega
theorem end_le {p : List NodeD} (h : okF 1 p = true) {k : Nat} (hk : k < p.length) : endP p k ≤ p.length := by
  obtain ⟨q, h1, _⟩ := ok_here h hk
  have := (ok_split _ 1 q h1).1
  unfold endP
  rw [List.length_drop] at this
  omega
theorem end_leaf {p : List NodeD} {k : Nat} (hk : k < p.length) (hp : hasP p[k].kind = false) : endP p k = k + 1 := by
  unfold endP
  rw [drop_at hk]
  show k + (spanP (if hasP p[k].kind then 0 + 2 else 0) (p.drop (k + 1)) + 1) = k + 1
  rw [hp]
  simp [spanP]
theorem end_node {p : List NodeD} {k : Nat} (hk : k < p.length) (hp : hasP p[k].kind = true) : endP p k = endP p (endP p (k + 1)) := by
  unfold endP
  rw [drop_at hk]
  show k + (spanP (if hasP p[k].kind then 0 + 2 else 0) (p.drop (k + 1)) + 1) = _
  rw [hp]
  have h1 := spanP_split (p.drop (k + 1)) 1 1
  rw [List.drop_drop] at h1
  simp only [if_true]
  rw [h1]
  omega
theorem end_two {p : List NodeD} (h : okF 1 p = true) {k : Nat} (hk : k < p.length) (hp : hasP p[k].kind = true) : k + 1 < p.length ∧ endP p (k + 1) < p.length := by
  obtain ⟨q, _, h2⟩ := ok_here h hk
  rw [hp] at h2
  simp only [if_true] at h2
  have h3 := ok_some (o := q + 1) h2
  rw [List.length_drop] at h3
  have h4 : okF (1 + (q + 1)) (p.drop (k + 1)) = true := by rw [show 1 + (q + 1) = q + 2 by omega]; exact h2
  obtain ⟨h5, h6, _⟩ := ok_split _ 1 (q + 1) h4
  have h7 := ok_some h6
  rw [List.length_drop, List.length_drop] at h7
  unfold endP
  omega
/-- From a node on to where the next one would begin: a program. -/
theorem ok_part {p : List NodeD} (h : okF 1 p = true) {k : Nat} (hk : k < p.length) : okF 1 ((p.drop k).take (endP p k - k)) = true := by
  obtain ⟨q, h1, _⟩ := ok_here h hk
  have := (ok_split _ 1 q h1).2.2
  unfold endP
  rw [Nat.add_sub_cancel_left]
  exact this
/-- What is open when k nodes have come (-: too many). -/
theorem ok_open {o : Nat} {x : NodeD} {xs : List NodeD} : okF o (x :: xs) = (decide (o ≠ 0) && okF (if hasP x.kind then o - 1 + 2 else o - 1) xs) := by
  cases o with
  | zero => rfl
  | succ o => simp [okF]
structure POk (p : List NodeD) : Prop where
  few : p.length ≤ 14
  kinds : ∀ x ∈ p, 0 ≤ x.kind ∧ x.kind ≤ 8
  sigs : ∀ x ∈ p, 0 ≤ x.sig ∧ x.sig ≤ mostS x.kind
  form : okF 1 p = true
theorem pok_of {p : List NodeD} (h : checkP p = 0) : POk p := by
  unfold checkP at h
  split at h
  · rename_i h1
    split at h
    · rename_i h2
      split at h
      · rename_i h3
        split at h
        · rename_i h4
          simp only [pkTo, psTo, List.take_length, List.all_eq_true, decide_eq_true_iff] at h2 h3
          exact ⟨h1, h2, h3, h4⟩
        · simp at h
      · simp at h
    · simp at h
  · simp at h
theorem of_pok {p : List NodeD} (h : POk p) : checkP p = 0 := by
  unfold checkP
  have h2 : pkTo p p.length = true := by simp only [pkTo, List.take_length, List.all_eq_true, decide_eq_true_iff]; exact h.kinds
  have h3 : psTo p p.length = true := by simp only [psTo, List.take_length, List.all_eq_true, decide_eq_true_iff]; exact h.sigs
  rw [if_pos h.few, h2, h3, h.form]; rfl
theorem part_ok {p : List NodeD} (h : checkP p = 0) {k : Nat} (hk : k < p.length) : checkP ((p.drop k).take (endP p k - k)) = 0 := by
  have ho := pok_of h
  have hm : ∀ x ∈ (p.drop k).take (endP p k - k), x ∈ p := fun x hx => List.mem_of_mem_drop (List.mem_of_mem_take hx)
  refine of_pok ⟨?_, fun x hx => ho.kinds x (hm x hx), fun x hx => ho.sigs x (hm x hx), ok_part ho.form hk⟩
  have h1 := List.length_take_le (endP p k - k) (p.drop k)
  have h2 := ho.few
  have h3 : (p.drop k).length ≤ p.length := by rw [List.length_drop]; omega
  have h4 : ((p.drop k).take (endP p k - k)).length ≤ (p.drop k).length := by rw [List.length_take]; omega
  omega

/-- So many are due, k nodes have come: how many nodes till nothing is due (0: never). -/
def sizeF : Nat → Nat → List NodeD → Nat
  | _, _, [] => 0
  | d, k, x :: xs => if (if hasP x.kind then d + 1 else d - 1) = 0 then k + 1 else sizeF (if hasP x.kind then d + 1 else d - 1) (k + 1) xs
def sizeP (p : List NodeD) : Nat := sizeF 1 0 p
def oneP (p : List NodeD) : Bool := decide (0 < p.length) && decide (sizeP p = p.length)
theorem size_pos : ∀ (l : List NodeD) (d k : Nat), l.length = 0 → sizeF d k l = 0
  | [], _, _, _ => rfl
  | _ :: _, _, _, h => by simp at h
theorem size_ok : ∀ (l : List NodeD) (d k : Nat), 0 < d → ((0 < l.length ∧ sizeF d k l = k + l.length) ↔ okF d l = true)
  | [], d, k, hd => by
    cases d with
    | zero => omega
    | succ d => simp [okF, sizeF]
  | x :: xs, d, k, hd => by
    cases d with
    | zero => omega
    | succ o =>
      show (0 < (x :: xs).length ∧ (if (if hasP x.kind then o + 1 + 1 else o + 1 - 1) = 0 then k + 1 else sizeF (if hasP x.kind then o + 1 + 1 else o + 1 - 1) (k + 1) xs) = k + (x :: xs).length) ↔ okF (if hasP x.kind then o + 2 else o) xs = true
      have he : (if hasP x.kind then o + 1 + 1 else o + 1 - 1) = (if hasP x.kind then o + 2 else o) := by split <;> omega
      rw [he]
      generalize (if hasP x.kind then o + 2 else o) = d'
      by_cases h0 : d' = 0
      · subst h0
        rw [if_pos rfl]
        cases xs with
        | nil => simp [okF]
        | cons y ys => simp [okF]
      · rw [if_neg h0]
        have ih := size_ok xs d' (k + 1) (by omega)
        rw [← ih]
        constructor
        · rintro ⟨_, h⟩
          simp only [List.length_cons] at h
          have h2 : 0 < xs.length := by
            rcases Nat.eq_zero_or_pos xs.length with h3 | h3
            · rw [size_pos xs d' (k + 1) h3] at h; omega
            · exact h3
          exact ⟨h2, by omega⟩
        · rintro ⟨h1, h2⟩
          refine ⟨by simp, ?_⟩
          rw [h2]; simp only [List.length_cons]; omega
theorem oneP_ok (p : List NodeD) : oneP p = okF 1 p := by
  have h := size_ok p 1 0 (by omega)
  rw [Nat.zero_add] at h
  rw [Bool.eq_iff_iff, ← h]
  unfold oneP sizeP
  simp
theorem size_span : ∀ (l : List NodeD) (d q k : Nat), 0 < d → okF (d + q) l = true → sizeF d k l = k + spanP d l
  | [], d, q, k, hd, h => by
    have : d + q = (d + q - 1) + 1 := by omega
    rw [this] at h
    simp [okF] at h
  | x :: xs, d, q, k, hd, h => by
    cases d with
    | zero => omega
    | succ o =>
      have h1 : okF (if hasP x.kind then o + q + 2 else o + q) xs = true := by
        have : o + 1 + q = (o + q) + 1 := by omega
        rw [this] at h
        exact h
      show (if (if hasP x.kind then o + 1 + 1 else o + 1 - 1) = 0 then k + 1 else sizeF (if hasP x.kind then o + 1 + 1 else o + 1 - 1) (k + 1) xs) = k + (spanP (if hasP x.kind then o + 2 else o) xs + 1)
      have he : (if hasP x.kind then o + 1 + 1 else o + 1 - 1) = (if hasP x.kind then o + 2 else o) := by split <;> omega
      have he2 : (if hasP x.kind then o + q + 2 else o + q) = (if hasP x.kind then o + 2 else o) + q := by split <;> omega
      rw [he]
      rw [he2] at h1
      generalize (if hasP x.kind then o + 2 else o) = d' at *
      by_cases h0 : d' = 0
      · subst h0
        rw [if_pos rfl]
        simp [spanP]
      · rw [if_neg h0, size_span xs d' q (k + 1) (by omega) h1]
        omega
/-- The size of what stands from node j on: up to where the next one would begin. -/
theorem size_end {p : List NodeD} (h : okF 1 p = true) {j : Nat} (hj : j < p.length) : j + sizeP (p.drop j) = endP p j := by
  obtain ⟨q, h1, _⟩ := ok_here h hj
  have := size_span (p.drop j) 1 q 0 (by omega) h1
  unfold sizeP endP
  omega

def Nodes (w : World) (a : Option Addr) (n : Nat) (p : List NodeD) : Prop :=
  n = p.length ∧ p.length ≤ maxLen ∧ (p = [] ∨ ∃ b off, a = some ⟨b, off, none⟩ ∧ b < w.heap.size ∧ ∀ i (hi : i < p.length), w.cell? ⟨b, off + i * 2, none⟩ = some (.int .i64 p[i].kind) ∧ w.cell? ⟨b, off + i * 2 + 1, none⟩ = some (.int .i64 p[i].sig))
theorem Nodes.below {w w' : World} {a : Option Addr} {n : Nat} {p : List NodeD} (h : Nodes w a n p) (hb : Below w.heap.size w w') : Nodes w' a n p := by
  obtain ⟨h1, h2, h3⟩ := h
  refine ⟨h1, h2, ?_⟩
  rcases h3 with h3 | ⟨b, off, ha, hlt, hc⟩
  · exact Or.inl h3
  · exact Or.inr ⟨b, off, ha, Nat.lt_of_lt_of_le hlt hb.size, fun i hi => ⟨(hb.cell (p := ⟨b, off + i * 2, none⟩) hlt).trans (hc i hi).1, (hb.cell (p := ⟨b, off + i * 2 + 1, none⟩) hlt).trans (hc i hi).2⟩⟩
theorem Nodes.at {w : World} {a : Option Addr} {n : Nat} {p : List NodeD} (h : Nodes w a n p) {k : Nat} (hk : k < p.length) :
    ∃ b off, a = some ⟨b, off, Option.none⟩ ∧ b < w.heap.size ∧ w.cell? ⟨b, off + k * 2, Option.none⟩ = some (.int .i64 p[k].kind) ∧ w.cell? ⟨b, off + k * 2 + 1, Option.none⟩ = some (.int .i64 p[k].sig) := by
  obtain ⟨h1, h2, h3⟩ := h
  rcases h3 with h3 | ⟨b, off, ha, hlt, hc⟩
  · rw [h3] at hk; simp at hk
  · exact ⟨b, off, ha, hlt, (hc k hk).1, (hc k hk).2⟩

theorem parts_any (k : Int) (w : World) : Calls Tryz.prog 82 #[.int .i64 k] w fun e w' => e = .returned (.bool (hasP k)) ∧ w' = w := by
  go_enter Tryz.func82, Tryz.ntmps82
  go_wp2_with fail
  refine (within_any k 5 8 _).mono ?_
  rintro e w' ⟨rfl, rfl⟩
  rw [show decide (5 ≤ k ∧ k ≤ 8) = hasP k from rfl]
  go_wp2_with fail
  go_ret
  exact ⟨rfl, rfl⟩
theorem waits_any (k : Int) (w : World) : Calls Tryz.prog 84 #[.int .i64 k] w fun e w' => e = .returned (.bool (waitK k)) ∧ w' = w := by
  by_cases h1 : k = 1
  · subst h1
    go_enter Tryz.func84, Tryz.ntmps84
    go_wp2_with fail
    go_ret
    exact ⟨rfl, rfl⟩
  · by_cases h2 : k = 2
    · subst h2
      go_enter Tryz.func84, Tryz.ntmps84
      go_wp2_with fail
      go_ret
      exact ⟨rfl, rfl⟩
    · have e1 : (k == 1) = false := by simp [h1]
      have e2 : (k == 2) = false := by simp [h2]
      have R := hide (show waitK k = (k == 4) by unfold waitK; rw [e1, e2]; rfl)
      rw [unhide R]
      by_cases h4 : k = 4
      · subst h4
        go_enter Tryz.func84, Tryz.ntmps84
        go_wp2_with fail
        go_ret
        exact ⟨rfl, rfl⟩
      · have e4 : (k == 4) = false := by simp [h4]
        rw [e4]
        go_enter Tryz.func84, Tryz.ntmps84
        go_wp2_with fail
        go_ret
        exact ⟨rfl, rfl⟩

theorem pkTo_succ (p : List NodeD) (k : Nat) (h : k < p.length) : pkTo p (k + 1) = (pkTo p k && decide (0 ≤ p[k].kind ∧ p[k].kind ≤ 8)) := by
  unfold pkTo; rw [List.take_succ_eq_append_getElem h, List.all_append]; simp
theorem pkTo_no {p : List NodeD} {k : Nat} (h : k < p.length) (e : decide (0 ≤ p[k].kind ∧ p[k].kind ≤ 8) = false) : pkTo p p.length = false := by
  rw [Bool.eq_false_iff]
  intro h1
  simp only [pkTo, List.take_length, List.all_eq_true] at h1
  have := h1 p[k] (List.getElem_mem h)
  rw [this] at e; simp at e
theorem psTo_succ (p : List NodeD) (k : Nat) (h : k < p.length) : psTo p (k + 1) = (psTo p k && decide (0 ≤ p[k].sig ∧ p[k].sig ≤ mostS p[k].kind)) := by
  unfold psTo; rw [List.take_succ_eq_append_getElem h, List.all_append]; simp
theorem psTo_no {p : List NodeD} {k : Nat} (h : k < p.length) (e : decide (0 ≤ p[k].sig ∧ p[k].sig ≤ mostS p[k].kind) = false) : psTo p p.length = false := by
  rw [Bool.eq_false_iff]
  intro h1
  simp only [psTo, List.take_length, List.all_eq_true] at h1
  have := h1 p[k] (List.getElem_mem h)
  rw [this] at e; simp at e

set_option maxRecDepth 100000 in
set_option maxHeartbeats 4000000 in
theorem CheckProg_any (p : List NodeD) (a : Option Addr) (n c : Nat) (w : World) (h : Nodes w a n p) :
    Calls Tryz.prog 46 #[.slice a n c] w fun e w' => e = .returned (.int .i64 (checkP p)) ∧ w' = w := by
  have HN := hide h.1
  by_cases hm : p.length ≤ 14
  case neg =>
    have hni : (14 : Int) < (n : Int) := by have := unhide HN; omega
    have R := hide (show checkP p = 2 by unfold checkP; rw [if_neg hm])
    rw [unhide R]
    clear hm h
    go_enter Tryz.func46, Tryz.ntmps46
    go_wp2_with fail
    go_ret
    exact ⟨rfl, rfl⟩
  have hn14 : n ≤ 14 := by have := unhide HN; omega
  have hni : ¬ (14 : Int) < (n : Int) := by omega
  have H4 := hide (show pkTo p p.length = false → checkP p = 4 from fun e => by unfold checkP; rw [if_pos hm, e]; rfl)
  have H3 := hide (show pkTo p p.length = true → psTo p p.length = false → checkP p = 3 from fun e e2 => by unfold checkP; rw [if_pos hm, e, e2]; rfl)
  have H1 := hide (show pkTo p p.length = true → psTo p p.length = true → okF 1 p = false → checkP p = 1 from fun e e2 e3 => by unfold checkP; rw [if_pos hm, e, e2, e3]; rfl)
  have H0 := hide (show pkTo p p.length = true → psTo p p.length = true → okF 1 p = true → checkP p = 0 from fun e e2 e3 => by unfold checkP; rw [if_pos hm, e, e2, e3]; rfl)
  clear hm
  go_enter Tryz.func46, Tryz.ntmps46
  go_wp2_with fail
  go_loopw [3] (fun iv wr => ∃ k : Nat, k ≤ n ∧ iv = .int .i64 k ∧ pkTo p k = true ∧ wr = w) (fun iv _ => n - (intOf iv).toNat)
  case atStart => exact ⟨0, Nat.zero_le _, rfl, rfl, by first | rfl | trivial⟩
  case round =>
    obtain ⟨k, hk, rfl, hK, rfl⟩ := hrel
    by_cases hlt : k < n
    · have hki : (k : Int) < (n : Int) := by omega
      have hkp : k < p.length := by have := unhide HN; omega
      obtain ⟨b, off, rfl, hbb, c1, c2⟩ := h.at hkp
      have HS := hide (pkTo_succ p k hkp)
      have HNO := hide (fun e => pkTo_no hkp e)
      go_wp2_with fail
      refine (within_any p[k].kind 0 8 _).mono ?_
      rintro e w' ⟨rfl, rfl⟩
      cases eb : decide (0 ≤ p[k].kind ∧ p[k].kind ≤ 8)
      · have R := hide (unhide H4 (unhide HNO eb))
        clear eb hK
        go_wp2_with fail
        go_ret
        exact ⟨ret_int (unhide R).symm, rfl⟩
      · have R := hide (show pkTo p (k + 1) = true by rw [unhide HS, hK, eb]; rfl)
        clear eb hK
        go_wp2_with fail
        exact ⟨⟨k + 1, by omega, by go_num, unhide R, by first | rfl | trivial⟩, by simp [intOf]; omega⟩
    · have hkn : k = p.length := by have := unhide HN; omega
      rw [hkn] at hK
      have HK := hide hK
      clear hK hkn
      rename World => w0
      go_wp2_with fail
      go_loopw [4] (fun iv wr => ∃ k : Nat, k ≤ n ∧ iv = .int .i64 k ∧ psTo p k = true ∧ wr = w0) (fun iv _ => n - (intOf iv).toNat)
      case atStart => exact ⟨0, Nat.zero_le _, rfl, rfl, by first | rfl | trivial⟩
      case round =>
        obtain ⟨j, hj, rfl, hK, rfl⟩ := hrel
        by_cases hlj : j < n
        · have hki : (j : Int) < (n : Int) := by omega
          have hkp : j < p.length := by have := unhide HN; omega
          obtain ⟨b, off, rfl, hbb, c1, c2⟩ := h.at hkp
          have HS := hide (psTo_succ p j hkp)
          have HNO := hide (fun e => psTo_no hkp e)
          have hmost : ∃ m : Int, mostS p[j].kind = m ∧ ((p[j].kind = 4 ∧ m = 2) ∨ (p[j].kind = 7 ∧ m = 2) ∨ (p[j].kind = 3 ∧ m = 2) ∨ (p[j].kind = 8 ∧ m = 2) ∨ (p[j].kind ≠ 4 ∧ p[j].kind ≠ 7 ∧ p[j].kind ≠ 3 ∧ p[j].kind ≠ 8 ∧ m = 0)) := by
            refine ⟨_, rfl, ?_⟩
            by_cases e1 : p[j].kind = 4
            · exact Or.inl ⟨e1, by unfold mostS; simp [e1]⟩
            by_cases e2 : p[j].kind = 7
            · exact Or.inr (Or.inl ⟨e2, by unfold mostS; simp [e2]⟩)
            by_cases e3 : p[j].kind = 3
            · exact Or.inr (Or.inr (Or.inl ⟨e3, by unfold mostS; simp [e3]⟩))
            by_cases e4 : p[j].kind = 8
            · exact Or.inr (Or.inr (Or.inr (Or.inl ⟨e4, by unfold mostS; simp [e4]⟩)))
            exact Or.inr (Or.inr (Or.inr (Or.inr ⟨e1, e2, e3, e4, by unfold mostS; simp [e1, e2, e3, e4]⟩)))
          obtain ⟨m, hm1, hm2⟩ := hmost
          rw [hm1] at HS HNO
          have HK2 := hide hK
          clear hK hm1
          generalize p[j].sig = sg at *
          generalize p[j].kind = kd at *
          have hfin : ∀ b : Bool, decide (0 ≤ sg ∧ sg ≤ m) = b → (b = false → checkP p = 3) ∧ (b = true → psTo p (j + 1) = true) := fun b hb => ⟨fun e => unhide H3 (unhide HK) (unhide HNO (by rw [hb, e])), fun e => by rw [unhide HS, unhide HK2, hb, e]; rfl⟩
          have HF := hide hfin
          clear hfin HS HNO
          obtain ⟨bb, hdb⟩ : ∃ bb, decide (0 ≤ sg ∧ sg ≤ m) = bb := ⟨_, rfl⟩
          have R := hide (unhide HF bb hdb)
          clear HF
          rcases hm2 with ⟨rfl, rfl⟩ | ⟨rfl, rfl⟩ | ⟨rfl, rfl⟩ | ⟨rfl, rfl⟩ | ⟨e1, e2, e3, e4, rfl⟩
          all_goals
            go_wp2_with fail
            refine (within_any sg 0 _ _).mono ?_
            rintro e w' ⟨rfl, rfl⟩
            rw [hdb]
            clear hdb
            cases bb
            · have R4 := hide ((unhide R).1 rfl)
              go_wp2_with fail
              go_ret
              exact ⟨ret_int (unhide R4).symm, rfl⟩
            · have R4 := hide ((unhide R).2 rfl)
              go_wp2_with fail
              exact ⟨⟨j + 1, by omega, by go_num, unhide R4, by first | rfl | trivial⟩, by simp [intOf]; omega⟩
        · have hjn : j = p.length := by have := unhide HN; omega
          rw [hjn] at hK
          have HK2 := hide hK
          clear hK hjn
          rename World => w1
          go_wp2_with fail
          go_loopw [6, 7] (fun ov iv wr => ∃ k o : Nat, k ≤ n ∧ iv = .int .i64 k ∧ ov = .int .i64 (o : Int) ∧ o ≤ k + 1 ∧ okF 1 p = okF o (p.drop k) ∧ wr = w1) (fun _ iv _ => n - (intOf iv).toNat)
          case atStart => exact ⟨0, 1, Nat.zero_le _, rfl, rfl, by omega, by simp, by first | rfl | trivial⟩
          case round =>
            obtain ⟨i, o, hi, rfl, rfl, ho, hO, rfl⟩ := hrel
            by_cases hli : i < n
            · have hki : (i : Int) < (n : Int) := by omega
              have hkp : i < p.length := by have := unhide HN; omega
              obtain ⟨b, off, rfl, hbb, c1, c2⟩ := h.at hkp
              rw [drop_at hkp] at hO
              cases o with
              | zero =>
                have R := hide (unhide H1 (unhide HK) (unhide HK2) (by rw [hO]; rfl))
                clear hO
                go_wp2_with fail
                go_ret
                exact ⟨ret_int (unhide R).symm, rfl⟩
              | succ q =>
                have hO2 : okF 1 p = okF (if hasP p[i].kind then q + 2 else q) (p.drop (i + 1)) := hO
                have HO := hide hO2
                clear hO hO2
                have hne : ¬ ((q : Int) + 1 = 0) := by omega
                generalize p[i].kind = kd at *
                go_wp2_with fail
                refine (parts_any kd _).mono ?_
                rintro e w' ⟨rfl, rfl⟩
                cases eb : hasP kd
                · have R := hide (show okF 1 p = okF q (p.drop (i + 1)) by rw [unhide HO, eb]; rfl)
                  clear eb HO
                  go_wp2_with fail
                  exact ⟨⟨i + 1, q, by omega, by go_num, by go_num, by omega, unhide R, by first | rfl | trivial⟩, by simp [intOf]; omega⟩
                · have R := hide (show okF 1 p = okF (q + 2) (p.drop (i + 1)) by rw [unhide HO, eb]; rfl)
                  clear eb HO
                  go_wp2_with fail
                  exact ⟨⟨i + 1, q + 2, by omega, by go_num, by go_num, by omega, unhide R, by first | rfl | trivial⟩, by simp [intOf]; omega⟩
            · have hin : i = p.length := by have := unhide HN; omega
              rw [hin, List.drop_length] at hO
              cases o with
              | zero =>
                have R := hide (unhide H0 (unhide HK) (unhide HK2) (by rw [hO]; rfl))
                clear hO hin
                go_wp2_with fail
                go_ret
                exact ⟨ret_int (unhide R).symm, rfl⟩
              | succ q =>
                have R := hide (unhide H1 (unhide HK) (unhide HK2) (by rw [hO]; rfl))
                have hne : ¬ ((q : Int) + 1 = 0) := by omega
                clear hO hin
                go_wp2_with fail
                go_ret
                exact ⟨ret_int (unhide R).symm, rfl⟩

set_option maxHeartbeats 1000000 in
theorem end_any (p : List NodeD) (a : Option Addr) (n c : Nat) (w : World) (h : Nodes w a n p) (hf : okF 1 p = true) (hn : n ≤ 14) : ∀ (m k : Nat), p.length - k ≤ m → k < p.length →
    Calls Tryz.prog 83 #[.slice a n c, .int .i64 (k : Int)] w fun e w' => e = .returned (.int .i64 (endP p k : Nat)) ∧ w' = w
  | 0, k, hm, hk => by omega
  | m + 1, k, hm, hk => by
    have HN := hide h.1
    have hki : (k : Int) < (n : Int) := by have := unhide HN; omega
    obtain ⟨b, off, rfl, hbb, c1, c2⟩ := h.at hk
    cases hp : hasP p[k].kind
    · have R := hide (end_leaf hk hp)
      have HP := hide hp
      clear hp
      go_enter Tryz.func83, Tryz.ntmps83
      go_wp2_with fail
      refine (parts_any _ _).mono ?_
      rintro e w' ⟨rfl, rfl⟩
      rw [unhide HP]
      go_wp2_with fail
      go_ret
      exact ⟨ret_int (by rw [unhide R]; go_num), rfl⟩
    · obtain ⟨h1, h2⟩ := end_two hf hk hp
      have h3 := end_gt h1
      have R := hide (end_node hk hp)
      have HP := hide hp
      have ih1 : Calls Tryz.prog 83 #[.slice (some ⟨b, off, none⟩) n c, .int .i64 ((k : Int) + 1)] w fun e w' => e = .returned (.int .i64 (endP p (k + 1) : Nat)) ∧ w' = w := by
        have := end_any p _ n c w h hf hn m (k + 1) (by omega) h1
        rwa [show ((k + 1 : Nat) : Int) = (k : Int) + 1 by omega] at this
      have ih2 := end_any p _ n c w h hf hn m (endP p (k + 1)) (by omega) h2
      clear hp
      go_enter Tryz.func83, Tryz.ntmps83
      go_wp2_with fail
      refine (parts_any _ _).mono ?_
      rintro e w' ⟨rfl, rfl⟩
      rw [unhide HP]
      go_wp2_with fail
      refine ih1.mono ?_
      rintro e w' ⟨rfl, rfl⟩
      go_wp2_with fail
      refine ih2.mono ?_
      rintro e w' ⟨rfl, rfl⟩
      go_wp2_with fail
      go_ret
      exact ⟨ret_int (by rw [unhide R]), rfl⟩
def partsE (p : List NodeD) (k : Int) : Int := if checkP p = 0 then (if 0 ≤ k ∧ k < p.length then 0 else 3) else checkP p
def kindAt (p : List NodeD) (k : Nat) : Int := (p.getD k ⟨0, 0⟩).kind
def partA (p : List NodeD) (k : Int) : Int := if partsE p k = 0 then (if hasP (kindAt p k.toNat) then k + 1 else 0) else 0
def partB (p : List NodeD) (k : Int) : Int := if partsE p k = 0 then (if hasP (kindAt p k.toNat) then (endP p (k.toNat + 1) : Int) else 0) else 0
def partC (p : List NodeD) (k : Int) : Int := if partsE p k = 0 then (endP p k.toNat : Int) else 0
theorem parts_no {p : List NodeD} {k : Int} (h : partsE p k ≠ 0) : partA p k = 0 ∧ partB p k = 0 ∧ partC p k = 0 := by
  unfold partA partB partC; rw [if_neg h, if_neg h, if_neg h]; exact ⟨rfl, rfl, rfl⟩
theorem parts_leaf {p : List NodeD} {k : Nat} (h : partsE p k = 0) (hk : k < p.length) (hp : hasP p[k].kind = false) : partA p k = 0 ∧ partB p k = 0 ∧ partC p k = (k : Int) + 1 := by
  have e : kindAt p (k : Int).toNat = p[k].kind := by simp [kindAt, List.getD_eq_getElem?_getD, hk]
  unfold partA partB partC
  rw [if_pos h, if_pos h, if_pos h, e, hp, Int.toNat_natCast, end_leaf hk hp]
  exact ⟨rfl, rfl, by omega⟩
theorem parts_node {p : List NodeD} {k : Nat} (h : partsE p k = 0) (hk : k < p.length) (hp : hasP p[k].kind = true) : partA p k = (k : Int) + 1 ∧ partB p k = (endP p (k + 1) : Nat) ∧ partC p k = (endP p k : Nat) := by
  have e : kindAt p (k : Int).toNat = p[k].kind := by simp [kindAt, List.getD_eq_getElem?_getD, hk]
  unfold partA partB partC
  rw [if_pos h, if_pos h, if_pos h, e, hp, Int.toNat_natCast]
  exact ⟨rfl, rfl, rfl⟩
def PartsRet (p : List NodeD) (k : Int) (e : Ending) : Prop := e = .returned (.tuple #[.int .i64 (partA p k), .int .i64 (partB p k), .int .i64 (partC p k), .int .i64 (partsE p k)])
theorem parts_ret {p : List NodeD} {k x y z e : Int} (h1 : partA p k = x) (h2 : partB p k = y) (h3 : partC p k = z) (h4 : partsE p k = e) : PartsRet p k (.returned (.tuple #[.int .i64 x, .int .i64 y, .int .i64 z, .int .i64 e])) := by
  unfold PartsRet; rw [h1, h2, h3, h4]

theorem own_bools {w : World} {base : Nat} {e : TypeId} {v : Value} {n : Nat} {ys : List Bool} (h : w.ownsRow base e 1 v n (ys.map (fun x => Value.bool x))) (hm : n ≤ maxLen) :
    ∃ a cap, v = .slice a n cap ∧ Bools w a n ys := by
  have hn : n = ys.length := by have := h.1; simpa using this.symm
  rcases h.2 with ⟨h1, h2⟩ | ⟨g, cap, cur, hv, hg, hh, r⟩
  · subst h2
    have : ys = [] := List.eq_nil_of_length_eq_zero hn.symm
    exact ⟨_, _, h1, hn, by omega, Or.inl this⟩
  · refine ⟨_, cap, hv, hn, by omega, Or.inr ⟨g, 0, rfl, (Array.getElem?_eq_some_iff.1 hh).1, fun i hi => ?_⟩⟩
    rw [hv] at h
    rw [Nat.zero_add, h.cellAt i (by omega)]
    simp [hi]
def waitsV (p : List NodeD) : List Bool := p.map (fun x => waitK x.kind)
def boolsV (xs : List Bool) : List Value := xs.map (fun x => Value.bool x)
theorem waitsV_take (p : List NodeD) (k : Nat) (h : k < p.length) : boolsV ((waitsV p).take (k + 1)) = boolsV ((waitsV p).take k) ++ [.bool (waitK p[k].kind)] := by
  have h' : k < (waitsV p).length := by simpa [waitsV] using h
  rw [List.take_succ_eq_append_getElem h']
  simp [boolsV, waitsV]
structure RestD where
  fresh : Bool
  waits : List Bool
  outs : List Bool
structure RestAt (w : World) (r : RestD) (f : Bool) (wa : Option Addr) (wn : Nat) (oa : Option Addr) (on : Nat) : Prop where
  fresh : f = r.fresh
  waits : Bools w wa wn r.waits
  outs : Bools w oa on r.outs
theorem RestAt.below {w w' : World} {r : RestD} {f : Bool} {wa : Option Addr} {wn : Nat} {oa : Option Addr} {on : Nat} (h : RestAt w r f wa wn oa on) (hb : Below w.heap.size w w') : RestAt w' r f wa wn oa on := ⟨h.fresh, h.waits.below hb, h.outs.below hb⟩
def RBox (w : World) (b : Nat) (f : Bool) (wa : Option Addr) (wn wc : Nat) (oa : Option Addr) (on oc : Nat) : Prop := b < w.heap.size ∧ w.cell? ⟨b, 0, none⟩ = some (.bool f) ∧ w.cell? ⟨b, 1, none⟩ = some (.slice wa wn wc) ∧ w.cell? ⟨b, 2, none⟩ = some (.slice oa on oc)
theorem RBox.new (w : World) (f : Bool) (wa : Option Addr) (wn wc : Nat) (oa : Option Addr) (on oc : Nat) (T : TypeId) : RBox (w.alloc (.cells #[.bool f, .slice wa wn wc, .slice oa on oc] T)) w.heap.size f wa wn wc oa on oc := ⟨by simp, by simp, by simp, by simp⟩
theorem RBox.below {w w' : World} {b : Nat} {f : Bool} {wa : Option Addr} {wn wc : Nat} {oa : Option Addr} {on oc : Nat} (h : RBox w b f wa wn wc oa on oc) (hb : Below w.heap.size w w') : RBox w' b f wa wn wc oa on oc :=
  ⟨Nat.lt_of_lt_of_le h.1 hb.size, (hb.cell (p := ⟨b, 0, none⟩) h.1).trans h.2.1, (hb.cell (p := ⟨b, 1, none⟩) h.1).trans h.2.2.1, (hb.cell (p := ⟨b, 2, none⟩) h.1).trans h.2.2.2⟩
/-- Does node k wait where it may not? -/
def badAt (p : List NodeD) (r : RestD) (k : Nat) : Bool := r.waits.getD k false && (r.fresh || !waitK (kindAt p k))
def restB (p : List NodeD) (r : RestD) (k : Nat) : Bool := (List.range k).all (fun j => !badAt p r j)
def restE (p : List NodeD) (r : RestD) : Int := if checkP p = 0 then (if r.waits.length = p.length ∧ r.outs.length = 3 then (if restB p r p.length then 0 else 1) else 1) else checkP p
theorem restB_succ (p : List NodeD) (r : RestD) (k : Nat) : restB p r (k + 1) = (restB p r k && !badAt p r k) := by unfold restB; rw [List.range_succ, List.all_append]; simp
theorem restB_no {p : List NodeD} {r : RestD} {k : Nat} (hk : k < p.length) (h : badAt p r k = true) : restB p r p.length = false := by
  rw [Bool.eq_false_iff]
  intro h1
  simp only [restB, List.all_eq_true, List.mem_range] at h1
  have := h1 k hk
  rw [h] at this; simp at this

set_option maxRecDepth 100000 in
set_option maxHeartbeats 2000000 in
theorem CheckRest_any (p : List NodeD) (a : Option Addr) (n c : Nat) (r : RestD) (f : Bool) (wa oa : Option Addr) (wn wc on oc : Nat) (w : World) (h : Nodes w a n p) (hr : RestAt w r f wa wn oa on) :
    Calls Tryz.prog 50 #[.slice a n c, .agg #[.bool f, .slice wa wn wc, .slice oa on oc]] w fun e w' => e = .returned (.int .i64 (restE p r)) ∧ Below w.heap.size w w' := by
  have hb0 : Below w.heap.size w (w.alloc (.cells #[.bool f, .slice wa wn wc, .slice oa on oc] 35)) := (Below.refl _ _).alloc (Nat.le_refl _) _
  have hx := RBox.new w f wa wn wc oa on oc 35
  have hP := h.below hb0
  have hR := hr.below hb0
  have HN := hide h.1
  have HW := hide hr.waits.1
  have HO := hide hr.outs.1
  clear h hr
  go_enter Tryz.func50, Tryz.ntmps50
  go_wp2_with fail
  generalize w.alloc (.cells #[.bool f, .slice wa wn wc, .slice oa on oc] 35) = w1 at *
  refine (CheckProg_any p _ _ _ _ hP).mono ?_
  rintro e w' ⟨rfl, rfl⟩
  by_cases e0 : checkP p = 0
  case neg =>
    have hq : (checkP p != 0) = true := by simp [e0]
    have R := hide (show restE p r = checkP p by unfold restE; rw [if_neg e0])
    obtain ⟨ck, hck⟩ : ∃ ck, checkP p = ck := ⟨_, rfl⟩
    rw [hck] at hq R ⊢
    clear e0 hck
    go_wp2_with fail
    go_ret
    exact ⟨ret_int (unhide R).symm, hb0⟩
  have hn14 : n ≤ 14 := by have := (pok_of e0).few; have := unhide HN; omega
  obtain ⟨x0, x1, x2, x3⟩ := hx
  by_cases e1 : wn = n
  case neg =>
    have R := hide (show restE p r = 1 by unfold restE; rw [if_pos e0, if_neg (fun hh => e1 (by rw [unhide HW, hh.1, unhide HN]))])
    have hq : ((wn : Int) != (n : Int)) = true := by simp; omega
    rw [e0]
    clear e0
    go_wp2_with fail
    go_ret
    exact ⟨ret_int (unhide R).symm, hb0⟩
  by_cases e2 : on = 3
  case neg =>
    have R := hide (show restE p r = 1 by unfold restE; rw [if_pos e0, if_neg (fun hh => e2 (by rw [unhide HO, hh.2]))])
    have hq : ((on : Int) != 3) = true := by simp; omega
    rw [e0]
    subst e1
    clear e0
    go_wp2_with fail
    go_ret
    exact ⟨ret_int (unhide R).symm, hb0⟩
  have H1 := hide (show restB p r p.length = false → restE p r = 1 from fun e => by unfold restE; rw [if_pos e0, if_pos ⟨by rw [← unhide HW, e1]; exact unhide HN, by rw [← unhide HO, e2]⟩, e]; rfl)
  have H0 := hide (show restB p r p.length = true → restE p r = 0 from fun e => by unfold restE; rw [if_pos e0, if_pos ⟨by rw [← unhide HW, e1]; exact unhide HN, by rw [← unhide HO, e2]⟩, e]; rfl)
  rw [e0]
  clear e0
  subst e1
  subst e2
  have hff := hR.fresh
  have HFF := hide hff
  clear hff
  rename World => wq
  go_wp2_with fail
  go_loopw [6] (fun iv wr => ∃ k : Nat, k ≤ wn ∧ iv = .int .i64 k ∧ restB p r k = true ∧ wr = wq) (fun iv _ => wn - (intOf iv).toNat)
  case atStart => exact ⟨0, Nat.zero_le _, rfl, rfl, by first | rfl | trivial⟩
  case round =>
    obtain ⟨k, hk, rfl, hK, rfl⟩ := hrel
    by_cases hlt : k < wn
    · have hki : (k : Int) < (wn : Int) := by omega
      have hkp : k < p.length := by have := unhide HN; omega
      have hkw : k < r.waits.length := by have := unhide HW; omega
      obtain ⟨b, off, rfl, hbb, c1, c2⟩ := hP.at hkp
      obtain ⟨b2, off2, rfl, hbb2, c3⟩ := hR.waits.at hkw
      have hbad : badAt p r k = (r.waits[k] && (f || !waitK p[k].kind)) := by
        unfold badAt kindAt
        rw [unhide HFF]
        simp [List.getD_eq_getElem?_getD, hkw, hkp]
      have HS := hide (restB_succ p r k)
      rw [hbad] at HS
      have HNO := hide (show (r.waits[k] && (f || !waitK p[k].kind)) = true → restE p r = 1 from fun e => unhide H1 (restB_no hkp (by rw [hbad]; exact e)))
      have HK := hide hK
      clear hbad hK
      generalize r.waits[k] = wk at *
      generalize p[k].kind = kd at *
      cases wk
      · have R := hide (show restB p r (k + 1) = true by rw [unhide HS, unhide HK]; rfl)
        go_wp2_with fail
        exact ⟨⟨k + 1, by omega, by go_num, unhide R, by first | rfl | trivial⟩, by simp [intOf]; omega⟩
      · cases f
        · go_wp2_with fail
          refine (waits_any kd _).mono ?_
          rintro e w' ⟨rfl, rfl⟩
          cases eb : waitK kd
          · have R := hide (unhide HNO (by rw [eb]; rfl))
            clear eb
            go_wp2_with fail
            go_ret
            exact ⟨ret_int (unhide R).symm, hb0⟩
          · have R := hide (show restB p r (k + 1) = true by rw [unhide HS, unhide HK, eb]; rfl)
            clear eb
            go_wp2_with fail
            exact ⟨⟨k + 1, by omega, by go_num, unhide R, by first | rfl | trivial⟩, by simp [intOf]; omega⟩
        · have R := hide (unhide HNO (by simp))
          go_wp2_with fail
          go_ret
          exact ⟨ret_int (unhide R).symm, hb0⟩
    · have hkn : k = p.length := by have := unhide HN; omega
      rw [hkn] at hK
      have R := hide (unhide H0 hK)
      clear hK hkn
      go_wp2_with fail
      go_ret
      exact ⟨ret_int (unhide R).symm, hb0⟩
end Go.Proofs.YtongajonecgdpagGreatDoor
