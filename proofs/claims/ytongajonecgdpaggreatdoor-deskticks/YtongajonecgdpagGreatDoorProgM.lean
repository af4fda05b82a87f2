/- Programs (plain): what is one, and where its parts lie. -/
import Derived.Test.YtongajonecgdpagGreatDoorTernA
import Derived.Test.YtongajonecgdpagGreatDoorNetA
import Derived.Test.YtongajonecgdpagGreatDoorNetO
namespace Go.Proofs.YtongajonecgdpagGreatDoor
open Go.RowKit

structure NodeD where
  kind : Int
  sig : Int

def hasP (k : Int) : Bool := decide (5 ≤ k ∧ k ≤ 8)
def waitK (k : Int) : Bool := k == 1 || k == 2 || k == 4
def mostS (k : Int) : Int := if k = 4 ∨ k = 7 ∨ k = 3 ∨ k = 8 then 2 else 0
def pkTo (p : List NodeD) (k : Nat) : Bool := (p.take k).all (fun x => decide (0 ≤ x.kind ∧ x.kind ≤ 8))
def psTo (p : List NodeD) (k : Nat) : Bool := (p.take k).all (fun x => decide (0 ≤ x.sig ∧ x.sig ≤ mostS x.kind))
/-- So many parts are asked for: are they just there? -/
def okF : Nat → List NodeD → Bool
  | o, [] => o == 0
  | 0, _ :: _ => false
  | o + 1, x :: xs => okF (if hasP x.kind then o + 2 else o) xs
/-- How many nodes so many parts are. -/
def spanP : Nat → List NodeD → Nat
  | 0, _ => 0
  | _ + 1, [] => 0
  | o + 1, x :: xs => spanP (if hasP x.kind then o + 2 else o) xs + 1
def checkP (p : List NodeD) : Int := if p.length ≤ 14 then (if pkTo p p.length then (if psTo p p.length then (if okF 1 p then 0 else 1) else 3) else 4) else 2
def endP (p : List NodeD) (k : Nat) : Nat := k + spanP 1 (p.drop k)

theorem spanP_split : ∀ (l : List NodeD) (a b : Nat), spanP (a + b) l = spanP a l + spanP b (l.drop (spanP a l))
  | [], 0, b => by simp [spanP]
  | [], a + 1, b => by
    have h : a + 1 + b = (a + b) + 1 := by omega
    rw [h]
    cases b <;> simp [spanP]
  | x :: xs, 0, b => by simp [spanP]
  | x :: xs, a + 1, b => by
    have h : a + 1 + b = (a + b) + 1 := by omega
    have h2 : (if hasP x.kind then a + b + 2 else a + b) = (if hasP x.kind then a + 2 else a) + b := by split <;> omega
    rw [h]
    show spanP (if hasP x.kind then a + b + 2 else a + b) xs + 1 = spanP (if hasP x.kind then a + 2 else a) xs + 1 + spanP b ((x :: xs).drop (spanP (if hasP x.kind then a + 2 else a) xs + 1))
    rw [h2, spanP_split xs (if hasP x.kind then a + 2 else a) b, List.drop_succ_cons]
    omega
theorem ok_split : ∀ (l : List NodeD) (a b : Nat), okF (a + b) l = true → spanP a l ≤ l.length ∧ okF b (l.drop (spanP a l)) = true ∧ okF a (l.take (spanP a l)) = true
  | [], 0, b, h => by simp [spanP] at h ⊢; exact ⟨h, rfl⟩
  | [], a + 1, b, h => by simp [okF] at h
  | x :: xs, 0, b, h => by simp [spanP] at h ⊢; exact ⟨h, rfl⟩
  | x :: xs, a + 1, b, h => by
    have e1 : a + 1 + b = (a + b) + 1 := by omega
    have h2 : (if hasP x.kind then a + b + 2 else a + b) = (if hasP x.kind then a + 2 else a) + b := by split <;> omega
    rw [e1] at h
    have h' : okF (if hasP x.kind then a + b + 2 else a + b) xs = true := h
    rw [h2] at h'
    obtain ⟨h3, h4, h5⟩ := ok_split xs (if hasP x.kind then a + 2 else a) b h'
    refine ⟨?_, ?_, ?_⟩
    · show spanP (if hasP x.kind then a + 2 else a) xs + 1 ≤ xs.length + 1
      omega
    · show okF b ((x :: xs).drop (spanP (if hasP x.kind then a + 2 else a) xs + 1)) = true
      rw [List.drop_succ_cons]; exact h4
    · show okF (a + 1) ((x :: xs).take (spanP (if hasP x.kind then a + 2 else a) xs + 1)) = true
      rw [List.take_succ_cons]; exact h5
theorem ok_some {o : Nat} {l : List NodeD} (h : okF (o + 1) l = true) : 0 < l.length := by
  cases l with
  | nil => simp [okF] at h
  | cons x xs => simp
theorem ok_none {l : List NodeD} (h : okF 0 l = true) : l = [] := by
  cases l with
  | nil => rfl
  | cons x xs => simp [okF] at h
theorem drop_at {p : List NodeD} {k : Nat} (hk : k < p.length) : p.drop k = p[k] :: p.drop (k + 1) := List.drop_eq_getElem_cons hk
theorem ok_next {p : List NodeD} {k o : Nat} (hk : k < p.length) (h : okF o (p.drop k) = true) : ∃ q, o = q + 1 ∧ okF (if hasP p[k].kind then q + 2 else q) (p.drop (k + 1)) = true := by
  rw [drop_at hk] at h
  cases o with
  | zero => simp [okF] at h
  | succ q => exact ⟨q, rfl, h⟩
theorem ok_drop {p : List NodeD} (h : okF 1 p = true) : ∀ k, k ≤ p.length → ∃ o, okF o (p.drop k) = true
  | 0, _ => ⟨1, by simpa using h⟩
  | k + 1, hk => by
    obtain ⟨o, ho⟩ := ok_drop h k (by omega)
    obtain ⟨q, _, h2⟩ := ok_next (by omega) ho
    exact ⟨_, h2⟩
theorem ok_here {p : List NodeD} (h : okF 1 p = true) {k : Nat} (hk : k < p.length) : ∃ q, okF (1 + q) (p.drop k) = true ∧ okF (if hasP p[k].kind then q + 2 else q) (p.drop (k + 1)) = true := by
  obtain ⟨o, ho⟩ := ok_drop h k (by omega)
  obtain ⟨q, rfl, h2⟩ := ok_next hk ho
  exact ⟨q, by rw [Nat.add_comm]; exact ho, h2⟩
theorem end_gt {p : List NodeD} {k : Nat} (hk : k < p.length) : k < endP p k := by
  unfold endP
  rw [drop_at hk]
  show k < k + (spanP (if hasP p[k].kind then 0 + 2 else 0) (p.drop (k + 1)) + 1)
  omega
theorem end_le {p : List NodeD} (h : okF 1 p = true) {k : Nat} (hk : k < p.length) : endP p k ≤ p.length := by
  obtain ⟨q, h1, _⟩ := ok_here h hk
  have := (ok_split _ 1 q h1).1
  unfold endP
  rw [List.length_drop] at this
  omega
theorem end_leaf {p : List NodeD} {k : Nat} (hk : k < p.length) (hp : hasP p[k].kind = false) : endP p k = k + 1 := by
  unfold endP
  rw [drop_at hk]
  show k + (spanP (if hasP p[k].kind then 0 + 2 else 0) (p.drop (k + 1)) + 1) = k + 1
  rw [hp]
  simp [spanP]
theorem end_node {p : List NodeD} {k : Nat} (hk : k < p.length) (hp : hasP p[k].kind = true) : endP p k = endP p (endP p (k + 1)) := by
  unfold endP
  rw [drop_at hk]
  show k + (spanP (if hasP p[k].kind then 0 + 2 else 0) (p.drop (k + 1)) + 1) = _
  rw [hp]
  have h1 := spanP_split (p.drop (k + 1)) 1 1
  rw [List.drop_drop] at h1
  simp only [if_true]
  rw [h1]
  omega
theorem end_two {p : List NodeD} (h : okF 1 p = true) {k : Nat} (hk : k < p.length) (hp : hasP p[k].kind = true) : k + 1 < p.length ∧ endP p (k + 1) < p.length := by
  obtain ⟨q, _, h2⟩ := ok_here h hk
  rw [hp] at h2
  simp only [if_true] at h2
  have h3 := ok_some (o := q + 1) h2
  rw [List.length_drop] at h3
  have h4 : okF (1 + (q + 1)) (p.drop (k + 1)) = true := by rw [show 1 + (q + 1) = q + 2 by omega]; exact h2
  obtain ⟨h5, h6, _⟩ := ok_split _ 1 (q + 1) h4
  have h7 := ok_some h6
  rw [List.length_drop, List.length_drop] at h7
  unfold endP
  omega
structure POk (p : List NodeD) : Prop where
  few : p.length ≤ 14
  kinds : ∀ x ∈ p, 0 ≤ x.kind ∧ x.kind ≤ 8
  sigs : ∀ x ∈ p, 0 ≤ x.sig ∧ x.sig ≤ mostS x.kind
  form : okF 1 p = true
theorem pok_of {p : List NodeD} (h : checkP p = 0) : POk p := by
  unfold checkP at h
  split at h
  · rename_i h1
    split at h
    · rename_i h2
      split at h
      · rename_i h3
        split at h
        · rename_i h4
          simp only [pkTo, psTo, List.take_length, List.all_eq_true, decide_eq_true_iff] at h2 h3
          exact ⟨h1, h2, h3, h4⟩
        · simp at h
      · simp at h
    · simp at h
  · simp at h
theorem of_pok {p : List NodeD} (h : POk p) : checkP p = 0 := by
  unfold checkP
  have h2 : pkTo p p.length = true := by simp only [pkTo, List.take_length, List.all_eq_true, decide_eq_true_iff]; exact h.kinds
  have h3 : psTo p p.length = true := by simp only [psTo, List.take_length, List.all_eq_true, decide_eq_true_iff]; exact h.sigs
  rw [if_pos h.few, h2, h3, h.form]; rfl
/-- So many are due, k nodes have come: how many nodes till nothing is due (0: never). -/
def sizeF : Nat → Nat → List NodeD → Nat
  | _, _, [] => 0
  | d, k, x :: xs => if (if hasP x.kind then d + 1 else d - 1) = 0 then k + 1 else sizeF (if hasP x.kind then d + 1 else d - 1) (k + 1) xs
def sizeP (p : List NodeD) : Nat := sizeF 1 0 p
def oneP (p : List NodeD) : Bool := decide (0 < p.length) && decide (sizeP p = p.length)
theorem size_pos : ∀ (l : List NodeD) (d k : Nat), l.length = 0 → sizeF d k l = 0
  | [], _, _, _ => rfl
  | _ :: _, _, _, h => by simp at h
theorem size_ok : ∀ (l : List NodeD) (d k : Nat), 0 < d → ((0 < l.length ∧ sizeF d k l = k + l.length) ↔ okF d l = true)
  | [], d, k, hd => by
    cases d with
    | zero => omega
    | succ d => simp [okF, sizeF]
  | x :: xs, d, k, hd => by
    cases d with
    | zero => omega
    | succ o =>
      show (0 < (x :: xs).length ∧ (if (if hasP x.kind then o + 1 + 1 else o + 1 - 1) = 0 then k + 1 else sizeF (if hasP x.kind then o + 1 + 1 else o + 1 - 1) (k + 1) xs) = k + (x :: xs).length) ↔ okF (if hasP x.kind then o + 2 else o) xs = true
      have he : (if hasP x.kind then o + 1 + 1 else o + 1 - 1) = (if hasP x.kind then o + 2 else o) := by split <;> omega
      rw [he]
      generalize (if hasP x.kind then o + 2 else o) = d'
      by_cases h0 : d' = 0
      · subst h0
        rw [if_pos rfl]
        cases xs with
        | nil => simp [okF]
        | cons y ys => simp [okF]
      · rw [if_neg h0]
        have ih := size_ok xs d' (k + 1) (by omega)
        rw [← ih]
        constructor
        · rintro ⟨_, h⟩
          simp only [List.length_cons] at h
          have h2 : 0 < xs.length := by
            rcases Nat.eq_zero_or_pos xs.length with h3 | h3
            · rw [size_pos xs d' (k + 1) h3] at h; omega
            · exact h3
          exact ⟨h2, by omega⟩
        · rintro ⟨h1, h2⟩
          refine ⟨by simp, ?_⟩
          rw [h2]; simp only [List.length_cons]; omega
theorem oneP_ok (p : List NodeD) : oneP p = okF 1 p := by
  have h := size_ok p 1 0 (by omega)
  rw [Nat.zero_add] at h
  rw [Bool.eq_iff_iff, ← h]
  unfold oneP sizeP
  simp
theorem size_span : ∀ (l : List NodeD) (d q k : Nat), 0 < d → okF (d + q) l = true → sizeF d k l = k + spanP d l
  | [], d, q, k, hd, h => by
    have : d + q = (d + q - 1) + 1 := by omega
    rw [this] at h
    simp [okF] at h
  | x :: xs, d, q, k, hd, h => by
    cases d with
    | zero => omega
    | succ o =>
      have h1 : okF (if hasP x.kind then o + q + 2 else o + q) xs = true := by
        have : o + 1 + q = (o + q) + 1 := by omega
        rw [this] at h
        exact h
      show (if (if hasP x.kind then o + 1 + 1 else o + 1 - 1) = 0 then k + 1 else sizeF (if hasP x.kind then o + 1 + 1 else o + 1 - 1) (k + 1) xs) = k + (spanP (if hasP x.kind then o + 2 else o) xs + 1)
      have he : (if hasP x.kind then o + 1 + 1 else o + 1 - 1) = (if hasP x.kind then o + 2 else o) := by split <;> omega
      have he2 : (if hasP x.kind then o + q + 2 else o + q) = (if hasP x.kind then o + 2 else o) + q := by split <;> omega
      rw [he]
      rw [he2] at h1
      generalize (if hasP x.kind then o + 2 else o) = d' at *
      by_cases h0 : d' = 0
      · subst h0
        rw [if_pos rfl]
        simp [spanP]
      · rw [if_neg h0, size_span xs d' q (k + 1) (by omega) h1]
        omega
/-- The size of what stands from node j on: up to where the next one would begin. -/
theorem size_end {p : List NodeD} (h : okF 1 p = true) {j : Nat} (hj : j < p.length) : j + sizeP (p.drop j) = endP p j := by
  obtain ⟨q, h1, _⟩ := ok_here h hj
  have := size_span (p.drop j) 1 q 0 (by omega) h1
  unfold sizeP endP
  omega

def Nodes (w : World) (a : Option Addr) (n : Nat) (p : List NodeD) : Prop :=
  n = p.length ∧ p.length ≤ maxLen ∧ (p = [] ∨ ∃ b off, a = some ⟨b, off, none⟩ ∧ b < w.heap.size ∧ ∀ i (hi : i < p.length), w.cell? ⟨b, off + i * 2, none⟩ = some (.int .i64 p[i].kind) ∧ w.cell? ⟨b, off + i * 2 + 1, none⟩ = some (.int .i64 p[i].sig))
theorem Nodes.below {w w' : World} {a : Option Addr} {n : Nat} {p : List NodeD} (h : Nodes w a n p) (hb : Below w.heap.size w w') : Nodes w' a n p := by
  obtain ⟨h1, h2, h3⟩ := h
  refine ⟨h1, h2, ?_⟩
  rcases h3 with h3 | ⟨b, off, ha, hlt, hc⟩
  · exact Or.inl h3
  · exact Or.inr ⟨b, off, ha, Nat.lt_of_lt_of_le hlt hb.size, fun i hi => ⟨(hb.cell (p := ⟨b, off + i * 2, none⟩) hlt).trans (hc i hi).1, (hb.cell (p := ⟨b, off + i * 2 + 1, none⟩) hlt).trans (hc i hi).2⟩⟩
theorem Nodes.at {w : World} {a : Option Addr} {n : Nat} {p : List NodeD} (h : Nodes w a n p) {k : Nat} (hk : k < p.length) :
    ∃ b off, a = some ⟨b, off, Option.none⟩ ∧ b < w.heap.size ∧ w.cell? ⟨b, off + k * 2, Option.none⟩ = some (.int .i64 p[k].kind) ∧ w.cell? ⟨b, off + k * 2 + 1, Option.none⟩ = some (.int .i64 p[k].sig) := by
  obtain ⟨h1, h2, h3⟩ := h
  rcases h3 with h3 | ⟨b, off, ha, hlt, hc⟩
  · rw [h3] at hk; simp at hk
  · exact ⟨b, off, ha, hlt, (hc k hk).1, (hc k hk).2⟩

theorem pkTo_succ (p : List NodeD) (k : Nat) (h : k < p.length) : pkTo p (k + 1) = (pkTo p k && decide (0 ≤ p[k].kind ∧ p[k].kind ≤ 8)) := by
  unfold pkTo; rw [List.take_succ_eq_append_getElem h, List.all_append]; simp
theorem pkTo_no {p : List NodeD} {k : Nat} (h : k < p.length) (e : decide (0 ≤ p[k].kind ∧ p[k].kind ≤ 8) = false) : pkTo p p.length = false := by
  rw [Bool.eq_false_iff]
  intro h1
  simp only [pkTo, List.take_length, List.all_eq_true] at h1
  have := h1 p[k] (List.getElem_mem h)
  rw [this] at e; simp at e
theorem psTo_succ (p : List NodeD) (k : Nat) (h : k < p.length) : psTo p (k + 1) = (psTo p k && decide (0 ≤ p[k].sig ∧ p[k].sig ≤ mostS p[k].kind)) := by
  unfold psTo; rw [List.take_succ_eq_append_getElem h, List.all_append]; simp
theorem psTo_no {p : List NodeD} {k : Nat} (h : k < p.length) (e : decide (0 ≤ p[k].sig ∧ p[k].sig ≤ mostS p[k].kind) = false) : psTo p p.length = false := by
  rw [Bool.eq_false_iff]
  intro h1
  simp only [psTo, List.take_length, List.all_eq_true] at h1
  have := h1 p[k] (List.getElem_mem h)
  rw [this] at e; simp at e

def partsE (p : List NodeD) (k : Int) : Int := if checkP p = 0 then (if 0 ≤ k ∧ k < p.length then 0 else 3) else checkP p
def kindAt (p : List NodeD) (k : Nat) : Int := (p.getD k ⟨0, 0⟩).kind
def partA (p : List NodeD) (k : Int) : Int := if partsE p k = 0 then (if hasP (kindAt p k.toNat) then k + 1 else 0) else 0
def partB (p : List NodeD) (k : Int) : Int := if partsE p k = 0 then (if hasP (kindAt p k.toNat) then (endP p (k.toNat + 1) : Int) else 0) else 0
def partC (p : List NodeD) (k : Int) : Int := if partsE p k = 0 then (endP p k.toNat : Int) else 0
theorem parts_no {p : List NodeD} {k : Int} (h : partsE p k ≠ 0) : partA p k = 0 ∧ partB p k = 0 ∧ partC p k = 0 := by
  unfold partA partB partC; rw [if_neg h, if_neg h, if_neg h]; exact ⟨rfl, rfl, rfl⟩
theorem parts_leaf {p : List NodeD} {k : Nat} (h : partsE p k = 0) (hk : k < p.length) (hp : hasP p[k].kind = false) : partA p k = 0 ∧ partB p k = 0 ∧ partC p k = (k : Int) + 1 := by
  have e : kindAt p (k : Int).toNat = p[k].kind := by simp [kindAt, List.getD_eq_getElem?_getD, hk]
  unfold partA partB partC
  rw [if_pos h, if_pos h, if_pos h, e, hp, Int.toNat_natCast, end_leaf hk hp]
  exact ⟨rfl, rfl, by omega⟩
theorem parts_node {p : List NodeD} {k : Nat} (h : partsE p k = 0) (hk : k < p.length) (hp : hasP p[k].kind = true) : partA p k = (k : Int) + 1 ∧ partB p k = (endP p (k + 1) : Nat) ∧ partC p k = (endP p k : Nat) := by
  have e : kindAt p (k : Int).toNat = p[k].kind := by simp [kindAt, List.getD_eq_getElem?_getD, hk]
  unfold partA partB partC
  rw [if_pos h, if_pos h, if_pos h, e, hp, Int.toNat_natCast]
  exact ⟨rfl, rfl, rfl⟩
def PartsRet (p : List NodeD) (k : Int) (e : Ending) : Prop := e = .returned (.tuple #[.int .i64 (partA p k), .int .i64 (partB p k), .int .i64 (partC p k), .int .i64 (partsE p k)])
theorem parts_ret {p : List NodeD} {k x y z e : Int} (h1 : partA p k = x) (h2 : partB p k = y) (h3 : partC p k = z) (h4 : partsE p k = e) : PartsRet p k (.returned (.tuple #[.int .i64 x, .int .i64 y, .int .i64 z, .int .i64 e])) := by
  unfold PartsRet; rw [h1, h2, h3, h4]

def waitsV (p : List NodeD) : List Bool := p.map (fun x => waitK x.kind)
structure RestD where
  fresh : Bool
  waits : List Bool
  outs : List Bool
structure RestAt (w : World) (r : RestD) (f : Bool) (wa : Option Addr) (wn : Nat) (oa : Option Addr) (on : Nat) : Prop where
  fresh : f = r.fresh
  waits : Bools w wa wn r.waits
  outs : Bools w oa on r.outs
theorem RestAt.below {w w' : World} {r : RestD} {f : Bool} {wa : Option Addr} {wn : Nat} {oa : Option Addr} {on : Nat} (h : RestAt w r f wa wn oa on) (hb : Below w.heap.size w w') : RestAt w' r f wa wn oa on := ⟨h.fresh, h.waits.below hb, h.outs.below hb⟩
def RBox (w : World) (b : Nat) (f : Bool) (wa : Option Addr) (wn wc : Nat) (oa : Option Addr) (on oc : Nat) : Prop := b < w.heap.size ∧ w.cell? ⟨b, 0, none⟩ = some (.bool f) ∧ w.cell? ⟨b, 1, none⟩ = some (.slice wa wn wc) ∧ w.cell? ⟨b, 2, none⟩ = some (.slice oa on oc)
theorem RBox.new (w : World) (f : Bool) (wa : Option Addr) (wn wc : Nat) (oa : Option Addr) (on oc : Nat) (T : TypeId) : RBox (w.alloc (.cells #[.bool f, .slice wa wn wc, .slice oa on oc] T)) w.heap.size f wa wn wc oa on oc := ⟨by simp, by simp, by simp, by simp⟩
theorem RBox.below {w w' : World} {b : Nat} {f : Bool} {wa : Option Addr} {wn wc : Nat} {oa : Option Addr} {on oc : Nat} (h : RBox w b f wa wn wc oa on oc) (hb : Below w.heap.size w w') : RBox w' b f wa wn wc oa on oc :=
  ⟨Nat.lt_of_lt_of_le h.1 hb.size, (hb.cell (p := ⟨b, 0, none⟩) h.1).trans h.2.1, (hb.cell (p := ⟨b, 1, none⟩) h.1).trans h.2.2.1, (hb.cell (p := ⟨b, 2, none⟩) h.1).trans h.2.2.2⟩
/-- Does node k wait where it may not? -/
def badAt (p : List NodeD) (r : RestD) (k : Nat) : Bool := r.waits.getD k false && (r.fresh || !waitK (kindAt p k))
def restB (p : List NodeD) (r : RestD) (k : Nat) : Bool := (List.range k).all (fun j => !badAt p r j)
def restE (p : List NodeD) (r : RestD) : Int := if checkP p = 0 then (if r.waits.length = p.length ∧ r.outs.length = 3 then (if restB p r p.length then 0 else 1) else 1) else checkP p
theorem restB_succ (p : List NodeD) (r : RestD) (k : Nat) : restB p r (k + 1) = (restB p r k && !badAt p r k) := by unfold restB; rw [List.range_succ, List.all_append]; simp
theorem restB_no {p : List NodeD} {r : RestD} {k : Nat} (hk : k < p.length) (h : badAt p r k = true) : restB p r p.length = false := by
  rw [Bool.eq_false_iff]
  intro h1
  simp only [restB, List.all_eq_true, List.mem_range] at h1
  have := h1 k hk
  rw [h] at this; simp at this

end Go.Proofs.YtongajonecgdpagGreatDoor
