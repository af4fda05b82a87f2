/- How the program reads a text (plain): it reads what the document reads. -/
import Derived.Test.YtongajonecgdpagGreatDoorTextD
namespace Go.Proofs.YtongajonecgdpagGreatDoor
open Go.RowKit

/-- What stands ahead of a node's parts, between them, and behind them. -/
def headT (x : NodeD) : List UInt8 :=
  if x.kind = 0 then tNothing else if x.kind = 1 then tPause else if x.kind = 2 then tHalt
  else if x.kind = 3 then tEmit ++ letter 65 x.sig.toNat else if x.kind = 4 then tAwait ++ letter 120 x.sig.toNat
  else if x.kind = 5 then [40] else if x.kind = 6 then [40]
  else if x.kind = 7 then (tIf ++ letter 120 x.sig.toNat) ++ tThen else (tWas ++ letter 65 x.sig.toNat) ++ tThen
def betwT (x : NodeD) : List UInt8 := if x.kind = 5 then [59, 32] else if x.kind = 6 then [32, 124, 32] else if 7 ≤ x.kind then tElse else []
def endT (x : NodeD) : List UInt8 := if x.kind = 5 ∨ x.kind = 6 then [41] else if 7 ≤ x.kind then tEnd else []
def isN (x : NodeD) : Bool := decide (0 ≤ x.kind ∧ x.kind ≤ 8 ∧ 0 ≤ x.sig ∧ x.sig ≤ mostS x.kind)
def nodeI (i : Nat) : NodeD := ⟨(i / 3 : Nat), (i % 3 : Nat)⟩
def allN : List NodeD := (List.range 27).map nodeI
def findN (f : NodeD → Bool) : Option NodeD := allN.find? (fun x => isN x && f x)
def readF : Nat → List UInt8 → List NodeD → Option (List UInt8 × List NodeD)
  | 0, _, _ => none
  | m + 1, s, acc =>
    if 14 ≤ acc.length then none
    else match findN (fun x => (afterL s (headT x)).2) with
    | none => none
    | some x =>
      if betwT x = [] then some (s.drop (headT x).length, acc ++ [x])
      else match readF m (s.drop (headT x).length) (acc ++ [x]) with
      | none => none
      | some (s2, acc2) =>
        match findN (fun y => headT y == headT x && (afterL s2 (betwT y)).2) with
        | none => none
        | some y =>
          match readF m (s2.drop (betwT y).length) (acc2.set acc.length y) with
          | none => none
          | some (s4, acc4) => if (afterL s4 (endT y)).2 then some (s4.drop (endT y).length, acc4) else none
def readP (s : List UInt8) : Option (List NodeD) :=
  match readF 15 s [] with
  | some ([], q) => some q
  | _ => none

/-- These nodes, said by this text. -/
inductive Says : List NodeD → List UInt8 → Prop
  | leaf (x : NodeD) (h : isN x = true) (hp : hasP x.kind = false) : Says [x] (headT x)
  | node (x : NodeD) (a b : List NodeD) (s t : List UInt8) (h : isN x = true) (hp : hasP x.kind = true) (ha : Says a s) (hb : Says b t) : Says ([x] ++ a ++ b) (headT x ++ s ++ betwT x ++ t ++ endT x)

theorem after_split {s t : List UInt8} (h : (afterL s t).2 = true) : s = t ++ s.drop t.length := by
  unfold afterL at h
  split at h
  · rename_i e
    conv => lhs; rw [← List.take_append_drop t.length s, e]
  · simp at h
theorem after_pre' (t r : List UInt8) : (afterL (t ++ r) t).2 = true := by rw [after_pre]
theorem betw_none {x : NodeD} (h : isN x = true) : betwT x = [] ↔ hasP x.kind = false := by
  simp only [isN, decide_eq_true_iff] at h
  unfold betwT hasP
  rcases nineT ⟨h.1, h.2.1⟩ with e | e | e | e | e | e | e | e | e <;> rw [e] <;> simp [tElse]
theorem find_is {f : NodeD → Bool} {x : NodeD} (h : findN f = some x) : isN x = true ∧ f x = true := by
  have := List.find?_some h
  simpa [Bool.and_eq_true] using this
theorem Says.pos {q : List NodeD} {t : List UInt8} (h : Says q t) : 0 < q.length := by cases h <;> simp
theorem read_sound : ∀ (m : Nat) (s : List UInt8) (acc : List NodeD) (s' : List UInt8) (acc' : List NodeD), readF m s acc = some (s', acc') → ∃ q t, Says q t ∧ acc' = acc ++ q ∧ s = t ++ s' ∧ acc'.length ≤ 14
  | 0, _, _, _, _, h => by simp [readF] at h
  | m + 1, s, acc, s', acc', h => by
    unfold readF at h
    split at h
    · simp at h
    rename_i hfew
    split at h
    · simp at h
    rename_i x hx
    obtain ⟨hn, hf⟩ := find_is hx
    have e1 := after_split hf
    split at h
    · rename_i hb
      simp only [Option.some.injEq, Prod.mk.injEq] at h
      obtain ⟨rfl, rfl⟩ := h
      exact ⟨[x], headT x, Says.leaf x hn ((betw_none hn).1 hb), rfl, e1, by simp; omega⟩
    rename_i hb
    have hp : hasP x.kind = true := by
      cases hh : hasP x.kind
      · exact absurd ((betw_none hn).2 hh) hb
      · rfl
    split at h
    · simp at h
    rename_i s2 acc2 h2
    obtain ⟨a, ta, hA, rfl, e2, _⟩ := read_sound m _ _ _ _ h2
    split at h
    · simp at h
    rename_i y hy
    obtain ⟨hyn, hyf⟩ := find_is hy
    simp only [Bool.and_eq_true, beq_iff_eq] at hyf
    have e3 := after_split hyf.2
    split at h
    · simp at h
    rename_i s4 acc4 h4
    obtain ⟨b, tb, hB, rfl, e4, hle⟩ := read_sound m _ _ _ _ h4
    split at h
    · rename_i he
      have e5 := after_split he
      simp only [Option.some.injEq, Prod.mk.injEq] at h
      obtain ⟨rfl, rfl⟩ := h
      have hset : (acc ++ [x] ++ a).set acc.length y = acc ++ ([y] ++ a) := by simp
      have hyp : hasP y.kind = true := by
        cases hh : hasP y.kind
        · exfalso
          have h1 := hyf.1
          simp only [isN, decide_eq_true_iff] at hn hyn
          clear h2 h4 e1 e2 e3 e4 e5 hx hy
          have k1 := nineT ⟨hn.1, hn.2.1⟩
          have k2 := nineT ⟨hyn.1, hyn.2.1⟩
          unfold headT at h1
          rcases k1 with e | e | e | e | e | e | e | e | e <;> rw [e] at hp h1 <;> first | (simp [hasP] at hp; done) | (rcases k2 with e' | e' | e' | e' | e' | e' | e' | e' | e' <;> rw [e'] at hh h1 <;> first | (simp [hasP] at hh; done) | (simp [tNothing, tPause, tHalt, tEmit, tAwait, tIf, tWas, tThen, letter] at h1; done))
        · rfl
      refine ⟨[y] ++ a ++ b, headT y ++ ta ++ betwT y ++ tb ++ endT y, Says.node y a b ta tb hyn hyp hA hB, ?_, ?_, hle⟩
      · rw [hset]; simp
      · rw [hyf.1]
        simp only [List.append_assoc]
        rw [← e5, ← e4, ← e3, ← e2, ← e1]
    · simp at h

theorem Says.ok {q : List NodeD} {t : List UInt8} (h : Says q t) : (∀ (o : Nat) (r : List NodeD), okF (o + 1) (q ++ r) = okF o r ∧ spanP (o + 1) (q ++ r) = q.length + spanP o r) ∧ (∀ x ∈ q, isN x = true) := by
  induction h with
  | leaf x h hp =>
    refine ⟨fun o r => ?_, by simpa using h⟩
    show okF (if hasP x.kind then o + 2 else o) r = okF o r ∧ spanP (if hasP x.kind then o + 2 else o) r + 1 = 1 + spanP o r
    rw [hp]
    exact ⟨rfl, by simp; omega⟩
  | node x a b s t h hp ha hb iha ihb =>
    refine ⟨fun o r => ?_, ?_⟩
    · have e : [x] ++ a ++ b ++ r = x :: (a ++ (b ++ r)) := by simp
      rw [e]
      show okF (if hasP x.kind then o + 2 else o) (a ++ (b ++ r)) = okF o r ∧ spanP (if hasP x.kind then o + 2 else o) (a ++ (b ++ r)) + 1 = ([x] ++ a ++ b).length + spanP o r
      rw [hp]
      simp only [if_true]
      rw [(iha.1 (o + 1) (b ++ r)).1, (iha.1 (o + 1) (b ++ r)).2, (ihb.1 o r).1, (ihb.1 o r).2]
      exact ⟨rfl, by simp; omega⟩
    · intro y hy
      simp only [List.mem_append, List.mem_singleton] at hy
      rcases hy with (hy | hy) | hy
      · rw [hy]; exact h
      · exact iha.2 y hy
      · exact ihb.2 y hy
theorem Says.pok {q : List NodeD} {t : List UInt8} (h : Says q t) (hl : q.length ≤ 14) : POk q := by
  obtain ⟨h1, h2⟩ := h.ok
  refine ⟨hl, fun x hx => ?_, fun x hx => ?_, ?_⟩
  · have := h2 x hx; simp only [isN, decide_eq_true_iff] at this; exact ⟨this.1, this.2.1⟩
  · have := h2 x hx; simp only [isN, decide_eq_true_iff] at this; exact ⟨this.2.2.1, this.2.2.2⟩
  · have := (h1 0 []).1; simpa [okF] using this
theorem head_text {p : List NodeD} {m k : Nat} {x : NodeD} (hx : p.getD k ⟨0, 0⟩ = x) (hn : isN x = true) : textL p (m + 1) k = if hasP x.kind then headT x ++ textL p m (k + 1) ++ betwT x ++ textL p m (endP p (k + 1)) ++ endT x else headT x := by
  have hk : kindAt p k = x.kind := by unfold kindAt; rw [hx]
  have hs : sigN p k = x.sig.toNat := by unfold sigN; rw [hx]
  simp only [isN, decide_eq_true_iff] at hn
  conv => lhs; unfold textL
  unfold headT betwT endT
  rw [hk, hs]
  rcases nineT ⟨hn.1, hn.2.1⟩ with e | e | e | e | e | e | e | e | e <;> rw [e] <;> simp [hasP]
theorem Says.text {q : List NodeD} {t : List UInt8} (h : Says q t) : ∀ (p r : List NodeD) (m k : Nat), p.drop k = q ++ r → q.length ≤ m → textL p m k = t := by
  induction h with
  | leaf x h hp =>
    intro p r m k hd hm
    obtain ⟨m, rfl⟩ : ∃ m', m = m' + 1 := ⟨m - 1, by simp at hm; omega⟩
    have hx : p.getD k ⟨0, 0⟩ = x := by
      have : (p.drop k)[0]? = some x := by rw [hd]; rfl
      rw [List.getElem?_drop] at this
      simp at this
      simp [List.getD_eq_getElem?_getD, this]
    rw [head_text hx h, hp]; simp
  | node x a b s t h hp ha hb iha ihb =>
    intro p r m k hd hm
    obtain ⟨m, rfl⟩ : ∃ m', m = m' + 1 := ⟨m - 1, by simp at hm; omega⟩
    have hx : p.getD k ⟨0, 0⟩ = x := by
      have : (p.drop k)[0]? = some x := by rw [hd]; simp
      rw [List.getElem?_drop] at this
      simp at this
      simp [List.getD_eq_getElem?_getD, this]
    have hd1 : p.drop (k + 1) = a ++ (b ++ r) := by
      rw [← List.drop_drop, hd]; simp
    have he : endP p (k + 1) = k + 1 + a.length := by
      unfold endP
      rw [hd1, (ha.ok.1 0 (b ++ r)).2]
      simp [spanP]
    have hd2 : p.drop (endP p (k + 1)) = b ++ r := by
      rw [he, ← List.drop_drop, hd1]; simp
    simp at hm
    rw [head_text hx h, hp, iha p (b ++ r) m (k + 1) hd1 (by omega), ihb p r m _ hd2 (by omega)]
    simp
theorem says_text {p : List NodeD} (hok : POk p) : ∀ (m k : Nat), k < p.length → endP p k - k ≤ m → Says ((p.drop k).take (endP p k - k)) (textL p m k)
  | 0, k, hk, hm => by have := end_gt hk; omega
  | m + 1, k, hk, hm => by
    have ih := says_text hok m
    have hgt := end_gt hk
    have hx : p.getD k ⟨0, 0⟩ = p[k] := by simp [List.getD_eq_getElem?_getD, hk]
    have hkd := hok.kinds p[k] (List.getElem_mem hk)
    have hsg := hok.sigs p[k] (List.getElem_mem hk)
    have hn : isN p[k] = true := by simp only [isN, decide_eq_true_iff]; exact ⟨hkd.1, hkd.2, hsg.1, hsg.2⟩
    rw [head_text hx hn]
    cases hp : hasP p[k].kind
    · have h1 : endP p k - k = 1 := by rw [end_leaf hk hp]; omega
      rw [h1, take_leaf hk]
      exact Says.leaf _ hn hp
    · obtain ⟨t1, t2⟩ := end_two hok.form hk hp
      have hnd := end_node hk hp
      have g1 := end_gt t1
      have g2 := end_gt t2
      have e2 := end_le hok.form t2
      have h1 : endP p k - k = 1 + ((endP p (k + 1) - (k + 1)) + (endP p (endP p (k + 1)) - endP p (k + 1))) := by omega
      rw [h1, take_node hk]
      have h3 : k + 1 + (endP p (k + 1) - (k + 1)) = endP p (k + 1) := by omega
      rw [h3]
      exact Says.node _ _ _ _ _ hn hp (ih _ t1 (by omega)) (ih _ t2 (by omega))

/-- The node that is found first of those with one head. -/
def canon (x : NodeD) : NodeD := if x.kind = 6 then ⟨5, 0⟩ else x
def eqN (x y : NodeD) : Bool := x.kind == y.kind && x.sig == y.sig
theorem eqN_is {x y : NodeD} (h : eqN x y = true) : x = y := by
  cases x; cases y
  simp only [eqN, Bool.and_eq_true, beq_iff_eq] at h
  obtain ⟨rfl, rfl⟩ := h
  rfl
def valid : List NodeD := allN.filter isN
theorem valid_mem {x : NodeD} (h : isN x = true) : x ∈ valid := by
  simp only [isN, decide_eq_true_iff] at h
  have hs : x.sig ≤ 2 := by have := h.2.2.2; unfold mostS at this; split at this <;> omega
  obtain ⟨i, hi⟩ := Int.eq_ofNat_of_zero_le h.1
  obtain ⟨j, hj⟩ := Int.eq_ofNat_of_zero_le h.2.2.1
  refine List.mem_filter.2 ⟨List.mem_map.2 ⟨3 * i + j, List.mem_range.2 (by omega), ?_⟩, by simp only [isN, decide_eq_true_iff]; exact h⟩
  have h1 : (3 * i + j) / 3 = i := by omega
  have h2 : (3 * i + j) % 3 = j := by omega
  cases x
  simp only [nodeI, h1, h2]
  simp only at hi hj
  rw [hi, hj]
theorem find_valid (f : NodeD → Bool) : findN f = valid.find? f := by
  unfold findN valid
  rw [List.find?_filter]
  congr 1
  funext a
  cases isN a <;> cases f a <;> rfl
theorem heads_apart : ∀ x ∈ valid, ∀ y ∈ valid, (headT x <+: headT y) → headT x = headT y := by decide +kernel
theorem betws_apart : ∀ x ∈ valid, ∀ y ∈ valid, hasP x.kind = true → hasP y.kind = true → headT x = headT y → ((betwT x).isPrefixOf (betwT y) || (betwT y).isPrefixOf (betwT x)) = true → eqN x y = true := by decide +kernel
theorem heads_parts : ∀ x ∈ valid, ∀ y ∈ valid, headT x = headT y → hasP x.kind = hasP y.kind := by decide +kernel
theorem find_canon : ∀ x ∈ valid, (valid.find? (fun y => headT y == headT x)).any (fun y => eqN y (canon x)) = true := by decide +kernel
theorem canon_head : ∀ x ∈ valid, headT (canon x) = headT x ∧ (betwT (canon x) == []) = !(hasP x.kind) := by decide +kernel
theorem canon_has : ∀ x ∈ valid, betwT (canon x) = [] ↔ hasP x.kind = false := by decide +kernel

theorem find_congr {f g : NodeD → Bool} : ∀ (l : List NodeD), (∀ x ∈ l, f x = g x) → l.find? f = l.find? g
  | [], _ => rfl
  | x :: xs, h => by
    have h1 := h x (by simp)
    simp only [List.find?_cons, h1]
    rw [find_congr xs (fun y hy => h y (by simp [hy]))]
theorem after_true {s t : List UInt8} : (afterL s t).2 = true ↔ t <+: s := by
  constructor
  · intro h; exact ⟨_, (after_split h).symm⟩
  · rintro ⟨r, rfl⟩; exact after_pre' t r
theorem pre_two {a b r : List UInt8} (h : a <+: b ++ r) : a <+: b ∨ b <+: a := List.prefix_or_prefix_of_prefix h (List.prefix_append b r)
theorem head_find {x : NodeD} (h : isN x = true) (r : List UInt8) : findN (fun y => (afterL (headT x ++ r) (headT y)).2) = some (canon x) := by
  have hv := valid_mem h
  have e : valid.find? (fun y => (afterL (headT x ++ r) (headT y)).2) = valid.find? (fun y => headT y == headT x) := by
    refine find_congr _ fun y hy => ?_
    rw [Bool.eq_iff_iff, after_true, beq_iff_eq]
    constructor
    · intro hp
      rcases pre_two hp with h1 | h1
      · exact heads_apart y hy x hv h1
      · exact (heads_apart x hv y hy h1).symm
    · intro hp; rw [hp]; exact List.prefix_append _ _
  rw [find_valid, e]
  have := find_canon x hv
  cases hf : valid.find? (fun y => headT y == headT x) with
  | none => rw [hf] at this; simp at this
  | some y => rw [hf] at this; simp only [Option.any_some] at this; rw [eqN_is this]
theorem betw_find {x : NodeD} (h : isN x = true) (hp : hasP x.kind = true) (r : List UInt8) : findN (fun y => headT y == headT (canon x) && (afterL (betwT x ++ r) (betwT y)).2) = some x := by
  have hv := valid_mem h
  rw [find_valid, (canon_head x hv).1]
  have hx : (headT x == headT x && (afterL (betwT x ++ r) (betwT x)).2) = true := by rw [after_pre']; simp
  cases hf : valid.find? (fun y => headT y == headT x && (afterL (betwT x ++ r) (betwT y)).2) with
  | none => have := List.find?_eq_none.1 hf x hv; rw [hx] at this; simp at this
  | some y =>
    have h1 := List.find?_some hf
    have hy := List.mem_of_find?_eq_some hf
    simp only [Bool.and_eq_true, beq_iff_eq] at h1
    have h2 := pre_two (after_true.1 h1.2)
    have h3 := eqN_is (betws_apart x hv y hy hp (by rw [heads_parts y hy x hv h1.1]; exact hp) h1.1.symm (by
      rw [Bool.or_eq_true, List.isPrefixOf_iff_prefix, List.isPrefixOf_iff_prefix]; exact h2.symm))
    rw [h3]
theorem Says.read {q : List NodeD} {t : List UInt8} (h : Says q t) : ∀ (m : Nat) (r : List UInt8) (acc : List NodeD), q.length ≤ m → acc.length + q.length ≤ 14 → readF m (t ++ r) acc = some (r, acc ++ q) := by
  induction h with
  | leaf x h hp =>
    intro m r acc hm hl
    obtain ⟨m, rfl⟩ : ∃ m', m = m' + 1 := ⟨m - 1, by simp at hm; omega⟩
    simp at hl
    unfold readF
    rw [if_neg (by omega), head_find h r]
    have hc : canon x = x := by unfold canon; rw [if_neg]; intro e; rw [e] at hp; simp [hasP] at hp
    rw [hc]
    simp only [(betw_none h).2 hp, if_true]
    simp
  | node x a b s t h hp ha hb iha ihb =>
    intro m r acc hm hl
    obtain ⟨m, rfl⟩ : ∃ m', m = m' + 1 := ⟨m - 1, by simp at hm; omega⟩
    simp at hm hl
    have hv := valid_mem h
    have e : headT x ++ s ++ betwT x ++ t ++ endT x ++ r = headT x ++ (s ++ (betwT x ++ (t ++ (endT x ++ r)))) := by simp
    rw [e]
    unfold readF
    rw [if_neg (by omega), head_find h _]
    have hbn : ¬ betwT (canon x) = [] := fun hh => by have := (canon_has x hv).1 hh; rw [hp] at this; simp at this
    simp only [hbn, if_false, (canon_head x hv).1]
    have d1 : (headT x ++ (s ++ (betwT x ++ (t ++ (endT x ++ r))))).drop (headT x).length = s ++ (betwT x ++ (t ++ (endT x ++ r))) := by simp
    rw [d1, iha m _ (acc ++ [canon x]) (by omega) (by simp; omega)]
    have hbf := betw_find h hp (t ++ (endT x ++ r))
    rw [(canon_head x hv).1] at hbf
    simp only [hbf]
    have hset : (acc ++ [canon x] ++ a).set acc.length x = acc ++ ([x] ++ a) := by simp
    have d2 : (betwT x ++ (t ++ (endT x ++ r))).drop (betwT x).length = t ++ (endT x ++ r) := by simp
    rw [hset, d2, ihb m _ (acc ++ ([x] ++ a)) (by omega) (by simp; omega)]
    simp only [after_pre', if_true]
    simp
/-- What the program reads is what the document reads. -/
theorem read_prog (s : List UInt8) : readP s = progF s := by
  cases hp : progF s with
  | some p =>
    obtain ⟨hc, ht⟩ := shown_read hp
    have hok := pok_of hc
    have hpos : 0 < p.length := ok_some (o := 0) hok.form
    have he : endP p 0 = p.length := by
      have h1 := (ok_split p 1 0 (by simpa using hok.form))
      have h2 := ok_none h1.2.1
      have h3 : p.length ≤ spanP 1 p := by have := congrArg List.length h2; simp at this; omega
      unfold endP; simp; omega
    have hs := says_text hok p.length 0 hpos (by omega)
    rw [he] at hs
    simp at hs
    rw [ht] at hs
    have := hs.read 15 [] [] (by have := hok.few; omega) (by have := hok.few; simpa using this)
    simp at this
    unfold readP
    rw [this]
  | none =>
    cases hr : readP s with
    | none => rfl
    | some q =>
      exfalso
      unfold readP at hr
      split at hr
      · rename_i q' h
        injection hr with hr
        subst hr
        obtain ⟨q, t, hS, e1, e2, hl⟩ := read_sound _ _ _ _ _ h
        simp at e1 e2
        subst e1; subst e2
        have hok := hS.pok hl
        have := read_shown hok
        rw [hS.text q' [] q'.length 0 (by simp) (Nat.le_refl _), hp] at this
        simp at this
      · simp at hr
end Go.Proofs.YtongajonecgdpagGreatDoor
