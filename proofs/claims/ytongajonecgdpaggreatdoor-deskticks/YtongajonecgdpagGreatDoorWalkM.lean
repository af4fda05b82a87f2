/- A program, instant by instant (plain). -/
import Derived.Test.YtongajonecgdpagGreatDoorProgM
import Derived.Deep.RegionHeld3
import Derived.Deep.DeepCutAuto
import Derived.Deep.CutBlock
namespace Go.Proofs.YtongajonecgdpagGreatDoor
open Go.RowKit

/-- What comes next so far: who waits, what is put out. -/
abbrev NextD := List Bool × List Bool
def sigAt (p : List NodeD) (k : Nat) : Nat := ((p.getD k ⟨0, 0⟩).sig).toNat
def askB (p : List NodeD) (wo : List Bool) (ins : List Int) (k : Nat) : Bool := (kindAt p k == 7 && ins.getD (sigAt p k) 0 == 1) || (kindAt p k == 8 && wo.getD (sigAt p k) false)
def beginF (p : List NodeD) (wo : List Bool) (ins : List Int) : Nat → Nat → NextD → NextD × Bool
  | 0, _, s => (s, false)
  | m + 1, k, s =>
    if waitK (kindAt p k) then ((s.1.set k true, s.2), false)
    else if kindAt p k = 3 then ((s.1, s.2.set (sigAt p k) true), true)
    else if kindAt p k = 0 then (s, true)
    else if kindAt p k = 5 then
      (if (beginF p wo ins m (k + 1) s).2 then beginF p wo ins m (endP p (k + 1)) (beginF p wo ins m (k + 1) s).1 else ((beginF p wo ins m (k + 1) s).1, false))
    else if kindAt p k = 6 then
      ((beginF p wo ins m (endP p (k + 1)) (beginF p wo ins m (k + 1) s).1).1, (beginF p wo ins m (k + 1) s).2 && (beginF p wo ins m (endP p (k + 1)) (beginF p wo ins m (k + 1) s).1).2)
    else if askB p wo ins k then beginF p wo ins m (k + 1) s
    else beginF p wo ins m (endP p (k + 1)) s
def someP (p : List NodeD) (ws : List Bool) (k : Nat) : Bool := (List.range (endP p k)).any (fun i => decide (k ≤ i) && ws.getD i false)
def onF (p : List NodeD) (ws wo : List Bool) (ins : List Int) : Nat → Nat → NextD → NextD × Bool
  | 0, _, s => (s, false)
  | m + 1, k, s =>
    if kindAt p k = 1 then (s, true)
    else if kindAt p k = 2 then ((s.1.set k true, s.2), false)
    else if kindAt p k = 4 then ((s.1.set k (ins.getD (sigAt p k) 0 == 0), s.2), !(ins.getD (sigAt p k) 0 == 0))
    else if kindAt p k = 5 then
      (if someP p ws (k + 1) then
        (if (onF p ws wo ins m (k + 1) s).2 then beginF p wo ins m (endP p (k + 1)) (onF p ws wo ins m (k + 1) s).1 else ((onF p ws wo ins m (k + 1) s).1, false))
      else onF p ws wo ins m (endP p (k + 1)) s)
    else
      (if someP p ws (endP p (k + 1)) then
        ((onF p ws wo ins m (endP p (k + 1)) (if someP p ws (k + 1) then onF p ws wo ins m (k + 1) s else (s, true)).1).1, (if someP p ws (k + 1) then onF p ws wo ins m (k + 1) s else (s, true)).2 && (onF p ws wo ins m (endP p (k + 1)) (if someP p ws (k + 1) then onF p ws wo ins m (k + 1) s else (s, true)).1).2)
      else (if someP p ws (k + 1) then onF p ws wo ins m (k + 1) s else (s, true)))
/-- Lists of the same lengths; who waits newly may. -/
structure Went4 (p : List NodeD) (s t : NextD) : Prop where
  len : t.1.length = s.1.length
  outs : t.2.length = s.2.length
  may : ∀ i, t.1.getD i false = true → s.1.getD i false = true ∨ waitK (kindAt p i) = true
theorem Went4.refl (p : List NodeD) (s : NextD) : Went4 p s s := ⟨rfl, rfl, fun _ h => Or.inl h⟩
theorem Went4.trans {p : List NodeD} {s t u : NextD} (h : Went4 p s t) (h' : Went4 p t u) : Went4 p s u :=
  ⟨h'.len.trans h.len, h'.outs.trans h.outs, fun i hi => by rcases h'.may i hi with h1 | h1; exact h.may i h1; exact Or.inr h1⟩
theorem set_getD (l : List Bool) (k i : Nat) (b : Bool) (h : (l.set k b).getD i false = true) : l.getD i false = true ∨ i = k := by
  by_cases e : i = k
  · exact Or.inr e
  · left
    rw [List.getD_eq_getElem?_getD, List.getElem?_set_ne (Ne.symm e)] at h
    rw [List.getD_eq_getElem?_getD]; exact h
theorem Went4.wait {p : List NodeD} {s : NextD} {k : Nat} (b : Bool) (h : waitK (kindAt p k) = true) : Went4 p s (s.1.set k b, s.2) :=
  ⟨by simp, rfl, fun i hi => by rcases set_getD _ _ _ _ hi with h1 | h1; exact Or.inl h1; exact Or.inr (by rw [h1]; exact h)⟩
theorem begin_went (p : List NodeD) (wo : List Bool) (ins : List Int) : ∀ m k s, Went4 p s (beginF p wo ins m k s).1
  | 0, _, s => Went4.refl p s
  | m + 1, k, s => by
    have ih := begin_went p wo ins m
    unfold beginF
    split
    · exact Went4.wait true (by assumption)
    split
    · exact ⟨rfl, by simp, fun _ h => Or.inl h⟩
    split
    · exact Went4.refl p s
    split
    · split
      · exact (ih _ _).trans (ih _ _)
      · exact ih _ _
    split
    · exact (ih _ _).trans (ih _ _)
    split
    · exact ih _ _
    · exact ih _ _
theorem on_went (p : List NodeD) (ws wo : List Bool) (ins : List Int) : ∀ m k s, Went4 p s (onF p ws wo ins m k s).1
  | 0, _, s => Went4.refl p s
  | m + 1, k, s => by
    have ih := on_went p ws wo ins m
    have ihb := begin_went p wo ins m
    have hif : Went4 p s (if someP p ws (k + 1) then onF p ws wo ins m (k + 1) s else (s, true)).1 := by
      split
      · exact ih _ _
      · exact Went4.refl p s
    unfold onF
    split
    · exact Went4.refl p s
    split
    · rename_i h2; exact Went4.wait true (by rw [h2]; rfl)
    split
    · rename_i h4; exact Went4.wait _ (by rw [h4]; rfl)
    split
    · split
      · split
        · exact (ih _ _).trans (ihb _ _)
        · exact ih _ _
      · exact ih _ _
    split
    · exact hif.trans (ih _ _)
    · exact hif
def allF (l : List Bool) : Prop := ∀ i, l.getD i false = false
theorem some_no {p : List NodeD} {ws : List Bool} (h : allF ws) (k : Nat) : someP p ws k = false := by
  rw [Bool.eq_false_iff]
  intro h1
  simp only [someP, List.any_eq_true, Bool.and_eq_true] at h1
  obtain ⟨i, _, _, h2⟩ := h1
  rw [h i] at h2; simp at h2

theorem kindAt_get {p : List NodeD} {k : Nat} (hk : k < p.length) : kindAt p k = p[k].kind := by simp [kindAt, List.getD_eq_getElem?_getD, hk]
theorem hasP_of {x : Int} (h0 : 0 ≤ x ∧ x ≤ 8) (h1 : waitK x ≠ true) (h3 : x ≠ 3) (hz : x ≠ 0) : hasP x = true := by
  have h4 : x ≠ 1 := fun e => h1 (by rw [e]; rfl)
  have h5 : x ≠ 2 := fun e => h1 (by rw [e]; rfl)
  have h6 : x ≠ 4 := fun e => h1 (by rw [e]; rfl)
  unfold hasP
  rw [decide_eq_true_iff]
  omega
theorem set_far (l : List Bool) {k i : Nat} (b : Bool) (h : i ≠ k) : (l.set k b).getD i false = l.getD i false := by
  rw [List.getD_eq_getElem?_getD, List.getElem?_set_ne (Ne.symm h), List.getD_eq_getElem?_getD]
/-- Beginning a node changes nothing behind it. -/
theorem begin_above {p : List NodeD} (hok : POk p) (wo : List Bool) (ins : List Int) : ∀ (m k : Nat) (s : NextD), k < p.length → ∀ i, endP p k ≤ i → (beginF p wo ins m k s).1.1.getD i false = s.1.getD i false
  | 0, k, s, _, i, _ => rfl
  | m + 1, k, s, hk, i, hi => by
    have ih := begin_above hok wo ins m
    have hgt := end_gt hk
    have hkd := hok.kinds p[k] (List.getElem_mem hk)
    have hkk := kindAt_get hk
    unfold beginF
    split
    · exact set_far _ _ (by omega)
    rename_i h1
    split
    · rfl
    rename_i h3
    split
    · rfl
    rename_i hz
    rw [hkk] at h1 h3 hz
    have hp := hasP_of hkd h1 h3 hz
    obtain ⟨t1, t2⟩ := end_two hok.form hk hp
    have hn := end_node hk hp
    have hg2 := end_gt t2
    have i2 : endP p (endP p (k + 1)) ≤ i := by omega
    have i1 : endP p (k + 1) ≤ i := by omega
    split
    · split
      · rw [ih _ _ t2 i i2, ih _ _ t1 i i1]
      · exact ih _ _ t1 i i1
    split
    · rw [ih _ _ t2 i i2, ih _ _ t1 i i1]
    split
    · exact ih _ _ t1 i i1
    · exact ih _ _ t2 i i2
theorem some_iff {p : List NodeD} {ws : List Bool} {k : Nat} : someP p ws k = true ↔ ∃ i, k ≤ i ∧ i < endP p k ∧ ws.getD i false = true := by
  simp only [someP, List.any_eq_true, List.mem_range, Bool.and_eq_true, decide_eq_true_iff]
  constructor
  · rintro ⟨i, h1, h2, h3⟩; exact ⟨i, h2, h1, h3⟩
  · rintro ⟨i, h1, h2, h3⟩; exact ⟨i, h2, h1, h3⟩
/-- A node in which some wait: a leaf that may wait, or one with parts. -/
theorem some_kind {p : List NodeD} {ws : List Bool} {k : Nat} (hk : k < p.length) (hmay : ∀ j, ws.getD j false = true → waitK (kindAt p j) = true) (h : someP p ws k = true) : hasP (kindAt p k) = true ∨ waitK (kindAt p k) = true := by
  obtain ⟨i, h1, h2, h3⟩ := some_iff.1 h
  cases hp : hasP p[k].kind
  · rw [end_leaf hk hp] at h2
    have : i = k := by omega
    subst this
    exact Or.inr (hmay _ h3)
  · left; rw [kindAt_get hk]; exact hp
theorem some_parts {p : List NodeD} {ws : List Bool} {k : Nat} (hk : k < p.length) (hp : hasP p[k].kind = true) (hmay : ∀ j, ws.getD j false = true → waitK (kindAt p j) = true) (h : someP p ws k = true) : someP p ws (k + 1) = true ∨ someP p ws (endP p (k + 1)) = true := by
  obtain ⟨i, h1, h2, h3⟩ := some_iff.1 h
  rw [end_node hk hp] at h2
  have hik : i ≠ k := fun e => by
    have h4 := hmay i h3
    rw [e, kindAt_get hk] at h4
    unfold waitK at h4
    unfold hasP at hp
    rw [decide_eq_true_iff] at hp
    simp at h4
    omega
  by_cases hi : i < endP p (k + 1)
  · exact Or.inl (some_iff.2 ⟨i, by omega, hi, h3⟩)
  · exact Or.inr (some_iff.2 ⟨i, by omega, h2, h3⟩)
/-- Going on with a node changes nothing behind it. -/
theorem on_above {p : List NodeD} (hok : POk p) (ws wo : List Bool) (ins : List Int) (hmay : ∀ j, ws.getD j false = true → waitK (kindAt p j) = true) : ∀ (m k : Nat) (s : NextD), k < p.length → someP p ws k = true → ∀ i, endP p k ≤ i → (onF p ws wo ins m k s).1.1.getD i false = s.1.getD i false
  | 0, k, s, _, _, i, _ => rfl
  | m + 1, k, s, hk, hsome, i, hi => by
    have ih := on_above hok ws wo ins hmay m
    have ihb := begin_above hok wo ins m
    have hgt := end_gt hk
    have hkd := hok.kinds p[k] (List.getElem_mem hk)
    have hkk := kindAt_get hk
    have hsk := some_kind hk hmay hsome
    unfold onF
    split
    · rfl
    rename_i h1
    split
    · exact set_far _ _ (by omega)
    rename_i h2
    split
    · exact set_far _ _ (by omega)
    rename_i h4
    have hp : hasP p[k].kind = true := by
      rcases hsk with h | h
      · rw [← hkk]; exact h
      · unfold waitK at h; simp at h; omega
    obtain ⟨t1, t2⟩ := end_two hok.form hk hp
    have hn := end_node hk hp
    have hg2 := end_gt t2
    have i2 : endP p (endP p (k + 1)) ≤ i := by omega
    have i1 : endP p (k + 1) ≤ i := by omega
    have hsp := some_parts hk hp hmay hsome
    have hif : (if someP p ws (k + 1) then onF p ws wo ins m (k + 1) s else (s, true)).1.1.getD i false = s.1.getD i false := by
      split
      · rename_i hs; exact ih _ _ t1 hs i i1
      · rfl
    split
    · split
      · rename_i hs
        split
        · rw [ihb _ _ t2 i i2, ih _ _ t1 hs i i1]
        · exact ih _ _ t1 hs i i1
      · rename_i hs
        exact ih _ _ t2 (hsp.resolve_left hs) i i2
    split
    · rename_i hs
      rw [ih _ _ t2 hs i i2, hif]
    · exact hif

/-- All but the blocks G lies as it did, and nothing else has changed. -/
def KeptS (G : List Nat) (w w' : World) : Prop := KeptG G w w' ∧ w'.os = w.os ∧ w'.tape = w.tape ∧ w'.output = w.output
theorem KeptS.of {G : List Nat} {w w' : World} (h : Below w.heap.size w w') : KeptS G w w' := ⟨KeptG.of h, h.os, h.tape, h.output⟩
theorem KeptS.trans {G : List Nat} {w w' w'' : World} (h : KeptS G w w') (h' : KeptS G w' w'') : KeptS G w w'' := ⟨h.1.trans h'.1, h'.2.1.trans h.2.1, h'.2.2.1.trans h.2.2.1, h'.2.2.2.trans h.2.2.2⟩
theorem KeptS.set {G : List Nat} {w : World} {g k : Nat} (v : Value) (hg : g ∈ G) : KeptS G w (w.setCell ⟨g, k, none⟩ v) := by
  have h := (Below.refl 0 w).setCell (p := ⟨g, k, none⟩) (Nat.zero_le _) v
  exact ⟨KeptG.set v hg, h.os, h.tape, h.output⟩
theorem KeptS.below {G : List Nat} {w w' : World} {B : Nat} (h : KeptS G w w') (hB : ∀ g ∈ G, B ≤ g) (hs : B ≤ w.heap.size) : Below B w w' := ⟨h.2.1, h.2.2.1, h.2.2.2, h.1.1, fun k hk => h.1.2 k (by omega) (fun hm => by have := hB k hm; omega)⟩
def NextAt (gW gO : Nat) (w w' : World) (t : NextD × Bool) (e : Ending) : Prop := e = .returned (.bool t.2) ∧ BoolRow w' gW t.1.1 ∧ BoolRow w' gO t.1.2 ∧ KeptS [gW, gO] w w'
theorem BoolRow.on {w w' : World} {g : Nat} {ys : List Bool} (h : BoolRow w g ys) (hb : Below w.heap.size w w') : BoolRow w' g ys := (hb.block g h.lt).trans h
theorem BoolRow.far {w : World} {g g' k : Nat} {v : Value} {ys : List Bool} (h : BoolRow w g ys) (hne : g ≠ g') : BoolRow (w.setCell ⟨g', k, none⟩ v) g ys := (set_other hne).trans h
theorem pair2 (w : World) (u v : Value) (T : TypeId) : (w.alloc (.cells #[u, v] T)).cell? ⟨w.heap.size, 0, none⟩ = some u ∧ (w.alloc (.cells #[u, v] T)).cell? ⟨w.heap.size, 1, none⟩ = some v ∧ w.heap.size < (w.alloc (.cells #[u, v] T)).heap.size := ⟨by simp, by simp, by simp⟩
theorem nine {x : Int} (h : 0 ≤ x ∧ x ≤ 8) : x = 0 ∨ x = 1 ∨ x = 2 ∨ x = 3 ∨ x = 4 ∨ x = 5 ∨ x = 6 ∨ x = 7 ∨ x = 8 := by omega
theorem kindAt_of {p : List NodeD} {k : Nat} (hk : k < p.length) : kindAt p k = p[k].kind := by simp [kindAt, List.getD_eq_getElem?_getD, hk]
theorem sigAt_of {p : List NodeD} {k x : Nat} (hk : k < p.length) (h : p[k].sig = (x : Int)) : sigAt p k = x := by simp [sigAt, List.getD_eq_getElem?_getD, hk, h]

theorem next_of {gW gO : Nat} {w w' : World} {t t' : NextD × Bool} {e : Ending} (h : t = t') (hn : NextAt gW gO w w' t' e) : NextAt gW gO w w' t e := by rw [h]; exact hn
theorem begin_seq {p : List NodeD} {wo : List Bool} {ins : List Int} {m k : Nat} {s : NextD} (h : kindAt p k = 5) : beginF p wo ins (m + 1) k s = (if (beginF p wo ins m (k + 1) s).2 then beginF p wo ins m (endP p (k + 1)) (beginF p wo ins m (k + 1) s).1 else ((beginF p wo ins m (k + 1) s).1, false)) := by
  conv => lhs; unfold beginF
  rw [h]; rfl
theorem begin_par {p : List NodeD} {wo : List Bool} {ins : List Int} {m k : Nat} {s : NextD} (h : kindAt p k = 6) : beginF p wo ins (m + 1) k s = ((beginF p wo ins m (endP p (k + 1)) (beginF p wo ins m (k + 1) s).1).1, (beginF p wo ins m (k + 1) s).2 && (beginF p wo ins m (endP p (k + 1)) (beginF p wo ins m (k + 1) s).1).2) := by
  conv => lhs; unfold beginF
  rw [h]; rfl
theorem begin_ask {p : List NodeD} {wo : List Bool} {ins : List Int} {m k : Nat} {s : NextD} (h : kindAt p k = 7 ∨ kindAt p k = 8) : beginF p wo ins (m + 1) k s = (if askB p wo ins k then beginF p wo ins m (k + 1) s else beginF p wo ins m (endP p (k + 1)) s) := by
  conv => lhs; unfold beginF
  rcases h with h | h <;> (rw [h]; rfl)
end Go.Proofs.YtongajonecgdpagGreatDoor
