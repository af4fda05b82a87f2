/- A program, instant by instant (plain). -/
import Derived.Test.YtopacgdfafhfhafProgC
namespace Go.Proofs.Ytopacgdfafhfhaf
open Go.RowKit

/-- What comes next so far: who waits, what is put out. -/
abbrev NextD := List Bool × List Bool
def sigAt (p : List NodeD) (k : Nat) : Nat := ((p.getD k ⟨0, 0⟩).sig).toNat
def askB (p : List NodeD) (wo : List Bool) (ins : List Int) (k : Nat) : Bool := (kindAt p k == 7 && ins.getD (sigAt p k) 0 == 1) || (kindAt p k == 8 && wo.getD (sigAt p k) false)
def beginF (p : List NodeD) (wo : List Bool) (ins : List Int) : Nat → Nat → NextD → NextD × Bool
  | 0, _, s => (s, false)
  | m + 1, k, s =>
    if waitK (kindAt p k) then ((s.1.set k true, s.2), false)
    else if kindAt p k = 3 then ((s.1, s.2.set (sigAt p k) true), true)
    else if kindAt p k = 0 then (s, true)
    else if kindAt p k = 5 then
      (if (beginF p wo ins m (k + 1) s).2 then beginF p wo ins m (endP p (k + 1)) (beginF p wo ins m (k + 1) s).1 else ((beginF p wo ins m (k + 1) s).1, false))
    else if kindAt p k = 6 then
      ((beginF p wo ins m (endP p (k + 1)) (beginF p wo ins m (k + 1) s).1).1, (beginF p wo ins m (k + 1) s).2 && (beginF p wo ins m (endP p (k + 1)) (beginF p wo ins m (k + 1) s).1).2)
    else if askB p wo ins k then beginF p wo ins m (k + 1) s
    else beginF p wo ins m (endP p (k + 1)) s
def someP (p : List NodeD) (ws : List Bool) (k : Nat) : Bool := (List.range (endP p k)).any (fun i => decide (k ≤ i) && ws.getD i false)
def onF (p : List NodeD) (ws wo : List Bool) (ins : List Int) : Nat → Nat → NextD → NextD × Bool
  | 0, _, s => (s, false)
  | m + 1, k, s =>
    if kindAt p k = 1 then (s, true)
    else if kindAt p k = 2 then ((s.1.set k true, s.2), false)
    else if kindAt p k = 4 then ((s.1.set k (ins.getD (sigAt p k) 0 == 0), s.2), !(ins.getD (sigAt p k) 0 == 0))
    else if kindAt p k = 5 then
      (if someP p ws (k + 1) then
        (if (onF p ws wo ins m (k + 1) s).2 then beginF p wo ins m (endP p (k + 1)) (onF p ws wo ins m (k + 1) s).1 else ((onF p ws wo ins m (k + 1) s).1, false))
      else onF p ws wo ins m (endP p (k + 1)) s)
    else
      (if someP p ws (endP p (k + 1)) then
        ((onF p ws wo ins m (endP p (k + 1)) (if someP p ws (k + 1) then onF p ws wo ins m (k + 1) s else (s, true)).1).1, (if someP p ws (k + 1) then onF p ws wo ins m (k + 1) s else (s, true)).2 && (onF p ws wo ins m (endP p (k + 1)) (if someP p ws (k + 1) then onF p ws wo ins m (k + 1) s else (s, true)).1).2)
      else (if someP p ws (k + 1) then onF p ws wo ins m (k + 1) s else (s, true)))
/-- Lists of the same lengths; who waits newly may. -/
structure Went4 (p : List NodeD) (s t : NextD) : Prop where
  len : t.1.length = s.1.length
  outs : t.2.length = s.2.length
  may : ∀ i, t.1.getD i false = true → s.1.getD i false = true ∨ waitK (kindAt p i) = true
theorem Went4.refl (p : List NodeD) (s : NextD) : Went4 p s s := ⟨rfl, rfl, fun _ h => Or.inl h⟩
theorem Went4.trans {p : List NodeD} {s t u : NextD} (h : Went4 p s t) (h' : Went4 p t u) : Went4 p s u :=
  ⟨h'.len.trans h.len, h'.outs.trans h.outs, fun i hi => by rcases h'.may i hi with h1 | h1; exact h.may i h1; exact Or.inr h1⟩
theorem set_getD (l : List Bool) (k i : Nat) (b : Bool) (h : (l.set k b).getD i false = true) : l.getD i false = true ∨ i = k := by
  by_cases e : i = k
  · exact Or.inr e
  · left
    rw [List.getD_eq_getElem?_getD, List.getElem?_set_ne (Ne.symm e)] at h
    rw [List.getD_eq_getElem?_getD]; exact h
theorem Went4.wait {p : List NodeD} {s : NextD} {k : Nat} (b : Bool) (h : waitK (kindAt p k) = true) : Went4 p s (s.1.set k b, s.2) :=
  ⟨by simp, rfl, fun i hi => by rcases set_getD _ _ _ _ hi with h1 | h1; exact Or.inl h1; exact Or.inr (by rw [h1]; exact h)⟩
theorem begin_went (p : List NodeD) (wo : List Bool) (ins : List Int) : ∀ m k s, Went4 p s (beginF p wo ins m k s).1
  | 0, _, s => Went4.refl p s
  | m + 1, k, s => by
    have ih := begin_went p wo ins m
    unfold beginF
    split
    · exact Went4.wait true (by assumption)
    split
    · exact ⟨rfl, by simp, fun _ h => Or.inl h⟩
    split
    · exact Went4.refl p s
    split
    · split
      · exact (ih _ _).trans (ih _ _)
      · exact ih _ _
    split
    · exact (ih _ _).trans (ih _ _)
    split
    · exact ih _ _
    · exact ih _ _
/-- Who is over has begun nobody who waits. -/
theorem begin_over (p : List NodeD) (wo : List Bool) (ins : List Int) : ∀ m k s, (beginF p wo ins m k s).2 = true → (beginF p wo ins m k s).1.1 = s.1
  | 0, _, s => fun h => by simp [beginF] at h
  | m + 1, k, s => by
    have ih := begin_over p wo ins m
    unfold beginF
    split
    · intro h; simp at h
    split
    · intro _; rfl
    split
    · intro _; rfl
    split
    · split
      · rename_i hb
        intro h
        rw [ih _ _ h, ih _ _ hb]
      · intro h; simp at h
    split
    · intro h
      simp only [Bool.and_eq_true] at h
      rw [ih _ _ h.2, ih _ _ h.1]
    split
    · exact ih _ _
    · exact ih _ _
theorem on_went (p : List NodeD) (ws wo : List Bool) (ins : List Int) : ∀ m k s, Went4 p s (onF p ws wo ins m k s).1
  | 0, _, s => Went4.refl p s
  | m + 1, k, s => by
    have ih := on_went p ws wo ins m
    have ihb := begin_went p wo ins m
    have hif : Went4 p s (if someP p ws (k + 1) then onF p ws wo ins m (k + 1) s else (s, true)).1 := by
      split
      · exact ih _ _
      · exact Went4.refl p s
    unfold onF
    split
    · exact Went4.refl p s
    split
    · rename_i h2; exact Went4.wait true (by rw [h2]; rfl)
    split
    · rename_i h4; exact Went4.wait _ (by rw [h4]; rfl)
    split
    · split
      · split
        · exact (ih _ _).trans (ihb _ _)
        · exact ih _ _
      · exact ih _ _
    split
    · exact hif.trans (ih _ _)
    · exact hif
def allF (l : List Bool) : Prop := ∀ i, l.getD i false = false
theorem set_false {l : List Bool} (h : allF l) (k : Nat) : l.set k false = l := by
  by_cases hk : k < l.length
  · have h1 : l[k] = false := by have := h k; simpa [List.getD_eq_getElem?_getD, hk] using this
    conv => lhs; rw [← h1]
    exact List.set_getElem_self hk
  · exact List.set_eq_of_length_le (by omega)
theorem on_over (p : List NodeD) (ws wo : List Bool) (ins : List Int) : ∀ m k s, allF s.1 → (onF p ws wo ins m k s).2 = true → (onF p ws wo ins m k s).1.1 = s.1
  | 0, _, s => fun _ h => by simp [onF] at h
  | m + 1, k, s => by
    intro hs
    have ih := on_over p ws wo ins m
    have ihb := begin_over p wo ins m
    have hif : (if someP p ws (k + 1) then onF p ws wo ins m (k + 1) s else (s, true)).2 = true → (if someP p ws (k + 1) then onF p ws wo ins m (k + 1) s else (s, true)).1.1 = s.1 := by
      split
      · exact ih _ _ hs
      · intro _; rfl
    unfold onF
    split
    · intro _; rfl
    split
    · intro h; simp at h
    split
    · intro h
      have h0 : (ins.getD (sigAt p k) 0 == 0) = false := by simpa using h
      rw [h0]
      exact set_false hs k
    split
    · split
      · split
        · rename_i hb
          intro h
          rw [ihb _ _ h, ih _ _ hs hb]
        · intro h; simp at h
      · exact ih _ _ hs
    split
    · intro h
      simp only [Bool.and_eq_true] at h
      have h1 := hif h.1
      rw [ih _ _ (by rw [h1]; exact hs) h.2, h1]
    · exact hif
theorem some_no {p : List NodeD} {ws : List Bool} (h : allF ws) (k : Nat) : someP p ws k = false := by
  rw [Bool.eq_false_iff]
  intro h1
  simp only [someP, List.any_eq_true, Bool.and_eq_true] at h1
  obtain ⟨i, _, _, h2⟩ := h1
  rw [h i] at h2; simp at h2
end Go.Proofs.Ytopacgdfafhfhaf
