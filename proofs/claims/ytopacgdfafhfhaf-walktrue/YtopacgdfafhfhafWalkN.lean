/- A program, instant by instant (plain): what lies behind a node is left as it was. -/
import Derived.Test.YtopacgdfafhfhafWalkM
import Derived.Test.YtopacgdfafhfhafProgN
namespace Go.Proofs.Ytopacgdfafhfhaf
open Go.RowKit

theorem kindAt_get {p : List NodeD} {k : Nat} (hk : k < p.length) : kindAt p k = p[k].kind := by simp [kindAt, List.getD_eq_getElem?_getD, hk]
theorem hasP_of {x : Int} (h0 : 0 ≤ x ∧ x ≤ 8) (h1 : waitK x ≠ true) (h3 : x ≠ 3) (hz : x ≠ 0) : hasP x = true := by
  have h4 : x ≠ 1 := fun e => h1 (by rw [e]; rfl)
  have h5 : x ≠ 2 := fun e => h1 (by rw [e]; rfl)
  have h6 : x ≠ 4 := fun e => h1 (by rw [e]; rfl)
  unfold hasP
  rw [decide_eq_true_iff]
  omega
theorem set_far (l : List Bool) {k i : Nat} (b : Bool) (h : i ≠ k) : (l.set k b).getD i false = l.getD i false := by
  rw [List.getD_eq_getElem?_getD, List.getElem?_set_ne (Ne.symm h), List.getD_eq_getElem?_getD]
/-- Beginning a node changes nothing behind it. -/
theorem begin_above {p : List NodeD} (hok : POk p) (wo : List Bool) (ins : List Int) : ∀ (m k : Nat) (s : NextD), k < p.length → ∀ i, endP p k ≤ i → (beginF p wo ins m k s).1.1.getD i false = s.1.getD i false
  | 0, k, s, _, i, _ => rfl
  | m + 1, k, s, hk, i, hi => by
    have ih := begin_above hok wo ins m
    have hgt := end_gt hk
    have hkd := hok.kinds p[k] (List.getElem_mem hk)
    have hkk := kindAt_get hk
    unfold beginF
    split
    · exact set_far _ _ (by omega)
    rename_i h1
    split
    · rfl
    rename_i h3
    split
    · rfl
    rename_i hz
    rw [hkk] at h1 h3 hz
    have hp := hasP_of hkd h1 h3 hz
    obtain ⟨t1, t2⟩ := end_two hok.form hk hp
    have hn := end_node hk hp
    have hg2 := end_gt t2
    have i2 : endP p (endP p (k + 1)) ≤ i := by omega
    have i1 : endP p (k + 1) ≤ i := by omega
    split
    · split
      · rw [ih _ _ t2 i i2, ih _ _ t1 i i1]
      · exact ih _ _ t1 i i1
    split
    · rw [ih _ _ t2 i i2, ih _ _ t1 i i1]
    split
    · exact ih _ _ t1 i i1
    · exact ih _ _ t2 i i2
theorem some_iff {p : List NodeD} {ws : List Bool} {k : Nat} : someP p ws k = true ↔ ∃ i, k ≤ i ∧ i < endP p k ∧ ws.getD i false = true := by
  simp only [someP, List.any_eq_true, List.mem_range, Bool.and_eq_true, decide_eq_true_iff]
  constructor
  · rintro ⟨i, h1, h2, h3⟩; exact ⟨i, h2, h1, h3⟩
  · rintro ⟨i, h1, h2, h3⟩; exact ⟨i, h2, h1, h3⟩
/-- A node in which some wait: a leaf that may wait, or one with parts. -/
theorem some_kind {p : List NodeD} {ws : List Bool} {k : Nat} (hk : k < p.length) (hmay : ∀ j, ws.getD j false = true → waitK (kindAt p j) = true) (h : someP p ws k = true) : hasP (kindAt p k) = true ∨ waitK (kindAt p k) = true := by
  obtain ⟨i, h1, h2, h3⟩ := some_iff.1 h
  cases hp : hasP p[k].kind
  · rw [end_leaf hk hp] at h2
    have : i = k := by omega
    subst this
    exact Or.inr (hmay _ h3)
  · left; rw [kindAt_get hk]; exact hp
theorem some_parts {p : List NodeD} {ws : List Bool} {k : Nat} (hk : k < p.length) (hp : hasP p[k].kind = true) (hmay : ∀ j, ws.getD j false = true → waitK (kindAt p j) = true) (h : someP p ws k = true) : someP p ws (k + 1) = true ∨ someP p ws (endP p (k + 1)) = true := by
  obtain ⟨i, h1, h2, h3⟩ := some_iff.1 h
  rw [end_node hk hp] at h2
  have hik : i ≠ k := fun e => by
    have h4 := hmay i h3
    rw [e, kindAt_get hk] at h4
    unfold waitK at h4
    unfold hasP at hp
    rw [decide_eq_true_iff] at hp
    simp at h4
    omega
  by_cases hi : i < endP p (k + 1)
  · exact Or.inl (some_iff.2 ⟨i, by omega, hi, h3⟩)
  · exact Or.inr (some_iff.2 ⟨i, by omega, h2, h3⟩)
/-- Going on with a node changes nothing behind it. -/
theorem on_above {p : List NodeD} (hok : POk p) (ws wo : List Bool) (ins : List Int) (hmay : ∀ j, ws.getD j false = true → waitK (kindAt p j) = true) : ∀ (m k : Nat) (s : NextD), k < p.length → someP p ws k = true → ∀ i, endP p k ≤ i → (onF p ws wo ins m k s).1.1.getD i false = s.1.getD i false
  | 0, k, s, _, _, i, _ => rfl
  | m + 1, k, s, hk, hsome, i, hi => by
    have ih := on_above hok ws wo ins hmay m
    have ihb := begin_above hok wo ins m
    have hgt := end_gt hk
    have hkd := hok.kinds p[k] (List.getElem_mem hk)
    have hkk := kindAt_get hk
    have hsk := some_kind hk hmay hsome
    unfold onF
    split
    · rfl
    rename_i h1
    split
    · exact set_far _ _ (by omega)
    rename_i h2
    split
    · exact set_far _ _ (by omega)
    rename_i h4
    have hp : hasP p[k].kind = true := by
      rcases hsk with h | h
      · rw [← hkk]; exact h
      · unfold waitK at h; simp at h; omega
    obtain ⟨t1, t2⟩ := end_two hok.form hk hp
    have hn := end_node hk hp
    have hg2 := end_gt t2
    have i2 : endP p (endP p (k + 1)) ≤ i := by omega
    have i1 : endP p (k + 1) ≤ i := by omega
    have hsp := some_parts hk hp hmay hsome
    have hif : (if someP p ws (k + 1) then onF p ws wo ins m (k + 1) s else (s, true)).1.1.getD i false = s.1.getD i false := by
      split
      · rename_i hs; exact ih _ _ t1 hs i i1
      · rfl
    split
    · split
      · rename_i hs
        split
        · rw [ihb _ _ t2 i i2, ih _ _ t1 hs i i1]
        · exact ih _ _ t1 hs i i1
      · rename_i hs
        exact ih _ _ t2 (hsp.resolve_left hs) i i2
    split
    · rename_i hs
      rw [ih _ _ t2 hs i i2, hif]
    · exact hif
end Go.Proofs.Ytopacgdfafhfhaf
