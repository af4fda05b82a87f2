/- How many nodes stand in a program (plain): the counting of what is due. -/
import Derived.Test.YtongajonecgdpaeProgM
namespace Go.Proofs.Ytongajonecgdpae
open Go.RowKit

/-- So many are due, k nodes have come: how many nodes till nothing is due (0: never). -/
def sizeF : Nat → Nat → List NodeD → Nat
  | _, _, [] => 0
  | d, k, x :: xs => if (if hasP x.kind then d + 1 else d - 1) = 0 then k + 1 else sizeF (if hasP x.kind then d + 1 else d - 1) (k + 1) xs
def sizeP (p : List NodeD) : Nat := sizeF 1 0 p
def oneP (p : List NodeD) : Bool := decide (0 < p.length) && decide (sizeP p = p.length)
theorem size_pos : ∀ (l : List NodeD) (d k : Nat), l.length = 0 → sizeF d k l = 0
  | [], _, _, _ => rfl
  | _ :: _, _, _, h => by simp at h
theorem size_ok : ∀ (l : List NodeD) (d k : Nat), 0 < d → ((0 < l.length ∧ sizeF d k l = k + l.length) ↔ okF d l = true)
  | [], d, k, hd => by
    cases d with
    | zero => omega
    | succ d => simp [okF, sizeF]
  | x :: xs, d, k, hd => by
    cases d with
    | zero => omega
    | succ o =>
      show (0 < (x :: xs).length ∧ (if (if hasP x.kind then o + 1 + 1 else o + 1 - 1) = 0 then k + 1 else sizeF (if hasP x.kind then o + 1 + 1 else o + 1 - 1) (k + 1) xs) = k + (x :: xs).length) ↔ okF (if hasP x.kind then o + 2 else o) xs = true
      have he : (if hasP x.kind then o + 1 + 1 else o + 1 - 1) = (if hasP x.kind then o + 2 else o) := by split <;> omega
      rw [he]
      generalize (if hasP x.kind then o + 2 else o) = d'
      by_cases h0 : d' = 0
      · subst h0
        rw [if_pos rfl]
        cases xs with
        | nil => simp [okF]
        | cons y ys => simp [okF]
      · rw [if_neg h0]
        have ih := size_ok xs d' (k + 1) (by omega)
        rw [← ih]
        constructor
        · rintro ⟨_, h⟩
          simp only [List.length_cons] at h
          have h2 : 0 < xs.length := by
            rcases Nat.eq_zero_or_pos xs.length with h3 | h3
            · rw [size_pos xs d' (k + 1) h3] at h; omega
            · exact h3
          exact ⟨h2, by omega⟩
        · rintro ⟨h1, h2⟩
          refine ⟨by simp, ?_⟩
          rw [h2]; simp only [List.length_cons]; omega
theorem oneP_ok (p : List NodeD) : oneP p = okF 1 p := by
  have h := size_ok p 1 0 (by omega)
  rw [Nat.zero_add] at h
  rw [Bool.eq_iff_iff, ← h]
  unfold oneP sizeP
  simp
theorem size_span : ∀ (l : List NodeD) (d q k : Nat), 0 < d → okF (d + q) l = true → sizeF d k l = k + spanP d l
  | [], d, q, k, hd, h => by
    have : d + q = (d + q - 1) + 1 := by omega
    rw [this] at h
    simp [okF] at h
  | x :: xs, d, q, k, hd, h => by
    cases d with
    | zero => omega
    | succ o =>
      have h1 : okF (if hasP x.kind then o + q + 2 else o + q) xs = true := by
        have : o + 1 + q = (o + q) + 1 := by omega
        rw [this] at h
        exact h
      show (if (if hasP x.kind then o + 1 + 1 else o + 1 - 1) = 0 then k + 1 else sizeF (if hasP x.kind then o + 1 + 1 else o + 1 - 1) (k + 1) xs) = k + (spanP (if hasP x.kind then o + 2 else o) xs + 1)
      have he : (if hasP x.kind then o + 1 + 1 else o + 1 - 1) = (if hasP x.kind then o + 2 else o) := by split <;> omega
      have he2 : (if hasP x.kind then o + q + 2 else o + q) = (if hasP x.kind then o + 2 else o) + q := by split <;> omega
      rw [he]
      rw [he2] at h1
      generalize (if hasP x.kind then o + 2 else o) = d' at *
      by_cases h0 : d' = 0
      · subst h0
        rw [if_pos rfl]
        simp [spanP]
      · rw [if_neg h0, size_span xs d' q (k + 1) (by omega) h1]
        omega
/-- The size of what stands from node j on: up to where the next one would begin. -/
theorem size_end {p : List NodeD} (h : okF 1 p = true) {j : Nat} (hj : j < p.length) : j + sizeP (p.drop j) = endP p j := by
  obtain ⟨q, h1, _⟩ := ok_here h hj
  have := size_span (p.drop j) 1 q 0 (by omega) h1
  unfold sizeP endP
  omega
end Go.Proofs.Ytongajonecgdpae
