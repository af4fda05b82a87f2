/- The program's rows: row.Pick and row.Of. -/
import Derived.Test.YtopacgdfafhfhafRowM
import Derived.Laws.BitsLemmas
namespace Go.Proofs.Ytopacgdfafhfhaf
open Go.RowKit

theorem IntRow.fresh {w : World} {g n : Nat} {xs : List Int} {base : Nat} (_h : IntRow w g xs) (hg : base ≤ g) : Fresh base (some ⟨g, 0, none⟩) n := Or.inr ⟨g, 0, rfl, hg⟩

theorem wraps_i64 (n : Int) (h₀ : 0 ≤ n) (h₁ : n < 2 ^ 62) : IntKind.i64.wrap n = n := by
  have e : (2 : Int) ^ 62 = 4611686018427387904 := by decide
  rw [e] at h₁
  rw [IntKind.wrap_i64]; omega
theorem and_one (x : Int) (h₀ : 0 ≤ x) (h₁ : x ≤ 1048576) : bits .and .i64 x 1 = x % 2 := by
  have e : (2 : Int) ^ 62 = 4611686018427387904 := by decide
  have := bits_mask .i64 62 (by decide) wraps_i64 1 (by decide) x h₀ (by rw [e]; omega)
  simpa using this
theorem bit01 (x : Int) (k : Nat) : x / 2 ^ k % 2 = 0 ∨ x / 2 ^ k % 2 = 1 := by omega
theorem bits_lt (x : Int) (k : Nat) : 0 ≤ x / 2 ^ k % 2 ∧ x / 2 ^ k % 2 < 2 := ⟨Int.emod_nonneg _ (by decide), Int.emod_lt_of_pos _ (by decide)⟩
end Go.Proofs.Ytopacgdfafhfhaf
