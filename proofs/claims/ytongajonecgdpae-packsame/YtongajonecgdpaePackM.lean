/- Sixty-four at once (plain): words out of lanes. -/
import Derived.Test.YtongajonecgdpaeLevelM
import Derived.Test.YtongajonecgdpaePackA
namespace Go.Proofs.Ytongajonecgdpae
open Go.RowKit

/-- Place i of the first k lanes, as a word. -/
def wordTo (f : Nat → List Int) (i : Nat) : Nat → Int
  | 0 => 0
  | k + 1 => wordTo f i k + (f k).getD i 0 * 2 ^ k
theorem wordTo_lt {f : Nat → List Int} {i : Nat} (h : ∀ k, (f k).getD i 0 = 0 ∨ (f k).getD i 0 = 1) : ∀ k, 0 ≤ wordTo f i k ∧ wordTo f i k < 2 ^ k
  | 0 => ⟨Int.le_refl _, by show (0 : Int) < 2 ^ 0; decide⟩
  | k + 1 => by
    have ih := wordTo_lt h k
    have hp : (0 : Int) < 2 ^ k := Int.pow_pos (by decide)
    have he : (2 : Int) ^ (k + 1) = 2 ^ k * 2 := Int.pow_succ 2 k
    unfold wordTo
    rw [he]
    rcases h k with h1 | h1 <;> rw [h1] <;> omega
/-- Bit k of the word is what lane k has. -/
theorem bit_word {f : Nat → List Int} {i : Nat} (h : ∀ k, (f k).getD i 0 = 0 ∨ (f k).getD i 0 = 1) : ∀ n k, k < n → wordTo f i n / 2 ^ k % 2 = (f k).getD i 0
  | 0, k, hk => absurd hk (by omega)
  | n + 1, k, hk => by
    have hl := wordTo_lt h n
    have hp : (0 : Int) < 2 ^ k := Int.pow_pos (by decide)
    unfold wordTo
    by_cases e : k = n
    · subst e
      rw [Int.add_mul_ediv_right _ _ (by omega), Int.ediv_eq_zero_of_lt hl.1 hl.2, Int.zero_add]
      rcases h k with h1 | h1 <;> rw [h1] <;> rfl
    · have hkn : k < n := by omega
      have e1 : (f n).getD i 0 * 2 ^ n = ((f n).getD i 0 * 2 ^ (n - k - 1) * 2) * 2 ^ k := by
        rw [Int.mul_assoc, Int.mul_assoc, ← Int.pow_succ', ← Int.pow_add]
        congr 2
        omega
      rw [e1, Int.add_mul_ediv_right _ _ (by omega), Int.add_mul_emod_self_right]
      exact bit_word h n k hkn
/-- A lane laid over those below it. -/
theorem or_word {x b : Int} {k : Nat} (hk : k < 64) (h0 : 0 ≤ x) (h1 : x < 2 ^ k) (hb : b = 0 ∨ b = 1) : bits .or .u64 x (b * 2 ^ k) = x + b * 2 ^ k := by
  have e64 : (2 : Int) ^ 64 = 18446744073709551616 := by decide
  have hp : (0 : Int) < 2 ^ k := Int.pow_pos (by decide)
  have hlt : (2 : Nat) ^ k < 2 ^ 64 := Nat.pow_lt_pow_right (by decide) hk
  have hlt' : (2 : Int) ^ k < 2 ^ 64 := by exact_mod_cast hlt
  have hb2 : 0 ≤ b * 2 ^ k ∧ b * 2 ^ k < 2 ^ 64 := by rcases hb with rfl | rfl <;> omega
  have hx2 : x < 2 ^ 64 := by omega
  obtain ⟨a, ha⟩ := Int.eq_ofNat_of_zero_le h0
  obtain ⟨c, hc⟩ := Int.eq_ofNat_of_zero_le hb2.1
  have n1 := (bits_nat .u64 64 (by decide) wraps_u64' a c (by have : (a : Int) < 2 ^ 64 := by rw [← ha]; exact hx2
                                                              exact_mod_cast this) (by have : (c : Int) < 2 ^ 64 := by rw [← hc]; exact hb2.2
                                                                                       exact_mod_cast this)).2
  have n2 := (bits_nat .u64 64 (by decide) wraps_u64' c a (by have : (c : Int) < 2 ^ 64 := by rw [← hc]; exact hb2.2
                                                              exact_mod_cast this) (by have : (a : Int) < 2 ^ 64 := by rw [← ha]; exact hx2
                                                                                       exact_mod_cast this)).2
  have hm : b * 2 ^ k % 2 ^ k = 0 := Int.mul_emod_left b (2 ^ k)
  have n3 := bits_join .u64 64 (by decide) wraps_u64' k (b * 2 ^ k) x hb2.1 hm hb2.2 h0 h1 hx2
  rw [ha, hc] at n3 ⊢
  rw [n1, Nat.or_comm, ← n2, n3]
  omega
/-- A lane of words has No and Yes alone. -/
theorem lane_vals (xs : List Int) (k : Nat) : ∀ y ∈ laneV xs k, y = 0 ∨ y = 1 := by
  intro y hy
  obtain ⟨x, _, rfl⟩ := List.mem_map.1 hy
  have := Int.emod_nonneg (x / 2 ^ k) (show (2 : Int) ≠ 0 by decide)
  have := Int.emod_lt_of_pos (x / 2 ^ k) (show (0 : Int) < 2 by decide)
  omega
theorem lane_ok (xs : List Int) (k : Nat) : vals (laneV xs k) = true := by
  rw [vals_true]; intro y hy; have := lane_vals xs k y hy; omega
/-- Where there is an order each lane is settled. -/
theorem lane_do {d : NetD} (h : orderE d = 0) {regs ins : List Int} (hr : regs.length = d.regs.length) (hi : (ins.length : Int) = d.ins) (k : Nat) : doE d (laneV regs k) (laneV ins k) = 0 := by
  obtain ⟨hc, ho⟩ := orderE_ok h
  have hs : stepE d (laneV regs k) (laneV ins k) = 0 := by
    unfold stepE
    rw [if_pos hc, if_pos ⟨by rw [laneV_len]; exact hr, by rw [laneV_len]; exact hi⟩, lane_ok, lane_ok]; rfl
  have hcl := lfp_closed hc ho hs (fun x hx => by have := lane_vals regs k x hx; omega) (fun x hx => by have := lane_vals ins k x hx; omega)
  have hop : opens (lfp d (laneV regs k) (laneV ins k)) = 0 := by
    unfold opens
    rw [List.length_eq_zero_iff, List.filter_eq_nil_iff]
    intro x hx
    obtain ⟨j, hj, rfl⟩ := List.getElem_of_mem hx
    have hl := (lfp_least d (laneV regs k) (laneV ins k)).len
    have := hcl j (by omega)
    have hget : (lfp d (laneV regs k) (laneV ins k)).getD j 2 = (lfp d (laneV regs k) (laneV ins k))[j] := by simp [List.getD_eq_getElem?_getD, hj]
    rw [hget] at this
    simpa using this
  unfold doE
  rw [if_pos hs, if_pos hop]
end Go.Proofs.Ytongajonecgdpae
