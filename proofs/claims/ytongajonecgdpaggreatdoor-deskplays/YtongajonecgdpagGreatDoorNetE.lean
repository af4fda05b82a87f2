/- The document's answer of net.Check (linchpinref.CheckNet): the same as the program's, for every net that is read. -/
import Derived.Test.YtongajonecgdpagGreatDoorNetA
namespace Go.Proofs.YtongajonecgdpagGreatDoor
open Go.RowKit

theorem Gates.at' {w : World} {a : Option Addr} {n : Nat} {gs : List GateD} (h : Gates w a n gs) {k : Nat} (hk : k < gs.length) :
    ∃ b off aa an ac, a = some ⟨b, off, Option.none⟩ ∧ b < w.heap.size ∧ w.cell? ⟨b, off + k * 3, Option.none⟩ = some (.int .i64 gs[k].kind) ∧ w.cell? ⟨b, off + k * 3 + 1, Option.none⟩ = some (.int .i64 gs[k].n) ∧
      w.cell? ⟨b, off + k * 3 + 2, Option.none⟩ = some (.slice aa an ac) ∧ Ints w aa an gs[k].args := by
  obtain ⟨b, off, aa, ac, h1, h2, h3, h4, h5, h6⟩ := h.at hk
  exact ⟨b, off, aa, _, ac, h1, h2, h3, h4, h5, h6⟩

theorem within_isB (x : Int) (n : Nat) : decide (0 ≤ x ∧ x ≤ (n : Int) - 1) = isB x n := by
  unfold isB; rw [Bool.eq_iff_iff, decide_eq_true_iff, decide_eq_true_iff]; omega
theorem within_isB' (x m : Int) : decide (0 ≤ x ∧ x ≤ m - 1) = isB x m := by
  unfold isB; rw [Bool.eq_iff_iff, decide_eq_true_iff, decide_eq_true_iff]; omega
theorem within_zero (x : Int) : decide (0 ≤ x ∧ x ≤ 0) = (x == 0) := by
  rw [Bool.eq_iff_iff, decide_eq_true_iff, beq_iff_eq]; omega

end Go.Proofs.YtongajonecgdpagGreatDoor
