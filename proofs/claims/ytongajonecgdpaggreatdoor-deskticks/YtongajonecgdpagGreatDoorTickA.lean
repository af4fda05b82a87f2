/- The document's tick: what is picked, what is next, bits, power. -/
import Derived.Test.YtongajonecgdpagGreatDoorEvalM
namespace Go.Proofs.YtongajonecgdpagGreatDoor
open Go.RowKit
theorem power_le (m : Nat) (h : m ≤ 20) : (2 : Int) ^ m ≤ 1048576 := by
  have h1 : 2 ^ m ≤ 1048576 := Nat.le_trans (Nat.pow_le_pow_right (n := 2) (by decide) h) (by decide)
  have h2 : ((2 ^ m : Nat) : Int) ≤ 1048576 := Int.ofNat_le.mpr h1
  rw [Int.natCast_pow] at h2
  exact h2
end Go.Proofs.YtongajonecgdpagGreatDoor
