/- What sweep calls of the library: bits.Mul, slices.Repeat, slices.Clone. -/
import Derived.Test.YtongajonecgdpadSweepM
import Derived.Test.YtongajonecgdpadEvalQ
import Derived.Test.YtongajonecgdpadApp
import Derived.Laws.CopyOwn
namespace Go.Proofs.Ytongajonecgdpad
open Go.RowKit

theorem nil_eqc (w : World) (c : Nat) : Sem.run Try.prog (binOp BinOp.eql 24 (Value.slice none 0 c) (Value.slice none 0 0)) w = .ok (.bool true) w := by kernel_rfl
theorem nil_nec (w : World) (ad : Addr) (n c : Nat) : Sem.run Try.prog (binOp BinOp.eql 24 (Value.slice (some ad) n c) (Value.slice none 0 0)) w = .ok (.bool false) w := by kernel_rfl
theorem nil_eqs (w : World) (c : Nat) : Sem.run Try.prog (binOp BinOp.eql 23 (Value.slice none 0 c) (Value.slice none 0 0)) w = .ok (.bool true) w := by kernel_rfl
theorem nil_nes (w : World) (ad : Addr) (n c : Nat) : Sem.run Try.prog (binOp BinOp.eql 23 (Value.slice (some ad) n c) (Value.slice none 0 0)) w = .ok (.bool false) w := by kernel_rfl

theorem le20 {n : Nat} (h : n ≤ 20) : n = 0 ∨ n = 1 ∨ n = 2 ∨ n = 3 ∨ n = 4 ∨ n = 5 ∨ n = 6 ∨ n = 7 ∨ n = 8 ∨ n = 9 ∨ n = 10 ∨ n = 11 ∨ n = 12 ∨ n = 13 ∨ n = 14 ∨ n = 15 ∨ n = 16 ∨ n = 17 ∨ n = 18 ∨ n = 19 ∨ n = 20 := by omega
set_option maxHeartbeats 2000000 in
theorem Mul64_any (n : Nat) (hn : n ≤ 20) (w : World) :
    Calls Try.prog 71 #[.int .u64 1, .int .u64 (n : Int)] w fun e w' => e = .returned (.tuple #[.int .u64 0, .int .u64 (n : Int)]) ∧ w' = w := by
  rcases le20 hn with rfl | rfl | rfl | rfl | rfl | rfl | rfl | rfl | rfl | rfl | rfl | rfl | rfl | rfl | rfl | rfl | rfl | rfl | rfl | rfl | rfl
  all_goals
    go_enter Try.func71, Try.ntmps71
    go_wp2_with fail
    go_ret2
    exact ⟨rfl, rfl⟩
set_option maxHeartbeats 1000000 in
theorem Mul_any (n : Nat) (hn : n ≤ 20) (w : World) :
    Calls Try.prog 52 #[.int .u64 1, .int .u64 (n : Int)] w fun e w' => e = .returned (.tuple #[.int .u64 0, .int .u64 (n : Int)]) ∧ w' = w := by
  go_enter Try.func52, Try.ntmps52
  go_wp2_with fail
  refine (Mul64_any n hn _).mono ?_
  rintro e w1 ⟨rfl, rfl⟩
  go_wp2_with fail
  go_ret2
  exact ⟨rfl, rfl⟩
end Go.Proofs.Ytongajonecgdpad
