/- The walk of ProgTrue. -/
import Derived.Test.YtongajonecgdpafProgL
import Derived.Test.YtongajonecgdpafFrameP
namespace Go.Proofs.Ytongajonecgdpaf
open Go.RowKit
open Go.ChangeShapes Go.WideShapes Go.ChangeAt

def chosen (c : Int) (n : Nat) : Nat := ((if c < 0 then -(c + 1) else c) % (n : Int)).toNat
theorem chosen_lt (c : Int) (n : Nat) (h : 0 < n) : chosen c n < n := by
  unfold chosen
  have h1 := Int.emod_nonneg (if c < 0 then -(c + 1) else c) (b := (n : Int)) (by omega)
  have h2 := Int.emod_lt_of_pos (if c < 0 then -(c + 1) else c) (b := (n : Int)) (by omega)
  omega

set_option maxHeartbeats 400000 in
theorem choose_any (c : Int) (n : Nat) (w : World) (h : 0 < n) (hn : n ≤ 200) (hc : (Lit.int .i64 c).wf = true) :
    Calls Try.prog 14 #[.int .i64 c, .int .i64 (n : Int)] w fun e w' => e = .returned (.int .i64 (chosen c n : Nat)) ∧ w' = w := by
  have hb := bounds_i64 hc
  have hz : ¬ (n : Int) = 0 := by omega
  have hnn : (0 : Int) < (n : Int) := by omega
  by_cases e : c < 0
  · have HQ : Hid (((chosen c n : Nat) : Int) = -(c + 1).tmod (n : Int)) := by
      unfold Hid chosen
      rw [if_pos e, Int.toNat_of_nonneg (Int.emod_nonneg _ (by omega)), ← Int.tmod_eq_emod_of_nonneg (by omega), Int.neg_tmod]
    go_enter Try.func14, Try.ntmps14
    go_wp2
    go_ret
    exact ⟨ret_int HQ.out.symm, rfl⟩
  · have HQ : Hid (((chosen c n : Nat) : Int) = c % (n : Int)) := by
      unfold Hid chosen
      rw [if_neg e, Int.toNat_of_nonneg (Int.emod_nonneg _ (by omega))]
    go_enter Try.func14, Try.ntmps14
    go_wp2
    go_ret
    exact ⟨ret_int HQ.out.symm, rfl⟩
theorem parts_fine {p : List NodeD} (hok : POk p) {k : Nat} (hk : k < p.length) : partsE p (k : Int) = 0 := by
  unfold partsE; rw [if_pos (of_pok hok), if_pos ⟨by omega, by omega⟩]
theorem part_end {p : List NodeD} (hok : POk p) {a : Option Addr} {n c : Nat} (hc : n ≤ c) {k : Nat} (hk : k < p.length) {w : World} (h : Nodes w a n p) :
    Calls Try.prog 136 #[.slice a n c, .int .i64 (k : Int)] w fun e w' => ∃ x y : Int, e = .returned (.tuple #[.int .i64 x, .int .i64 y, .int .i64 (endP p k : Nat), .int .i64 0]) ∧ Below w.heap.size w w' := by
  refine (PParts_any p _ _ _ (k : Int) _ h hc).mono ?_
  rintro e w' ⟨hr, b⟩
  have hE := parts_fine hok hk
  unfold PartsRet at hr
  refine ⟨partA p (k : Int), partB p (k : Int), ?_, b⟩
  rw [hr, hE]
  unfold partC
  rw [if_pos hE, Int.toNat_natCast]
end Go.Proofs.Ytongajonecgdpaf
