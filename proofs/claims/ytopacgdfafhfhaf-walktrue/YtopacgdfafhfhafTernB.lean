/- What tern.Check, All and Any answer, and the document's answers beside them, for every list that is read. -/
import Derived.Test.YtopacgdfafhfhafTernA
namespace Go.Proofs.Ytopacgdfafhfhaf
open Go.RowKit

theorem lt_maxLen (n : Nat) (h : n ≤ 100) : n ≤ maxLen := by unfold maxLen; omega

def ckE (xs : List Int) : Int := if vals xs then 0 else 3

theorem ret_pair {k l : IntKind} {a b c d : Int} (h : a = b) (g : c = d) : Ending.returned (.tuple #[.int k a, .int l c]) = .returned (.tuple #[.int k b, .int l d]) := by rw [h, g]
theorem ret_bpair {l : IntKind} {a b : Bool} {c d : Int} (h : a = b) (g : c = d) : Ending.returned (.tuple #[.bool a, .int l c]) = .returned (.tuple #[.bool b, .int l d]) := by rw [h, g]

def tellV (d o : Int) (xs : List Int) : Int := if has d xs then d else if has 2 xs then 2 else o

theorem cnt_yes (v : Int) (xs : List Int) (h : has v xs = true) : 0 < cnt v xs := by
  have := cnt_pos v xs; rw [h, decide_eq_true_iff] at this; omega
theorem cnt_no (v : Int) (xs : List Int) (h : has v xs = false) : cnt v xs = 0 := by
  have := cnt_pos v xs; rw [h, decide_eq_false_iff_not] at this; omega

def allV (xs : List Int) : Int := if vals xs then tellV 0 1 xs else 0
def anyV (xs : List Int) : Int := if vals xs then tellV 1 0 xs else 0

end Go.Proofs.Ytopacgdfafhfhaf
