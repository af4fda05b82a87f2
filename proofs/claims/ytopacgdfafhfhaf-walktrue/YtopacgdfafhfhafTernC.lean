/- What tern.Not and Leq answer, and the document's answers beside them, for whatever is handed in. -/
import Derived.Test.YtopacgdfafhfhafTernB
import Derived.Deep.QuietTactic
import Derived.BigQuiet
namespace Go.Proofs.Ytopacgdfafhfhaf
open Go.RowKit

def not1 (v : Int) : Int := if v = 2 then 2 else 1 - v
def notV (v : Int) : Int := if val v then not1 v else 0
def notE (v : Int) : Int := if val v then 0 else 3
theorem ck_one (v : Int) : ckE [v] = notE v := by simp [ckE, notE, vals]
theorem vals_one (v : Int) : vals [v] = val v := by simp [vals]

def leqTo (xs ys : List Int) (k : Nat) : Bool := (List.range k).all fun i => xs.getD i 0 == 2 || xs.getD i 0 == ys.getD i 0
def leqV (xs ys : List Int) : Bool := leqTo xs ys xs.length
theorem leqTo_succ (xs ys : List Int) (k : Nat) : leqTo xs ys (k + 1) = (leqTo xs ys k && (xs.getD k 0 == 2 || xs.getD k 0 == ys.getD k 0)) := by
  simp [leqTo, List.range_succ]
theorem leqTo_no (xs ys : List Int) (k : Nat) (h : k < xs.length) (e : (xs.getD k 0 == 2 || xs.getD k 0 == ys.getD k 0) = false) : leqV xs ys = false := by
  simp only [leqV, leqTo, List.all_eq_false]
  exact ⟨k, by simpa using h, by rw [e]; simp⟩
theorem getD_at (xs : List Int) (k : Nat) (h : k < xs.length) : xs.getD k 0 = xs[k] := by simp [List.getD_eq_getElem?_getD, h]

def leqB (xs ys : List Int) : Bool := if vals xs && vals ys then (if xs.length = ys.length then leqV xs ys else false) else false
def leqE (xs ys : List Int) : Int := if vals xs && vals ys then (if xs.length = ys.length then 0 else 1) else 3

theorem has2 (x y : Int) : has x [2, y] = (x == 2 || x == y) := by simp [has]

end Go.Proofs.Ytopacgdfafhfhaf
