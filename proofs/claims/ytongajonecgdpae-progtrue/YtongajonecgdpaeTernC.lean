/- What tern.Not and Leq answer, and the document's answers beside them, for whatever is handed in. -/
import Derived.Test.YtongajonecgdpaeTernB
import Derived.Deep.QuietTactic
import Derived.BigQuiet
namespace Go.Proofs.Ytongajonecgdpae
open Go.RowKit

def not1 (v : Int) : Int := if v = 2 then 2 else 1 - v
def notV (v : Int) : Int := if val v then not1 v else 0
def notE (v : Int) : Int := if val v then 0 else 3
theorem ck_one (v : Int) : ckE [v] = notE v := by simp [ckE, notE, vals]
theorem vals_one (v : Int) : vals [v] = val v := by simp [vals]

set_option maxHeartbeats 400000 in
theorem not_ref (v : Int) (w : World) (h0 : 0 ≤ v) (h2 : v ≤ 2) :
    Calls Try.prog 111 #[.int .i64 v] w fun e w' => e = .returned (.int .i64 (not1 v)) ∧ w' = w := by
  by_cases h : v = 2
  · subst h
    go_enter Try.func111, Try.ntmps111
    go_wp2
    go_ret
    exact ⟨ret_int rfl, rfl⟩
  · have hn : (v == 2) = false := by simp [h]
    have HI : Hid (not1 v = 1 - v) := if_neg h
    clear h
    go_enter Try.func111, Try.ntmps111
    go_wp2
    go_ret
    exact ⟨ret_int HI.out.symm, rfl⟩

set_option maxHeartbeats 400000 in
theorem Not_any (v : Int) (w : World) :
    Calls Try.prog 118 #[.int .i64 v] w fun e w' => e = .returned (.tuple #[.int .i64 (notV v), .int .i64 (notE v)]) ∧ Below w.heap.size w w' := by
  have hnew : Ints (w.alloc (.cells #[.int .i64 v] 3)) (some ⟨w.heap.size, 0, none⟩) 1 [v] := Ints.new _ _ _ _ _ rfl rfl (lt_maxLen _ (by simp))
  have hb : Below w.heap.size w (w.alloc (.cells #[.int .i64 v] 3)) := (Below.refl _ _).alloc (Nat.le_refl _) _
  cases hv : val v
  · have HA : Hid (notV v = 0) := by simp [Hid, notV, hv]
    have HC : Hid (ckE [v] = 3) := by rw [ck_one]; simp [Hid, notE, hv]
    have HE : Hid (notE v = 3) := by simp [Hid, notE, hv]
    clear hv
    go_enter Try.func118, Try.ntmps118
    go_wp2_with fail
    refine (check_any _ _ _ _ _ hnew).mono ?_
    rintro e w' ⟨rfl, hb'⟩
    rw [HC.out]
    go_wp2
    go_ret2
    exact ⟨ret_pair HA.out.symm HE.out.symm, hb.trans (hb'.mono (by simp))⟩
  · have HC : Hid (ckE [v] = 0) := by rw [ck_one]; simp [Hid, notE, hv]
    have HE : Hid (notE v = 0) := by simp [Hid, notE, hv]
    have hr : v = 0 ∨ v = 1 ∨ v = 2 := by simp [val] at hv; omega
    clear hv
    rcases hr with rfl | rfl | rfl
    all_goals
      go_enter Try.func118, Try.ntmps118
      go_wp2_with fail
      refine (check_any _ _ _ _ _ hnew).mono ?_
      rintro e w' ⟨rfl, hb'⟩
      rw [HC.out]
      go_wp2
      go_ret2
      exact ⟨ret_pair rfl HE.out.symm, ((hb.trans (hb'.mono (by simp))).alloc (Nat.le_trans hb.size hb'.size) _)⟩

def leqTo (xs ys : List Int) (k : Nat) : Bool := (List.range k).all fun i => xs.getD i 0 == 2 || xs.getD i 0 == ys.getD i 0
def leqV (xs ys : List Int) : Bool := leqTo xs ys xs.length
theorem leqTo_succ (xs ys : List Int) (k : Nat) : leqTo xs ys (k + 1) = (leqTo xs ys k && (xs.getD k 0 == 2 || xs.getD k 0 == ys.getD k 0)) := by
  simp [leqTo, List.range_succ]
theorem leqTo_no (xs ys : List Int) (k : Nat) (h : k < xs.length) (e : (xs.getD k 0 == 2 || xs.getD k 0 == ys.getD k 0) = false) : leqV xs ys = false := by
  simp only [leqV, leqTo, List.all_eq_false]
  exact ⟨k, by simpa using h, by rw [e]; simp⟩
theorem getD_at (xs : List Int) (k : Nat) (h : k < xs.length) : xs.getD k 0 = xs[k] := by simp [List.getD_eq_getElem?_getD, h]

def leqB (xs ys : List Int) : Bool := if vals xs && vals ys then (if xs.length = ys.length then leqV xs ys else false) else false
def leqE (xs ys : List Int) : Int := if vals xs && vals ys then (if xs.length = ys.length then 0 else 1) else 3

theorem has2 (x y : Int) : has x [2, y] = (x == 2 || x == y) := by simp [has]

end Go.Proofs.Ytongajonecgdpae
