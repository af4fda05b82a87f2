/- What tern.Not and Leq answer, and the document's answers beside them, for whatever is handed in. -/
import Derived.Test.YtongajonecgdpabTernB
import Derived.Deep.QuietTactic
import Derived.BigQuiet
namespace Go.Proofs.Ytongajonecgdpab
open Go.RowKit

def not1 (v : Int) : Int := if v = 2 then 2 else 1 - v
def notV (v : Int) : Int := if val v then not1 v else 0
def notE (v : Int) : Int := if val v then 0 else 3
theorem ck_one (v : Int) : ckE [v] = notE v := by simp [ckE, notE, vals]
theorem vals_one (v : Int) : vals [v] = val v := by simp [vals]

set_option maxHeartbeats 400000 in
theorem not_ref (v : Int) (w : World) (h0 : 0 ≤ v) (h2 : v ≤ 2) :
    Calls Try.prog 57 #[.int .i64 v] w fun e w' => e = .returned (.int .i64 (not1 v)) ∧ w' = w := by
  by_cases h : v = 2
  · subst h
    go_enter Try.func57, Try.ntmps57
    go_wp2
    go_ret
    exact ⟨ret_int rfl, rfl⟩
  · have hn : (v == 2) = false := by simp [h]
    have HI : Hid (not1 v = 1 - v) := if_neg h
    clear h
    go_enter Try.func57, Try.ntmps57
    go_wp2
    go_ret
    exact ⟨ret_int HI.out.symm, rfl⟩

set_option maxHeartbeats 400000 in
theorem Not_any (v : Int) (w : World) :
    Calls Try.prog 60 #[.int .i64 v] w fun e w' => e = .returned (.tuple #[.int .i64 (notV v), .int .i64 (notE v)]) ∧ Below w.heap.size w w' := by
  have hnew : Ints (w.alloc (.cells #[.int .i64 v] 3)) (some ⟨w.heap.size, 0, none⟩) 1 [v] := Ints.new _ _ _ _ _ rfl rfl (lt_maxLen _ (by simp))
  have hb : Below w.heap.size w (w.alloc (.cells #[.int .i64 v] 3)) := (Below.refl _ _).alloc (Nat.le_refl _) _
  cases hv : val v
  · have HA : Hid (notV v = 0) := by simp [Hid, notV, hv]
    have HC : Hid (ckE [v] = 3) := by rw [ck_one]; simp [Hid, notE, hv]
    have HE : Hid (notE v = 3) := by simp [Hid, notE, hv]
    clear hv
    go_enter Try.func60, Try.ntmps60
    go_wp2_with fail
    refine (check_any _ _ _ _ _ hnew).mono ?_
    rintro e w' ⟨rfl, hb'⟩
    rw [HC.out]
    go_wp2
    go_ret2
    exact ⟨ret_pair HA.out.symm HE.out.symm, hb.trans (hb'.mono (by simp))⟩
  · have HC : Hid (ckE [v] = 0) := by rw [ck_one]; simp [Hid, notE, hv]
    have HE : Hid (notE v = 0) := by simp [Hid, notE, hv]
    have hr : v = 0 ∨ v = 1 ∨ v = 2 := by simp [val] at hv; omega
    clear hv
    rcases hr with rfl | rfl | rfl
    all_goals
      go_enter Try.func60, Try.ntmps60
      go_wp2_with fail
      refine (check_any _ _ _ _ _ hnew).mono ?_
      rintro e w' ⟨rfl, hb'⟩
      rw [HC.out]
      go_wp2
      go_ret2
      exact ⟨ret_pair rfl HE.out.symm, ((hb.trans (hb'.mono (by simp))).alloc (Nat.le_trans hb.size hb'.size) _)⟩

def leqTo (xs ys : List Int) (k : Nat) : Bool := (List.range k).all fun i => xs.getD i 0 == 2 || xs.getD i 0 == ys.getD i 0
def leqV (xs ys : List Int) : Bool := leqTo xs ys xs.length
theorem leqTo_succ (xs ys : List Int) (k : Nat) : leqTo xs ys (k + 1) = (leqTo xs ys k && (xs.getD k 0 == 2 || xs.getD k 0 == ys.getD k 0)) := by
  simp [leqTo, List.range_succ]
theorem leqTo_no (xs ys : List Int) (k : Nat) (h : k < xs.length) (e : (xs.getD k 0 == 2 || xs.getD k 0 == ys.getD k 0) = false) : leqV xs ys = false := by
  simp only [leqV, leqTo, List.all_eq_false]
  exact ⟨k, by simpa using h, by rw [e]; simp⟩
theorem getD_at (xs : List Int) (k : Nat) (h : k < xs.length) : xs.getD k 0 = xs[k] := by simp [List.getD_eq_getElem?_getD, h]

def leqB (xs ys : List Int) : Bool := if vals xs && vals ys then (if xs.length = ys.length then leqV xs ys else false) else false
def leqE (xs ys : List Int) : Int := if vals xs && vals ys then (if xs.length = ys.length then 0 else 1) else 3

theorem has2 (x y : Int) : has x [2, y] = (x == 2 || x == y) := by simp [has]

set_option maxHeartbeats 1000000 in
theorem Leq_any (xs ys : List Int) (a a' : Option Addr) (n cap n' cap' : Nat) (w : World) (h : Ints w a n xs) (h' : Ints w a' n' ys) :
    Calls Try.prog 15 #[.slice a n cap, .slice a' n' cap'] w fun e w' => e = .returned (.tuple #[.bool (leqB xs ys), .int .i64 (leqE xs ys)]) ∧ Below w.heap.size w w' := by
  cases hv : vals xs
  · have HB : Hid (leqB xs ys = false) := by simp [Hid, leqB, hv]
    have HE : Hid (leqE xs ys = 3) := by simp [Hid, leqE, hv]
    have HV : Hid (ckE xs = 3) := by simp [Hid, ckE, hv]
    clear hv
    go_enter Try.func15, Try.ntmps15
    go_wp2_with fail
    refine (check_any _ _ _ _ _ h).mono ?_
    rintro e w' ⟨rfl, hb⟩
    rw [HV.out]
    go_wp2_with fail
    go_ret2
    exact ⟨ret_bpair HB.out.symm HE.out.symm, hb⟩
  have HV : Hid (ckE xs = 0) := by simp [Hid, ckE, hv]
  cases hv' : vals ys
  · have HB : Hid (leqB xs ys = false) := by simp [Hid, leqB, hv']
    have HE : Hid (leqE xs ys = 3) := by simp [Hid, leqE, hv']
    have HV' : Hid (ckE ys = 3) := by simp [Hid, ckE, hv']
    clear hv hv'
    go_enter Try.func15, Try.ntmps15
    go_wp2_with fail
    refine (check_any _ _ _ _ _ h).mono ?_
    rintro e w' ⟨rfl, hb⟩
    rw [HV.out]
    go_wp2_with fail
    refine (check_any _ _ _ _ _ (h'.below hb)).mono ?_
    rintro e w2 ⟨rfl, hb2⟩
    rw [HV'.out]
    go_wp2_with fail
    go_ret2
    exact ⟨ret_bpair HB.out.symm HE.out.symm, hb.trans (hb2.mono hb.size)⟩
  have HV' : Hid (ckE ys = 0) := by simp [Hid, ckE, hv']
  have hI := h
  have hI' := h'
  obtain ⟨hn, hm, hh⟩ := h
  obtain ⟨hn', hm', hh'⟩ := h'
  by_cases e : xs.length = ys.length
  · have HB : Hid (leqB xs ys = leqV xs ys) := by simp [Hid, leqB, hv, hv', e]
    have HE : Hid (leqE xs ys = 0) := by simp [Hid, leqE, hv, hv', e]
    have ht : ((n : Int) != (n' : Int)) = false := by simp; omega
    have hxn : xs.length ≤ n := by omega
    have hnx : n ≤ xs.length := by omega
    have hyn : ys.length ≤ n' := by omega
    have hny : n' ≤ ys.length := by omega
    have hnn : n ≤ n' := by omega
    have hmm : n ≤ 9223372036854775807 := by unfold maxLen at hm; omega
    clear hv hv' hn hn' hm hm' hh hh' e
    go_enter Try.func15, Try.ntmps15
    go_wp2_with fail
    refine (check_any _ _ _ _ _ hI).mono ?_
    rintro e w1 ⟨rfl, hb1⟩
    rw [HV.out]
    go_wp2_with fail
    refine (check_any _ _ _ _ _ (hI'.below hb1)).mono ?_
    rintro e w2 ⟨rfl, hb2⟩
    rw [HV'.out]
    go_wp2_with fail
    have hb : Below w.heap.size w w2 := hb1.trans (hb2.mono hb1.size)
    have hJ : Ints w2 a n xs := hI.below hb
    have hJ' : Ints w2 a' n' ys := hI'.below hb
    clear hb1 hb2 hI hI'
    go_loopw [27] (fun i wr => ∃ k : Nat, k ≤ n ∧ i = .int .i64 k ∧ leqTo xs ys k = true ∧ Below w2.heap.size w2 wr) (fun i _ => n - (intOf i).toNat)
    case atStart => exact ⟨0, Nat.zero_le _, rfl, rfl, Below.refl _ _⟩
    case round =>
      obtain ⟨k, hk, rfl, hno, hbel⟩ := hrel
      by_cases hlt : k < n
      · have hlt1 : k < xs.length := by omega
        have hlt' : k < ys.length := by omega
        obtain ⟨_, _, h⟩ := hJ
        obtain ⟨_, _, h'⟩ := hJ'
        rcases h with h | ⟨b, off, rfl, hbb, hc⟩
        · rw [h] at hlt1; simp at hlt1
        rcases h' with h' | ⟨b', off', rfl, hbb', hc'⟩
        · rw [h'] at hlt'; simp at hlt'
        have hcell : wr.cell? ⟨b, off + k, none⟩ = some (.int .i64 xs[k]) := by rw [hbel.cell (p := ⟨b, off + k, none⟩) hbb]; exact hc k hlt1
        have hcell' : wr.cell? ⟨b', off' + k, none⟩ = some (.int .i64 ys[k]) := by rw [hbel.cell (p := ⟨b', off' + k, none⟩) hbb']; exact hc' k hlt'
        have HS := leqTo_succ xs ys k
        have HQ := leqTo_no xs ys k hlt1
        rw [getD_at xs k hlt1, getD_at ys k hlt'] at HS HQ
        rw [hno] at HS
        have hnew : Ints (wr.alloc (.cells #[.int .i64 2, .int .i64 ys[k]] 3)) (some ⟨wr.heap.size, 0, none⟩) 2 [2, ys[k]] := Ints.new _ _ _ _ _ rfl rfl (lt_maxLen _ (by simp))
        have hb2 : Below w2.heap.size w2 (wr.alloc (.cells #[.int .i64 2, .int .i64 ys[k]] 3)) := hbel.alloc hbel.size _
        rename_i hx1 hx2 hx3 hx4
        clear hc hc' hno hx1 hx2 hx3 hx4
        cases e : (xs[k] == 2 || xs[k] == ys[k])
        · have HT : Hid (leqV xs ys = false) := HQ e
          have HH : Hid (has xs[k] [2, ys[k]] = false) := by rw [has2]; exact e
          clear e HS HQ
          go_wp2_with fail
          refine (isOneOf_any _ [2, ys[k]] _ _ _ _ hnew).mono ?_
          rintro e w3 ⟨rfl, rfl⟩
          rw [HH.out]
          go_wp2_with fail
          go_ret2
          exact ⟨ret_bpair (by rw [HB.out, HT.out]) HE.out.symm, hb.trans (hb2.mono hb.size)⟩
        · have HT : Hid (leqTo xs ys (k + 1) = true) := by rw [HS, e]; rfl
          have HH : Hid (has xs[k] [2, ys[k]] = true) := by rw [has2]; exact e
          clear e HS HQ
          go_wp2_with fail
          refine (isOneOf_any _ [2, ys[k]] _ _ _ _ hnew).mono ?_
          rintro e w3 ⟨rfl, rfl⟩
          rw [HH.out]
          go_wp2_with fail
          exact ⟨⟨k + 1, by omega, by go_num, HT.out, hb2⟩, by simp [intOf]; omega⟩
      · have hf : Hid (leqV xs ys = true) := by rw [← hno]; exact congrArg (leqTo xs ys) (by omega)
        clear hno
        go_wp2
        go_ret2
        exact ⟨ret_bpair (by rw [HB.out, hf.out]) HE.out.symm, hb.trans (hbel.mono hb.size)⟩
  · have HB : Hid (leqB xs ys = false) := by simp [Hid, leqB, hv, hv', e]
    have HE : Hid (leqE xs ys = 1) := by simp [Hid, leqE, hv, hv', e]
    have ht : ((n : Int) != (n' : Int)) = true := by simp; omega
    clear hv hv' hn hn' hm hm' hh hh' e
    go_enter Try.func15, Try.ntmps15
    go_wp2_with fail
    refine (check_any _ _ _ _ _ hI).mono ?_
    rintro e w1 ⟨rfl, hb1⟩
    rw [HV.out]
    go_wp2_with fail
    refine (check_any _ _ _ _ _ (hI'.below hb1)).mono ?_
    rintro e w2 ⟨rfl, hb2⟩
    rw [HV'.out]
    go_wp2_with fail
    go_ret2
    exact ⟨ret_bpair HB.out.symm HE.out.symm, hb1.trans (hb2.mono hb1.size)⟩
end Go.Proofs.Ytongajonecgdpab
