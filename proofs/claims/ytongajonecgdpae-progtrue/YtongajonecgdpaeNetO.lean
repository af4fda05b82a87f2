/- SameInts, SameBools, NeedsError and net.Needs: what they answer. -/
import Derived.Test.YtongajonecgdpaeNetN
import Derived.Test.YtongajonecgdpaeNetE
namespace Go.Proofs.Ytongajonecgdpae
open Go.RowKit

def wth (n lo hi : Int) : Bool := decide (lo ≤ n ∧ n ≤ hi)
theorem within_wth (n lo hi : Int) (w : World) :
    Calls Try.prog 47 #[.int .i64 n, .int .i64 lo, .int .i64 hi] w fun e w' => e = .returned (.bool (wth n lo hi)) ∧ w' = w := within_any n lo hi w

def sameIntsTo (xs ys : List Int) (k : Nat) : Bool := decide (xs.take k = ys.take k)
theorem sameInts_succ (xs ys : List Int) (k : Nat) (h : k < xs.length) (h' : k < ys.length) : sameIntsTo xs ys (k + 1) = (sameIntsTo xs ys k && (xs[k] == ys[k])) := by
  unfold sameIntsTo
  rw [List.take_succ_eq_append_getElem h, List.take_succ_eq_append_getElem h', Bool.eq_iff_iff]
  simp only [decide_eq_true_iff, Bool.and_eq_true, beq_iff_eq]
  constructor
  · intro e
    have := List.append_inj e (by simp; omega)
    exact ⟨this.1, by simpa using this.2⟩
  · rintro ⟨e1, e2⟩; rw [e1, e2]
theorem sameInts_no (xs ys : List Int) (k : Nat) (h : k < xs.length) (h' : k < ys.length) (e : xs[k] ≠ ys[k]) : decide (xs = ys) = false := by
  rw [decide_eq_false_iff_not]
  intro h2; subst h2; exact e rfl

set_option maxHeartbeats 1000000 in
theorem SameInts_any (xs ys : List Int) (a a' : Option Addr) (n cap n' cap' : Nat) (w : World) (h : Ints w a n xs) (h' : Ints w a' n' ys) :
    Calls Try.prog 58 #[.slice a n cap, .slice a' n' cap'] w fun e w' => e = .returned (.bool (decide (xs = ys))) ∧ Below w.heap.size w w' := by
  have hn := h.1
  have hn' := h'.1
  have hm : n ≤ maxLen := by have := h.2.1; omega
  unfold maxLen at hm
  by_cases e : xs.length = ys.length
  · have ht : ((n : Int) != (n' : Int)) = false := by simp; omega
    have hnx : n ≤ xs.length := by omega
    have hxn : xs.length ≤ n := by omega
    have hny : n ≤ ys.length := by omega
    have hyn : ys.length ≤ n := by omega
    have hnn : n ≤ n' := by omega
    clear hn hn' e
    go_enter Try.func58, Try.ntmps58
    go_wp2_with fail
    go_loopw [5] (fun i wr => ∃ k : Nat, k ≤ n ∧ i = .int .i64 k ∧ sameIntsTo xs ys k = true ∧ Below w.heap.size w wr) (fun i _ => n - (intOf i).toNat)
    case atStart => exact ⟨0, Nat.zero_le _, rfl, rfl, Below.refl _ _⟩
    case round =>
      obtain ⟨k, hk, rfl, hno, hbel⟩ := hrel
      by_cases hlt : k < n
      · have hlt1 : k < xs.length := by omega
        have hlt2 : k < ys.length := by omega
        have hi1 : ((k : Nat) : Int) < (n : Int) := by omega
        have hi2 : ((k : Nat) : Int) < (n' : Int) := by omega
        obtain ⟨b, off, rfl, hbb, c1⟩ := (h.below hbel).at hlt1
        obtain ⟨b', off', rfl, hbb', c2⟩ := (h'.below hbel).at hlt2
        have HS := sameInts_succ xs ys k hlt1 hlt2
        rw [hno] at HS
        by_cases e : xs[k] = ys[k]
        · have HT : Hid (sameIntsTo xs ys (k + 1) = true) := by rw [HS, e]; simp [Hid]
          have hg2 : (xs[k] != ys[k]) = false := by simp [e]
          clear e HS hno h h'
          go_wp2_with fail
          go_quiet (fail)
          go_wp2_with fail
          exact ⟨⟨k + 1, by omega, by go_num, HT.out, below_drewN hbel _⟩, by simp [intOf]; omega⟩
        · have HT : Hid (decide (xs = ys) = false) := sameInts_no xs ys k hlt1 hlt2 e
          have hg2 : (xs[k] != ys[k]) = true := by simp [e]
          clear e HS hno h h'
          go_wp2_with fail
          go_quiet (fail)
          go_wp2_with fail
          go_ret
          exact ⟨ret_bool HT.out.symm, below_drewN hbel _⟩
      · have hf : Hid (decide (xs = ys) = true) := by
          have := hno
          unfold sameIntsTo at this
          rw [List.take_of_length_le (by omega), List.take_of_length_le (by omega)] at this
          exact this
        clear hno
        go_wp2_with fail
        go_ret
        exact ⟨ret_bool hf.out.symm, hbel⟩
  · have ht : ((n : Int) != (n' : Int)) = true := by simp; omega
    have hf : Hid (decide (xs = ys) = false) := by
      unfold Hid; rw [decide_eq_false_iff_not]; intro h2; exact e (by rw [h2])
    clear hn hn' e h h'
    go_enter Try.func58, Try.ntmps58
    go_wp2_with fail
    go_ret
    exact ⟨ret_bool hf.out.symm, Below.refl _ _⟩

def sameBoolsTo (xs ys : List Bool) (k : Nat) : Bool := decide (xs.take k = ys.take k)
theorem sameBools_succ (xs ys : List Bool) (k : Nat) (h : k < xs.length) (h' : k < ys.length) : sameBoolsTo xs ys (k + 1) = (sameBoolsTo xs ys k && (xs[k] == ys[k])) := by
  unfold sameBoolsTo
  rw [List.take_succ_eq_append_getElem h, List.take_succ_eq_append_getElem h', Bool.eq_iff_iff]
  simp only [decide_eq_true_iff, Bool.and_eq_true, beq_iff_eq]
  constructor
  · intro e
    have := List.append_inj e (by simp; omega)
    exact ⟨this.1, by simpa using this.2⟩
  · rintro ⟨e1, e2⟩; rw [e1, e2]
theorem sameBools_no (xs ys : List Bool) (k : Nat) (h : k < xs.length) (h' : k < ys.length) (e : xs[k] ≠ ys[k]) : decide (xs = ys) = false := by
  rw [decide_eq_false_iff_not]
  intro h2; subst h2; exact e rfl

set_option maxHeartbeats 1000000 in
theorem SameBools_any (xs ys : List Bool) (a a' : Option Addr) (n cap n' cap' : Nat) (w : World) (h : Bools w a n xs) (h' : Bools w a' n' ys) :
    Calls Try.prog 24 #[.slice a n cap, .slice a' n' cap'] w fun e w' => e = .returned (.bool (decide (xs = ys))) ∧ Below w.heap.size w w' := by
  have hn := h.1
  have hn' := h'.1
  have hm : n ≤ maxLen := by have := h.2.1; omega
  unfold maxLen at hm
  by_cases e : xs.length = ys.length
  · have ht : ((n : Int) != (n' : Int)) = false := by simp; omega
    have hnx : n ≤ xs.length := by omega
    have hxn : xs.length ≤ n := by omega
    have hny : n ≤ ys.length := by omega
    have hyn : ys.length ≤ n := by omega
    have hnn : n ≤ n' := by omega
    clear hn hn' e
    go_enter Try.func24, Try.ntmps24
    go_wp2_with fail
    go_loopw [5] (fun i wr => ∃ k : Nat, k ≤ n ∧ i = .int .i64 k ∧ sameBoolsTo xs ys k = true ∧ Below w.heap.size w wr) (fun i _ => n - (intOf i).toNat)
    case atStart => exact ⟨0, Nat.zero_le _, rfl, rfl, Below.refl _ _⟩
    case round =>
      obtain ⟨k, hk, rfl, hno, hbel⟩ := hrel
      by_cases hlt : k < n
      · have hlt1 : k < xs.length := by omega
        have hlt2 : k < ys.length := by omega
        have hi1 : ((k : Nat) : Int) < (n : Int) := by omega
        have hi2 : ((k : Nat) : Int) < (n' : Int) := by omega
        obtain ⟨b, off, rfl, hbb, c1⟩ := (h.below hbel).at hlt1
        obtain ⟨b', off', rfl, hbb', c2⟩ := (h'.below hbel).at hlt2
        have HS := sameBools_succ xs ys k hlt1 hlt2
        rw [hno] at HS
        cases hx : xs[k] <;> cases hy : ys[k]
        all_goals
          rw [hx] at c1
          rw [hy] at c2
          rw [hx, hy] at HS
        case' false.false | true.true =>
          have HT : Hid (sameBoolsTo xs ys (k + 1) = true) := by rw [HS]; rfl
          clear HS hno h h' hx hy
          go_wp2_with fail
          go_quiet (fail)
          go_wp2_with fail
          exact ⟨⟨k + 1, by omega, by go_num, HT.out, below_drewN hbel _⟩, by simp [intOf]; omega⟩
        all_goals
          have HT : Hid (decide (xs = ys) = false) := sameBools_no xs ys k hlt1 hlt2 (by rw [hx, hy]; simp)
          clear HS hno h h' hx hy
          go_wp2_with fail
          go_quiet (fail)
          go_wp2_with fail
          go_ret
          exact ⟨ret_bool HT.out.symm, below_drewN hbel _⟩
      · have hf : Hid (decide (xs = ys) = true) := by
          have := hno
          unfold sameBoolsTo at this
          rw [List.take_of_length_le (by omega), List.take_of_length_le (by omega)] at this
          exact this
        clear hno
        go_wp2_with fail
        go_ret
        exact ⟨ret_bool hf.out.symm, hbel⟩
  · have ht : ((n : Int) != (n' : Int)) = true := by simp; omega
    have hf : Hid (decide (xs = ys) = false) := by
      unfold Hid; rw [decide_eq_false_iff_not]; intro h2; exact e (by rw [h2])
    clear hn hn' e h h'
    go_enter Try.func24, Try.ntmps24
    go_wp2_with fail
    go_ret
    exact ⟨ret_bool hf.out.symm, Below.refl _ _⟩

def inTo (d : NetD) (l : List Int) (k : Nat) : Bool := (l.take k).all (fun x => isB x d.gates.length)
def inB (d : NetD) (l : List Int) : Bool := inTo d l l.length
def needE (d : NetD) (l : List Int) : Int := if checkE d = 0 then (if inB d l then 0 else 3) else checkE d

theorem check_ok {d : NetD} (h : checkE d = 0) : countsB d = true ∧ numbersB d = true ∧ kindsB d = true ∧ formsB d = true := by
  unfold checkE at h
  cases h1 : countsB d <;> cases h2 : numbersB d <;> cases h3 : kindsB d <;> cases h4 : formsB d <;> simp [h1, h2, h3, h4] at h
  exact ⟨rfl, rfl, rfl, rfl⟩
theorem args_in {d : NetD} (h : numbersB d = true) (j : Nat) (hj : j < d.gates.length) : ∀ x ∈ d.gates[j].args, 0 ≤ x ∧ x.toNat < d.gates.length := by
  intro x hx
  simp only [numbersB, argsTo, Bool.and_eq_true] at h
  have h1 := h.2
  rw [List.take_length, List.all_eq_true] at h1
  have h2 := h1 _ (List.getElem_mem hj)
  unfold argsIn at h2
  rw [List.all_eq_true] at h2
  have h3 := h2 x hx
  simp only [isB, decide_eq_true_iff] at h3
  omega
theorem in_in {d : NetD} {l : List Int} (h : inB d l = true) : ∀ x ∈ l, 0 ≤ x ∧ x.toNat < d.gates.length := by
  intro x hx
  unfold inB inTo at h
  rw [List.take_length, List.all_eq_true] at h
  have h3 := h x hx
  simp only [isB, decide_eq_true_iff] at h3
  omega

end Go.Proofs.Ytongajonecgdpae
