/- What tern.Check, All and Any answer, and the document's answers beside them, for every list that is read. -/
import Derived.Test.YtongajonecgdpaeTernA
namespace Go.Proofs.Ytongajonecgdpae
open Go.RowKit

theorem lt_maxLen (n : Nat) (h : n ≤ 100) : n ≤ maxLen := by unfold maxLen; omega

def ckE (xs : List Int) : Int := if vals xs then 0 else 3

theorem ret_pair {k l : IntKind} {a b c d : Int} (h : a = b) (g : c = d) : Ending.returned (.tuple #[.int k a, .int l c]) = .returned (.tuple #[.int k b, .int l d]) := by rw [h, g]
theorem ret_bpair {l : IntKind} {a b : Bool} {c d : Int} (h : a = b) (g : c = d) : Ending.returned (.tuple #[.bool a, .int l c]) = .returned (.tuple #[.bool b, .int l d]) := by rw [h, g]

set_option maxHeartbeats 400000 in
theorem check_any (xs : List Int) (a : Option Addr) (n cap : Nat) (w : World) (h : Ints w a n xs) :
    Calls Try.prog 97 #[.slice a n cap] w fun e w' => e = .returned (.int .i64 (ckE xs)) ∧ Below w.heap.size w w' := by
  obtain ⟨rfl, hm, h⟩ := h
  unfold maxLen at hm
  go_enter Try.func97, Try.ntmps97
  go_wp2
  go_loopw [7] (fun i wr => ∃ k : Nat, k ≤ xs.length ∧ i = .int .i64 k ∧ vals (xs.take k) = true ∧ Below w.heap.size w wr) (fun i _ => xs.length - (intOf i).toNat)
  case atStart => exact ⟨0, Nat.zero_le _, rfl, rfl, Below.refl _ _⟩
  case round =>
    obtain ⟨k, hk, rfl, hno, hbel⟩ := hrel
    by_cases hlt : k < xs.length
    · rcases h with h | ⟨b, off, rfl, hb, hc⟩
      · rw [h] at hlt; simp at hlt
      · have hcell : wr.cell? ⟨b, off + k, none⟩ = some (.int .i64 xs[k]) := by rw [hbel.cell (p := ⟨b, off + k, none⟩) hb]; exact hc k hlt
        have HS : Hid (vals (xs.take (k + 1)) = (vals (xs.take k) && val xs[k])) := by rw [take_snoc xs k hlt, vals_snoc]; exact rfl
        have HN : Hid (vals (xs.take k) = true) := hno
        have hnew : Ints (wr.alloc (.cells #[.int .i64 0, .int .i64 1, .int .i64 2] 3)) (some ⟨wr.heap.size, 0, none⟩) 3 [0, 1, 2] := Ints.new _ _ _ _ _ rfl rfl (lt_maxLen _ (by simp))
        have hb2 : Below w.heap.size w (wr.alloc (.cells #[.int .i64 0, .int .i64 1, .int .i64 2] 3)) := hbel.alloc hbel.size _
        clear hc hno
        cases e : val xs[k]
        · have hd : Hid (ckE xs = 3) := by simp [Hid, ckE, vals_no xs k hlt e]
          have he : Hid (has xs[k] [0, 1, 2] = false) := by rw [has012]; exact e
          clear e
          go_wp2_with (go_at_call 112; refine (isOneOf_any _ [0, 1, 2] _ _ _ _ hnew).mono ?_; rintro e w' ⟨rfl, rfl⟩; rw [he.out])
          go_ret
          exact ⟨ret_int hd.out.symm, hb2⟩
        · have he : Hid (has xs[k] [0, 1, 2] = true) := by rw [has012]; exact e
          have e' : Hid (val xs[k] = true) := e
          clear e
          go_wp2_with (go_at_call 112; refine (isOneOf_any _ [0, 1, 2] _ _ _ _ hnew).mono ?_; rintro e w' ⟨rfl, rfl⟩; rw [he.out])
          exact ⟨⟨k + 1, by omega, by go_num, by rw [HS.out, HN.out, e'.out]; rfl, hb2⟩, by simp [intOf]; omega⟩
    · have hf : Hid (ckE xs = 0) := by rw [List.take_of_length_le (by omega)] at hno; simp [Hid, ckE, hno]
      clear hno
      go_wp2
      go_ret
      exact ⟨ret_int hf.out.symm, hbel⟩

def tellV (d o : Int) (xs : List Int) : Int := if has d xs then d else if has 2 xs then 2 else o

set_option maxHeartbeats 400000 in
theorem tell_any (d o : Int) (xs : List Int) (a : Option Addr) (n cap : Nat) (w : World) (h : Ints w a n xs) :
    Calls Try.prog 119 #[.int .i64 d, .int .i64 o, .slice a n cap] w fun e w' => e = .returned (.int .i64 (tellV d o xs)) ∧ w' = w := by
  cases h1 : has d xs
  · have H1 : Hid (has d xs = false) := h1
    cases h2 : has 2 xs
    · have H2 : Hid (has 2 xs = false) := h2
      have HT : Hid (tellV d o xs = o) := by simp [Hid, tellV, h1, h2]
      clear h1 h2
      go_enter Try.func119, Try.ntmps119
      go_wp2_with fail
      refine (isOneOf_any _ _ _ _ _ _ h).mono ?_
      rintro e w' ⟨rfl, rfl⟩
      rw [H1.out]
      go_wp2_with fail
      refine (isOneOf_any _ _ _ _ _ _ h).mono ?_
      rintro e w' ⟨rfl, rfl⟩
      rw [H2.out]
      go_wp2
      go_ret
      exact ⟨ret_int HT.out.symm, rfl⟩
    · have H2 : Hid (has 2 xs = true) := h2
      have HT : Hid (tellV d o xs = 2) := by simp [Hid, tellV, h1, h2]
      clear h1 h2
      go_enter Try.func119, Try.ntmps119
      go_wp2_with fail
      refine (isOneOf_any _ _ _ _ _ _ h).mono ?_
      rintro e w' ⟨rfl, rfl⟩
      rw [H1.out]
      go_wp2_with fail
      refine (isOneOf_any _ _ _ _ _ _ h).mono ?_
      rintro e w' ⟨rfl, rfl⟩
      rw [H2.out]
      go_wp2
      go_ret
      exact ⟨ret_int HT.out.symm, rfl⟩
  · have H1 : Hid (has d xs = true) := h1
    have HT : Hid (tellV d o xs = d) := by simp [Hid, tellV, h1]
    clear h1
    go_enter Try.func119, Try.ntmps119
    go_wp2_with fail
    refine (isOneOf_any _ _ _ _ _ _ h).mono ?_
    rintro e w' ⟨rfl, rfl⟩
    rw [H1.out]
    go_wp2
    go_ret
    exact ⟨ret_int HT.out.symm, rfl⟩

theorem cnt_yes (v : Int) (xs : List Int) (h : has v xs = true) : 0 < cnt v xs := by
  have := cnt_pos v xs; rw [h, decide_eq_true_iff] at this; omega
theorem cnt_no (v : Int) (xs : List Int) (h : has v xs = false) : cnt v xs = 0 := by
  have := cnt_pos v xs; rw [h, decide_eq_false_iff_not] at this; omega

set_option maxHeartbeats 400000 in
theorem all_ref (xs : List Int) (a : Option Addr) (n cap : Nat) (w : World) (h : Ints w a n xs) :
    Calls Try.prog 109 #[.slice a n cap] w fun e w' => e = .returned (.int .i64 (tellV 0 1 xs)) ∧ w' = w := by
  cases h1 : has 0 xs
  · have H1 : Hid (cnt 0 xs = 0) := cnt_no _ _ h1
    cases h2 : has 2 xs
    · have H2 : Hid (cnt 2 xs = 0) := cnt_no _ _ h2
      have HT : Hid (tellV 0 1 xs = 1) := by simp [Hid, tellV, h1, h2]
      clear h1 h2
      go_enter Try.func109, Try.ntmps109
      go_wp2_with fail
      refine (count_any _ _ _ _ _ _ h).mono ?_
      rintro e w' ⟨rfl, rfl⟩
      rw [H1.out]
      go_wp2_with fail
      refine (count_any _ _ _ _ _ _ h).mono ?_
      rintro e w' ⟨rfl, rfl⟩
      rw [H2.out]
      go_wp2
      go_ret
      exact ⟨ret_int HT.out.symm, rfl⟩
    · have H2 : 0 < cnt 2 xs := cnt_yes _ _ h2
      have HT : Hid (tellV 0 1 xs = 2) := by simp [Hid, tellV, h1, h2]
      clear h1 h2
      go_enter Try.func109, Try.ntmps109
      go_wp2_with fail
      refine (count_any _ _ _ _ _ _ h).mono ?_
      rintro e w' ⟨rfl, rfl⟩
      rw [H1.out]
      go_wp2_with fail
      refine (count_any _ _ _ _ _ _ h).mono ?_
      rintro e w' ⟨rfl, rfl⟩
      go_wp2
      go_ret
      exact ⟨ret_int HT.out.symm, rfl⟩
  · have H1 : 0 < cnt 0 xs := cnt_yes _ _ h1
    have HT : Hid (tellV 0 1 xs = 0) := by simp [Hid, tellV, h1]
    clear h1
    go_enter Try.func109, Try.ntmps109
    go_wp2_with fail
    refine (count_any _ _ _ _ _ _ h).mono ?_
    rintro e w' ⟨rfl, rfl⟩
    go_wp2
    go_ret
    exact ⟨ret_int HT.out.symm, rfl⟩

set_option maxHeartbeats 400000 in
theorem any_ref (xs : List Int) (a : Option Addr) (n cap : Nat) (w : World) (h : Ints w a n xs) :
    Calls Try.prog 110 #[.slice a n cap] w fun e w' => e = .returned (.int .i64 (tellV 1 0 xs)) ∧ w' = w := by
  cases h1 : has 1 xs
  · have H1 : Hid (cnt 1 xs = 0) := cnt_no _ _ h1
    cases h2 : has 2 xs
    · have H2 : Hid (cnt 2 xs = 0) := cnt_no _ _ h2
      have HT : Hid (tellV 1 0 xs = 0) := by simp [Hid, tellV, h1, h2]
      clear h1 h2
      go_enter Try.func110, Try.ntmps110
      go_wp2_with fail
      refine (count_any _ _ _ _ _ _ h).mono ?_
      rintro e w' ⟨rfl, rfl⟩
      rw [H1.out]
      go_wp2_with fail
      refine (count_any _ _ _ _ _ _ h).mono ?_
      rintro e w' ⟨rfl, rfl⟩
      rw [H2.out]
      go_wp2
      go_ret
      exact ⟨ret_int HT.out.symm, rfl⟩
    · have H2 : 0 < cnt 2 xs := cnt_yes _ _ h2
      have HT : Hid (tellV 1 0 xs = 2) := by simp [Hid, tellV, h1, h2]
      clear h1 h2
      go_enter Try.func110, Try.ntmps110
      go_wp2_with fail
      refine (count_any _ _ _ _ _ _ h).mono ?_
      rintro e w' ⟨rfl, rfl⟩
      rw [H1.out]
      go_wp2_with fail
      refine (count_any _ _ _ _ _ _ h).mono ?_
      rintro e w' ⟨rfl, rfl⟩
      go_wp2
      go_ret
      exact ⟨ret_int HT.out.symm, rfl⟩
  · have H1 : 0 < cnt 1 xs := cnt_yes _ _ h1
    have HT : Hid (tellV 1 0 xs = 1) := by simp [Hid, tellV, h1]
    clear h1
    go_enter Try.func110, Try.ntmps110
    go_wp2_with fail
    refine (count_any _ _ _ _ _ _ h).mono ?_
    rintro e w' ⟨rfl, rfl⟩
    go_wp2
    go_ret
    exact ⟨ret_int HT.out.symm, rfl⟩

def allV (xs : List Int) : Int := if vals xs then tellV 0 1 xs else 0
def anyV (xs : List Int) : Int := if vals xs then tellV 1 0 xs else 0

set_option maxHeartbeats 400000 in
theorem All_any (xs : List Int) (a : Option Addr) (n cap : Nat) (w : World) (h : Ints w a n xs) :
    Calls Try.prog 116 #[.slice a n cap] w fun e w' => e = .returned (.tuple #[.int .i64 (allV xs), .int .i64 (ckE xs)]) ∧ Below w.heap.size w w' := by
  cases hv : vals xs
  · have HA : Hid (allV xs = 0) := by simp [Hid, allV, hv]
    have HC : Hid (ckE xs = 3) := by simp [Hid, ckE, hv]
    clear hv
    go_enter Try.func116, Try.ntmps116
    go_wp2_with fail
    refine (check_any _ _ _ _ _ h).mono ?_
    rintro e w' ⟨rfl, hb⟩
    rw [HC.out]
    go_wp2
    go_ret2
    exact ⟨ret_pair HA.out.symm HC.out.symm, hb⟩
  · have HA : Hid (allV xs = tellV 0 1 xs) := by simp [Hid, allV, hv]
    have HC : Hid (ckE xs = 0) := by simp [Hid, ckE, hv]
    clear hv
    go_enter Try.func116, Try.ntmps116
    go_wp2_with fail
    refine (check_any _ _ _ _ _ h).mono ?_
    rintro e w' ⟨rfl, hb⟩
    rw [HC.out]
    go_wp2_with fail
    refine (tell_any _ _ _ _ _ _ _ (h.below hb)).mono ?_
    rintro e w2 ⟨rfl, rfl⟩
    go_wp2
    go_ret2
    exact ⟨ret_pair HA.out.symm HC.out.symm, hb⟩

set_option maxHeartbeats 400000 in
theorem Any_any (xs : List Int) (a : Option Addr) (n cap : Nat) (w : World) (h : Ints w a n xs) :
    Calls Try.prog 117 #[.slice a n cap] w fun e w' => e = .returned (.tuple #[.int .i64 (anyV xs), .int .i64 (ckE xs)]) ∧ Below w.heap.size w w' := by
  cases hv : vals xs
  · have HA : Hid (anyV xs = 0) := by simp [Hid, anyV, hv]
    have HC : Hid (ckE xs = 3) := by simp [Hid, ckE, hv]
    clear hv
    go_enter Try.func117, Try.ntmps117
    go_wp2_with fail
    refine (check_any _ _ _ _ _ h).mono ?_
    rintro e w' ⟨rfl, hb⟩
    rw [HC.out]
    go_wp2
    go_ret2
    exact ⟨ret_pair HA.out.symm HC.out.symm, hb⟩
  · have HA : Hid (anyV xs = tellV 1 0 xs) := by simp [Hid, anyV, hv]
    have HC : Hid (ckE xs = 0) := by simp [Hid, ckE, hv]
    clear hv
    go_enter Try.func117, Try.ntmps117
    go_wp2_with fail
    refine (check_any _ _ _ _ _ h).mono ?_
    rintro e w' ⟨rfl, hb⟩
    rw [HC.out]
    go_wp2_with fail
    refine (tell_any _ _ _ _ _ _ _ (h.below hb)).mono ?_
    rintro e w2 ⟨rfl, rfl⟩
    go_wp2
    go_ret2
    exact ⟨ret_pair HA.out.symm HC.out.symm, hb⟩

end Go.Proofs.Ytongajonecgdpae
