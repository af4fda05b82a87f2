/- The program's tick.Run. -/
import Derived.Test.YtongajonecgdpaeTickP
namespace Go.Proofs.Ytongajonecgdpae
open Go.RowKit

/-- Is it no number of inputs? -/
def noIn (n : Nat) (x : Int) : Bool := decide (x < 0 ∨ 2 ^ n ≤ x)
theorem noIn_wth (n : Nat) (x : Int) : noIn n x = !wth x 0 (2 ^ n - 1) := by
  unfold noIn wth
  rw [← decide_not]
  congr 1
  rw [eq_iff_iff]
  omega

set_option maxHeartbeats 1000000 in
theorem noInput_any (x : Int) (n b : Nat) (w : World) (hn : n ≤ 3) (hc : w.cell? ⟨b, 0, none⟩ = some (.int .i64 n)) :
    Calls Try.prog 40 #[.int .i64 x, .pointer (some ⟨b, 0, none⟩)] w fun e w' => e = .returned (.bool (noIn n x)) ∧ w' = w := by
  by_cases h0 : x < 0
  · have HT := hide (show noIn n x = true by unfold noIn; simp; exact Or.inl h0)
    go_enter Try.func40, Try.ntmps40
    go_wp2_with fail
    go_ret
    exact ⟨ret_bool (unhide HT).symm, rfl⟩
  · have hcase : n = 0 ∨ n = 1 ∨ n = 2 ∨ n = 3 := by omega
    rcases hcase with rfl | rfl | rfl | rfl
    · by_cases h1 : (1 : Int) ≤ x
      · have HT := hide (show noIn 0 x = true by unfold noIn; simp; omega)
        go_enter Try.func40, Try.ntmps40
        go_wp2_with fail
        go_ret
        exact ⟨ret_bool (unhide HT).symm, rfl⟩
      · have HT := hide (show noIn 0 x = false by unfold noIn; simp; omega)
        go_enter Try.func40, Try.ntmps40
        go_wp2_with fail
        go_ret
        exact ⟨ret_bool (unhide HT).symm, rfl⟩
    · by_cases h1 : (2 : Int) ≤ x
      · have HT := hide (show noIn 1 x = true by unfold noIn; simp; omega)
        go_enter Try.func40, Try.ntmps40
        go_wp2_with fail
        go_ret
        exact ⟨ret_bool (unhide HT).symm, rfl⟩
      · have HT := hide (show noIn 1 x = false by unfold noIn; simp; omega)
        go_enter Try.func40, Try.ntmps40
        go_wp2_with fail
        go_ret
        exact ⟨ret_bool (unhide HT).symm, rfl⟩
    · by_cases h1 : (4 : Int) ≤ x
      · have HT := hide (show noIn 2 x = true by unfold noIn; simp; omega)
        go_enter Try.func40, Try.ntmps40
        go_wp2_with fail
        go_ret
        exact ⟨ret_bool (unhide HT).symm, rfl⟩
      · have HT := hide (show noIn 2 x = false by unfold noIn; simp; omega)
        go_enter Try.func40, Try.ntmps40
        go_wp2_with fail
        go_ret
        exact ⟨ret_bool (unhide HT).symm, rfl⟩
    · by_cases h1 : (8 : Int) ≤ x
      · have HT := hide (show noIn 3 x = true by unfold noIn; simp; omega)
        go_enter Try.func40, Try.ntmps40
        go_wp2_with fail
        go_ret
        exact ⟨ret_bool (unhide HT).symm, rfl⟩
      · have HT := hide (show noIn 3 x = false by unfold noIn; simp; omega)
        go_enter Try.func40, Try.ntmps40
        go_wp2_with fail
        go_ret
        exact ⟨ret_bool (unhide HT).symm, rfl⟩

set_option maxHeartbeats 1000000 in
theorem IndexFunc_any (xs : List Int) (i b : Nat) (a : Option Addr) (n c : Nat) (w : World) (h : Ints w a n xs) (hi3 : i ≤ 3) (hc : w.cell? ⟨b, 0, none⟩ = some (.int .i64 i)) :
    Calls Try.prog 71 #[.slice a n c, .func (.func 40) #[] #[.pointer (some ⟨b, 0, none⟩)]] w fun e w' => ∃ r, e = .returned (.int .i64 r) ∧ ((inPow xs i = false ∧ 0 ≤ r) ∨ (inPow xs i = true ∧ r = -1)) ∧ w' = w := by
  have HLL : Hid (xs.length = n) := h.1.symm
  have hm : n ≤ maxLen := by rw [h.1]; exact h.2.1
  unfold maxLen at hm
  go_enter Try.func71, Try.ntmps71
  go_wp2_with fail
  go_loopw [8] (fun i' wr => ∃ k : Nat, k ≤ n ∧ i' = .int .i64 k ∧ inPow (xs.take k) i = true ∧ wr = w) (fun i' _ => n - (intOf i').toNat)
  case atStart => exact ⟨0, Nat.zero_le _, rfl, by simp [inPow], rfl⟩
  case round =>
    obtain ⟨k, hk, rfl, hno, rfl⟩ := hrel
    by_cases hlt : k < n
    · have hltl : k < xs.length := by have := HLL.out; omega
      have hki : (k : Int) < (n : Int) := by omega
      obtain ⟨b', off, rfl, hbb, c1⟩ := h.at hltl
      have HNO := hide hno
      clear hno
      go_wp2_with (go_at_call 40; refine (noInput_any xs[k] i b _ hi3 hc).mono ?_; rintro e w9 ⟨rfl, rfl⟩; cases e9 : noIn i xs[k])
      · have HN := hide (show inPow (xs.take (k + 1)) i = true by
          unfold inPow
          rw [List.take_succ_eq_append_getElem hltl, List.all_append]
          have h1 := unhide HNO
          unfold inPow at h1
          rw [h1]
          rw [noIn_wth] at e9
          simpa using e9)
        clear e9
        go_wp2_with fail
        exact ⟨⟨k + 1, by omega, by go_num, unhide HN, by first | rfl | trivial⟩, by simp [intOf]; omega⟩
      · have HN := hide (show inPow xs i = false by
          unfold inPow
          rw [Bool.eq_false_iff]
          intro h1
          rw [List.all_eq_true] at h1
          have h2 := h1 _ (List.getElem_mem hltl)
          rw [noIn_wth, h2] at e9
          simp at e9)
        clear e9
        go_wp2_with fail
        go_ret
        exact ⟨_, rfl, Or.inl ⟨unhide HN, by omega⟩, rfl⟩
    · have HN := hide (show inPow xs i = true by
        rw [List.take_of_length_le (by have := HLL.out; omega)] at hno; exact hno)
      clear hno
      go_wp2_with fail
      go_ret
      exact ⟨_, rfl, Or.inr ⟨unhide HN, rfl⟩, rfl⟩

theorem ContainsFunc_any (xs : List Int) (i b : Nat) (a : Option Addr) (n c : Nat) (w : World) (h : Ints w a n xs) (hi3 : i ≤ 3) (hc : w.cell? ⟨b, 0, none⟩ = some (.int .i64 i)) :
    Calls Try.prog 41 #[.slice a n c, .func (.func 40) #[] #[.pointer (some ⟨b, 0, none⟩)]] w fun e w' => e = .returned (.bool (!inPow xs i)) ∧ w' = w := by
  go_enter Try.func41, Try.ntmps41
  go_wp2_with fail
  refine (IndexFunc_any xs i b _ _ _ _ h hi3 hc).mono ?_
  rintro e w1 ⟨r, rfl, hr, rfl⟩
  rcases hr with ⟨h1, h2⟩ | ⟨h1, rfl⟩
  · have HM := hide (show (!inPow xs i) = true by rw [h1]; rfl)
    clear h1
    go_wp2_with fail
    go_ret
    exact ⟨ret_bool (unhide HM).symm, rfl⟩
  · have HM := hide (show (!inPow xs i) = false by rw [h1]; rfl)
    clear h1
    go_wp2_with fail
    go_ret
    exact ⟨ret_bool (unhide HM).symm, rfl⟩
end Go.Proofs.Ytongajonecgdpae
