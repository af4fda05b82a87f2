/- The document's tick: what is picked, what is next, bits, power. -/
import Derived.Test.YtongajonecgdpagGreatDoorEvalM
namespace Go.Proofs.YtongajonecgdpagGreatDoor
open Go.RowKit
set_option maxHeartbeats 1000000 in
theorem bits_any (x : Int) (n : Nat) (w : World) (hx : 0 ≤ x) (hx2 : x ≤ 1048576) (hn : n ≤ 20) :
    Calls Tryz.prog 49 #[.int .i64 x, .int .i64 n] w fun e w' => ∃ a n' c, e = .returned (.slice a n' c) ∧ Ints w' a n' (bitsV x n) ∧ Below w.heap.size w w' := by
  obtain ⟨i0, hi, hz0, hz1, hz2⟩ := info_parts Tryz.infoInt
  go_enter Tryz.func49, Tryz.ntmps49
  go_wp2_with fail
  go_loopw [0, 5, 6] (fun y v' i wr => ∃ k : Nat, k ≤ n ∧ i = .int .i64 k ∧ y = .int .i64 (x / 2 ^ k) ∧ wr.ownsRow w.heap.size 3 1 v' k (intsV ((bitsV x n).take k)) ∧ Below w.heap.size w wr) (fun _ _ i _ => n - (intOf i).toNat)
  case atStart => exact ⟨0, Nat.zero_le _, rfl, by simp, World.ownsRow_nil _ _ _ _, Below.refl _ _⟩
  case round =>
    obtain ⟨k, hk, rfl, rfl, hown, hbel⟩ := hrel
    by_cases hlt : k < n
    · have hki : (k : Int) < (n : Int) := by omega
      have HT := hide (show intsV ((bitsV x n).take (k + 1)) = intsV ((bitsV x n).take k) ++ [.int .i64 (x / 2 ^ k % 2)] by
        rw [intsV_succ _ _ (by rw [bitsV_len]; exact hlt)]
        simp [bitsV])
      have HD := hide (show x / 2 ^ (k + 1) = x / 2 ^ k / 2 by rw [Int.ediv_ediv_of_nonneg (Int.pow_nonneg (by decide)), Int.pow_succ])
      have hge : 0 ≤ x / 2 ^ k := Int.ediv_nonneg hx (Int.pow_nonneg (by decide))
      have hle : x / 2 ^ k ≤ 1048576 := Int.le_trans (Int.ediv_le_self _ hx) hx2
      generalize x / 2 ^ k = y at *
      go_wp2_with (at_builtin; refine wpList_append_own _ rfl _ _ 28 rfl (w.heap.size) 3 i0 (.int .i64 0) 1 8 Tryz.underlying28 hi hz0 hz1 hz2 rfl (by decide) _ _ _ rfl (hown.alloc _) ⟨wr.heap.size, 0, none⟩ 1 1 [.int .i64 (y % 2)] rfl rfl ?c1 ?c2 ?c3 ?c4 ?c5 ?_)
      case c1 =>
        intro j u hj
        match j, hj with
        | 0, hj => simp at hj; subst hj; simp [Addr.add]
      case c2 => intro u hu; simp at hu; subst hu; rfl
      case c3 => unfold maxLen; omega
      case c4 => omega
      case c5 => have := hbel.size; simp; omega
      intro v' w3 hown' hgrow _
      have hown2 := hown'
      rw [← unhide HT] at hown2
      have hb9 : Below (w.heap.size) wr w3 := ((Below.refl _ wr).alloc (hbel.size) _).grown hgrow (by have := hbel.size; simp; omega) (fun k hk => (hown.lt k hk).1)
      have hb3 : Below w.heap.size w w3 := hbel.trans hb9
      clear hown' hgrow
      have R := And.intro hown2 hb3
      clear hown
      go_wp2_with fail
      exact ⟨⟨k + 1, by omega, by go_num, by rw [unhide HD], R.1, R.2⟩, by simp [intOf]; omega⟩
    · have hkn : k = n := by omega
      rw [List.take_of_length_le (by rw [bitsV_len]; omega)] at hown
      obtain ⟨a2, c2, hv', hI⟩ := own_ints hown (by unfold maxLen; omega)
      rw [hv']
      clear hv' hown
      subst hkn
      go_wp2_with fail
      go_ret
      exact ⟨_, _, _, rfl, hI, hbel⟩


theorem power_le (m : Nat) (h : m ≤ 20) : (2 : Int) ^ m ≤ 1048576 := by
  have h1 : 2 ^ m ≤ 1048576 := Nat.le_trans (Nat.pow_le_pow_right (n := 2) (by decide) h) (by decide)
  have h2 : ((2 ^ m : Nat) : Int) ≤ 1048576 := Int.ofNat_le.mpr h1
  rw [Int.natCast_pow] at h2
  exact h2
theorem power_any (n : Nat) (hn : n ≤ 20) : ∀ w, Calls Tryz.prog 48 #[.int .i64 n] w fun e w' => e = .returned (.int .i64 (2 ^ n)) ∧ w' = w := by
  induction n with
  | zero =>
    intro w
    go_enter Tryz.func48, Tryz.ntmps48
    go_wp2
    go_ret
    exact ⟨rfl, rfl⟩
  | succ m ih =>
    intro w
    have hp : (2 : Int) ^ m ≤ 1048576 := power_le m (by omega)
    have hq : (0 : Int) ≤ 2 ^ m := Int.pow_nonneg (by decide)
    have hm : ¬ ((m : Int) + 1 ≤ 0) := by omega
    have HP := hide (show (2 : Int) ^ (m + 1) = 2 * 2 ^ m by rw [Int.pow_succ, Int.mul_comm])
    rw [unhide HP, show ((m + 1 : Nat) : Int) = (m : Int) + 1 by omega]
    have IH := ih (by omega)
    generalize (2 : Int) ^ m = p at *
    go_enter Tryz.func48, Tryz.ntmps48
    go_wp2_with fail
    refine (IH _).mono ?_
    rintro e w1 ⟨rfl, rfl⟩
    go_wp2_with fail
    go_ret
    exact ⟨by go_num, rfl⟩

end Go.Proofs.YtongajonecgdpagGreatDoor
