/- The document's timesError and DoOf. -/
import Derived.Test.YtongajonecgdpabTickA
import Derived.Test.YtongajonecgdpabEvalV
import Derived.Deep.RegionHeld3
import Derived.Deep.DrawnRows
namespace Go.Proofs.Ytongajonecgdpab
open Go.RowKit

def inPow (l : List Int) (n : Nat) : Bool := l.all (fun x => wth x 0 (2 ^ n - 1))
def timesE (l : List Int) (n : Nat) : Int := if 60 < l.length then 2 else if inPow l n = true then 0 else 3

set_option maxHeartbeats 1000000 in
theorem timesError_any (l : List Int) (la : Option Addr) (ln lc n : Nat) (w : World) (hl : Ints w la ln l) (hn : n ≤ 20) :
    Calls Try.prog 44 #[.slice la ln lc, .int .i64 n] w fun e w' => e = .returned (.int .i64 (timesE l n)) ∧ Below w.heap.size w w' := by
  have HLL : Hid (l.length = ln) := hl.1.symm
  have hll : ln ≤ l.length := by have := HLL.out; omega
  have PW := hide (power_any n hn)
  have hp2 := power_le n hn
  have hp1 : (0 : Int) ≤ 2 ^ n := Int.pow_nonneg (by decide)
  by_cases h60 : 60 < ln
  · have HT := hide (show timesE l n = 2 by unfold timesE; rw [if_pos (by have := HLL.out; omega)])
    have h60i : (60 : Int) < (ln : Int) := by omega
    clear PW hp2 hp1
    go_enter Try.func44, Try.ntmps44
    go_wp2_with fail
    go_ret
    exact ⟨ret_int (unhide HT).symm, Below.refl _ _⟩
  · have HQ := hide (show timesE l n = if inPow l n = true then 0 else 3 by unfold timesE; rw [if_neg (by have := HLL.out; omega)])
    have h60i : (ln : Int) ≤ 60 := by omega
    have HIP := hide (show inPow l n = l.all (fun x => wth x 0 (2 ^ n - 1)) from rfl)
    generalize inPow l n = ip at *
    generalize (2 : Int) ^ n = p at *
    go_enter Try.func44, Try.ntmps44
    go_wp2_with fail
    go_loopw [5] (fun i wr => ∃ k : Nat, k ≤ ln ∧ i = .int .i64 k ∧ (l.take k).all (fun x => wth x 0 (p - 1)) = true ∧ Below w.heap.size w wr) (fun i _ => ln - (intOf i).toNat)
    case atStart => exact ⟨0, Nat.zero_le _, rfl, rfl, Below.refl _ _⟩
    case round =>
      obtain ⟨k, hk, rfl, hno, hbel⟩ := hrel
      by_cases hlt : k < ln
      · have hltl : k < l.length := by omega
        have hi1 : ((k : Nat) : Int) < (ln : Int) := by omega
        obtain ⟨b, off, rfl, hbb, c1⟩ := (hl.below hbel).at hltl
        cases e : wth l[k] 0 (p - 1)
        · have HT := hide (show timesE l n = 3 by
            have : ip = false := by have := all_take_no (fun x : Int => wth x 0 (p - 1)) l k hltl e; rw [List.take_length] at this; rw [unhide HIP]; exact this
            rw [unhide HQ, this]; rfl)
          clear hno
          go_wp2_with fail
          go_quiet ((first | (go_at_call 53; exact Calls.quiet_of_same (unhide PW _)) | (go_at_call 50; exact Calls.quiet_of_same (within_wth _ _ _ _))))
          go_wp2_with fail
          go_ret
          exact ⟨ret_int (unhide HT).symm, below_drewN hbel _⟩
        · have HT := hide (show (l.take (k + 1)).all (fun x => wth x 0 (p - 1)) = true by
            have := all_take_succ (fun x : Int => wth x 0 (p - 1)) l k hltl
            rw [hno, e] at this; exact this)
          clear hno
          go_wp2_with fail
          go_quiet ((first | (go_at_call 53; exact Calls.quiet_of_same (unhide PW _)) | (go_at_call 50; exact Calls.quiet_of_same (within_wth _ _ _ _))))
          go_wp2_with fail
          exact ⟨⟨k + 1, by omega, by go_num, unhide HT, below_drewN hbel _⟩, by simp [intOf]; omega⟩
      · have HT := hide (show timesE l n = 0 by
          have : ip = true := by rw [unhide HIP, ← hno, List.take_of_length_le (by have := HLL.out; omega)]
          rw [unhide HQ, this]; rfl)
        clear hno
        go_wp2_with fail
        go_ret
        exact ⟨ret_int (unhide HT).symm, hbel⟩

end Go.Proofs.Ytongajonecgdpab
