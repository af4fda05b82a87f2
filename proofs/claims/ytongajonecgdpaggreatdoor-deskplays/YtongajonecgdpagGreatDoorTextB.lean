/- The document's texts: after. -/
import Derived.Test.YtongajonecgdpagGreatDoorTextA
import Derived.Laws.DeepStrings4
import Derived.WalkSpells
namespace Go.Proofs.YtongajonecgdpagGreatDoor
open Go.RowKit

/-- What is behind a word; false: it does not begin so. -/
def afterL (s t : List UInt8) : List UInt8 × Bool := if s.take t.length = t then (s.drop t.length, true) else (s, false)
theorem str_take (s : List UInt8) (n : Nat) : (⟨s.toArray⟩ : ByteArray).extract 0 n = ⟨(s.take n).toArray⟩ := by
  apply ByteArray.ext
  simp [ByteArray.data_extract]
theorem str_drop (s : List UInt8) (n : Nat) : (⟨s.toArray⟩ : ByteArray).extract n s.length = ⟨(s.drop n).toArray⟩ := by
  apply ByteArray.ext
  simp [ByteArray.data_extract]
  exact List.take_of_length_le (by simp)
set_option maxHeartbeats 1000000 in
theorem after_any (s t : List UInt8) (w : World) :
    Calls Tryz.prog 20 #[.string ⟨s.toArray⟩, .string ⟨t.toArray⟩] w fun e w' => e = .returned (.tuple #[.string ⟨(afterL s t).1.toArray⟩, .bool (afterL s t).2]) ∧ w' = w := by
  by_cases h0 : s.length < t.length
  · have R := hide (show afterL s t = (s, false) by
      unfold afterL
      rw [if_neg]
      intro e
      have := congrArg List.length e
      simp at this
      omega)
    have hi : (s.length : Int) < (t.length : Int) := by omega
    go_enter Tryz.func20, Tryz.ntmps20
    go_wp2_with fail
    go_ret2
    rw [unhide R]
    exact ⟨rfl, rfl⟩
  · have hi : ¬ (s.length : Int) < (t.length : Int) := by omega
    have hi2 : (t.length : Int) ≤ (s.length : Int) := by omega
    have hi3 : (0 : Int) ≤ (t.length : Int) := by omega
    have ht := str_take s t.length
    have hd := str_drop s t.length
    by_cases e : s.take t.length = t
    · have R := hide (show afterL s t = (s.drop t.length, true) by unfold afterL; rw [if_pos e])
      go_enter Tryz.func20, Tryz.ntmps20
      go_wp2_with fail
      go_ret2
      rw [unhide R]
      exact ⟨rfl, rfl⟩
    · have R := hide (show afterL s t = (s, false) by unfold afterL; rw [if_neg e])
      have hl : (s.take t.length == t) = false := by simp [e]
      clear e
      go_enter Tryz.func20, Tryz.ntmps20
      go_wp2_with fail
      go_ret2
      rw [unhide R]
      exact ⟨rfl, rfl⟩
end Go.Proofs.YtongajonecgdpagGreatDoor
