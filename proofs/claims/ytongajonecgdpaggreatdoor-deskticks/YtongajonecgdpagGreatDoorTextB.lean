/- The document's texts: after. -/
import Derived.Test.YtongajonecgdpagGreatDoorTextA
import Derived.Laws.DeepStrings4
import Derived.WalkSpells
namespace Go.Proofs.YtongajonecgdpagGreatDoor
open Go.RowKit

/-- What is behind a word; false: it does not begin so. -/
def afterL (s t : List UInt8) : List UInt8 × Bool := if s.take t.length = t then (s.drop t.length, true) else (s, false)
theorem str_take (s : List UInt8) (n : Nat) : (⟨s.toArray⟩ : ByteArray).extract 0 n = ⟨(s.take n).toArray⟩ := by
  apply ByteArray.ext
  simp [ByteArray.data_extract]
theorem str_drop (s : List UInt8) (n : Nat) : (⟨s.toArray⟩ : ByteArray).extract n s.length = ⟨(s.drop n).toArray⟩ := by
  apply ByteArray.ext
  simp [ByteArray.data_extract]
  exact List.take_of_length_le (by simp)
end Go.Proofs.YtongajonecgdpagGreatDoor
