/- SameProgs of two that are the same; the statements' own look at text (textBegun); the statement TextBack. -/
import Derived.Test.YtongajonecgdpagGreatDoorReadE
import Derived.Test.YtongajonecgdpagGreatDoorProgL
import Derived.Laws.StructEq
namespace Go.Proofs.YtongajonecgdpagGreatDoor
open Go.RowKit

theorem show_read {p : List NodeD} (h : checkP p = 0) (hl : (showL p).length ≤ 4096) : readE (showL p) = 0 ∧ readL (showL p) = p := by
  have hs : showL p = textL p p.length 0 := by unfold showL; rw [if_pos h]
  have hr := read_shown (pok_of h)
  unfold readE readL
  have hn : ¬ 4096 < (showL p).length := by omega
  simp only [if_neg hn]
  rw [hs, hr]
  exact ⟨rfl, rfl⟩
theorem show_len {p : List NodeD} (h : checkP p = 0) : (showL p).length ≤ 400 := by
  have hok := pok_of h
  unfold showL
  rw [if_pos h]
  exact text_le hok p.length (ok_some (o := 0) hok.form)
theorem read_show {s : List UInt8} (h : readE s = 0) : checkP (readL s) = 0 ∧ showL (readL s) = s := by
  unfold readE at h
  unfold readL
  by_cases h4 : 4096 < s.length
  · rw [if_pos h4] at h; simp at h
  · rw [if_neg h4] at h ⊢
    cases hp : progF s with
    | none => rw [hp] at h; simp at h
    | some p =>
      obtain ⟨h1, h2⟩ := shown_read hp
      refine ⟨h1, ?_⟩
      show showL p = s
      unfold showL
      rw [if_pos h1, h2]
def playS : List UInt8 := [40, 40, 40, 97, 119, 97, 105, 116, 32, 120, 59, 32, 101, 109, 105, 116, 32, 65, 41, 32, 124, 32, 40, 112, 97, 117, 115, 101, 59, 32, 101, 109, 105, 116, 32, 66, 41, 41, 59, 32, 40, 112, 97, 117, 115, 101, 59, 32, 119, 97, 115, 32, 65, 32, 116, 104, 101, 110, 32, 101, 109, 105, 116, 32, 67, 32, 101, 108, 115, 101, 32, 104, 97, 108, 116, 32, 101, 110, 100, 41, 41]
theorem play_shown : showL playD = playS := by decide +kernel
theorem play_checked : checkP playD = 0 := by decide +kernel
end Go.Proofs.YtongajonecgdpagGreatDoor
