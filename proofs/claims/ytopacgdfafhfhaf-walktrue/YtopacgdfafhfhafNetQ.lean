/- net.Begin and the document's answer beside it. -/
import Derived.Test.YtopacgdfafhfhafNetP
namespace Go.Proofs.Ytopacgdfafhfhaf
open Go.RowKit

def begins (d : NetD) : List Int := d.regs.map (fun r => if r.1 then 1 else 0)
/-- The row behind k of the registers. -/
def begRow (d : NetD) (k : Nat) : List Value := (List.range d.regs.length).map (fun i => Value.int .i64 (if i < k ∧ (d.regs.getD i (false, 0)).1 = true then 1 else 0))
theorem begRow_len (d : NetD) (k : Nat) : (begRow d k).length = d.regs.length := by simp [begRow]
theorem begRow_zero (d : NetD) : begRow d 0 = List.replicate d.regs.length (.int .i64 0) := by
  simp only [begRow]
  rw [List.eq_replicate_iff]
  exact ⟨by simp, fun v hv => by obtain ⟨i, _, rfl⟩ := List.mem_map.1 hv; simp⟩
theorem begRow_set (d : NetD) (k : Nat) (hk : k < d.regs.length) : (begRow d k).set k (.int .i64 (if d.regs[k].1 = true then 1 else 0)) = begRow d (k + 1) := by
  apply List.ext_getElem (by simp [begRow])
  intro i h1 h2
  have hi : i < d.regs.length := by simpa [begRow] using h2
  simp only [List.getElem_set, begRow, List.getElem_map, List.getElem_range]
  by_cases e : k = i
  · subst e
    rw [if_pos rfl]
    simp [List.getD_eq_getElem?_getD, hk]
  · rw [if_neg e]
    congr 2
    have : (i < k + 1) = (i < k) := by rw [eq_iff_iff]; omega
    rw [this]
theorem begRow_keep (d : NetD) (k : Nat) : (begRow d k).set k (.int .i64 0) = begRow d k := by
  apply List.ext_getElem (by simp)
  intro i h1 h2
  simp only [List.getElem_set]
  by_cases e : k = i
  · subst e; simp [begRow]
  · rw [if_neg e]
theorem begRow_full (d : NetD) : begRow d d.regs.length = (begins d).map (fun x => Value.int .i64 x) := by
  apply List.ext_getElem (by simp [begRow, begins])
  intro i h1 h2
  have hi : i < d.regs.length := by simpa [begRow] using h1
  simp [begRow, begins, hi, List.getD_eq_getElem?_getD]

theorem made_ints {w : World} {base g n : Nat} (h : w.ownsRow base 3 1 (.slice (some ⟨g, 0, none⟩) n n) n (madeCells #[Value.int .i64 0] n).toList) : w.ownsRow base 3 1 (.slice (some ⟨g, 0, none⟩) n n) n (List.replicate n (.int .i64 0)) := by
  rw [toList_madeCells_one] at h; exact h

/-- What Begin answers. -/
def begAns (d : NetD) : List Int := if checkE d = 0 then begins d else []

end Go.Proofs.Ytopacgdfafhfhaf
