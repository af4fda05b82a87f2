/- net.Check: what it answers, for every net that is read: what may not be is left by a panic, and recovered. -/
import Derived.Test.YtopacgdfafhfhafNetC
namespace Go.Proofs.Ytopacgdfafhfhaf
open Go.RowKit

theorem assert_errno (f : Int) (w : World) : (Instr.typeAssert (.iface 26 (.int .i64 f)) 20 26 false).run Try.prog w = .ok (.int .i64 f) w := by
  simp [Instr.typeAssert, run_underlying Try.underlying26]

theorem endOf_true (f : Int) : endOf true f = .returned (.tuple #[]) := rfl
theorem endOf_false (f : Int) : endOf false f = .panicked [{ v := .iface 26 (.int .i64 f), recovered := false }] := rfl
theorem counts_gates {d : NetD} (h : countsB d = true) : d.ins ≤ 3 ∧ d.gates.length ≤ 200 ∧ d.regs.length ≤ 20 ∧ d.outs.length ≤ 3 := by
  simp only [countsB, Bool.and_eq_true, decide_eq_true_iff] at h
  exact ⟨h.1.1.1.1, h.1.1.1.2, h.1.1.2, h.1.2⟩

/-- The deferred call, behind a panic: the fault is laid, and handed back. -/
theorem fault_out {w w1 : World} {f : Int} {o1 : Obj} (h : Below ((w.alloc o1).alloc (.cells #[.int .i64 0] 26)).heap.size ((w.alloc o1).alloc (.cells #[.int .i64 0] 26)) w1) :
    w1.cell? ⟨w.heap.size + 1, 0, none⟩ = some (.int .i64 0) ∧ w1.frozen? ⟨w.heap.size + 1, 0, none⟩ = false ∧ Below w.heap.size w (w1.setCell ⟨w.heap.size + 1, 0, none⟩ (.int .i64 f)) := by
  refine ⟨?_, ?_, ?_⟩
  · rw [h.cell (p := ⟨w.heap.size + 1, 0, none⟩) (by simp), World.cell?_alloc_at _ _ _ _ (by simp)]; rfl
  · rw [h.frozen (p := ⟨w.heap.size + 1, 0, none⟩) (by simp)]; exact World.frozen?_alloc_at _ _ _ _ (by simp)
  · refine Below.setCell ?_ (by simp) _
    exact (((Below.refl _ _).alloc (Nat.le_refl _) _).alloc (by simp) _).trans (h.mono (by simp; omega))

end Go.Proofs.Ytopacgdfafhfhaf
