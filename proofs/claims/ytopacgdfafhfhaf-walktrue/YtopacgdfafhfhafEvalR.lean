/- The document's answers of eval: a gate's worth, what is settled, what solves. -/
import Derived.Test.YtopacgdfafhfhafNetR
import Derived.Test.YtopacgdfafhfhafEvalM
namespace Go.Proofs.Ytopacgdfafhfhaf
open Go.RowKit

/-- A gate that may be, among so many registers, inputs and gates. -/
structure Right (g : GateD) (rn inn gn : Nat) : Prop where
  kind : 0 ≤ g.kind ∧ g.kind ≤ 6
  inp : g.kind = 2 → 0 ≤ g.n ∧ g.n.toNat < inn
  reg : g.kind = 3 → 0 ≤ g.n ∧ g.n.toNat < rn
  one : g.kind = 6 → g.args.length = 1
  few : g.args.length ≤ 16
  args : ∀ x ∈ g.args, 0 ≤ x ∧ x.toNat < gn

theorem right_of {d : NetD} (h : checkE d = 0) (k : Nat) (hk : k < d.gates.length) : Right d.gates[k] d.regs.length d.ins.toNat d.gates.length := by
  obtain ⟨h1, h2, h3, h4⟩ := check_ok h
  have hins : 0 ≤ d.ins := by
    simp only [numbersB, Bool.and_eq_true, decide_eq_true_iff] at h2
    exact h2.1.1.1
  have hk3 : 0 ≤ d.gates[k].kind ∧ d.gates[k].kind ≤ 6 := by
    unfold kindsB kindsTo at h3
    rw [List.take_length, List.all_eq_true] at h3
    simpa [kindB] using h3 _ (List.getElem_mem hk)
  have hf : numB d.ins d.regs.length d.gates[k] = true ∧ argB d.gates[k] = true := by
    unfold formsB formsTo at h4
    rw [List.take_length, List.all_eq_true] at h4
    have := h4 _ (List.getElem_mem hk)
    simpa [formB] using this
  have hfew : d.gates[k].args.length ≤ 16 := by
    simp only [countsB, countsTo, Bool.and_eq_true] at h1
    have h5 := h1.2
    rw [List.take_length, List.all_eq_true] at h5
    simpa using h5 _ (List.getElem_mem hk)
  refine ⟨hk3, fun e => ?_, fun e => ?_, fun e => ?_, hfew, args_in h2 k hk⟩
  · have := hf.1
    unfold numB at this
    rw [if_pos e] at this
    simp only [isB, decide_eq_true_iff] at this
    omega
  · have := hf.1
    unfold numB at this
    rw [if_neg (by omega), if_pos e] at this
    simp only [isB, decide_eq_true_iff] at this
    omega
  · have := hf.2
    unfold argB at this
    rw [if_neg (by omega), if_pos e] at this
    simp only [beq_iff_eq] at this
    omega

/-- A gate's three cells in a box of the call's own. -/
def GBox (w : World) (b : Nat) (kind n : Int) (aa : Option Addr) (an ac : Nat) : Prop :=
  b < w.heap.size ∧ w.cell? ⟨b, 0, none⟩ = some (.int .i64 kind) ∧ w.cell? ⟨b, 1, none⟩ = some (.int .i64 n) ∧ w.cell? ⟨b, 2, none⟩ = some (.slice aa an ac)
theorem GBox.below' {B : Nat} {w w' : World} {b : Nat} {kind n : Int} {aa : Option Addr} {an ac : Nat} (h : GBox w b kind n aa an ac) (hb : Below B w w') (hB : b < B) : GBox w' b kind n aa an ac := by
  obtain ⟨h0, h1, h2, h3⟩ := h
  refine ⟨Nat.lt_of_lt_of_le h0 hb.size, ?_, ?_, ?_⟩
  · rw [hb.cell (p := ⟨b, 0, none⟩) hB]; exact h1
  · rw [hb.cell (p := ⟨b, 1, none⟩) hB]; exact h2
  · rw [hb.cell (p := ⟨b, 2, none⟩) hB]; exact h3
theorem GBox.new (w : World) (kind n : Int) (aa : Option Addr) (an ac : Nat) (T : TypeId) : GBox (w.alloc (.cells #[.int .i64 kind, .int .i64 n, .slice aa an ac] T)) w.heap.size kind n aa an ac := by
  refine ⟨by simp, ?_, ?_, ?_⟩ <;> rw [World.cell?_alloc_new] <;> rfl

def argsV (g : GateD) (v : List Int) : List Int := g.args.map (fun x => v.getD x.toNat 2)
theorem argsV_val (g : GateD) {v : List Int} (hv : vals v = true) {k : Nat} (h : k < (argsV g v).length) : 0 ≤ (argsV g v)[k] ∧ (argsV g v)[k] ≤ 2 := by
  have h2 : (argsV g v)[k] = 0 ∨ (argsV g v)[k] = 1 ∨ (argsV g v)[k] = 2 := by
    simp only [argsV, List.getElem_map]
    exact getD_val hv _
  omega
def argTo (g : GateD) (v : List Int) (k : Nat) : List Value := ((argsV g v).take k).map (fun x => Value.int .i64 x)
theorem argTo_succ (g : GateD) (v : List Int) (k n : Nat) (h : k < g.args.length) (hn : g.args[k] = (n : Int)) (hv : n < v.length) : argTo g v (k + 1) = argTo g v k ++ [.int .i64 v[n]] := by
  have hk : k < (argsV g v).length := by simpa [argsV] using h
  unfold argTo
  rw [List.take_succ_eq_append_getElem hk, List.map_append]
  simp [argsV, hn, List.getD_eq_getElem?_getD, hv]
theorem argTo_full (g : GateD) (v : List Int) (k : Nat) (h : g.args.length ≤ k) : argTo g v k = (argsV g v).map (fun x => Value.int .i64 x) := by
  unfold argTo; rw [List.take_of_length_le (by simpa [argsV] using h)]

end Go.Proofs.Ytopacgdfafhfhaf
