/- The program's eval: a gate's value, what is settled, Step and Solves. -/
import Derived.Test.YtopacgdfafhfhafEvalU
import Derived.Test.YtopacgdfafhfhafRowP
import Derived.Deep.RegionHeld3
import Derived.Deep.DrawnRows
namespace Go.Proofs.Ytopacgdfafhfhaf
open Go.RowKit

def argWorth (kind : Int) (xs : List Int) : Int := if kind = 4 then tellV 0 1 xs else if kind = 5 then tellV 1 0 xs else if kind = 6 then not1 (xs.getD 0 2) else 2

/-- The holder's two cells, in a box. -/
def HBox (w : World) (b : Nat) (ra ia : Option Addr) (rn rc inn ic : Nat) : Prop :=
  b < w.heap.size ∧ w.cell? ⟨b, 0, none⟩ = some (.slice ra rn rc) ∧ w.cell? ⟨b, 1, none⟩ = some (.slice ia inn ic)
theorem HBox.below' {B : Nat} {w w' : World} {b : Nat} {ra ia : Option Addr} {rn rc inn ic : Nat} (h : HBox w b ra ia rn rc inn ic) (hb : Below B w w') (hB : b < B) : HBox w' b ra ia rn rc inn ic := by
  obtain ⟨h0, h1, h2⟩ := h
  refine ⟨Nat.lt_of_lt_of_le h0 hb.size, ?_, ?_⟩
  · rw [hb.cell (p := ⟨b, 0, none⟩) hB]; exact h1
  · rw [hb.cell (p := ⟨b, 1, none⟩) hB]; exact h2
theorem HBox.below {w w' : World} {b : Nat} {ra ia : Option Addr} {rn rc inn ic : Nat} (h : HBox w b ra ia rn rc inn ic) (hb : Below w.heap.size w w') : HBox w' b ra ia rn rc inn ic := h.below' hb h.1
theorem HBox.new (w : World) (ra ia : Option Addr) (rn rc inn ic : Nat) (T : TypeId) : HBox (w.alloc (.cells #[.slice ra rn rc, .slice ia inn ic] T)) w.heap.size ra ia rn rc inn ic := by
  refine ⟨by simp, ?_, ?_⟩ <;> rw [World.cell?_alloc_new] <;> rfl

theorem argsV_vals (g : GateD) {v : List Int} (hv : vals v = true) : vals (argsV g v) = true := by
  rw [vals_true]
  intro x hx
  obtain ⟨y, _, rfl⟩ := List.mem_map.1 hx
  exact getD_val hv _
theorem pick_args {g : GateD} {v : List Int} {rn inn vn : Nat} (h : Right g rn inn vn) (hl : v.length = vn) : pickV v g.args = argsV g v := by
  unfold pickV argsV
  apply List.map_congr_left
  intro x hx
  have := (h.args x hx).2
  rw [List.getD_eq_getElem?_getD, List.getD_eq_getElem?_getD, List.getElem?_eq_getElem (by omega)]
  rfl
theorem worth_args {g : GateD} (regs ins v : List Int) (h : g.kind = 4 ∨ g.kind = 5 ∨ g.kind = 6) : worthV g regs ins v = argWorth g.kind (argsV g v) := by
  unfold worthV argWorth
  rcases h with h | h | h <;> rw [h] <;> simp [argsV]
theorem held_gate {w0 W : World} {b : Nat} {kind n : Int} {aa : Option Addr} {an ac : Nat} (hx : GBox w0 b kind n aa an ac) (h : Below w0.heap.size w0 W) :
    Below w0.heap.size w0 W ∧ W.cell? ⟨b, 0, none⟩ = some (.int .i64 kind) ∧ W.cell? ⟨b, 1, none⟩ = some (.int .i64 n) ∧ W.cell? ⟨b, 2, none⟩ = some (.slice aa an ac) := by
  obtain ⟨_, x1, x2, x3⟩ := hx.below' h hx.1
  exact ⟨h, x1, x2, x3⟩

/-- One pass over the gates, behind k of them: something was settled, or all is as it was and those solve. -/
def Pass (d : NetD) (regs ins x0 : List Int) (k : Nat) (b : Bool) (x : List Int) : Prop :=
  opens x ≤ opens x0 ∧ (b = true → opens x < opens x0) ∧ (b = false → x = x0 ∧ ∀ j (_ : j < k) (hj : j < d.gates.length), worthV d.gates[j] regs ins x = x.getD j 2)
theorem Pass.start (d : NetD) (regs ins x : List Int) : Pass d regs ins x 0 false x := ⟨Nat.le_refl _, fun h => by simp at h, fun _ => ⟨rfl, fun j hj => by omega⟩⟩
theorem Pass.stay {d : NetD} {regs ins x0 x : List Int} {k : Nat} {b : Bool} (h : Pass d regs ins x0 k b x) (hk : k < d.gates.length) (hw : worthV d.gates[k] regs ins x = x.getD k 2) : Pass d regs ins x0 (k + 1) b x := by
  refine ⟨h.1, h.2.1, fun hb => ⟨(h.2.2 hb).1, fun j hj hj' => ?_⟩⟩
  by_cases e : j = k
  · subst e; exact hw
  · exact (h.2.2 hb).2 j (by omega) hj'
theorem opens_set {x : List Int} {k : Nat} (hk : k < x.length) (h2 : x.getD k 2 = 2) {y : Int} (hy : y ≠ 2) : opens (x.set k y) < opens x := by
  have hle : Le x (x.set k y) := by
    intro j
    by_cases e : k = j
    · subst e; exact Or.inl h2
    · right; simp only [List.getD_eq_getElem?_getD, List.getElem?_set, if_neg e]
  rcases Nat.lt_or_ge (opens (x.set k y)) (opens x) with h | h
  · exact h
  · have := opens_same (by simp) hle h
    have h3 : (x.set k y).getD k 2 = y := by simp [List.getD_eq_getElem?_getD, hk]
    rw [this, h2] at h3
    exact absurd h3.symm hy
theorem Pass.more {d : NetD} {regs ins x0 x : List Int} {k : Nat} {b : Bool} (h : Pass d regs ins x0 k b x) (hk : k < x.length) (h2 : x.getD k 2 = 2) {y : Int} (hy : y ≠ 2) : Pass d regs ins x0 (k + 1) true (x.set k y) := by
  have h3 := opens_set hk h2 hy
  refine ⟨by have := h.1; omega, fun _ => by have := h.1; omega, fun hb => by simp at hb⟩
theorem Pass.fix {d : NetD} {regs ins x0 x : List Int} {k : Nat} (h : Pass d regs ins x0 k false x) (hk : d.gates.length ≤ k) (hl : x.length = d.gates.length) : roundV d regs ins x = x := by
  apply List.ext_getElem (by rw [roundV_len, hl])
  intro i h1 h3
  have hi : i < d.gates.length := by rw [hl] at h3; exact h3
  have := (h.2.2 rfl).2 i (by omega) hi
  simp only [roundV, List.getElem_map]
  rw [this, List.getD_eq_getElem?_getD, List.getElem?_eq_getElem h3]; rfl
theorem Way.stays {d : NetD} {regs ins x : List Int} (h : Way d regs ins x) {k : Nat} (hk : k < d.gates.length) (hne : x.getD k 2 ≠ 2) : worthV d.gates[k] regs ins x = x.getD k 2 := by
  have := h.up k
  rw [roundV_at d regs ins x k hk] at this
  rcases this with h1 | h1
  · exact absurd h1 hne
  · exact h1.symm
theorem set_same {x : List Int} {k : Nat} (hk : k < x.length) {y : Int} (h : x.getD k 2 = y) : x.set k y = x := by
  apply List.ext_getElem (by simp)
  intro i h1 h2
  rw [List.getElem_set]
  by_cases e : k = i
  · subst e; rw [if_pos rfl, ← h, List.getD_eq_getElem?_getD, List.getElem?_eq_getElem hk]; rfl
  · rw [if_neg e]
theorem vals_set {x : List Int} {k : Nat} {y : Int} (h : vals x = true) (hy : y = 0 ∨ y = 1 ∨ y = 2) : vals (x.set k y) = true := by
  rw [vals_true] at h ⊢
  intro z hz
  rcases List.mem_or_eq_of_mem_set hz with h1 | h1
  · exact h z h1
  · rw [h1]; exact hy

end Go.Proofs.Ytopacgdfafhfhaf
