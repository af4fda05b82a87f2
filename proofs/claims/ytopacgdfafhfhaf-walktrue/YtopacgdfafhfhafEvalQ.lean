/- The program's eval.Step and eval.Solves. -/
import Derived.Test.YtopacgdfafhfhafEvalP
namespace Go.Proofs.Ytopacgdfafhfhaf
open Go.RowKit

/-- A whole block of a call's own. -/
def Cells (w : World) (g : Nat) (vs : List Value) (T : TypeId) : Prop := w.heap[g]? = some (.cells vs.toArray T (0, 0))
theorem Cells.cell {w : World} {g : Nat} {vs : List Value} {T : TypeId} (h : Cells w g vs T) (k : Nat) : w.cell? ⟨g, k, none⟩ = vs[k]? := by
  rw [cell_of_row w g k _ _ _ h]
  simp
theorem Cells.frozen {w : World} {g : Nat} {vs : List Value} {T : TypeId} (h : Cells w g vs T) (k : Nat) : w.frozen? ⟨g, k, none⟩ = false := frozen_of_row w g k _ _ h
theorem Cells.set {w : World} {g : Nat} {vs : List Value} {T : TypeId} (h : Cells w g vs T) (k : Nat) (x : Value) : Cells (w.setCell ⟨g, k, none⟩ x) g (vs.set k x) T := by
  unfold Cells
  rw [Go.heap_setCell_same w g k _ _ _ h]
  congr 2
  simp
theorem Cells.lt {w : World} {g : Nat} {vs : List Value} {T : TypeId} (h : Cells w g vs T) : g < w.heap.size := (Array.getElem?_eq_some_iff.1 h).1
theorem Cells.below {B : Nat} {w w' : World} {g : Nat} {vs : List Value} {T : TypeId} (h : Cells w g vs T) (hb : Below B w w') (hg : g < B) : Cells w' g vs T := by
  unfold Cells; rw [hb.block g hg]; exact h
theorem Cells.new (w : World) (vs : List Value) (T : TypeId) : Cells (w.alloc (.cells vs.toArray T)) w.heap.size vs T := (MapKept.heap_alloc w _).1

/-- What hold.Of hands out: the two lists, or nothing. -/
def holdV (e : Int) (qa ia : Option Addr) (qn qc inn ic : Nat) : Value := if e = 0 then .agg #[.slice qa qn qc, .slice ia inn ic] else .agg #[.slice none 0 0, .slice none 0 0]
theorem ret_hold {h h' : Value} {e e' : Int} (h1 : h = h') (h2 : e = e') : Ending.returned (.tuple #[h, .int .i64 e]) = .returned (.tuple #[h', .int .i64 e']) := by rw [h1, h2]
theorem holdV_no {e : Int} (h : e ≠ 0) (qa ia : Option Addr) (qn qc inn ic : Nat) : holdV e qa ia qn qc inn ic = .agg #[.slice none 0 0, .slice none 0 0] := by unfold holdV; rw [if_neg h]
theorem holdV_ok {e : Int} (h : e = 0) (qa ia : Option Addr) (qn qc inn ic : Nat) : holdV e qa ia qn qc inn ic = .agg #[.slice qa qn qc, .slice ia inn ic] := by unfold holdV; rw [if_pos h]

end Go.Proofs.Ytopacgdfafhfhaf
