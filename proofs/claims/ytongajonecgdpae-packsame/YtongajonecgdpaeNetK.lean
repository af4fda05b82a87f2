/- The statements' own net (knot): where it lies, and what it is. -/
import Derived.Test.YtongajonecgdpaeNetR
namespace Go.Proofs.Ytongajonecgdpae
open Go.RowKit

def allocs (w : World) : List Obj → World
  | [] => w
  | o :: r => allocs (w.alloc o) r
theorem allocs_below (l : List Obj) : ∀ w : World, Below w.heap.size w (allocs w l) := by
  induction l with
  | nil => intro w; exact Below.refl _ _
  | cons o r ih =>
    intro w
    have h := ih (w.alloc o)
    exact ((Below.refl _ w).alloc (Nat.le_refl _) o).trans (h.mono (by simp))
theorem allocs_at (l : List Obj) : ∀ (w : World) (i : Nat), i < l.length → (allocs w l).heap[w.heap.size + i]? = l[i]? := by
  induction l with
  | nil => intro w i h; simp at h
  | cons o r ih =>
    intro w i h
    cases i with
    | zero =>
      have hb := allocs_below r (w.alloc o)
      show (allocs (w.alloc o) r).heap[w.heap.size + 0]? = _
      rw [hb.block _ (by simp)]
      show (w.heap.push o)[w.heap.size + 0]? = _
      simp
    | succ i =>
      have := ih (w.alloc o) i (by simpa using h)
      rw [show (w.alloc o).heap.size + i = w.heap.size + (i + 1) from by simp; omega] at this
      simpa [allocs] using this

theorem ints_heap {w : World} {g n : Nat} {T : TypeId} (xs : List Int) (h : w.heap[g]? = some (.cells (xs.map (fun x => Value.int .i64 x)).toArray T (0, 0))) (hn : n = xs.length) (hm : xs.length ≤ maxLen) : Ints w (some ⟨g, 0, none⟩) n xs :=
  ⟨hn, hm, Or.inr ⟨g, 0, rfl, (Array.getElem?_eq_some_iff.1 h).1, fun i hi => by rw [Nat.zero_add, cell_of_row w g i _ _ _ h]; simp [hi]⟩⟩

def knotG (b : Nat) : Array Value := #[.int .i64 2, .int .i64 0, .slice none 0 0, .int .i64 3, .int .i64 0, .slice none 0 0, .int .i64 6, .int .i64 0, .slice (some ⟨b + 1, 0, none⟩) 1 1, .int .i64 6, .int .i64 0, .slice (some ⟨b + 2, 0, none⟩) 1 1, .int .i64 4, .int .i64 0, .slice (some ⟨b + 3, 0, none⟩) 2 2, .int .i64 4, .int .i64 0, .slice (some ⟨b + 4, 0, none⟩) 2 2, .int .i64 5, .int .i64 0, .slice (some ⟨b + 5, 0, none⟩) 2 2, .int .i64 5, .int .i64 0, .slice (some ⟨b + 6, 0, none⟩) 2 2, .int .i64 4, .int .i64 0, .slice (some ⟨b + 7, 0, none⟩) 2 2, .int .i64 0, .int .i64 0, .slice none 0 0]
def knotX (b : Nat) : Array Value := #[.int .i64 2, .int .i64 0, .slice none 0 0, .int .i64 3, .int .i64 0, .slice none 0 0, .int .i64 6, .int .i64 0, .slice none 0 0, .int .i64 6, .int .i64 0, .slice (some ⟨b + 2, 0, none⟩) 1 1, .int .i64 4, .int .i64 0, .slice (some ⟨b + 3, 0, none⟩) 2 2, .int .i64 4, .int .i64 0, .slice (some ⟨b + 4, 0, none⟩) 2 2, .int .i64 5, .int .i64 0, .slice (some ⟨b + 5, 0, none⟩) 2 2, .int .i64 5, .int .i64 0, .slice (some ⟨b + 6, 0, none⟩) 2 2, .int .i64 4, .int .i64 0, .slice (some ⟨b + 7, 0, none⟩) 2 2, .int .i64 0, .int .i64 0, .slice none 0 0]
def knotD : NetD := { ins := 1, gates := [⟨2, 0, []⟩, ⟨3, 0, []⟩, ⟨6, 0, [1]⟩, ⟨6, 0, [0]⟩, ⟨4, 0, [0, 2]⟩, ⟨4, 0, [3, 1]⟩, ⟨5, 0, [4, 5]⟩, ⟨5, 0, [6, 8]⟩, ⟨4, 0, [7, 9]⟩, ⟨0, 0, []⟩], regs := [(false, 6)], outs := [7, 1] }
def knotDX : NetD := { ins := 1, gates := [⟨2, 0, []⟩, ⟨3, 0, []⟩, ⟨6, 0, []⟩, ⟨6, 0, [0]⟩, ⟨4, 0, [0, 2]⟩, ⟨4, 0, [3, 1]⟩, ⟨5, 0, [4, 5]⟩, ⟨5, 0, [6, 8]⟩, ⟨4, 0, [7, 9]⟩, ⟨0, 0, []⟩], regs := [(false, 6)], outs := [7, 1] }
def knotDY : NetD := { ins := 1, gates := [⟨2, 0, []⟩, ⟨3, 0, []⟩, ⟨6, 0, [1]⟩, ⟨6, 0, [0]⟩, ⟨4, 0, [0, 2]⟩, ⟨4, 0, [3, 1]⟩, ⟨5, 0, [4, 5]⟩, ⟨5, 0, [6, 8]⟩, ⟨4, 0, [7, 9]⟩, ⟨0, 0, []⟩], regs := [(false, 10)], outs := [7, 1] }

/-- The blocks of a knot. -/
structure KnotAt (w : World) (b : Nat) (G R : Array Value) : Prop where
  a1 : w.heap[b + 1]? = some (.cells #[.int .i64 1] 3 (0, 0))
  a2 : w.heap[b + 2]? = some (.cells #[.int .i64 0] 3 (0, 0))
  a3 : w.heap[b + 3]? = some (.cells #[.int .i64 0, .int .i64 2] 3 (0, 0))
  a4 : w.heap[b + 4]? = some (.cells #[.int .i64 3, .int .i64 1] 3 (0, 0))
  a5 : w.heap[b + 5]? = some (.cells #[.int .i64 4, .int .i64 5] 3 (0, 0))
  a6 : w.heap[b + 6]? = some (.cells #[.int .i64 6, .int .i64 8] 3 (0, 0))
  a7 : w.heap[b + 7]? = some (.cells #[.int .i64 7, .int .i64 9] 3 (0, 0))
  g : w.heap[b + 8]? = some (.cells G 96 (0, 0))
  r : w.heap[b + 9]? = some (.cells R 74 (0, 0))
  o : w.heap[b + 10]? = some (.cells #[.int .i64 7, .int .i64 1] 3 (0, 0))

theorem KnotAt.lt {w : World} {b : Nat} {G R : Array Value} (h : KnotAt w b G R) : b + 10 < w.heap.size := (Array.getElem?_eq_some_iff.1 h.o).1
theorem KnotAt.below {w w' : World} {b : Nat} {G R : Array Value} (h : KnotAt w b G R) (hb : Below w.heap.size w w') : KnotAt w' b G R := by
  have hl := h.lt
  exact ⟨by rw [hb.block _ (by omega)]; exact h.a1, by rw [hb.block _ (by omega)]; exact h.a2, by rw [hb.block _ (by omega)]; exact h.a3, by rw [hb.block _ (by omega)]; exact h.a4, by rw [hb.block _ (by omega)]; exact h.a5, by rw [hb.block _ (by omega)]; exact h.a6, by rw [hb.block _ (by omega)]; exact h.a7, by rw [hb.block _ (by omega)]; exact h.g, by rw [hb.block _ (by omega)]; exact h.r, by rw [hb.block _ (by omega)]; exact h.o⟩

theorem gate_mk {w : World} {b o : Nat} {G : Array Value} {T : TypeId} (h : w.heap[b]? = some (.cells G T (0, 0))) {kind n : Int} {aa : Option Addr} {an ac : Nat} {xs : List Int}
    (c1 : G[o]? = some (.int .i64 kind)) (c2 : G[o + 1]? = some (.int .i64 n)) (c3 : G[o + 2]? = some (.slice aa an ac)) (hI : Ints w aa an xs) : GateAt w b o ⟨kind, n, xs⟩ :=
  ⟨by rw [cell_of_row _ _ _ _ _ _ h]; exact c1, by rw [cell_of_row _ _ _ _ _ _ h]; exact c2, aa, an, ac, by rw [cell_of_row _ _ _ _ _ _ h]; exact c3, hI⟩

theorem knot_net {w : World} {b : Nat} (h : KnotAt w b (knotG b) #[.bool false, .int .i64 6]) : NetAt w knotD 1 (some ⟨b + 8, 0, none⟩) 10 (some ⟨b + 9, 0, none⟩) 1 (some ⟨b + 10, 0, none⟩) 2 := by
  have hl := h.lt
  have hm : ∀ n : Nat, n ≤ 100 → n ≤ maxLen := lt_maxLen
  have i1 : Ints w (some ⟨b + 1, 0, none⟩) 1 [1] := ints_heap [1] h.a1 rfl (hm _ (by decide))
  have i2 : Ints w (some ⟨b + 2, 0, none⟩) 1 [0] := ints_heap [0] h.a2 rfl (hm _ (by decide))
  have i3 : Ints w (some ⟨b + 3, 0, none⟩) 2 [0, 2] := ints_heap [0, 2] h.a3 rfl (hm _ (by decide))
  have i4 : Ints w (some ⟨b + 4, 0, none⟩) 2 [3, 1] := ints_heap [3, 1] h.a4 rfl (hm _ (by decide))
  have i5 : Ints w (some ⟨b + 5, 0, none⟩) 2 [4, 5] := ints_heap [4, 5] h.a5 rfl (hm _ (by decide))
  have i6 : Ints w (some ⟨b + 6, 0, none⟩) 2 [6, 8] := ints_heap [6, 8] h.a6 rfl (hm _ (by decide))
  have i7 : Ints w (some ⟨b + 7, 0, none⟩) 2 [7, 9] := ints_heap [7, 9] h.a7 rfl (hm _ (by decide))
  have io : Ints w (some ⟨b + 10, 0, none⟩) 2 [7, 1] := ints_heap [7, 1] h.o rfl (hm _ (by decide))
  refine ⟨rfl, ⟨rfl, hm _ (by decide), Or.inr ⟨b + 8, 0, rfl, by omega, fun i hi => ?_⟩⟩, ⟨rfl, hm _ (by decide), Or.inr ⟨b + 9, 0, rfl, by omega, fun i hi => ?_⟩⟩, io⟩
  · have hi' : i < 10 := hi
    rcases Nat.lt_or_ge i 5 with h5 | h5
    · match i, h5 with
      | 0, _ => exact gate_mk h.g rfl rfl rfl (Ints.none _)
      | 1, _ => exact gate_mk h.g rfl rfl rfl (Ints.none _)
      | 2, _ => exact gate_mk h.g rfl rfl rfl (i1)
      | 3, _ => exact gate_mk h.g rfl rfl rfl (i2)
      | 4, _ => exact gate_mk h.g rfl rfl rfl (i3)
    · obtain ⟨j, rfl⟩ := Nat.exists_eq_add_of_le h5
      have hj : j < 5 := by omega
      match j, hj with
      | 0, _ => exact gate_mk h.g rfl rfl rfl (i4)
      | 1, _ => exact gate_mk h.g rfl rfl rfl (i5)
      | 2, _ => exact gate_mk h.g rfl rfl rfl (i6)
      | 3, _ => exact gate_mk h.g rfl rfl rfl (i7)
      | 4, _ => exact gate_mk h.g rfl rfl rfl (Ints.none _)
  · have hi' : i < 1 := hi
    match i, hi' with
    | 0, _ => exact ⟨by rw [cell_of_row _ _ _ _ _ _ h.r]; rfl, by rw [cell_of_row _ _ _ _ _ _ h.r]; rfl⟩

theorem knot_netX {w : World} {b : Nat} (h : KnotAt w b (knotX b) #[.bool false, .int .i64 6]) : NetAt w knotDX 1 (some ⟨b + 8, 0, none⟩) 10 (some ⟨b + 9, 0, none⟩) 1 (some ⟨b + 10, 0, none⟩) 2 := by
  have hl := h.lt
  have hm : ∀ n : Nat, n ≤ 100 → n ≤ maxLen := lt_maxLen
  have i1 : Ints w (some ⟨b + 1, 0, none⟩) 1 [1] := ints_heap [1] h.a1 rfl (hm _ (by decide))
  have i2 : Ints w (some ⟨b + 2, 0, none⟩) 1 [0] := ints_heap [0] h.a2 rfl (hm _ (by decide))
  have i3 : Ints w (some ⟨b + 3, 0, none⟩) 2 [0, 2] := ints_heap [0, 2] h.a3 rfl (hm _ (by decide))
  have i4 : Ints w (some ⟨b + 4, 0, none⟩) 2 [3, 1] := ints_heap [3, 1] h.a4 rfl (hm _ (by decide))
  have i5 : Ints w (some ⟨b + 5, 0, none⟩) 2 [4, 5] := ints_heap [4, 5] h.a5 rfl (hm _ (by decide))
  have i6 : Ints w (some ⟨b + 6, 0, none⟩) 2 [6, 8] := ints_heap [6, 8] h.a6 rfl (hm _ (by decide))
  have i7 : Ints w (some ⟨b + 7, 0, none⟩) 2 [7, 9] := ints_heap [7, 9] h.a7 rfl (hm _ (by decide))
  have io : Ints w (some ⟨b + 10, 0, none⟩) 2 [7, 1] := ints_heap [7, 1] h.o rfl (hm _ (by decide))
  refine ⟨rfl, ⟨rfl, hm _ (by decide), Or.inr ⟨b + 8, 0, rfl, by omega, fun i hi => ?_⟩⟩, ⟨rfl, hm _ (by decide), Or.inr ⟨b + 9, 0, rfl, by omega, fun i hi => ?_⟩⟩, io⟩
  · have hi' : i < 10 := hi
    rcases Nat.lt_or_ge i 5 with h5 | h5
    · match i, h5 with
      | 0, _ => exact gate_mk h.g rfl rfl rfl (Ints.none _)
      | 1, _ => exact gate_mk h.g rfl rfl rfl (Ints.none _)
      | 2, _ => exact gate_mk h.g rfl rfl rfl (Ints.none _)
      | 3, _ => exact gate_mk h.g rfl rfl rfl (i2)
      | 4, _ => exact gate_mk h.g rfl rfl rfl (i3)
    · obtain ⟨j, rfl⟩ := Nat.exists_eq_add_of_le h5
      have hj : j < 5 := by omega
      match j, hj with
      | 0, _ => exact gate_mk h.g rfl rfl rfl (i4)
      | 1, _ => exact gate_mk h.g rfl rfl rfl (i5)
      | 2, _ => exact gate_mk h.g rfl rfl rfl (i6)
      | 3, _ => exact gate_mk h.g rfl rfl rfl (i7)
      | 4, _ => exact gate_mk h.g rfl rfl rfl (Ints.none _)
  · have hi' : i < 1 := hi
    match i, hi' with
    | 0, _ => exact ⟨by rw [cell_of_row _ _ _ _ _ _ h.r]; rfl, by rw [cell_of_row _ _ _ _ _ _ h.r]; rfl⟩

theorem knot_netY {w : World} {b : Nat} (h : KnotAt w b (knotG b) #[.bool false, .int .i64 10]) : NetAt w knotDY 1 (some ⟨b + 8, 0, none⟩) 10 (some ⟨b + 9, 0, none⟩) 1 (some ⟨b + 10, 0, none⟩) 2 := by
  have hl := h.lt
  have hm : ∀ n : Nat, n ≤ 100 → n ≤ maxLen := lt_maxLen
  have i1 : Ints w (some ⟨b + 1, 0, none⟩) 1 [1] := ints_heap [1] h.a1 rfl (hm _ (by decide))
  have i2 : Ints w (some ⟨b + 2, 0, none⟩) 1 [0] := ints_heap [0] h.a2 rfl (hm _ (by decide))
  have i3 : Ints w (some ⟨b + 3, 0, none⟩) 2 [0, 2] := ints_heap [0, 2] h.a3 rfl (hm _ (by decide))
  have i4 : Ints w (some ⟨b + 4, 0, none⟩) 2 [3, 1] := ints_heap [3, 1] h.a4 rfl (hm _ (by decide))
  have i5 : Ints w (some ⟨b + 5, 0, none⟩) 2 [4, 5] := ints_heap [4, 5] h.a5 rfl (hm _ (by decide))
  have i6 : Ints w (some ⟨b + 6, 0, none⟩) 2 [6, 8] := ints_heap [6, 8] h.a6 rfl (hm _ (by decide))
  have i7 : Ints w (some ⟨b + 7, 0, none⟩) 2 [7, 9] := ints_heap [7, 9] h.a7 rfl (hm _ (by decide))
  have io : Ints w (some ⟨b + 10, 0, none⟩) 2 [7, 1] := ints_heap [7, 1] h.o rfl (hm _ (by decide))
  refine ⟨rfl, ⟨rfl, hm _ (by decide), Or.inr ⟨b + 8, 0, rfl, by omega, fun i hi => ?_⟩⟩, ⟨rfl, hm _ (by decide), Or.inr ⟨b + 9, 0, rfl, by omega, fun i hi => ?_⟩⟩, io⟩
  · have hi' : i < 10 := hi
    rcases Nat.lt_or_ge i 5 with h5 | h5
    · match i, h5 with
      | 0, _ => exact gate_mk h.g rfl rfl rfl (Ints.none _)
      | 1, _ => exact gate_mk h.g rfl rfl rfl (Ints.none _)
      | 2, _ => exact gate_mk h.g rfl rfl rfl (i1)
      | 3, _ => exact gate_mk h.g rfl rfl rfl (i2)
      | 4, _ => exact gate_mk h.g rfl rfl rfl (i3)
    · obtain ⟨j, rfl⟩ := Nat.exists_eq_add_of_le h5
      have hj : j < 5 := by omega
      match j, hj with
      | 0, _ => exact gate_mk h.g rfl rfl rfl (i4)
      | 1, _ => exact gate_mk h.g rfl rfl rfl (i5)
      | 2, _ => exact gate_mk h.g rfl rfl rfl (i6)
      | 3, _ => exact gate_mk h.g rfl rfl rfl (i7)
      | 4, _ => exact gate_mk h.g rfl rfl rfl (Ints.none _)
  · have hi' : i < 1 := hi
    match i, hi' with
    | 0, _ => exact ⟨by rw [cell_of_row _ _ _ _ _ _ h.r]; rfl, by rw [cell_of_row _ _ _ _ _ _ h.r]; rfl⟩

theorem KnotAt.setX {w : World} {b : Nat} {R : Array Value} (h : KnotAt w b (knotG b) R) : KnotAt (w.setCell ⟨b + 8, 8, none⟩ (.slice none 0 0)) b (knotX b) R :=
  ⟨by rw [Below.heap_setCell _ _ _ _ (by simp)]; exact h.a1, by rw [Below.heap_setCell _ _ _ _ (by simp)]; exact h.a2, by rw [Below.heap_setCell _ _ _ _ (by simp)]; exact h.a3, by rw [Below.heap_setCell _ _ _ _ (by simp)]; exact h.a4, by rw [Below.heap_setCell _ _ _ _ (by simp)]; exact h.a5, by rw [Below.heap_setCell _ _ _ _ (by simp)]; exact h.a6, by rw [Below.heap_setCell _ _ _ _ (by simp)]; exact h.a7, by rw [Go.heap_setCell_same w (b + 8) 8 _ _ _ h.g]; rfl, by rw [Below.heap_setCell _ _ _ _ (by simp)]; exact h.r, by rw [Below.heap_setCell _ _ _ _ (by simp)]; exact h.o⟩
theorem KnotAt.setY {w : World} {b : Nat} {G : Array Value} (h : KnotAt w b G #[.bool false, .int .i64 6]) : KnotAt (w.setCell ⟨b + 9, 1, none⟩ (.int .i64 10)) b G #[.bool false, .int .i64 10] :=
  ⟨by rw [Below.heap_setCell _ _ _ _ (by simp)]; exact h.a1, by rw [Below.heap_setCell _ _ _ _ (by simp)]; exact h.a2, by rw [Below.heap_setCell _ _ _ _ (by simp)]; exact h.a3, by rw [Below.heap_setCell _ _ _ _ (by simp)]; exact h.a4, by rw [Below.heap_setCell _ _ _ _ (by simp)]; exact h.a5, by rw [Below.heap_setCell _ _ _ _ (by simp)]; exact h.a6, by rw [Below.heap_setCell _ _ _ _ (by simp)]; exact h.a7, by rw [Below.heap_setCell _ _ _ _ (by simp)]; exact h.g, by rw [Go.heap_setCell_same w (b + 9) 1 _ _ _ h.r]; rfl, by rw [Below.heap_setCell _ _ _ _ (by simp)]; exact h.o⟩

set_option maxRecDepth 100000 in
set_option maxHeartbeats 2000000 in
theorem knot_walk (w : World) :
    Calls Try.prog 37 #[] w fun e w' => e = .returned (.agg #[.int .i64 1, .slice (some ⟨w.heap.size + 8, 0, none⟩) 10 10, .slice (some ⟨w.heap.size + 9, 0, none⟩) 1 1, .slice (some ⟨w.heap.size + 10, 0, none⟩) 2 2]) ∧ w' = allocs w [.cells #[.int .i64 1, .slice (some ⟨w.heap.size + 8, 0, none⟩) 10 10, .slice (some ⟨w.heap.size + 9, 0, none⟩) 1 1, .slice (some ⟨w.heap.size + 10, 0, none⟩) 2 2] 26, .cells #[.int .i64 1] 3, .cells #[.int .i64 0] 3, .cells #[.int .i64 0, .int .i64 2] 3, .cells #[.int .i64 3, .int .i64 1] 3, .cells #[.int .i64 4, .int .i64 5] 3, .cells #[.int .i64 6, .int .i64 8] 3, .cells #[.int .i64 7, .int .i64 9] 3, .cells (knotG w.heap.size) 96, .cells #[.bool false, .int .i64 6] 74, .cells #[.int .i64 7, .int .i64 1] 3] := by
  go_enter Try.func37, Try.ntmps37
  go_wp2
  exact bodyPost_ret (v := .agg #[.int .i64 1, .slice (some ⟨w.heap.size + 8, 0, none⟩) 10 10, .slice (some ⟨w.heap.size + 9, 0, none⟩) 1 1, .slice (some ⟨w.heap.size + 10, 0, none⟩) 2 2]) (by simp [results, Try.results37, go_sem]) rfl ⟨rfl, rfl⟩

theorem knot_any (w : World) :
    Calls Try.prog 37 #[] w fun e w' => ∃ b, w.heap.size ≤ b ∧ e = .returned (.agg #[.int .i64 1, .slice (some ⟨b + 8, 0, none⟩) 10 10, .slice (some ⟨b + 9, 0, none⟩) 1 1, .slice (some ⟨b + 10, 0, none⟩) 2 2]) ∧ KnotAt w' b (knotG b) #[.bool false, .int .i64 6] ∧ Below w.heap.size w w' := by
  refine (knot_walk w).mono ?_
  rintro e w' ⟨rfl, rfl⟩
  refine ⟨w.heap.size, Nat.le_refl _, rfl, ?_, allocs_below _ _⟩
  exact ⟨allocs_at _ w 1 (by simp), allocs_at _ w 2 (by simp), allocs_at _ w 3 (by simp), allocs_at _ w 4 (by simp), allocs_at _ w 5 (by simp), allocs_at _ w 6 (by simp), allocs_at _ w 7 (by simp), allocs_at _ w 8 (by simp), allocs_at _ w 9 (by simp), allocs_at _ w 10 (by simp)⟩
end Go.Proofs.Ytongajonecgdpae
