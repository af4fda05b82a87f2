/- The statements' own look at eval (evalBegun): true, whatever the memory. Over the contracts Step_any and Solves_any of the program. -/
import Derived.Test.YtongajonecgdpacEvalQ
import Derived.Test.YtongajonecgdpacNetK
namespace Go.Proofs.Ytongajonecgdpac
open Go.RowKit

def looseG (b : Nat) : Array Value := #[.int .i64 2, .int .i64 0, .slice none 0 0, .int .i64 5, .int .i64 0, .slice (some ⟨b + 1, 0, none⟩) 2 2, .int .i64 4, .int .i64 0, .slice (some ⟨b + 2, 0, none⟩) 1 1]
def looseD : NetD := { ins := 1, gates := [⟨2, 0, []⟩, ⟨5, 0, [0, 2]⟩, ⟨4, 0, [1]⟩], regs := [], outs := [1] }

set_option maxRecDepth 100000 in
set_option maxHeartbeats 2000000 in
theorem loose_walk (w : World) :
    Calls Try.prog 32 #[] w fun e w' => e = .returned (.agg #[.int .i64 1, .slice (some ⟨w.heap.size + 3, 0, none⟩) 3 3, .slice none 0 0, .slice (some ⟨w.heap.size + 4, 0, none⟩) 1 1]) ∧ w' = allocs w [.cells #[.int .i64 1, .slice (some ⟨w.heap.size + 3, 0, none⟩) 3 3, .slice none 0 0, .slice (some ⟨w.heap.size + 4, 0, none⟩) 1 1] 26, .cells #[.int .i64 0, .int .i64 2] 3, .cells #[.int .i64 1] 3, .cells (looseG w.heap.size) 73, .cells #[.int .i64 1] 3] := by
  go_enter Try.func32, Try.ntmps32
  go_wp2
  exact bodyPost_ret (v := .agg #[.int .i64 1, .slice (some ⟨w.heap.size + 3, 0, none⟩) 3 3, .slice none 0 0, .slice (some ⟨w.heap.size + 4, 0, none⟩) 1 1]) (by simp [results, Try.results32, go_sem]) rfl ⟨rfl, rfl⟩

theorem loose_any (w : World) :
    Calls Try.prog 32 #[] w fun e w' => ∃ b, e = .returned (.agg #[.int .i64 1, .slice (some ⟨b + 3, 0, none⟩) 3 3, .slice none 0 0, .slice (some ⟨b + 4, 0, none⟩) 1 1]) ∧ NetAt w' looseD 1 (some ⟨b + 3, 0, none⟩) 3 none 0 (some ⟨b + 4, 0, none⟩) 1 ∧ Below w.heap.size w w' := by
  refine (loose_walk w).mono ?_
  rintro e w' ⟨rfl, rfl⟩
  refine ⟨w.heap.size, rfl, ?_, allocs_below _ _⟩
  have hm : ∀ n : Nat, n ≤ 100 → n ≤ maxLen := lt_maxLen
  have a1 := allocs_at [.cells #[.int .i64 1, .slice (some ⟨w.heap.size + 3, 0, none⟩) 3 3, .slice none 0 0, .slice (some ⟨w.heap.size + 4, 0, none⟩) 1 1] 26, .cells #[.int .i64 0, .int .i64 2] 3, .cells #[.int .i64 1] 3, .cells (looseG w.heap.size) 73, .cells #[.int .i64 1] 3] w 1 (by simp)
  have a2 := allocs_at [.cells #[.int .i64 1, .slice (some ⟨w.heap.size + 3, 0, none⟩) 3 3, .slice none 0 0, .slice (some ⟨w.heap.size + 4, 0, none⟩) 1 1] 26, .cells #[.int .i64 0, .int .i64 2] 3, .cells #[.int .i64 1] 3, .cells (looseG w.heap.size) 73, .cells #[.int .i64 1] 3] w 2 (by simp)
  have a3 := allocs_at [.cells #[.int .i64 1, .slice (some ⟨w.heap.size + 3, 0, none⟩) 3 3, .slice none 0 0, .slice (some ⟨w.heap.size + 4, 0, none⟩) 1 1] 26, .cells #[.int .i64 0, .int .i64 2] 3, .cells #[.int .i64 1] 3, .cells (looseG w.heap.size) 73, .cells #[.int .i64 1] 3] w 3 (by simp)
  have a4 := allocs_at [.cells #[.int .i64 1, .slice (some ⟨w.heap.size + 3, 0, none⟩) 3 3, .slice none 0 0, .slice (some ⟨w.heap.size + 4, 0, none⟩) 1 1] 26, .cells #[.int .i64 0, .int .i64 2] 3, .cells #[.int .i64 1] 3, .cells (looseG w.heap.size) 73, .cells #[.int .i64 1] 3] w 4 (by simp)
  generalize allocs w [.cells #[.int .i64 1, .slice (some ⟨w.heap.size + 3, 0, none⟩) 3 3, .slice none 0 0, .slice (some ⟨w.heap.size + 4, 0, none⟩) 1 1] 26, .cells #[.int .i64 0, .int .i64 2] 3, .cells #[.int .i64 1] 3, .cells (looseG w.heap.size) 73, .cells #[.int .i64 1] 3] = W at a1 a2 a3 a4 ⊢
  generalize w.heap.size = b at a1 a2 a3 a4 ⊢
  have i1 : Ints W (some ⟨b + 1, 0, none⟩) 2 [0, 2] := ints_heap [0, 2] a1 rfl (hm _ (by decide))
  have i2 : Ints W (some ⟨b + 2, 0, none⟩) 1 [1] := ints_heap [1] a2 rfl (hm _ (by decide))
  have io : Ints W (some ⟨b + 4, 0, none⟩) 1 [1] := ints_heap [1] a4 rfl (hm _ (by decide))
  have hl : b + 3 < W.heap.size := (Array.getElem?_eq_some_iff.1 a3).1
  refine ⟨rfl, ⟨rfl, hm _ (by decide), Or.inr ⟨b + 3, 0, rfl, hl, fun i hi => ?_⟩⟩, ⟨rfl, Nat.zero_le _, Or.inl rfl⟩, io⟩
  have hi' : i < 3 := hi
  match i, hi' with
  | 0, _ => exact gate_mk a3 rfl rfl rfl (Ints.none _)
  | 1, _ => exact gate_mk a3 rfl rfl rfl i1
  | 2, _ => exact gate_mk a3 rfl rfl rfl i2

def iterV (d : NetD) (regs ins : List Int) : Nat → List Int
  | 0 => List.replicate d.gates.length 2
  | k + 1 => roundV d regs ins (iterV d regs ins k)
theorem iter_way (d : NetD) (regs ins : List Int) : ∀ k, Way d regs ins (iterV d regs ins k)
  | 0 => Way.start d regs ins
  | k + 1 => (iter_way d regs ins k).round
theorem least_iter {d : NetD} {regs ins v : List Int} (k : Nat) (h : iterV d regs ins k = v) (hf : roundV d regs ins v = v) : Least d regs ins v := by
  have := iter_way d regs ins k
  rw [h] at this
  exact this.least hf

theorem knot_least : Least knotD [0] [1] [1, 0, 1, 0, 1, 0, 1, 1, 0, 0] := least_iter 6 (by decide) (by decide)
theorem loose_least0 : Least looseD [] [0] [0, 2, 2] := least_iter 2 (by decide) (by decide)
theorem loose_least1 : Least looseD [] [1] [1, 1, 1] := least_iter 4 (by decide) (by decide)

end Go.Proofs.Ytongajonecgdpac
