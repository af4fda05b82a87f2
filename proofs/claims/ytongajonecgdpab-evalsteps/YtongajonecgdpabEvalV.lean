/- The statements' own look at eval (evalBegun): true, whatever the memory. Over the contracts Step_any and Solves_any of the program. -/
import Derived.Test.YtongajonecgdpabEvalQ
import Derived.Test.YtongajonecgdpabNetK
namespace Go.Proofs.Ytongajonecgdpab
open Go.RowKit

def looseG (b : Nat) : Array Value := #[.int .i64 2, .int .i64 0, .slice none 0 0, .int .i64 5, .int .i64 0, .slice (some ⟨b + 1, 0, none⟩) 2 2, .int .i64 4, .int .i64 0, .slice (some ⟨b + 2, 0, none⟩) 1 1]
def looseD : NetD := { ins := 1, gates := [⟨2, 0, []⟩, ⟨5, 0, [0, 2]⟩, ⟨4, 0, [1]⟩], regs := [], outs := [1] }

set_option maxRecDepth 100000 in
set_option maxHeartbeats 2000000 in
theorem loose_walk (w : World) :
    Calls Try.prog 27 #[] w fun e w' => e = .returned (.agg #[.int .i64 1, .slice (some ⟨w.heap.size + 3, 0, none⟩) 3 3, .slice none 0 0, .slice (some ⟨w.heap.size + 4, 0, none⟩) 1 1]) ∧ w' = allocs w [.cells #[.int .i64 1, .slice (some ⟨w.heap.size + 3, 0, none⟩) 3 3, .slice none 0 0, .slice (some ⟨w.heap.size + 4, 0, none⟩) 1 1] 26, .cells #[.int .i64 0, .int .i64 2] 3, .cells #[.int .i64 1] 3, .cells (looseG w.heap.size) 55, .cells #[.int .i64 1] 3] := by
  go_enter Try.func27, Try.ntmps27
  go_wp2
  exact bodyPost_ret (v := .agg #[.int .i64 1, .slice (some ⟨w.heap.size + 3, 0, none⟩) 3 3, .slice none 0 0, .slice (some ⟨w.heap.size + 4, 0, none⟩) 1 1]) (by simp [results, Try.results27, go_sem]) rfl ⟨rfl, rfl⟩

theorem loose_any (w : World) :
    Calls Try.prog 27 #[] w fun e w' => ∃ b, e = .returned (.agg #[.int .i64 1, .slice (some ⟨b + 3, 0, none⟩) 3 3, .slice none 0 0, .slice (some ⟨b + 4, 0, none⟩) 1 1]) ∧ NetAt w' looseD 1 (some ⟨b + 3, 0, none⟩) 3 none 0 (some ⟨b + 4, 0, none⟩) 1 ∧ Below w.heap.size w w' := by
  refine (loose_walk w).mono ?_
  rintro e w' ⟨rfl, rfl⟩
  refine ⟨w.heap.size, rfl, ?_, allocs_below _ _⟩
  have hm : ∀ n : Nat, n ≤ 100 → n ≤ maxLen := lt_maxLen
  have a1 := allocs_at [.cells #[.int .i64 1, .slice (some ⟨w.heap.size + 3, 0, none⟩) 3 3, .slice none 0 0, .slice (some ⟨w.heap.size + 4, 0, none⟩) 1 1] 26, .cells #[.int .i64 0, .int .i64 2] 3, .cells #[.int .i64 1] 3, .cells (looseG w.heap.size) 55, .cells #[.int .i64 1] 3] w 1 (by simp)
  have a2 := allocs_at [.cells #[.int .i64 1, .slice (some ⟨w.heap.size + 3, 0, none⟩) 3 3, .slice none 0 0, .slice (some ⟨w.heap.size + 4, 0, none⟩) 1 1] 26, .cells #[.int .i64 0, .int .i64 2] 3, .cells #[.int .i64 1] 3, .cells (looseG w.heap.size) 55, .cells #[.int .i64 1] 3] w 2 (by simp)
  have a3 := allocs_at [.cells #[.int .i64 1, .slice (some ⟨w.heap.size + 3, 0, none⟩) 3 3, .slice none 0 0, .slice (some ⟨w.heap.size + 4, 0, none⟩) 1 1] 26, .cells #[.int .i64 0, .int .i64 2] 3, .cells #[.int .i64 1] 3, .cells (looseG w.heap.size) 55, .cells #[.int .i64 1] 3] w 3 (by simp)
  have a4 := allocs_at [.cells #[.int .i64 1, .slice (some ⟨w.heap.size + 3, 0, none⟩) 3 3, .slice none 0 0, .slice (some ⟨w.heap.size + 4, 0, none⟩) 1 1] 26, .cells #[.int .i64 0, .int .i64 2] 3, .cells #[.int .i64 1] 3, .cells (looseG w.heap.size) 55, .cells #[.int .i64 1] 3] w 4 (by simp)
  generalize allocs w [.cells #[.int .i64 1, .slice (some ⟨w.heap.size + 3, 0, none⟩) 3 3, .slice none 0 0, .slice (some ⟨w.heap.size + 4, 0, none⟩) 1 1] 26, .cells #[.int .i64 0, .int .i64 2] 3, .cells #[.int .i64 1] 3, .cells (looseG w.heap.size) 55, .cells #[.int .i64 1] 3] = W at a1 a2 a3 a4 ⊢
  generalize w.heap.size = b at a1 a2 a3 a4 ⊢
  have i1 : Ints W (some ⟨b + 1, 0, none⟩) 2 [0, 2] := ints_heap [0, 2] a1 rfl (hm _ (by decide))
  have i2 : Ints W (some ⟨b + 2, 0, none⟩) 1 [1] := ints_heap [1] a2 rfl (hm _ (by decide))
  have io : Ints W (some ⟨b + 4, 0, none⟩) 1 [1] := ints_heap [1] a4 rfl (hm _ (by decide))
  have hl : b + 3 < W.heap.size := (Array.getElem?_eq_some_iff.1 a3).1
  refine ⟨rfl, ⟨rfl, hm _ (by decide), Or.inr ⟨b + 3, 0, rfl, hl, fun i hi => ?_⟩⟩, ⟨rfl, Nat.zero_le _, Or.inl rfl⟩, io⟩
  have hi' : i < 3 := hi
  match i, hi' with
  | 0, _ => exact gate_mk a3 rfl rfl rfl (Ints.none _)
  | 1, _ => exact gate_mk a3 rfl rfl rfl i1
  | 2, _ => exact gate_mk a3 rfl rfl rfl i2

def iterV (d : NetD) (regs ins : List Int) : Nat → List Int
  | 0 => List.replicate d.gates.length 2
  | k + 1 => roundV d regs ins (iterV d regs ins k)
theorem iter_way (d : NetD) (regs ins : List Int) : ∀ k, Way d regs ins (iterV d regs ins k)
  | 0 => Way.start d regs ins
  | k + 1 => (iter_way d regs ins k).round
theorem least_iter {d : NetD} {regs ins v : List Int} (k : Nat) (h : iterV d regs ins k = v) (hf : roundV d regs ins v = v) : Least d regs ins v := by
  have := iter_way d regs ins k
  rw [h] at this
  exact this.least hf

theorem knot_least : Least knotD [0] [1] [1, 0, 1, 0, 1, 0, 1, 1, 0, 0] := least_iter 6 (by decide) (by decide)
theorem loose_least0 : Least looseD [] [0] [0, 2, 2] := least_iter 2 (by decide) (by decide)
theorem loose_least1 : Least looseD [] [1] [1, 1, 1] := least_iter 4 (by decide) (by decide)

set_option maxRecDepth 100000 in
set_option maxHeartbeats 4000000 in
theorem evalBegun_any (w : World) :
    Calls Try.prog 11 #[] w fun e w' => e = .returned (.bool true) ∧ Below w.heap.size w w' := by
  have k1 : Hid (stepE knotD [0] [1] = 0) := by show _ = _; decide
  have k2 : Hid (stepE looseD [] [0] = 0) := by show _ = _; decide
  have k3 : Hid (stepE looseD [] [1] = 0) := by show _ = _; decide
  have k4b : Hid (solveB looseD [] [0] [0, 1, 1] = true) := by show _ = _; decide
  have k4e : Hid (solveE looseD [] [0] [0, 1, 1] = 0) := by show _ = _; decide
  have k5b : Hid (solveB looseD [] [0] [0, 1, 0] = false) := by show _ = _; decide
  have k5e : Hid (solveE looseD [] [0] [0, 1, 0] = 0) := by show _ = _; decide
  have k6 : Hid (stepE knotD [] [1] = 1) := by show _ = _; decide
  go_enter Try.func11, Try.ntmps11
  go_wp2_with fail
  refine (knot_any _).mono ?_
  rintro e w1 ⟨b1, _, rfl, hk, hb⟩
  have B1 := hb
  clear hb
  go_wp2_with fail
  refine (Step_any knotD _ _ _ _ _ _ _ _ _ _ _ (by exact ((knot_net hk).below ((Below.refl _ _).alloc (Nat.le_refl _) _)).below ((Below.refl _ _).alloc (Nat.le_refl _) _)) [0] [1] _ _ _ _ _ _ (by exact (Ints.new _ _ _ _ [0] rfl rfl (lt_maxLen _ (by decide))).below ((Below.refl _ _).alloc (Nat.le_refl _) _)) (by exact Ints.new' _ _ _ _ _ [1] (by simp) rfl rfl (lt_maxLen _ (by decide)))).mono ?_
  rintro e w2 ⟨a1, n1, c1, v1, rfl, hA2, hans, hb⟩
  have B2 := bstep1 (B1.alloc B1.size _) hb
  have hs := (hans.1 k1.out).1.same knot_least
  rw [hs] at hA2
  rw [k1.out]
  clear hb B1 hk hans hs
  go_wp2_with fail
  refine (loose_any _).mono ?_
  rintro e w3 ⟨b3, rfl, hk, hb⟩
  have B3 := bstep B2 hb
  have hA3 := hA2.below hb
  clear hA2
  clear hb B2
  go_wp2_with fail
  refine (Step_any looseD _ _ _ _ _ _ _ _ _ _ _ (by exact hk.below ((Below.refl _ _).alloc (Nat.le_refl _) _)) [] [0] _ _ _ _ _ _ (by exact Ints.none _) (by exact Ints.new _ _ _ _ [0] rfl rfl (lt_maxLen _ (by decide)))).mono ?_
  rintro e w4 ⟨a2, n2, c2, v2, rfl, hB4, hans, hb⟩
  have B4 := bstep1 B3 hb
  have hs := (hans.1 k2.out).1.same loose_least0
  rw [hs] at hB4
  rw [k2.out]
  have hA4 := (hA3.below ((Below.refl _ _).alloc (Nat.le_refl _) _)).below hb
  clear hA3
  clear hb B3 hk hans hs
  go_wp2_with fail
  refine (loose_any _).mono ?_
  rintro e w5 ⟨b5, rfl, hk, hb⟩
  have B5 := bstep B4 hb
  have hA5 := hA4.below hb
  have hB5 := hB4.below hb
  clear hA4 hB4
  clear hb B4
  go_wp2_with fail
  refine (Step_any looseD _ _ _ _ _ _ _ _ _ _ _ (by exact hk.below ((Below.refl _ _).alloc (Nat.le_refl _) _)) [] [1] _ _ _ _ _ _ (by exact Ints.none _) (by exact Ints.new _ _ _ _ [1] rfl rfl (lt_maxLen _ (by decide)))).mono ?_
  rintro e w6 ⟨a3, n3, c3, v3, rfl, hC6, hans, hb⟩
  have B6 := bstep1 B5 hb
  have hs := (hans.1 k3.out).1.same loose_least1
  rw [hs] at hC6
  rw [k3.out]
  have hA6 := (hA5.below ((Below.refl _ _).alloc (Nat.le_refl _) _)).below hb
  have hB6 := (hB5.below ((Below.refl _ _).alloc (Nat.le_refl _) _)).below hb
  clear hA5 hB5
  clear hb B5 hk hans hs
  go_wp2_with fail
  refine (loose_any _).mono ?_
  rintro e w7 ⟨b7, rfl, hk, hb⟩
  have B7 := bstep B6 hb
  have hA7 := hA6.below hb
  have hB7 := hB6.below hb
  have hC7 := hC6.below hb
  clear hA6 hB6 hC6
  clear hb B6
  go_wp2_with fail
  refine (Solves_any looseD _ _ _ _ _ _ _ _ _ _ _ (by exact (hk.below ((Below.refl _ _).alloc (Nat.le_refl _) _)).below ((Below.refl _ _).alloc (Nat.le_refl _) _)) [] [0] _ _ _ _ _ _ (by exact Ints.none _) (by exact (Ints.new _ _ _ _ [0] rfl rfl (lt_maxLen _ (by decide))).below ((Below.refl _ _).alloc (Nat.le_refl _) _)) [0, 1, 1] _ _ _ (by exact Ints.new' _ _ _ _ _ [0, 1, 1] (by simp) rfl rfl (lt_maxLen _ (by decide)))).mono ?_
  rintro e w8 ⟨rfl, hb⟩
  have B8 := bstep1 (B7.alloc B7.size _) hb
  rw [k4b.out, k4e.out]
  have hA8 := ((hA7.below ((Below.refl _ _).alloc (Nat.le_refl _) _)).below ((Below.refl _ _).alloc (Nat.le_refl _) _)).below hb
  have hB8 := ((hB7.below ((Below.refl _ _).alloc (Nat.le_refl _) _)).below ((Below.refl _ _).alloc (Nat.le_refl _) _)).below hb
  have hC8 := ((hC7.below ((Below.refl _ _).alloc (Nat.le_refl _) _)).below ((Below.refl _ _).alloc (Nat.le_refl _) _)).below hb
  clear hA7 hB7 hC7
  clear hb B7 hk
  go_wp2_with fail
  refine (loose_any _).mono ?_
  rintro e w9 ⟨b9, rfl, hk, hb⟩
  have B9 := bstep B8 hb
  have hA9 := hA8.below hb
  have hB9 := hB8.below hb
  have hC9 := hC8.below hb
  clear hA8 hB8 hC8
  clear hb B8
  go_wp2_with fail
  refine (Solves_any looseD _ _ _ _ _ _ _ _ _ _ _ (by exact (hk.below ((Below.refl _ _).alloc (Nat.le_refl _) _)).below ((Below.refl _ _).alloc (Nat.le_refl _) _)) [] [0] _ _ _ _ _ _ (by exact Ints.none _) (by exact (Ints.new _ _ _ _ [0] rfl rfl (lt_maxLen _ (by decide))).below ((Below.refl _ _).alloc (Nat.le_refl _) _)) [0, 1, 0] _ _ _ (by exact Ints.new' _ _ _ _ _ [0, 1, 0] (by simp) rfl rfl (lt_maxLen _ (by decide)))).mono ?_
  rintro e w10 ⟨rfl, hb⟩
  have B10 := bstep1 (B9.alloc B9.size _) hb
  rw [k5b.out, k5e.out]
  have hA10 := ((hA9.below ((Below.refl _ _).alloc (Nat.le_refl _) _)).below ((Below.refl _ _).alloc (Nat.le_refl _) _)).below hb
  have hB10 := ((hB9.below ((Below.refl _ _).alloc (Nat.le_refl _) _)).below ((Below.refl _ _).alloc (Nat.le_refl _) _)).below hb
  have hC10 := ((hC9.below ((Below.refl _ _).alloc (Nat.le_refl _) _)).below ((Below.refl _ _).alloc (Nat.le_refl _) _)).below hb
  clear hA9 hB9 hC9
  clear hb B9 hk
  go_wp2_with fail
  refine (knot_any _).mono ?_
  rintro e w11 ⟨b11, _, rfl, hk, hb⟩
  have B11 := bstep B10 hb
  have hA11 := hA10.below hb
  have hB11 := hB10.below hb
  have hC11 := hC10.below hb
  clear hA10 hB10 hC10
  clear hb B10
  go_wp2_with fail
  refine (Step_any knotD _ _ _ _ _ _ _ _ _ _ _ (by exact (knot_net hk).below ((Below.refl _ _).alloc (Nat.le_refl _) _)) [] [1] _ _ _ _ _ _ (by exact Ints.none _) (by exact Ints.new _ _ _ _ [1] rfl rfl (lt_maxLen _ (by decide)))).mono ?_
  rintro e w12 ⟨a6, n6, c6, v6, rfl, hD12, hans, hb⟩
  have B12 := bstep1 B11 hb
  rw [k6.out]
  have hA12 := (hA11.below ((Below.refl _ _).alloc (Nat.le_refl _) _)).below hb
  have hB12 := (hB11.below ((Below.refl _ _).alloc (Nat.le_refl _) _)).below hb
  have hC12 := (hC11.below ((Below.refl _ _).alloc (Nat.le_refl _) _)).below hb
  clear hA11 hB11 hC11
  clear hb B11 hk hans hD12
  go_wp2_with fail
  refine (SameInts_any [1, 0, 1, 0, 1, 0, 1, 1, 0, 0] [1, 0, 1, 0, 1, 0, 1, 1, 0, 0] _ _ _ _ _ _ _ (by exact hA12.below ((Below.refl _ _).alloc (Nat.le_refl _) _)) (by exact Ints.new _ _ _ _ [1, 0, 1, 0, 1, 0, 1, 1, 0, 0] rfl rfl (lt_maxLen _ (by decide)))).mono ?_
  rintro e w13 ⟨rfl, hb⟩
  have B13 := bstep1 B12 hb
  rw [show decide (([1, 0, 1, 0, 1, 0, 1, 1, 0, 0] : List Int) = [1, 0, 1, 0, 1, 0, 1, 1, 0, 0]) = true from rfl]
  have hA13 := (hA12.below ((Below.refl _ _).alloc (Nat.le_refl _) _)).below hb
  have hB13 := (hB12.below ((Below.refl _ _).alloc (Nat.le_refl _) _)).below hb
  have hC13 := (hC12.below ((Below.refl _ _).alloc (Nat.le_refl _) _)).below hb
  clear hA12 hB12 hC12
  clear hb B12
  go_wp2_with fail
  refine (SameInts_any [0, 2, 2] [0, 2, 2] _ _ _ _ _ _ _ (by exact hB13.below ((Below.refl _ _).alloc (Nat.le_refl _) _)) (by exact Ints.new _ _ _ _ [0, 2, 2] rfl rfl (lt_maxLen _ (by decide)))).mono ?_
  rintro e w14 ⟨rfl, hb⟩
  have B14 := bstep1 B13 hb
  rw [show decide (([0, 2, 2] : List Int) = [0, 2, 2]) = true from rfl]
  have hA14 := (hA13.below ((Below.refl _ _).alloc (Nat.le_refl _) _)).below hb
  have hB14 := (hB13.below ((Below.refl _ _).alloc (Nat.le_refl _) _)).below hb
  have hC14 := (hC13.below ((Below.refl _ _).alloc (Nat.le_refl _) _)).below hb
  clear hA13 hB13 hC13
  clear hb B13
  go_wp2_with fail
  refine (SameInts_any [1, 1, 1] [1, 1, 1] _ _ _ _ _ _ _ (by exact hC14.below ((Below.refl _ _).alloc (Nat.le_refl _) _)) (by exact Ints.new _ _ _ _ [1, 1, 1] rfl rfl (lt_maxLen _ (by decide)))).mono ?_
  rintro e w15 ⟨rfl, hb⟩
  have B15 := bstep1 B14 hb
  rw [show decide (([1, 1, 1] : List Int) = [1, 1, 1]) = true from rfl]
  have hA15 := (hA14.below ((Below.refl _ _).alloc (Nat.le_refl _) _)).below hb
  have hB15 := (hB14.below ((Below.refl _ _).alloc (Nat.le_refl _) _)).below hb
  have hC15 := (hC14.below ((Below.refl _ _).alloc (Nat.le_refl _) _)).below hb
  clear hA14 hB14 hC14
  clear hb B14
  go_wp2_with fail
  go_ret
  exact ⟨rfl, B15⟩
end Go.Proofs.Ytongajonecgdpab
