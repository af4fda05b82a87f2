/- What the statements' own look at tern (ternBegun) answers: true, whatever the memory. -/
import Derived.Test.YtongajonecgdpaaTernC
namespace Go.Proofs.Ytongajonecgdpaa
open Go.RowKit

theorem bstep {w wk w' : World} (hb : Below w.heap.size w wk) (h : Below wk.heap.size wk w') : Below w.heap.size w w' := hb.trans (h.mono hb.size)
theorem bstep1 {w wk w' : World} (hb : Below w.heap.size w wk) {o : Obj} (h : Below (wk.alloc o).heap.size (wk.alloc o) w') : Below w.heap.size w w' := bstep (hb.alloc hb.size o) h

set_option maxHeartbeats 1000000 in
theorem ternBegun_any (w : World) :
    Calls Try.prog 13 #[] w fun e w' => e = .returned (.bool true) ∧ Below w.heap.size w w' := by
  have v1 : Hid (allV [1, 2, 0] = 0) := by show _ = _; decide
  have e1 : Hid (ckE [1, 2, 0] = 0) := by show _ = _; decide
  have v2 : Hid (anyV [0, 2] = 2) := by show _ = _; decide
  have e2 : Hid (ckE [0, 2] = 0) := by show _ = _; decide
  have v3 : Hid (notV 2 = 2) := by show _ = _; decide
  have e3 : Hid (notE 2 = 0) := by show _ = _; decide
  have v4 : Hid (leqB [2, 1] [0, 1] = true) := by show _ = _; decide
  have e4 : Hid (leqE [2, 1] [0, 1] = 0) := by show _ = _; decide
  have v5 : Hid (leqB [2] [] = false) := by show _ = _; decide
  have e5 : Hid (leqE [2] [] = 1) := by show _ = _; decide
  have v6 : Hid (allV [3] = 0) := by show _ = _; decide
  have e6 : Hid (ckE [3] = 3) := by show _ = _; decide
  have v7 : Hid (allV [] = 1) := by show _ = _; decide
  have e7 : Hid (ckE [] = 0) := by show _ = _; decide
  have e8 : Hid (ckE [0, -1] = 3) := by show _ = _; decide
  go_enter Try.func13, Try.ntmps13
  go_wp2_with fail
  refine (All_any [1, 2, 0] _ _ _ _ (by exact Ints.new _ _ _ _ _ rfl rfl (lt_maxLen _ (by simp)))).mono ?_
  rintro e w1 ⟨rfl, hb⟩
  have b1 := bstep1 (Below.refl _ _) hb
  clear hb
  rw [v1.out, e1.out]
  go_wp2_with fail
  refine (Any_any [0, 2] _ _ _ _ (by exact Ints.new _ _ _ _ _ rfl rfl (lt_maxLen _ (by simp)))).mono ?_
  rintro e w2 ⟨rfl, hb⟩
  have b2 := bstep1 b1 hb
  clear hb b1
  rw [v2.out, e2.out]
  go_wp2_with fail
  refine (Not_any _ _).mono ?_
  rintro e w3 ⟨rfl, hb⟩
  have b3 := bstep b2 hb
  clear hb b2
  rw [v3.out, e3.out]
  go_wp2_with fail
  refine (Leq_any [2, 1] [0, 1] _ _ _ _ _ _ _ (by exact (Ints.new _ _ _ _ [2, 1] rfl rfl (lt_maxLen _ (by decide))).below ((Below.refl _ _).alloc (Nat.le_refl _) _)) (by exact Ints.new' _ _ _ _ _ [0, 1] (by simp) rfl rfl (lt_maxLen _ (by decide)))).mono ?_
  rintro e w4 ⟨rfl, hb⟩
  have b4 := bstep1 (b3.alloc b3.size _) hb
  clear hb b3
  rw [v4.out, e4.out]
  go_wp2_with fail
  refine (Leq_any [2] [] _ _ _ _ _ _ _ (by exact Ints.new _ _ _ _ _ rfl rfl (lt_maxLen _ (by simp))) (by exact Ints.none _)).mono ?_
  rintro e w5 ⟨rfl, hb⟩
  have b5 := bstep1 b4 hb
  clear hb b4
  rw [v5.out, e5.out]
  go_wp2_with fail
  refine (All_any [3] _ _ _ _ (by exact Ints.new _ _ _ _ _ rfl rfl (lt_maxLen _ (by simp)))).mono ?_
  rintro e w6 ⟨rfl, hb⟩
  have b6 := bstep1 b5 hb
  clear hb b5
  rw [v6.out, e6.out]
  go_wp2_with fail
  refine (All_any [] _ _ _ _ (by exact Ints.none _)).mono ?_
  rintro e w7 ⟨rfl, hb⟩
  have b7 := bstep b6 hb
  clear hb b6
  rw [v7.out, e7.out]
  go_wp2_with fail
  refine (check_any [0, -1] _ _ _ _ (by exact Ints.new _ _ _ _ _ rfl rfl (lt_maxLen _ (by simp)))).mono ?_
  rintro e w8 ⟨rfl, hb⟩
  have b8 := bstep1 b7 hb
  clear hb b7
  rw [e8.out]
  go_wp2_with fail
  go_ret
  exact ⟨rfl, b8⟩

set_option maxHeartbeats 1000000 in
theorem TernTells_any (xs : List Int) (a : Option Addr) (n cap : Nat) (w : World) (h : Ints w a n xs) :
    Calls Try.prog 3 #[.slice a n cap] w fun e w' => e = .returned (.bool true) ∧ Below w.heap.size w w' := by
  have HC : Hid (((ckE xs == 0) == vals xs) = true) := by unfold Hid ckE; cases vals xs <;> simp
  go_enter Try.func3, Try.ntmps3
  go_wp2_with fail
  refine (All_any _ _ _ _ _ h).mono ?_
  rintro e w1 ⟨rfl, b1⟩
  go_wp2_with fail
  refine (Any_any _ _ _ _ _ (h.below b1)).mono ?_
  rintro e w2 ⟨rfl, hb⟩
  have b2 := bstep b1 hb
  clear hb b1
  go_wp2_with fail
  refine (AllOf_any _ _ _ _ _ (h.below b2)).mono ?_
  rintro e w' ⟨rfl, rfl⟩
  go_wp2_with fail
  refine (AnyOf_any _ _ _ _ _ (h.below b2)).mono ?_
  rintro e w' ⟨rfl, rfl⟩
  go_wp2_with fail
  refine (ternBegun_any _).mono ?_
  rintro e w3 ⟨rfl, hb⟩
  have b3 := bstep b2 hb
  clear hb b2
  go_wp2_with fail
  refine (check_any _ _ _ _ _ (h.below b3)).mono ?_
  rintro e w4 ⟨rfl, hb⟩
  have b4 := bstep b3 hb
  clear hb b3
  go_wp2_with fail
  refine (values_any _ _ _ _ _ (h.below b4)).mono ?_
  rintro e w' ⟨rfl, rfl⟩
  have hc := HC.out
  go_wp2_with fail
  go_ret
  exact ⟨rfl, b4⟩

set_option maxHeartbeats 1000000 in
theorem TernLeq_any (xs ys : List Int) (v : Int) (a a' : Option Addr) (n cap n' cap' : Nat) (w : World) (h : Ints w a n xs) (h' : Ints w a' n' ys) :
    Calls Try.prog 4 #[.slice a n cap, .slice a' n' cap', .int .i64 v] w fun e w' => e = .returned (.bool true) ∧ Below w.heap.size w w' := by
  go_enter Try.func4, Try.ntmps4
  go_wp2_with fail
  refine (Not_any _ _).mono ?_
  rintro e w1 ⟨rfl, b1⟩
  go_wp2_with fail
  refine (Leq_any _ _ _ _ _ _ _ _ _ (h.below b1) (h'.below b1)).mono ?_
  rintro e w2 ⟨rfl, hb⟩
  have b2 := bstep b1 hb
  clear hb b1
  go_wp2_with fail
  refine (NotOf_any _ _).mono ?_
  rintro e w3 ⟨rfl, hb⟩
  have b3 := bstep b2 hb
  clear hb b2
  go_wp2_with fail
  refine (LeqOf_any _ _ _ _ _ _ _ _ _ (h.below b3) (h'.below b3)).mono ?_
  rintro e w4 ⟨rfl, hb⟩
  have b4 := bstep b3 hb
  clear hb b3
  go_wp2_with fail
  refine (ternBegun_any _).mono ?_
  rintro e w5 ⟨rfl, hb⟩
  have b5 := bstep b4 hb
  clear hb b4
  go_wp2_with fail
  go_ret
  exact ⟨rfl, b5⟩
end Go.Proofs.Ytongajonecgdpaa
