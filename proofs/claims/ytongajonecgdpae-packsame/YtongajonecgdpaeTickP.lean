/- The program's tick.Do, and what of the library it calls. -/
import Derived.Test.YtongajonecgdpaeTickE
import Derived.Test.YtongajonecgdpaeRowP
namespace Go.Proofs.Ytongajonecgdpae
open Go.RowKit

set_option maxHeartbeats 1000000 in
theorem Index_any (xs : List Int) (v : Int) (a : Option Addr) (n c : Nat) (w : World) (h : Ints w a n xs) :
    Calls Try.prog 86 #[.slice a n c, .int .i64 v] w fun e w' => ∃ r, e = .returned (.int .i64 r) ∧ ((v ∈ xs ∧ 0 ≤ r) ∨ (v ∉ xs ∧ r = -1)) ∧ w' = w := by
  have HLL : Hid (xs.length = n) := h.1.symm
  have hm : n ≤ maxLen := by rw [h.1]; exact h.2.1
  unfold maxLen at hm
  go_enter Try.func86, Try.ntmps86
  go_wp2_with fail
  go_loopw [8] (fun i wr => ∃ k : Nat, k ≤ n ∧ i = .int .i64 k ∧ v ∉ xs.take k ∧ wr = w) (fun i _ => n - (intOf i).toNat)
  case atStart => exact ⟨0, Nat.zero_le _, rfl, by simp, rfl⟩
  case round =>
    obtain ⟨k, hk, rfl, hno, rfl⟩ := hrel
    by_cases hlt : k < n
    · have hltl : k < xs.length := by have := HLL.out; omega
      have hki : (k : Int) < (n : Int) := by omega
      obtain ⟨b, off, rfl, hbb, c1⟩ := h.at hltl
      by_cases e : v = xs[k]
      · have HM := hide (show v ∈ xs by rw [e]; exact List.getElem_mem hltl)
        have hq : (v == xs[k]) = true := by simp [e]
        clear e hno
        go_wp2_with fail
        go_ret
        exact ⟨_, rfl, Or.inl ⟨unhide HM, by omega⟩, rfl⟩
      · have hq : (v == xs[k]) = false := by simp [e]
        have HN := hide (show v ∉ xs.take (k + 1) by
          rw [List.take_succ_eq_append_getElem hltl, List.mem_append]
          rintro (h1 | h1)
          · exact hno h1
          · exact e (by simpa using h1))
        clear e hno
        go_wp2_with fail
        exact ⟨⟨k + 1, by omega, by go_num, unhide HN, by first | rfl | trivial⟩, by simp [intOf]; omega⟩
    · have HN := hide (show v ∉ xs by
        rw [List.take_of_length_le (by have := HLL.out; omega)] at hno; exact hno)
      clear hno
      go_wp2_with fail
      go_ret
      exact ⟨_, rfl, Or.inr ⟨unhide HN, rfl⟩, rfl⟩

theorem Contains_any (xs : List Int) (v : Int) (a : Option Addr) (n c : Nat) (w : World) (h : Ints w a n xs) :
    Calls Try.prog 73 #[.slice a n c, .int .i64 v] w fun e w' => e = .returned (.bool (decide (v ∈ xs))) ∧ w' = w := by
  go_enter Try.func73, Try.ntmps73
  go_wp2_with fail
  refine (Index_any xs v _ _ _ _ h).mono ?_
  rintro e w1 ⟨r, rfl, hr, rfl⟩
  rcases hr with ⟨h1, h2⟩ | ⟨h1, rfl⟩
  · have HM := hide (show decide (v ∈ xs) = true by simpa using h1)
    clear h1
    go_wp2_with fail
    go_ret
    exact ⟨ret_bool (unhide HM).symm, rfl⟩
  · have HM := hide (show decide (v ∈ xs) = false by simpa using h1)
    clear h1
    go_wp2_with fail
    go_ret
    exact ⟨ret_bool (unhide HM).symm, rfl⟩

theorem opens_mem (v : List Int) : decide ((2 : Int) ∈ v) = !decide (opens v = 0) := by
  induction v with
  | nil => rfl
  | cons x v ih =>
    by_cases e : x = 2
    · subst e; simp [opens]
    · have h1 : opens (x :: v) = opens v := by simp [opens, e]
      rw [h1, ← ih]
      have h2 : ¬ (2 : Int) = x := fun h => e h.symm
      simp [h2]

set_option maxHeartbeats 2000000 in
theorem DoF_any (d : NetD) (ins0 : Int) (ga ra oa : Option Addr) (gn gc rn rc on oc : Nat) (w : World) (h : NetAt w d ins0 ga gn ra rn oa on) (regs ins : List Int) (qa ia : Option Addr) (qn qc inn ic : Nat) (hr : Ints w qa qn regs) (hi : Ints w ia inn ins) :
    Calls Try.prog 42 #[.agg #[.int .i64 ins0, .slice ga gn gc, .slice ra rn rc, .slice oa on oc], .slice qa qn qc, .slice ia inn ic] w fun e w' => ∃ a n c b m k, e = .returned (.tuple #[.slice a n c, .slice b m k, .int .i64 (doE d regs ins)]) ∧ Ints w' a n (doOuts d regs ins) ∧ Ints w' b m (doNext d regs ins) ∧ Fresh w.heap.size a n ∧ Fresh w.heap.size b m ∧ Below w.heap.size w w' := by
  have hb0 : Below w.heap.size w (w.alloc (.cells #[.int .i64 ins0, .slice ga gn gc, .slice ra rn rc, .slice oa on oc] 26)) := (Below.refl _ _).alloc (Nat.le_refl _) _
  have hbox : Boxed (w.alloc (.cells #[.int .i64 ins0, .slice ga gn gc, .slice ra rn rc, .slice oa on oc] 26)) w.heap.size ins0 ga gn gc ra rn rc oa on oc := Boxed.new _ _ _ _ _ _ _ _ _ _ _ _
  have hN := h.below hb0
  have hr0 := hr.below hb0
  have hi0 := hi.below hb0
  clear h hr hi
  go_enter Try.func42, Try.ntmps42
  go_wp2_with fail
  refine (Step_any d _ _ _ _ _ _ _ _ _ _ _ hN regs ins _ _ _ _ _ _ hr0 hi0).mono ?_
  rintro e w1 ⟨va, vn, vc, v, rfl, hV, hA, hb⟩
  have B1 := bstep hb0 hb
  have hN1 := hN.below hb
  have hx1 := hbox.below hb
  clear hb hb0 hN hbox hr0 hi0
  by_cases e0 : stepE d regs ins = 0
  · have HS := hide e0
    obtain ⟨hL, hvv⟩ := hA.1 e0
    have hv : v = lfp d regs ins := hL.is
    have HE := hide (show doE d regs ins = if opens v = 0 then 0 else 6 by unfold doE; rw [if_pos e0, hv])
    have hvl : v.length = d.gates.length := hL.1
    have hck := (stepE_ok e0).1
    rw [e0]
    clear e0 hA
    by_cases ho : opens v = 0
    · have HC := hide (show decide ((2 : Int) ∈ v) = false by rw [opens_mem]; simp [ho])
      have HE0 := hide (show doE d regs ins = 0 by rw [unhide HE, if_pos ho])
      have HO := hide (show doOuts d regs ins = pickV v d.outs by unfold doOuts; rw [if_pos (unhide HE0), hv])
      have HX := hide (show doNext d regs ins = pickV v (nextsV d) by unfold doNext; rw [if_pos (unhide HE0), hv])
      have hcs := counts_gates (check_ok hck).1
      have hon : on ≤ 200 := by have := hN1.outs.1; omega
      have hrn : rn ≤ 20 := by have := hN1.regs.1; omega
      have HOI := hide (show ∀ k (hk : k < d.outs.length), 0 ≤ d.outs[k] ∧ d.outs[k] < v.length by intro k hk; rw [hvl]; exact outs_in (check_ok hck).2.1 k hk)
      have HNI := hide (show ∀ k (hk : k < (nextsV d).length), 0 ≤ (nextsV d)[k] ∧ (nextsV d)[k] < v.length by intro k hk; rw [hvl]; exact nexts_in (check_ok hck).2.1 k hk)
      clear ho hv hvl hck hcs hvv hL
      have hx0 := hx1
      obtain ⟨x0, x1, x2, x3, x4⟩ := hx1
      go_wp2_with fail
      refine (Contains_any _ _ _ _ _ _ hV).mono ?_
      rintro e w2 ⟨rfl, rfl⟩
      rw [unhide HC]
      go_wp2_with fail
      go_region_held3 (fun W => Below w2.heap.size w2 W ∧ W.cell? ⟨w.heap.size, 0, none⟩ = some (.int .i64 ins0) ∧ W.cell? ⟨w.heap.size, 1, none⟩ = some (.slice ga gn gc) ∧ W.cell? ⟨w.heap.size, 2, none⟩ = some (.slice ra rn rc) ∧ W.cell? ⟨w.heap.size, 3, none⟩ = some (.slice oa on oc))
        ((first | exact held_start hx0 | exact held_next hx0 (by assumption) hbA | exact held_next hx0 (by assumption) hbB | exact held_next hx0 (by assumption) hbC))
        ((first
          | (go_at_call 64; refine (Nexts_any d.regs ra rn rc _ (hN1.regs.below (held_below (by assumption))) (by omega)).mono ?_; rintro e wB ⟨aB, cB, rfl, hIB, _, _, hbB⟩)
          | (go_at_call_of 74 (Value.slice oa on oc); refine (Pick_any v d.outs va oa vn vc on oc _ (hV.below (held_below (by assumption))) (hN1.outs.below (held_below (by assumption))) hon (unhide HOI)).mono ?_; rintro e wA ⟨aA, nA, cA, rfl, hIA, hFA, hbA⟩; have hGA := hFA.down (fresh_size B1 (by assumption)))
          | (go_at_call_of 74 (Value.slice aB rn cB); refine (Pick_any v (nextsV d) va aB vn vc rn cB _ (hV.below (held_below (by assumption))) (by first | exact hIB | exact hIB.below hbA) (by omega) (unhide HNI)).mono ?_; rintro e wC ⟨aC, nC, cC, rfl, hIC, hFC, hbC⟩; have hGC := hFC.down (fresh_size B1 (by assumption)))))
      all_goals (go_wp2_with fail; go_ret3)
      all_goals exact ⟨aA, nA, cA, aC, nC, cC, ret_sl2 (unhide HE0).symm, by rw [unhide HO]; first | exact hIA | exact hIA.below hbC | exact (hIA.below hbB).below hbC, by rw [unhide HX]; first | exact hIC | exact hIC.below hbA, hGA, hGC, bstep B1 (held_below (by assumption))⟩
    · have HC := hide (show decide ((2 : Int) ∈ v) = true by rw [opens_mem]; simp [ho])
      have HE0 := hide (show doE d regs ins = 6 by rw [unhide HE, if_neg ho])
      have HO := hide (show doOuts d regs ins = [] by unfold doOuts; rw [if_neg (by rw [unhide HE0]; decide)])
      have HX := hide (show doNext d regs ins = [] by unfold doNext; rw [if_neg (by rw [unhide HE0]; decide)])
      clear ho hv hvl hck hvv hL
      go_wp2_with fail
      refine (Contains_any _ _ _ _ _ _ hV).mono ?_
      rintro e w2 ⟨rfl, rfl⟩
      rw [unhide HC]
      go_wp2_with fail
      go_ret3
      exact ⟨none, 0, 0, none, 0, 0, ret_sl2 (unhide HE0).symm, by rw [unhide HO]; exact Ints.none _, by rw [unhide HX]; exact Ints.none _, Or.inl rfl, Or.inl rfl, B1⟩
  · have hne : (stepE d regs ins != 0) = true := by simp [e0]
    have HD := hide (show doE d regs ins = stepE d regs ins by unfold doE; rw [if_neg e0])
    have HO := hide (show doOuts d regs ins = [] by unfold doOuts; rw [if_neg (by rw [unhide HD]; exact e0)])
    have HX := hide (show doNext d regs ins = [] by unfold doNext; rw [if_neg (by rw [unhide HD]; exact e0)])
    clear e0 hA
    go_wp2_with fail
    go_ret3
    exact ⟨none, 0, 0, none, 0, 0, ret_sl2 (unhide HD).symm, by rw [unhide HO]; exact Ints.none _, by rw [unhide HX]; exact Ints.none _, Or.inl rfl, Or.inl rfl, B1⟩

theorem Do_any (d : NetD) (ins0 : Int) (ga ra oa : Option Addr) (gn gc rn rc on oc : Nat) (w : World) (h : NetAt w d ins0 ga gn ra rn oa on) (regs ins : List Int) (qa ia : Option Addr) (qn qc inn ic : Nat) (hr : Ints w qa qn regs) (hi : Ints w ia inn ins) :
    Calls Try.prog 42 #[.agg #[.int .i64 ins0, .slice ga gn gc, .slice ra rn rc, .slice oa on oc], .slice qa qn qc, .slice ia inn ic] w fun e w' => ∃ a n c b m k, e = .returned (.tuple #[.slice a n c, .slice b m k, .int .i64 (doE d regs ins)]) ∧ Ints w' a n (doOuts d regs ins) ∧ Ints w' b m (doNext d regs ins) ∧ Below w.heap.size w w' := by
  refine (DoF_any d _ _ _ _ _ _ _ _ _ _ _ h regs ins _ _ _ _ _ _ hr hi).mono ?_
  rintro e w1 ⟨a, n, c, b, m, k, he, h1, h2, _, _, h3⟩
  exact ⟨a, n, c, b, m, k, he, h1, h2, h3⟩
end Go.Proofs.Ytongajonecgdpae
