/- The program's tick.Do, and what of the library it calls. -/
import Derived.Test.YtongajonecgdpagGreatDoorTickB
import Derived.Test.YtongajonecgdpagGreatDoorEvalP
namespace Go.Proofs.YtongajonecgdpagGreatDoor
open Go.RowKit

set_option maxHeartbeats 1000000 in
theorem Index_any (xs : List Int) (v : Int) (a : Option Addr) (n c : Nat) (w : World) (h : Ints w a n xs) :
    Calls Tryz.prog 128 #[.slice a n c, .int .i64 v] w fun e w' => ∃ r, e = .returned (.int .i64 r) ∧ ((v ∈ xs ∧ 0 ≤ r) ∨ (v ∉ xs ∧ r = -1)) ∧ w' = w := by
  have HLL : Hid (xs.length = n) := h.1.symm
  have hm : n ≤ maxLen := by rw [h.1]; exact h.2.1
  unfold maxLen at hm
  go_enter Tryz.func128, Tryz.ntmps128
  go_wp2_with fail
  go_loopw [8] (fun i wr => ∃ k : Nat, k ≤ n ∧ i = .int .i64 k ∧ v ∉ xs.take k ∧ wr = w) (fun i _ => n - (intOf i).toNat)
  case atStart => exact ⟨0, Nat.zero_le _, rfl, by simp, rfl⟩
  case round =>
    obtain ⟨k, hk, rfl, hno, rfl⟩ := hrel
    by_cases hlt : k < n
    · have hltl : k < xs.length := by have := HLL.out; omega
      have hki : (k : Int) < (n : Int) := by omega
      obtain ⟨b, off, rfl, hbb, c1⟩ := h.at hltl
      by_cases e : v = xs[k]
      · have HM := hide (show v ∈ xs by rw [e]; exact List.getElem_mem hltl)
        have hq : (v == xs[k]) = true := by simp [e]
        clear e hno
        go_wp2_with fail
        go_ret
        exact ⟨_, rfl, Or.inl ⟨unhide HM, by omega⟩, rfl⟩
      · have hq : (v == xs[k]) = false := by simp [e]
        have HN := hide (show v ∉ xs.take (k + 1) by
          rw [List.take_succ_eq_append_getElem hltl, List.mem_append]
          rintro (h1 | h1)
          · exact hno h1
          · exact e (by simpa using h1))
        clear e hno
        go_wp2_with fail
        exact ⟨⟨k + 1, by omega, by go_num, unhide HN, by first | rfl | trivial⟩, by simp [intOf]; omega⟩
    · have HN := hide (show v ∉ xs by
        rw [List.take_of_length_le (by have := HLL.out; omega)] at hno; exact hno)
      clear hno
      go_wp2_with fail
      go_ret
      exact ⟨_, rfl, Or.inr ⟨unhide HN, rfl⟩, rfl⟩

theorem Contains_any (xs : List Int) (v : Int) (a : Option Addr) (n c : Nat) (w : World) (h : Ints w a n xs) :
    Calls Tryz.prog 99 #[.slice a n c, .int .i64 v] w fun e w' => e = .returned (.bool (decide (v ∈ xs))) ∧ w' = w := by
  go_enter Tryz.func99, Tryz.ntmps99
  go_wp2_with fail
  refine (Index_any xs v _ _ _ _ h).mono ?_
  rintro e w1 ⟨r, rfl, hr, rfl⟩
  rcases hr with ⟨h1, h2⟩ | ⟨h1, rfl⟩
  · have HM := hide (show decide (v ∈ xs) = true by simpa using h1)
    clear h1
    go_wp2_with fail
    go_ret
    exact ⟨ret_bool (unhide HM).symm, rfl⟩
  · have HM := hide (show decide (v ∈ xs) = false by simpa using h1)
    clear h1
    go_wp2_with fail
    go_ret
    exact ⟨ret_bool (unhide HM).symm, rfl⟩

theorem opens_mem (v : List Int) : decide ((2 : Int) ∈ v) = !decide (opens v = 0) := by
  induction v with
  | nil => rfl
  | cons x v ih =>
    by_cases e : x = 2
    · subst e; simp [opens]
    · have h1 : opens (x :: v) = opens v := by simp [opens, e]
      rw [h1, ← ih]
      have h2 : ¬ (2 : Int) = x := fun h => e h.symm
      simp [h2]

set_option maxHeartbeats 2000000 in
theorem DoF_any (d : NetD) (ins0 : Int) (ga ra oa : Option Addr) (gn gc rn rc on oc : Nat) (w : World) (h : NetAt w d ins0 ga gn ra rn oa on) (regs ins : List Int) (qa ia : Option Addr) (qn qc inn ic : Nat) (hr : Ints w qa qn regs) (hi : Ints w ia inn ins) :
    Calls Tryz.prog 70 #[.agg #[.int .i64 ins0, .slice ga gn gc, .slice ra rn rc, .slice oa on oc], .slice qa qn qc, .slice ia inn ic] w fun e w' => ∃ a n c b m k, e = .returned (.tuple #[.slice a n c, .slice b m k, .int .i64 (doE d regs ins)]) ∧ Ints w' a n (doOuts d regs ins) ∧ Ints w' b m (doNext d regs ins) ∧ Fresh w.heap.size a n ∧ Fresh w.heap.size b m ∧ Below w.heap.size w w' := by
  have hb0 : Below w.heap.size w (w.alloc (.cells #[.int .i64 ins0, .slice ga gn gc, .slice ra rn rc, .slice oa on oc] 70)) := (Below.refl _ _).alloc (Nat.le_refl _) _
  have hbox : Boxed (w.alloc (.cells #[.int .i64 ins0, .slice ga gn gc, .slice ra rn rc, .slice oa on oc] 70)) w.heap.size ins0 ga gn gc ra rn rc oa on oc := Boxed.new _ _ _ _ _ _ _ _ _ _ _ _
  have hN := h.below hb0
  have hr0 := hr.below hb0
  have hi0 := hi.below hb0
  clear h hr hi
  go_enter Tryz.func70, Tryz.ntmps70
  go_wp2_with fail
  refine (Step_any d _ _ _ _ _ _ _ _ _ _ _ hN regs ins _ _ _ _ _ _ hr0 hi0).mono ?_
  rintro e w1 ⟨va, vn, vc, v, rfl, hV, hA, hb⟩
  have B1 := bstep hb0 hb
  have hN1 := hN.below hb
  have hx1 := hbox.below hb
  clear hb hb0 hN hbox hr0 hi0
  by_cases e0 : stepE d regs ins = 0
  · have HS := hide e0
    obtain ⟨hL, hvv⟩ := hA.1 e0
    have hv : v = lfp d regs ins := hL.is
    have HE := hide (show doE d regs ins = if opens v = 0 then 0 else 6 by unfold doE; rw [if_pos e0, hv])
    have hvl : v.length = d.gates.length := hL.1
    have hck := (stepE_ok e0).1
    rw [e0]
    clear e0 hA
    by_cases ho : opens v = 0
    · have HC := hide (show decide ((2 : Int) ∈ v) = false by rw [opens_mem]; simp [ho])
      have HE0 := hide (show doE d regs ins = 0 by rw [unhide HE, if_pos ho])
      have HO := hide (show doOuts d regs ins = pickV v d.outs by unfold doOuts; rw [if_pos (unhide HE0), hv])
      have HX := hide (show doNext d regs ins = pickV v (nextsV d) by unfold doNext; rw [if_pos (unhide HE0), hv])
      have hcs := counts_gates (check_ok hck).1
      have hon : on ≤ 200 := by have := hN1.outs.1; omega
      have hrn : rn ≤ 20 := by have := hN1.regs.1; omega
      have HOI := hide (show ∀ k (hk : k < d.outs.length), 0 ≤ d.outs[k] ∧ d.outs[k] < v.length by intro k hk; rw [hvl]; exact outs_in (check_ok hck).2.1 k hk)
      have HNI := hide (show ∀ k (hk : k < (nextsV d).length), 0 ≤ (nextsV d)[k] ∧ (nextsV d)[k] < v.length by intro k hk; rw [hvl]; exact nexts_in (check_ok hck).2.1 k hk)
      clear ho hv hvl hck hcs hvv hL
      have hx0 := hx1
      obtain ⟨x0, x1, x2, x3, x4⟩ := hx1
      go_wp2_with fail
      refine (Contains_any _ _ _ _ _ _ hV).mono ?_
      rintro e w2 ⟨rfl, rfl⟩
      rw [unhide HC]
      go_wp2_with fail
      go_region_held3 (fun W => Below w2.heap.size w2 W ∧ W.cell? ⟨w.heap.size, 0, none⟩ = some (.int .i64 ins0) ∧ W.cell? ⟨w.heap.size, 1, none⟩ = some (.slice ga gn gc) ∧ W.cell? ⟨w.heap.size, 2, none⟩ = some (.slice ra rn rc) ∧ W.cell? ⟨w.heap.size, 3, none⟩ = some (.slice oa on oc))
        ((first | exact held_start hx0 | exact held_next hx0 (by assumption) hbA | exact held_next hx0 (by assumption) hbB | exact held_next hx0 (by assumption) hbC))
        ((first
          | (go_at_call 101; refine (Nexts_any d.regs ra rn rc _ (hN1.regs.below (held_below (by assumption))) (by omega)).mono ?_; rintro e wB ⟨aB, cB, rfl, hIB, _, _, hbB⟩)
          | (go_at_call_of 100 (Value.slice oa on oc); refine (Pick_any v d.outs va oa vn vc on oc _ (hV.below (held_below (by assumption))) (hN1.outs.below (held_below (by assumption))) hon (unhide HOI)).mono ?_; rintro e wA ⟨aA, nA, cA, rfl, hIA, hFA, hbA⟩; have hGA := hFA.down (fresh_size B1 (by assumption)))
          | (go_at_call_of 100 (Value.slice aB rn cB); refine (Pick_any v (nextsV d) va aB vn vc rn cB _ (hV.below (held_below (by assumption))) (by first | exact hIB | exact hIB.below hbA) (by omega) (unhide HNI)).mono ?_; rintro e wC ⟨aC, nC, cC, rfl, hIC, hFC, hbC⟩; have hGC := hFC.down (fresh_size B1 (by assumption)))))
      all_goals (go_wp2_with fail; go_ret3)
      all_goals exact ⟨aA, nA, cA, aC, nC, cC, ret_sl2 (unhide HE0).symm, by rw [unhide HO]; first | exact hIA | exact hIA.below hbC | exact (hIA.below hbB).below hbC, by rw [unhide HX]; first | exact hIC | exact hIC.below hbA, hGA, hGC, bstep B1 (held_below (by assumption))⟩
    · have HC := hide (show decide ((2 : Int) ∈ v) = true by rw [opens_mem]; simp [ho])
      have HE0 := hide (show doE d regs ins = 6 by rw [unhide HE, if_neg ho])
      have HO := hide (show doOuts d regs ins = [] by unfold doOuts; rw [if_neg (by rw [unhide HE0]; decide)])
      have HX := hide (show doNext d regs ins = [] by unfold doNext; rw [if_neg (by rw [unhide HE0]; decide)])
      clear ho hv hvl hck hvv hL
      go_wp2_with fail
      refine (Contains_any _ _ _ _ _ _ hV).mono ?_
      rintro e w2 ⟨rfl, rfl⟩
      rw [unhide HC]
      go_wp2_with fail
      go_ret3
      exact ⟨none, 0, 0, none, 0, 0, ret_sl2 (unhide HE0).symm, by rw [unhide HO]; exact Ints.none _, by rw [unhide HX]; exact Ints.none _, Or.inl rfl, Or.inl rfl, B1⟩
  · have hne : (stepE d regs ins != 0) = true := by simp [e0]
    have HD := hide (show doE d regs ins = stepE d regs ins by unfold doE; rw [if_neg e0])
    have HO := hide (show doOuts d regs ins = [] by unfold doOuts; rw [if_neg (by rw [unhide HD]; exact e0)])
    have HX := hide (show doNext d regs ins = [] by unfold doNext; rw [if_neg (by rw [unhide HD]; exact e0)])
    clear e0 hA
    go_wp2_with fail
    go_ret3
    exact ⟨none, 0, 0, none, 0, 0, ret_sl2 (unhide HD).symm, by rw [unhide HO]; exact Ints.none _, by rw [unhide HX]; exact Ints.none _, Or.inl rfl, Or.inl rfl, B1⟩

/-- Is it no number of inputs? -/
def noIn (n : Nat) (x : Int) : Bool := decide (x < 0 ∨ 2 ^ n ≤ x)
theorem noIn_wth (n : Nat) (x : Int) : noIn n x = !wth x 0 (2 ^ n - 1) := by
  unfold noIn wth
  rw [← decide_not]
  congr 1
  rw [eq_iff_iff]
  omega

set_option maxHeartbeats 1000000 in
theorem noInput_any (x : Int) (n b : Nat) (w : World) (hn : n ≤ 3) (hc : w.cell? ⟨b, 0, none⟩ = some (.int .i64 n)) :
    Calls Tryz.prog 68 #[.int .i64 x, .pointer (some ⟨b, 0, none⟩)] w fun e w' => e = .returned (.bool (noIn n x)) ∧ w' = w := by
  by_cases h0 : x < 0
  · have HT := hide (show noIn n x = true by unfold noIn; simp; exact Or.inl h0)
    go_enter Tryz.func68, Tryz.ntmps68
    go_wp2_with fail
    go_ret
    exact ⟨ret_bool (unhide HT).symm, rfl⟩
  · have hcase : n = 0 ∨ n = 1 ∨ n = 2 ∨ n = 3 := by omega
    rcases hcase with rfl | rfl | rfl | rfl
    · by_cases h1 : (1 : Int) ≤ x
      · have HT := hide (show noIn 0 x = true by unfold noIn; simp; omega)
        go_enter Tryz.func68, Tryz.ntmps68
        go_wp2_with fail
        go_ret
        exact ⟨ret_bool (unhide HT).symm, rfl⟩
      · have HT := hide (show noIn 0 x = false by unfold noIn; simp; omega)
        go_enter Tryz.func68, Tryz.ntmps68
        go_wp2_with fail
        go_ret
        exact ⟨ret_bool (unhide HT).symm, rfl⟩
    · by_cases h1 : (2 : Int) ≤ x
      · have HT := hide (show noIn 1 x = true by unfold noIn; simp; omega)
        go_enter Tryz.func68, Tryz.ntmps68
        go_wp2_with fail
        go_ret
        exact ⟨ret_bool (unhide HT).symm, rfl⟩
      · have HT := hide (show noIn 1 x = false by unfold noIn; simp; omega)
        go_enter Tryz.func68, Tryz.ntmps68
        go_wp2_with fail
        go_ret
        exact ⟨ret_bool (unhide HT).symm, rfl⟩
    · by_cases h1 : (4 : Int) ≤ x
      · have HT := hide (show noIn 2 x = true by unfold noIn; simp; omega)
        go_enter Tryz.func68, Tryz.ntmps68
        go_wp2_with fail
        go_ret
        exact ⟨ret_bool (unhide HT).symm, rfl⟩
      · have HT := hide (show noIn 2 x = false by unfold noIn; simp; omega)
        go_enter Tryz.func68, Tryz.ntmps68
        go_wp2_with fail
        go_ret
        exact ⟨ret_bool (unhide HT).symm, rfl⟩
    · by_cases h1 : (8 : Int) ≤ x
      · have HT := hide (show noIn 3 x = true by unfold noIn; simp; omega)
        go_enter Tryz.func68, Tryz.ntmps68
        go_wp2_with fail
        go_ret
        exact ⟨ret_bool (unhide HT).symm, rfl⟩
      · have HT := hide (show noIn 3 x = false by unfold noIn; simp; omega)
        go_enter Tryz.func68, Tryz.ntmps68
        go_wp2_with fail
        go_ret
        exact ⟨ret_bool (unhide HT).symm, rfl⟩

set_option maxHeartbeats 1000000 in
theorem IndexFunc_any (xs : List Int) (i b : Nat) (a : Option Addr) (n c : Nat) (w : World) (h : Ints w a n xs) (hi3 : i ≤ 3) (hc : w.cell? ⟨b, 0, none⟩ = some (.int .i64 i)) :
    Calls Tryz.prog 97 #[.slice a n c, .func (.func 68) #[] #[.pointer (some ⟨b, 0, none⟩)]] w fun e w' => ∃ r, e = .returned (.int .i64 r) ∧ ((inPow xs i = false ∧ 0 ≤ r) ∨ (inPow xs i = true ∧ r = -1)) ∧ w' = w := by
  have HLL : Hid (xs.length = n) := h.1.symm
  have hm : n ≤ maxLen := by rw [h.1]; exact h.2.1
  unfold maxLen at hm
  go_enter Tryz.func97, Tryz.ntmps97
  go_wp2_with fail
  go_loopw [8] (fun i' wr => ∃ k : Nat, k ≤ n ∧ i' = .int .i64 k ∧ inPow (xs.take k) i = true ∧ wr = w) (fun i' _ => n - (intOf i').toNat)
  case atStart => exact ⟨0, Nat.zero_le _, rfl, by simp [inPow], rfl⟩
  case round =>
    obtain ⟨k, hk, rfl, hno, rfl⟩ := hrel
    by_cases hlt : k < n
    · have hltl : k < xs.length := by have := HLL.out; omega
      have hki : (k : Int) < (n : Int) := by omega
      obtain ⟨b', off, rfl, hbb, c1⟩ := h.at hltl
      have HNO := hide hno
      clear hno
      go_wp2_with (go_at_call 68; refine (noInput_any xs[k] i b _ hi3 hc).mono ?_; rintro e w9 ⟨rfl, rfl⟩; cases e9 : noIn i xs[k])
      · have HN := hide (show inPow (xs.take (k + 1)) i = true by
          unfold inPow
          rw [List.take_succ_eq_append_getElem hltl, List.all_append]
          have h1 := unhide HNO
          unfold inPow at h1
          rw [h1]
          rw [noIn_wth] at e9
          simpa using e9)
        clear e9
        go_wp2_with fail
        exact ⟨⟨k + 1, by omega, by go_num, unhide HN, by first | rfl | trivial⟩, by simp [intOf]; omega⟩
      · have HN := hide (show inPow xs i = false by
          unfold inPow
          rw [Bool.eq_false_iff]
          intro h1
          rw [List.all_eq_true] at h1
          have h2 := h1 _ (List.getElem_mem hltl)
          rw [noIn_wth, h2] at e9
          simp at e9)
        clear e9
        go_wp2_with fail
        go_ret
        exact ⟨_, rfl, Or.inl ⟨unhide HN, by omega⟩, rfl⟩
    · have HN := hide (show inPow xs i = true by
        rw [List.take_of_length_le (by have := HLL.out; omega)] at hno; exact hno)
      clear hno
      go_wp2_with fail
      go_ret
      exact ⟨_, rfl, Or.inr ⟨unhide HN, rfl⟩, rfl⟩

theorem ContainsFunc_any (xs : List Int) (i b : Nat) (a : Option Addr) (n c : Nat) (w : World) (h : Ints w a n xs) (hi3 : i ≤ 3) (hc : w.cell? ⟨b, 0, none⟩ = some (.int .i64 i)) :
    Calls Tryz.prog 69 #[.slice a n c, .func (.func 68) #[] #[.pointer (some ⟨b, 0, none⟩)]] w fun e w' => e = .returned (.bool (!inPow xs i)) ∧ w' = w := by
  go_enter Tryz.func69, Tryz.ntmps69
  go_wp2_with fail
  refine (IndexFunc_any xs i b _ _ _ _ h hi3 hc).mono ?_
  rintro e w1 ⟨r, rfl, hr, rfl⟩
  rcases hr with ⟨h1, h2⟩ | ⟨h1, rfl⟩
  · have HM := hide (show (!inPow xs i) = true by rw [h1]; rfl)
    clear h1
    go_wp2_with fail
    go_ret
    exact ⟨ret_bool (unhide HM).symm, rfl⟩
  · have HM := hide (show (!inPow xs i) = false by rw [h1]; rfl)
    clear h1
    go_wp2_with fail
    go_ret
    exact ⟨ret_bool (unhide HM).symm, rfl⟩

/-- A row of slices: a block of its own. -/
def SlRow (w : World) (g : Nat) (vs : List Value) : Prop := w.heap[g]? = some (.cells vs.toArray 28 (0, 0))
theorem SlRow.cell {w : World} {g : Nat} {vs : List Value} (h : SlRow w g vs) (k : Nat) : w.cell? ⟨g, k, none⟩ = vs[k]? := by
  rw [cell_of_row w g k _ _ _ h]
  simp
theorem SlRow.frozen {w : World} {g : Nat} {vs : List Value} (h : SlRow w g vs) (k : Nat) : w.frozen? ⟨g, k, none⟩ = false := frozen_of_row w g k _ _ h
theorem SlRow.set {w : World} {g : Nat} {vs : List Value} (h : SlRow w g vs) (k : Nat) (x : Value) : SlRow (w.setCell ⟨g, k, none⟩ x) g (vs.set k x) := by
  unfold SlRow
  rw [Go.heap_setCell_same w g k _ _ _ h]
  congr 2
  simp
theorem SlRow.lt {w : World} {g : Nat} {vs : List Value} (h : SlRow w g vs) : g < w.heap.size := (Array.getElem?_eq_some_iff.1 h).1
theorem SlRow.below {B : Nat} {w w' : World} {g : Nat} {vs : List Value} (h : SlRow w g vs) (hb : Below B w w') (hg : g < B) : SlRow w' g vs := by
  unfold SlRow; rw [hb.block g hg]; exact h
theorem made_slrow {w : World} {base g n : Nat} (h : w.ownsRow base 28 1 (.slice (some ⟨g, 0, none⟩) n n) n (madeCells #[Value.slice none 0 0] n).toList) : SlRow w g (List.replicate n (.slice none 0 0)) := by
  rcases h.2 with ⟨h1, _⟩ | ⟨g', cap, cur, hv, _, hh, _, _, hs, ht⟩
  · simp at h1
  · simp only [Value.slice.injEq, Option.some.injEq, Addr.mk.injEq, and_true, true_and] at hv
    obtain ⟨rfl, rfl⟩ := hv
    rw [toList_madeCells_one, List.take_of_length_le (by simp [hs])] at ht
    unfold SlRow
    rw [hh]
    congr 2
    apply Array.ext'
    rw [ht]
theorem IntsOff.stored {w : World} {g : Nat} {a : Option Addr} {n : Nat} {xs : List Int} (h : IntsOff w (some g) a n xs) (k : Nat) (x : Value) : IntsOff (w.setCell ⟨g, k, none⟩ x) (some g) a n xs := by
  obtain ⟨⟨h1, h2, h3⟩, h4⟩ := h
  have hs : (w.setCell ⟨g, k, none⟩ x).heap.size = w.heap.size := by simp
  rcases h4 with h4 | ⟨b, off, ha, hl, hne⟩
  · exact ⟨⟨h1, h2, Or.inl (List.length_eq_zero_iff.1 (by omega))⟩, Or.inl h4⟩
  · refine ⟨⟨h1, h2, ?_⟩, Or.inr ⟨b, off, ha, by rw [hs]; exact hl, hne⟩⟩
    rcases h3 with h3 | ⟨b', off', ha', hl', hc⟩
    · exact Or.inl h3
    · rw [ha] at ha'
      injection ha' with ha'
      injection ha' with e1 e2 _
      subst e1; subst e2
      refine Or.inr ⟨b, off, ha, by rw [hs]; exact hl, fun i hi => ?_⟩
      exact (World.cell?_setCell_other _ _ _ _ (fun e => hne (by injection e with e; rw [e]))).trans (hc i hi)
theorem RowsOff.stored {w : World} {g : Nat} {vs : List Value} {xss : List (List Int)} (h : RowsOff w (some g) vs xss) (k : Nat) (x : Value) : RowsOff (w.setCell ⟨g, k, none⟩ x) (some g) vs xss :=
  ⟨h.1, fun i hi => by obtain ⟨a, n, c, e, hI⟩ := h.2 i hi; exact ⟨a, n, c, e, hI.stored k x⟩⟩
theorem SlRow.rows {w : World} {g n : Nat} {vs : List Value} {xss : List (List Int)} (h : SlRow w g vs) (hR : RowsOff w (some g) vs xss) (hn : n = xss.length) (hm : n ≤ maxLen) : Rows w (some ⟨g, 0, none⟩) n xss := by
  refine ⟨hn, by omega, Or.inr ⟨g, 0, rfl, h.lt, fun i hi => ?_⟩⟩
  obtain ⟨a, n', c, e, hI⟩ := hR.2 i hi
  exact ⟨a, n', c, by rw [Nat.zero_add, h.cell i]; exact e, hI.1⟩
theorem IntsOff.early {w w' : World} {B g : Nat} {a : Option Addr} {n : Nat} {xs : List Int} (h : Ints w a n xs) (hb : Below B w w') (hB : w.heap.size ≤ B) (hg : w.heap.size ≤ g) : IntsOff w' (some g) a n xs := by
  refine ⟨h.below (hb.mono hB), ?_⟩
  rcases h.2.2 with h3 | ⟨b, off, ha, hl, hc⟩
  · exact Or.inl (by rw [h.1, h3]; rfl)
  · exact Or.inr ⟨b, off, ha, Nat.lt_of_lt_of_le hl hb.size, fun e => by injection e with e; omega⟩
theorem heldg_of {w0 W : World} {g b : Nat} {ins0 : Int} {ga ra oa : Option Addr} {gn gc rn rc on oc : Nat} {p : Addr} {x : Value} (hx : Boxed w0 b ins0 ga gn gc ra rn rc oa on oc) (hbg : b < g) (hp : p.block < g) (hc : w0.cell? p = some x) (h : Below g w0 W) :
    Below g w0 W ∧ W.cell? ⟨b, 0, none⟩ = some (.int .i64 ins0) ∧ W.cell? ⟨b, 1, none⟩ = some (.slice ga gn gc) ∧ W.cell? ⟨b, 2, none⟩ = some (.slice ra rn rc) ∧ W.cell? ⟨b, 3, none⟩ = some (.slice oa on oc) ∧ W.cell? p = some x := by
  obtain ⟨_, x1, x2, x3, x4⟩ := hx.below' h hbg
  exact ⟨h, x1, x2, x3, x4, (h.cell hp).trans hc⟩

theorem take_set_succ (vs : List Value) (k : Nat) (x : Value) (h : k < vs.length) : (vs.set k x).take (k + 1) = vs.take k ++ [x] := by
  rw [List.take_succ_eq_append_getElem (by simpa using h), List.getElem_set_self, List.take_set_of_le (Nat.le_refl _)]
theorem rowsTo_len (d : NetD) (l : List Int) (k : Nat) : (rowsTo d l k).length = k := by simp [rowsTo]
theorem bstep' {w w1 w2 : World} (h : Below w.heap.size w w1) (h2 : Below w1.heap.size w1 w2) : Below w.heap.size w w2 := bstep h h2

set_option maxRecDepth 100000 in
set_option maxHeartbeats 4000000 in
theorem Run_any (d : NetD) (ins0 : Int) (ga ra oa : Option Addr) (gn gc rn rc on oc : Nat) (w : World) (h : NetAt w d ins0 ga gn ra rn oa on) (l : List Int) (la : Option Addr) (ln lc : Nat) (hl : Ints w la ln l) :
    Calls Tryz.prog 31 #[.agg #[.int .i64 ins0, .slice ga gn gc, .slice ra rn rc, .slice oa on oc], .slice la ln lc] w fun e w' => ∃ a n c b m k, e = .returned (.tuple #[.slice a n c, .slice b m k, .int .i64 (runE d l)]) ∧ Rows w' a n (runRows d l) ∧ Ints w' b m (runRegs d l) ∧ n ≤ c ∧ Below w.heap.size w w' := by
  have hb0 : Below w.heap.size w (w.alloc (.cells #[.int .i64 ins0, .slice ga gn gc, .slice ra rn rc, .slice oa on oc] 70)) := (Below.refl _ _).alloc (Nat.le_refl _) _
  have hbox : Boxed (w.alloc (.cells #[.int .i64 ins0, .slice ga gn gc, .slice ra rn rc, .slice oa on oc] 70)) w.heap.size ins0 ga gn gc ra rn rc oa on oc := Boxed.new _ _ _ _ _ _ _ _ _ _ _ _
  have hN := h.below hb0
  have hl0 := hl.below hb0
  have HLN := hide hl.1
  have hlm : ln ≤ maxLen := by rw [hl.1]; exact hl.2.1
  unfold maxLen at hlm
  clear h hl
  obtain ⟨i0, hi, hz0, hz1, hz2⟩ := info_parts Tryz.infoSl
  have hmf : ∀ (fn : Fn) (first cap : Array Value) (w : World), (Instr.makeFunc fn first cap).run Tryz.prog w = .ok (.func fn first cap) w := fun _ _ _ _ => rfl
  go_enter Tryz.func31, Tryz.ntmps31
  go_wp2_with fail
  refine (Begin_any d _ _ _ _ _ _ _ _ _ _ _ hN).mono ?_
  rintro e w1 ⟨q0, q1, q2, rfl, hQ, hb⟩
  have B1 := bstep hb0 hb
  have hN1 := hN.below hb
  have hl1 := hl0.below hb
  have hx1 := hbox.below hb
  clear hb hb0 hN hbox hl0
  by_cases e0 : checkE d = 0
  · rw [e0]
    have HQA := hide (show begAns d = begins d by unfold begAns; rw [if_pos e0])
    rw [unhide HQA] at hQ
    have hcs := counts_gates (check_ok e0).1
    have hge : 0 ≤ d.ins := by have := (check_ok e0).2.1; simp only [numbersB, Bool.and_eq_true, decide_eq_true_iff] at this; exact this.1.1.1
    have hii := hN1.ins
    obtain ⟨i, hie⟩ := Int.eq_ofNat_of_zero_le (show 0 ≤ ins0 by omega)
    have hi3 : i ≤ 3 := by omega
    have HI := hide (show d.ins.toNat = i by omega)
    subst hie
    have HE := hide (show runE d l = if timesE l i = 0 then errTo d l l.length else timesE l i by unfold runE; rw [if_pos e0, unhide HI])
    clear hcs hge hii e0
    by_cases e6 : 60 < ln
    · have HE0 := hide (show runE d l = 2 by rw [unhide HE]; unfold timesE; rw [if_pos (show 60 < l.length by have := unhide HLN; omega)]; rfl)
      have HO := hide (show runRows d l = [] by unfold runRows; rw [if_neg (by rw [unhide HE0]; decide)])
      have HX := hide (show runRegs d l = [] by unfold runRegs; rw [if_neg (by rw [unhide HE0]; decide)])
      have hgt : (60 : Int) < (ln : Int) := by omega
      clear e6
      go_wp2_with fail
      go_ret3
      exact ⟨none, 0, 0, none, 0, 0, ret_ro (unhide HE0).symm, by rw [unhide HO]; exact Rows.nil0 _, by rw [unhide HX]; exact Ints.none _, Nat.le_refl _, B1⟩
    · have hgt : ¬ (60 : Int) < (ln : Int) := by omega
      have hx0 := hx1
      obtain ⟨x0, x1, x2, x3, x4⟩ := hx1
      cases ep : inPow l i
      · have HE0 := hide (show runE d l = 3 by rw [unhide HE]; unfold timesE; rw [if_neg (show ¬ 60 < l.length by have := unhide HLN; omega), ep]; rfl)
        have HO := hide (show runRows d l = [] by unfold runRows; rw [if_neg (by rw [unhide HE0]; decide)])
        have HX := hide (show runRegs d l = [] by unfold runRegs; rw [if_neg (by rw [unhide HE0]; decide)])
        have HP := hide (show (!inPow l i) = true by rw [ep]; rfl)
        clear ep
        go_wp2_with fail
        refine (ContainsFunc_any l i w.heap.size _ _ _ _ hl1 hi3 x1).mono ?_
        rintro e w2 ⟨rfl, rfl⟩
        rw [unhide HP]
        go_wp2_with fail
        go_ret3
        exact ⟨none, 0, 0, none, 0, 0, ret_ro (unhide HE0).symm, by rw [unhide HO]; exact Rows.nil0 _, by rw [unhide HX]; exact Ints.none _, Nat.le_refl _, B1⟩
      · have HE1 := hide (show runE d l = errTo d l l.length by
          rw [unhide HE, if_pos]
          unfold timesE; rw [if_neg (show ¬ 60 < l.length by have := unhide HLN; omega), ep]; rfl)
        have HPW := hide (show ∀ k (hk : k < l.length), 0 ≤ l[k] ∧ l[k] ≤ 1048576 by
          intro k hk
          unfold inPow at ep
          rw [List.all_eq_true] at ep
          have h8 := ep _ (List.getElem_mem hk)
          have h9 := power_le i (by omega)
          simp only [wth, decide_eq_true_iff] at h8
          omega)
        have HP := hide (show (!inPow l i) = false by rw [ep]; rfl)
        clear ep
        go_wp2_with fail
        refine (ContainsFunc_any l i w.heap.size _ _ _ _ hl1 hi3 x1).mono ?_
        rintro e w2 ⟨rfl, rfl⟩
        rw [unhide HP]
        go_wp2_with (at_make; refine wpList_make_full _ rfl _ _ 30 rfl w.heap.size 28 i0 (.slice none 0 0) 1 Tryz.underlying30 hi hz0 hz1 .i64 .i64 (ln : Int) (ln : Int) ln rfl rfl rfl rfl ?c1 ?c2 ?c3 ?_)
        case c1 => rw [hz2]; omega
        case c2 => unfold maxLen; omega
        case c3 => exact B1.size
        intro w3 hown hgrow
        have hb3 : Below w2.heap.size w2 w3 := (Below.refl _ _).grown hgrow (Nat.le_refl _) (fun k hk => by simp at hk)
        have hrow0 := made_slrow hown
        have hQ3 := IntsOff.early (g := w2.heap.size) hQ hb3 (Nat.le_refl _) (Nat.le_refl _)
        clear hown hgrow hi hz0 hz1 hz2 x1 x2 x3 x4 hQ
        have HLL : Hid (l.length = ln) := hl1.1.symm
        go_wp2_with fail
        go_loopw [7, 33] (fun q i' wr => ∃ (k : Nat) (qa : Option Addr) (qn qc : Nat) (vs : List Value), k ≤ ln ∧ i' = .int .i64 k ∧ q = .slice qa qn qc ∧ (errTo d l k = 0 ∧ vs.length = ln) ∧ SlRow wr w2.heap.size vs ∧ RowsOff wr (some w2.heap.size) (vs.take k) (rowsTo d l k) ∧ IntsOff wr (some w2.heap.size) qa qn (stateAt d l k) ∧ Below w2.heap.size w2 wr) (fun _ i' _ => ln - (intOf i').toNat)
        case atStart => exact ⟨0, q0, q1, q2, _, Nat.zero_le _, rfl, rfl, ⟨rfl, by simp⟩, hrow0, by rw [List.take_zero]; exact RowsOff.nil _ _, hQ3, hb3⟩
        case round =>
          clear hQ3 hrow0 hb3
          obtain ⟨k, qa, qn, qc, vs, hk, rfl, rfl, ⟨hno, hvl⟩, hrow, hRO, hQr, hbel⟩ := hrel
          by_cases hlt : k < ln
          · have hltl : k < l.length := by have := unhide HLN; omega
            have hki : (k : Int) < (ln : Int) := by omega
            obtain ⟨b, off, rfl, hbb0, c0⟩ := hl1.at hltl
            have c1 := (hbel.cell (p := ⟨b, off + k, none⟩) hbb0).trans c0
            have hNr := hN1.below hbel
            have hxr := hx0.below hbel
            obtain ⟨hlo, hhi⟩ := (unhide HPW) k hltl
            have hget : l.getD k 0 = l[k] := by simp [List.getD_eq_getElem?_getD, hltl]
            have HK := hide (show errAt d l k = doE d (stateAt d l k) (bitsV l[k] i) by unfold errAt; rw [hget, unhide HI])
            have HKO := hide (show outAt d l k = doOuts d (stateAt d l k) (bitsV l[k] i) by unfold outAt; rw [hget, unhide HI])
            have HKN := hide (show stateAt d l (k + 1) = doNext d (stateAt d l k) (bitsV l[k] i) by show doNext d (stateAt d l k) (bitsV (l.getD k 0) d.ins.toNat) = _; rw [hget, unhide HI])
            have HNO := hide hno
            have HVL := hide hvl
            have hgl := hrow.lt
            have hkvs : k < vs.length := by omega
            have hcell := hrow.cell k
            rw [List.getElem?_eq_getElem hkvs] at hcell
            have HROW := hide hrow
            have HRO := hide hRO
            have hbd := (Below.refl wr.heap.size wr).drew
            have hi20 : i ≤ 20 := by omega
            have hcf := hrow.frozen k
            clear hget hno hrow hRO hvl c0
            go_wp2_with fail
            go_region_held3 (fun W => Below w2.heap.size wr W ∧ W.cell? ⟨w.heap.size, 0, none⟩ = some (.int .i64 (i : Int)) ∧ W.cell? ⟨w.heap.size, 1, none⟩ = some (.slice ga gn gc) ∧ W.cell? ⟨w.heap.size, 2, none⟩ = some (.slice ra rn rc) ∧ W.cell? ⟨w.heap.size, 3, none⟩ = some (.slice oa on oc) ∧ W.cell? ⟨b, off + k, none⟩ = some (.int .i64 l[k]))
              ((first | exact heldg_of hxr x0 hbb0 c1 (Below.refl _ _).drew | exact heldg_of hxr x0 hbb0 c1 (hSB.mono (Nat.le_of_lt hgl)) | exact heldg_of hxr x0 hbb0 c1 (hSD.mono (Nat.le_of_lt hgl)) | exact heldg_of hxr x0 hbb0 c1 ((hSD.mono (Nat.le_of_lt hgl)).setCell (Nat.le_refl _) _)))
              ((first
                | (go_at_call 71; refine (Of_any l[k] i _ hlo hhi hi20).mono ?_; rintro e wB ⟨aB, nB, cB, rfl, hIB, hbB⟩; have hSB := bstep hbd hbB)
                | (go_at_call 70; refine (DoF_any d _ _ _ _ _ _ _ _ _ _ _ (hNr.below hSB) (stateAt d l k) (bitsV l[k] i) qa aB qn qc nB cB (hQr.1.below hSB) hIB).mono ?_; rintro e wD ⟨uo, un, uc, na, nn, nc, rfl, hIO, hIN, hFO, hFN, hbD⟩; have hSD := bstep hSB hbD; have hGO := hFO.down hSB.size; have hGN := hFN.down hSB.size; have d1 := (hSD.cell (p := ⟨w2.heap.size, k, none⟩) hgl).trans hcell; have d2 := ((unhide HROW).below hSD hgl).frozen k)))
            have hgk : ∀ g, some w2.heap.size = some g → g < wr.heap.size := fun g hg => by injection hg with hg; omega
            have hIO1 := IntsOff.fresh hIO hGO hgk
            rw [← unhide HKO] at hIO1
            have hIN1 := IntsOff.fresh hIN hGN hgk
            rw [← unhide HKN] at hIN1
            have R1 := ((unhide HROW).below hSD hgl).set k (.slice uo un uc)
            have R2 := (RowsOff.snoc (c := uc) ((unhide HRO).below hSD) hIO1).stored k (.slice uo un uc)
            rw [← rowsTo_succ, ← take_set_succ vs k (.slice uo un uc) hkvs] at R2
            have R3 := hIN1.stored k (.slice uo un uc)
            have R4 : Below w2.heap.size w2 (wD.setCell ⟨w2.heap.size, k, none⟩ (.slice uo un uc)) := (bstep hbel hSD).setCell (Nat.le_refl _) _
            have R := hide (And.intro R1 (And.intro R2 (And.intro R3 R4)))
            have HKV := hide hkvs
            clear hIO hIN hGO hGN hFO hFN hbB hIB hbD d1 d2 hIO1 hIN1 R1 R2 R3 R4 hgk hSB hSD c1 hbd hcell hcf hkvs
            by_cases e2 : doE d (stateAt d l k) (bitsV l[k] i) = 0
            · have HD := hide e2
              have HT := hide (show errTo d l (k + 1) = 0 by show (if errTo d l k = 0 then errAt d l k else errTo d l k) = 0; rw [if_pos (unhide HNO), unhide HK]; exact e2)
              rw [unhide HD]
              clear e2
              go_wp2_with fail
              exact ⟨⟨k + 1, na, nn, nc, vs.set k (.slice uo un uc), by omega, by go_num, rfl, ⟨unhide HT, by rw [List.length_set]; exact unhide HVL⟩, (unhide R).1, (unhide R).2.1, (unhide R).2.2.1, (unhide R).2.2.2⟩, by simp [intOf]; omega⟩
            · have hne : (doE d (stateAt d l k) (bitsV l[k] i) != 0) = true := by simp [e2]
              have HT := hide (show runE d l = doE d (stateAt d l k) (bitsV l[k] i) by
                have h1 : errTo d l (k + 1) = doE d (stateAt d l k) (bitsV l[k] i) := by show (if errTo d l k = 0 then errAt d l k else errTo d l k) = _; rw [if_pos (unhide HNO), unhide HK]
                rw [unhide HE1, errTo_stays d l (k + 1) (by rw [h1]; exact e2) l.length (by omega), h1])
              have HO := hide (show runRows d l = [] by unfold runRows; rw [if_neg (by rw [unhide HT]; exact e2)])
              have HX := hide (show runRegs d l = [] by unfold runRegs; rw [if_neg (by rw [unhide HT]; exact e2)])
              clear e2
              go_wp2_with fail
              go_ret3
              exact ⟨none, 0, 0, none, 0, 0, ret_ro (unhide HT).symm, by rw [unhide HO]; exact Rows.nil0 _, by rw [unhide HX]; exact Ints.none _, Nat.le_refl _, bstep' B1 (unhide R).2.2.2⟩
          · have hkl : k = l.length := by have := HLL.out; omega
            have HE2 := hide (show runE d l = 0 by rw [unhide HE1, ← hkl]; exact hno)
            have HO := hide (show runRows d l = rowsTo d l k by unfold runRows; rw [if_pos (unhide HE2), hkl])
            have HX := hide (show runRegs d l = stateAt d l k by unfold runRegs; rw [if_pos (unhide HE2), hkl])
            rw [List.take_of_length_le (by omega)] at hRO
            have hRW := hrow.rows (n := ln) hRO (by rw [rowsTo_len]; omega) (by unfold maxLen; omega)
            have HQ2 := hide hQr.1
            clear hrow hRO hQr hno hkl hvl
            go_wp2_with fail
            go_ret3
            exact ⟨_, _, _, _, _, _, ret_ro (unhide HE2).symm, by rw [unhide HO]; exact hRW, by rw [unhide HX]; exact unhide HQ2, Nat.le_refl _, bstep' B1 hbel⟩
  · have hne : (checkE d != 0) = true := by simp [e0]
    have HE0 := hide (show runE d l = checkE d by unfold runE; rw [if_neg e0])
    have HO := hide (show runRows d l = [] by unfold runRows; rw [if_neg (by rw [unhide HE0]; exact e0)])
    have HX := hide (show runRegs d l = [] by unfold runRegs; rw [if_neg (by rw [unhide HE0]; exact e0)])
    clear e0
    go_wp2_with fail
    go_ret3
    exact ⟨none, 0, 0, none, 0, 0, ret_ro (unhide HE0).symm, by rw [unhide HO]; exact Rows.nil0 _, by rw [unhide HX]; exact Ints.none _, Nat.le_refl _, B1⟩
end Go.Proofs.YtongajonecgdpagGreatDoor
