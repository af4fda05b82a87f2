/- The program's prog: its small readers of nodes, size, Check. -/
import Derived.Test.YtongajonecgdpaeProgC
import Derived.Test.YtongajonecgdpaeProgN
namespace Go.Proofs.Ytongajonecgdpae
open Go.RowKit

def nodeV (kd sg : Int) : Value := .agg #[.int .i64 kd, .int .i64 sg]
def kindOk (kd : Int) : Bool := decide (0 ≤ kd ∧ kd ≤ 8)
def sigB (kd sg : Int) : Bool := decide (0 ≤ sg ∧ sg ≤ mostS kd)
theorem nodeBox (w : World) (u v : Value) (T : TypeId) : (w.alloc (.cells #[u, v] T)).cell? ⟨w.heap.size, 0, none⟩ = some u ∧ (w.alloc (.cells #[u, v] T)).cell? ⟨w.heap.size, 1, none⟩ = some v ∧ w.heap.size < (w.alloc (.cells #[u, v] T)).heap.size ∧ Below w.heap.size w (w.alloc (.cells #[u, v] T)) := ⟨by simp, by simp, by simp, (Below.refl _ _).alloc (Nat.le_refl _) _⟩

set_option maxHeartbeats 1000000 in
theorem isOfNoKind_any (kd sg : Int) (w : World) :
    Calls Try.prog 53 #[.agg #[.int .i64 kd, .int .i64 sg]] w fun e w' => e = .returned (.bool (!kindOk kd)) ∧ Below w.heap.size w w' := by
  obtain ⟨y1, y2, y0, hb⟩ := nodeBox w (.int .i64 kd) (.int .i64 sg) 80
  by_cases h0 : kd < 0
  · have R := hide (show (!kindOk kd) = true by unfold kindOk; simp; omega)
    go_enter Try.func53, Try.ntmps53
    go_wp2_with fail
    go_ret
    exact ⟨ret_bool (unhide R).symm, hb⟩
  · by_cases h1 : 8 < kd
    · have R := hide (show (!kindOk kd) = true by unfold kindOk; simp; omega)
      go_enter Try.func53, Try.ntmps53
      go_wp2_with fail
      go_ret
      exact ⟨ret_bool (unhide R).symm, hb⟩
    · have R := hide (show (!kindOk kd) = false by unfold kindOk; simp; omega)
      go_enter Try.func53, Try.ntmps53
      go_wp2_with fail
      go_ret
      exact ⟨ret_bool (unhide R).symm, hb⟩
theorem most_cases (kd : Int) : (kd = 4 ∧ mostS kd = 2) ∨ (kd = 7 ∧ mostS kd = 2) ∨ (kd = 3 ∧ mostS kd = 2) ∨ (kd = 8 ∧ mostS kd = 2) ∨ (kd ≠ 4 ∧ kd ≠ 7 ∧ kd ≠ 3 ∧ kd ≠ 8 ∧ mostS kd = 0) := by
  by_cases e1 : kd = 4
  · exact Or.inl ⟨e1, by unfold mostS; simp [e1]⟩
  by_cases e2 : kd = 7
  · exact Or.inr (Or.inl ⟨e2, by unfold mostS; simp [e2]⟩)
  by_cases e3 : kd = 3
  · exact Or.inr (Or.inr (Or.inl ⟨e3, by unfold mostS; simp [e3]⟩))
  by_cases e4 : kd = 8
  · exact Or.inr (Or.inr (Or.inr (Or.inl ⟨e4, by unfold mostS; simp [e4]⟩)))
  exact Or.inr (Or.inr (Or.inr (Or.inr ⟨e1, e2, e3, e4, by unfold mostS; simp [e1, e2, e3, e4]⟩)))
set_option maxHeartbeats 1000000 in
theorem signals_any (kd : Int) (w : World) :
    Calls Try.prog 76 #[.int .i64 kd] w fun e w' => e = .returned (.int .i64 (mostS kd + 1)) ∧ w' = w := by
  rcases most_cases kd with ⟨rfl, h⟩ | ⟨rfl, h⟩ | ⟨rfl, h⟩ | ⟨rfl, h⟩ | ⟨e1, e2, e3, e4, h⟩
  all_goals
    rw [h]
    clear h
    go_enter Try.func76, Try.ntmps76
    go_wp2_with fail
    go_ret
    exact ⟨rfl, rfl⟩
set_option maxHeartbeats 1000000 in
theorem isSigOut_any (kd sg : Int) (w : World) :
    Calls Try.prog 54 #[.agg #[.int .i64 kd, .int .i64 sg]] w fun e w' => e = .returned (.bool (!sigB kd sg)) ∧ Below w.heap.size w w' := by
  obtain ⟨y1, y2, y0, hb⟩ := nodeBox w (.int .i64 kd) (.int .i64 sg) 80
  by_cases h0 : sg < 0
  · have R := hide (show (!sigB kd sg) = true by unfold sigB; simp; omega)
    have hd : decide (sg < 0) = true := by simp; omega
    go_enter Try.func54, Try.ntmps54
    go_wp2_with fail
    go_quiet (fail)
    go_wp2_with fail
    go_ret
    exact ⟨ret_bool (unhide R).symm, below_drewN hb _⟩
  · have hd : decide (sg < 0) = false := by simp; omega
    by_cases hx : mostS kd + 1 ≤ sg
    · have R := hide (show (!sigB kd sg) = true by unfold sigB; simp; omega)
      have hd2 : decide (mostS kd + 1 ≤ sg) = true := by simp only [decide_eq_true_iff]; exact hx
      have HC := signals_any kd
      generalize mostS kd = ms at *
      go_enter Try.func54, Try.ntmps54
      go_wp2_with fail
      go_quiet ((go_at_call 76; exact Calls.quiet_of_same (HC _)))
      go_wp2_with fail
      go_ret
      exact ⟨ret_bool (unhide R).symm, below_drewN hb _⟩
    · have R := hide (show (!sigB kd sg) = false by unfold sigB; simp; omega)
      have hd2 : decide (mostS kd + 1 ≤ sg) = false := by simp only [decide_eq_false_iff_not]; exact hx
      have HC := signals_any kd
      generalize mostS kd = ms at *
      go_enter Try.func54, Try.ntmps54
      go_wp2_with fail
      go_quiet ((go_at_call 76; exact Calls.quiet_of_same (HC _)))
      go_wp2_with fail
      go_ret
      exact ⟨ret_bool (unhide R).symm, below_drewN hb _⟩
theorem has_cases (kd : Int) : (kd = 5 ∧ hasP kd = true) ∨ (kd = 6 ∧ hasP kd = true) ∨ (kd = 7 ∧ hasP kd = true) ∨ (kd = 8 ∧ hasP kd = true) ∨ (kd ≠ 5 ∧ kd ≠ 6 ∧ kd ≠ 7 ∧ kd ≠ 8 ∧ hasP kd = false) := by
  unfold hasP
  by_cases e1 : kd = 5
  · exact Or.inl ⟨e1, by simp [e1]⟩
  by_cases e2 : kd = 6
  · exact Or.inr (Or.inl ⟨e2, by simp [e2]⟩)
  by_cases e3 : kd = 7
  · exact Or.inr (Or.inr (Or.inl ⟨e3, by simp [e3]⟩))
  by_cases e4 : kd = 8
  · exact Or.inr (Or.inr (Or.inr (Or.inl ⟨e4, by simp [e4]⟩)))
  exact Or.inr (Or.inr (Or.inr (Or.inr ⟨e1, e2, e3, e4, by rw [decide_eq_false_iff_not]; omega⟩)))
set_option maxHeartbeats 1000000 in
theorem hasParts_any (kd sg : Int) (w : World) :
    Calls Try.prog 44 #[.agg #[.int .i64 kd, .int .i64 sg]] w fun e w' => e = .returned (.bool (hasP kd)) ∧ Below w.heap.size w w' := by
  obtain ⟨y1, y2, y0, hb⟩ := nodeBox w (.int .i64 kd) (.int .i64 sg) 80
  rcases has_cases kd with ⟨rfl, h⟩ | ⟨rfl, h⟩ | ⟨rfl, h⟩ | ⟨rfl, h⟩ | ⟨e1, e2, e3, e4, h⟩
  all_goals
    rw [h]
    clear h
    go_enter Try.func44, Try.ntmps44
    go_wp2_with fail
    go_ret
    exact ⟨rfl, hb⟩
theorem wait_cases (kd : Int) : (kd = 1 ∧ waitK kd = true) ∨ (kd = 2 ∧ waitK kd = true) ∨ (kd = 4 ∧ waitK kd = true) ∨ (kd ≠ 1 ∧ kd ≠ 2 ∧ kd ≠ 4 ∧ waitK kd = false) := by
  unfold waitK
  by_cases e1 : kd = 1
  · exact Or.inl ⟨e1, by simp [e1]⟩
  by_cases e2 : kd = 2
  · exact Or.inr (Or.inl ⟨e2, by simp [e2]⟩)
  by_cases e3 : kd = 4
  · exact Or.inr (Or.inr (Or.inl ⟨e3, by simp [e3]⟩))
  exact Or.inr (Or.inr (Or.inr ⟨e1, e2, e3, by simp [e1, e2, e3]⟩))
set_option maxHeartbeats 1000000 in
theorem mayWait_any (kd sg : Int) (w : World) :
    Calls Try.prog 46 #[.agg #[.int .i64 kd, .int .i64 sg]] w fun e w' => e = .returned (.bool (waitK kd)) ∧ Below w.heap.size w w' := by
  obtain ⟨y1, y2, y0, hb⟩ := nodeBox w (.int .i64 kd) (.int .i64 sg) 80
  rcases wait_cases kd with ⟨rfl, h⟩ | ⟨rfl, h⟩ | ⟨rfl, h⟩ | ⟨e1, e2, e3, h⟩
  all_goals
    rw [h]
    clear h
    go_enter Try.func46, Try.ntmps46
    go_wp2_with fail
    go_ret
    exact ⟨rfl, hb⟩

set_option maxHeartbeats 1000000 in
theorem Index_isOfNoKind (p : List NodeD) (a : Option Addr) (n c : Nat) (w : World) (h : Nodes w a n p) :
    Calls Try.prog 75 #[.slice a n c, .func (.func 53) #[] #[]] w fun e w' => ∃ r, e = .returned (.int .i64 r) ∧ ((pkTo p p.length = false ∧ 0 ≤ r) ∨ (pkTo p p.length = true ∧ r = -1)) ∧ Below w.heap.size w w' := by
  have HN := hide h.1
  have hm : n ≤ maxLen := by rw [h.1]; exact h.2.1
  unfold maxLen at hm
  go_enter Try.func75, Try.ntmps75
  go_wp2_with fail
  go_loopw [8] (fun i' wr => ∃ k : Nat, k ≤ n ∧ i' = .int .i64 k ∧ pkTo p k = true ∧ Below w.heap.size w wr) (fun i' _ => n - (intOf i').toNat)
  case atStart => exact ⟨0, Nat.zero_le _, rfl, rfl, Below.refl _ _⟩
  case round =>
    obtain ⟨k, hk, rfl, hno, hbel⟩ := hrel
    by_cases hlt : k < n
    · have hkp : k < p.length := by have := unhide HN; omega
      have hki : (k : Int) < (n : Int) := by omega
      obtain ⟨b', off, rfl, hbb, c1, c2⟩ := (h.below hbel).at hkp
      have HNO := hide hno
      clear hno
      have HS := hide (pkTo_succ p k hkp)
      have HF := hide (fun e => pkTo_no (p := p) hkp e)
      go_wp2_with (go_at_call 53; refine (isOfNoKind_any p[k].kind p[k].sig _).mono ?_; rintro e w9 ⟨rfl, hb9⟩; cases e9 : kindOk p[k].kind)
      · have HN2 := hide (unhide HF e9)
        have B9 := bstep hbel hb9
        clear e9
        go_wp2_with fail
        go_ret
        exact ⟨_, rfl, Or.inl ⟨unhide HN2, by omega⟩, B9⟩
      · have HN2 := hide (show pkTo p (k + 1) = true by rw [unhide HS, unhide HNO]; exact e9)
        have B9 := bstep hbel hb9
        clear e9
        go_wp2_with fail
        exact ⟨⟨k + 1, by omega, by go_num, unhide HN2, B9⟩, by simp [intOf]; omega⟩
    · have HN2 := hide (show pkTo p p.length = true by
        have : k = p.length := by have := unhide HN; omega
        rw [← this]; exact hno)
      clear hno
      go_wp2_with fail
      go_ret
      exact ⟨_, rfl, Or.inr ⟨unhide HN2, rfl⟩, hbel⟩
theorem Contains_isOfNoKind (p : List NodeD) (a : Option Addr) (n c : Nat) (w : World) (h : Nodes w a n p) :
    Calls Try.prog 52 #[.slice a n c, .func (.func 53) #[] #[]] w fun e w' => e = .returned (.bool (!pkTo p p.length)) ∧ Below w.heap.size w w' := by
  go_enter Try.func52, Try.ntmps52
  go_wp2_with fail
  refine (Index_isOfNoKind p _ _ _ _ h).mono ?_
  rintro e w1 ⟨r, rfl, hr, hb⟩
  rcases hr with ⟨h1, h2⟩ | ⟨h1, rfl⟩
  · have HM := hide (show (!pkTo p p.length) = true by rw [h1]; rfl)
    clear h1
    go_wp2_with fail
    go_ret
    exact ⟨ret_bool (unhide HM).symm, hb⟩
  · have HM := hide (show (!pkTo p p.length) = false by rw [h1]; rfl)
    clear h1
    go_wp2_with fail
    go_ret
    exact ⟨ret_bool (unhide HM).symm, hb⟩

set_option maxHeartbeats 1000000 in
theorem Index_isSigOut (p : List NodeD) (a : Option Addr) (n c : Nat) (w : World) (h : Nodes w a n p) :
    Calls Try.prog 75 #[.slice a n c, .func (.func 54) #[] #[]] w fun e w' => ∃ r, e = .returned (.int .i64 r) ∧ ((psTo p p.length = false ∧ 0 ≤ r) ∨ (psTo p p.length = true ∧ r = -1)) ∧ Below w.heap.size w w' := by
  have HN := hide h.1
  have hm : n ≤ maxLen := by rw [h.1]; exact h.2.1
  unfold maxLen at hm
  go_enter Try.func75, Try.ntmps75
  go_wp2_with fail
  go_loopw [8] (fun i' wr => ∃ k : Nat, k ≤ n ∧ i' = .int .i64 k ∧ psTo p k = true ∧ Below w.heap.size w wr) (fun i' _ => n - (intOf i').toNat)
  case atStart => exact ⟨0, Nat.zero_le _, rfl, rfl, Below.refl _ _⟩
  case round =>
    obtain ⟨k, hk, rfl, hno, hbel⟩ := hrel
    by_cases hlt : k < n
    · have hkp : k < p.length := by have := unhide HN; omega
      have hki : (k : Int) < (n : Int) := by omega
      obtain ⟨b', off, rfl, hbb, c1, c2⟩ := (h.below hbel).at hkp
      have HNO := hide hno
      clear hno
      have HS := hide (psTo_succ p k hkp)
      have HF := hide (fun e => psTo_no (p := p) hkp e)
      go_wp2_with (go_at_call 54; refine (isSigOut_any p[k].kind p[k].sig _).mono ?_; rintro e w9 ⟨rfl, hb9⟩; cases e9 : sigB p[k].kind p[k].sig)
      · have HN2 := hide (unhide HF e9)
        have B9 := bstep hbel hb9
        clear e9
        go_wp2_with fail
        go_ret
        exact ⟨_, rfl, Or.inl ⟨unhide HN2, by omega⟩, B9⟩
      · have HN2 := hide (show psTo p (k + 1) = true by rw [unhide HS, unhide HNO]; exact e9)
        have B9 := bstep hbel hb9
        clear e9
        go_wp2_with fail
        exact ⟨⟨k + 1, by omega, by go_num, unhide HN2, B9⟩, by simp [intOf]; omega⟩
    · have HN2 := hide (show psTo p p.length = true by
        have : k = p.length := by have := unhide HN; omega
        rw [← this]; exact hno)
      clear hno
      go_wp2_with fail
      go_ret
      exact ⟨_, rfl, Or.inr ⟨unhide HN2, rfl⟩, hbel⟩
theorem Contains_isSigOut (p : List NodeD) (a : Option Addr) (n c : Nat) (w : World) (h : Nodes w a n p) :
    Calls Try.prog 52 #[.slice a n c, .func (.func 54) #[] #[]] w fun e w' => e = .returned (.bool (!psTo p p.length)) ∧ Below w.heap.size w w' := by
  go_enter Try.func52, Try.ntmps52
  go_wp2_with fail
  refine (Index_isSigOut p _ _ _ _ h).mono ?_
  rintro e w1 ⟨r, rfl, hr, hb⟩
  rcases hr with ⟨h1, h2⟩ | ⟨h1, rfl⟩
  · have HM := hide (show (!psTo p p.length) = true by rw [h1]; rfl)
    clear h1
    go_wp2_with fail
    go_ret
    exact ⟨ret_bool (unhide HM).symm, hb⟩
  · have HM := hide (show (!psTo p p.length) = false by rw [h1]; rfl)
    clear h1
    go_wp2_with fail
    go_ret
    exact ⟨ret_bool (unhide HM).symm, hb⟩

theorem size_leaf {p : List NodeD} {d k : Nat} (hk : k < p.length) (hp : hasP p[k].kind = false) : sizeF (d + 1) k (p.drop k) = if d = 0 then k + 1 else sizeF d (k + 1) (p.drop (k + 1)) := by
  rw [drop_at hk]
  show (if (if hasP p[k].kind then d + 1 + 1 else d + 1 - 1) = 0 then k + 1 else sizeF (if hasP p[k].kind then d + 1 + 1 else d + 1 - 1) (k + 1) (p.drop (k + 1))) = _
  rw [hp]; rfl
theorem size_node {p : List NodeD} {d k : Nat} (hk : k < p.length) (hp : hasP p[k].kind = true) : sizeF (d + 1) k (p.drop k) = sizeF (d + 2) (k + 1) (p.drop (k + 1)) := by
  rw [drop_at hk]
  show (if (if hasP p[k].kind then d + 1 + 1 else d + 1 - 1) = 0 then k + 1 else sizeF (if hasP p[k].kind then d + 1 + 1 else d + 1 - 1) (k + 1) (p.drop (k + 1))) = _
  rw [hp]; rfl
set_option maxHeartbeats 2000000 in
theorem size_any (p : List NodeD) (a : Option Addr) (n c : Nat) (w : World) (h : Nodes w a n p) (hn : n ≤ 14) :
    Calls Try.prog 45 #[.slice a n c] w fun e w' => e = .returned (.int .i64 (sizeP p : Nat)) ∧ Below w.heap.size w w' := by
  have HN := hide h.1
  go_enter Try.func45, Try.ntmps45
  go_wp2_with fail
  go_loopw [3, 8] (fun dv iv wr => ∃ k d : Nat, k ≤ n ∧ iv = .int .i64 k ∧ dv = .int .i64 ((d : Int) + 1) ∧ d ≤ k ∧ sizeP p = sizeF (d + 1) k (p.drop k) ∧ Below w.heap.size w wr) (fun _ iv _ => n - (intOf iv).toNat)
  case atStart => exact ⟨0, 0, Nat.zero_le _, rfl, rfl, Nat.le_refl _, rfl, Below.refl _ _⟩
  case round =>
    obtain ⟨k, d, hk, rfl, rfl, hd, hS, hbel⟩ := hrel
    have HS := hide hS
    clear hS
    by_cases hlt : k < n
    · have hkp : k < p.length := by have := unhide HN; omega
      have hki : (k : Int) < (n : Int) := by omega
      obtain ⟨b', off, rfl, hbb, c1, c2⟩ := (h.below hbel).at hkp
      have HL := hide (fun e => size_leaf (p := p) (d := d) hkp e)
      have HD := hide (fun e => size_node (p := p) (d := d) hkp e)
      generalize p[k].kind = kd at *
      generalize p[k].sig = sg at *
      obtain ⟨y1, y2, y0, hb0⟩ := nodeBox wr (.int .i64 kd) (.int .i64 sg) 80
      have hB0 := bstep hbel hb0
      go_wp2_with fail
      refine (hasParts_any kd sg _).mono ?_
      rintro e w9 ⟨rfl, hb9⟩
      have B9 := bstep hB0 hb9
      clear hb9
      cases e9 : hasP kd
      · cases d with
        | zero =>
          have R := hide (show sizeP p = k + 1 by rw [unhide HS, unhide HL e9]; rfl)
          clear e9
          go_wp2_with fail
          go_ret
          exact ⟨ret_int (by rw [unhide R]; go_num), B9⟩
        | succ d =>
          have R := hide (show sizeP p = sizeF (d + 1) (k + 1) (p.drop (k + 1)) by rw [unhide HS, unhide HL e9]; rfl)
          have hne : ¬ ((d : Int) + 1 = 0) := by omega
          clear e9
          go_wp2_with fail
          exact ⟨⟨k + 1, d, by omega, by go_num, by go_num, by omega, unhide R, B9⟩, by simp [intOf]; omega⟩
      · have R := hide (show sizeP p = sizeF (d + 1 + 1) (k + 1) (p.drop (k + 1)) by rw [unhide HS, unhide HD e9])
        have hne : ¬ ((d : Int) + 2 = 0) := by omega
        clear e9
        go_wp2_with fail
        exact ⟨⟨k + 1, d + 1, by omega, by go_num, by go_num, by omega, unhide R, B9⟩, by simp [intOf]; omega⟩
    · have R := hide (show sizeP p = 0 by
        rw [unhide HS, List.drop_of_length_le (by have := unhide HN; omega)]; rfl)
      go_wp2_with fail
      go_ret
      exact ⟨ret_int (by rw [unhide R]; rfl), hbel⟩
end Go.Proofs.Ytongajonecgdpae
