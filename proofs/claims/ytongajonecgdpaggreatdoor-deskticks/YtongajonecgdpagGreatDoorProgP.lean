/- The program's prog: its small readers of nodes, size, Check. -/
import Derived.Test.YtongajonecgdpagGreatDoorProgM
namespace Go.Proofs.YtongajonecgdpagGreatDoor
open Go.RowKit

def kindOk (kd : Int) : Bool := decide (0 ≤ kd ∧ kd ≤ 8)
def sigB (kd sg : Int) : Bool := decide (0 ≤ sg ∧ sg ≤ mostS kd)
theorem nodeBox (w : World) (u v : Value) (T : TypeId) : (w.alloc (.cells #[u, v] T)).cell? ⟨w.heap.size, 0, none⟩ = some u ∧ (w.alloc (.cells #[u, v] T)).cell? ⟨w.heap.size, 1, none⟩ = some v ∧ w.heap.size < (w.alloc (.cells #[u, v] T)).heap.size ∧ Below w.heap.size w (w.alloc (.cells #[u, v] T)) := ⟨by simp, by simp, by simp, (Below.refl _ _).alloc (Nat.le_refl _) _⟩

set_option maxHeartbeats 1000000 in
theorem isOfNoKind_any (kd sg : Int) (w : World) :
    Calls Tryz.prog 56 #[.agg #[.int .i64 kd, .int .i64 sg]] w fun e w' => e = .returned (.bool (!kindOk kd)) ∧ Below w.heap.size w w' := by
  obtain ⟨y1, y2, y0, hb⟩ := nodeBox w (.int .i64 kd) (.int .i64 sg) 93
  by_cases h0 : kd < 0
  · have R := hide (show (!kindOk kd) = true by unfold kindOk; simp; omega)
    go_enter Tryz.func56, Tryz.ntmps56
    go_wp2_with fail
    go_ret
    exact ⟨ret_bool (unhide R).symm, hb⟩
  · by_cases h1 : 8 < kd
    · have R := hide (show (!kindOk kd) = true by unfold kindOk; simp; omega)
      go_enter Tryz.func56, Tryz.ntmps56
      go_wp2_with fail
      go_ret
      exact ⟨ret_bool (unhide R).symm, hb⟩
    · have R := hide (show (!kindOk kd) = false by unfold kindOk; simp; omega)
      go_enter Tryz.func56, Tryz.ntmps56
      go_wp2_with fail
      go_ret
      exact ⟨ret_bool (unhide R).symm, hb⟩
theorem most_cases (kd : Int) : (kd = 4 ∧ mostS kd = 2) ∨ (kd = 7 ∧ mostS kd = 2) ∨ (kd = 3 ∧ mostS kd = 2) ∨ (kd = 8 ∧ mostS kd = 2) ∨ (kd ≠ 4 ∧ kd ≠ 7 ∧ kd ≠ 3 ∧ kd ≠ 8 ∧ mostS kd = 0) := by
  by_cases e1 : kd = 4
  · exact Or.inl ⟨e1, by unfold mostS; simp [e1]⟩
  by_cases e2 : kd = 7
  · exact Or.inr (Or.inl ⟨e2, by unfold mostS; simp [e2]⟩)
  by_cases e3 : kd = 3
  · exact Or.inr (Or.inr (Or.inl ⟨e3, by unfold mostS; simp [e3]⟩))
  by_cases e4 : kd = 8
  · exact Or.inr (Or.inr (Or.inr (Or.inl ⟨e4, by unfold mostS; simp [e4]⟩)))
  exact Or.inr (Or.inr (Or.inr (Or.inr ⟨e1, e2, e3, e4, by unfold mostS; simp [e1, e2, e3, e4]⟩)))
set_option maxHeartbeats 1000000 in
theorem signals_any (kd : Int) (w : World) :
    Calls Tryz.prog 86 #[.int .i64 kd] w fun e w' => e = .returned (.int .i64 (mostS kd + 1)) ∧ w' = w := by
  rcases most_cases kd with ⟨rfl, h⟩ | ⟨rfl, h⟩ | ⟨rfl, h⟩ | ⟨rfl, h⟩ | ⟨e1, e2, e3, e4, h⟩
  all_goals
    rw [h]
    clear h
    go_enter Tryz.func86, Tryz.ntmps86
    go_wp2_with fail
    go_ret
    exact ⟨rfl, rfl⟩
set_option maxHeartbeats 1000000 in
theorem isSigOut_any (kd sg : Int) (w : World) :
    Calls Tryz.prog 57 #[.agg #[.int .i64 kd, .int .i64 sg]] w fun e w' => e = .returned (.bool (!sigB kd sg)) ∧ Below w.heap.size w w' := by
  obtain ⟨y1, y2, y0, hb⟩ := nodeBox w (.int .i64 kd) (.int .i64 sg) 93
  by_cases h0 : sg < 0
  · have R := hide (show (!sigB kd sg) = true by unfold sigB; simp; omega)
    have hd : decide (sg < 0) = true := by simp; omega
    go_enter Tryz.func57, Tryz.ntmps57
    go_wp2_with fail
    go_quiet (fail)
    go_wp2_with fail
    go_ret
    exact ⟨ret_bool (unhide R).symm, below_drewN hb _⟩
  · have hd : decide (sg < 0) = false := by simp; omega
    by_cases hx : mostS kd + 1 ≤ sg
    · have R := hide (show (!sigB kd sg) = true by unfold sigB; simp; omega)
      have hd2 : decide (mostS kd + 1 ≤ sg) = true := by simp only [decide_eq_true_iff]; exact hx
      have HC := signals_any kd
      generalize mostS kd = ms at *
      go_enter Tryz.func57, Tryz.ntmps57
      go_wp2_with fail
      go_quiet ((go_at_call 86; exact Calls.quiet_of_same (HC _)))
      go_wp2_with fail
      go_ret
      exact ⟨ret_bool (unhide R).symm, below_drewN hb _⟩
    · have R := hide (show (!sigB kd sg) = false by unfold sigB; simp; omega)
      have hd2 : decide (mostS kd + 1 ≤ sg) = false := by simp only [decide_eq_false_iff_not]; exact hx
      have HC := signals_any kd
      generalize mostS kd = ms at *
      go_enter Tryz.func57, Tryz.ntmps57
      go_wp2_with fail
      go_quiet ((go_at_call 86; exact Calls.quiet_of_same (HC _)))
      go_wp2_with fail
      go_ret
      exact ⟨ret_bool (unhide R).symm, below_drewN hb _⟩
theorem has_cases (kd : Int) : (kd = 5 ∧ hasP kd = true) ∨ (kd = 6 ∧ hasP kd = true) ∨ (kd = 7 ∧ hasP kd = true) ∨ (kd = 8 ∧ hasP kd = true) ∨ (kd ≠ 5 ∧ kd ≠ 6 ∧ kd ≠ 7 ∧ kd ≠ 8 ∧ hasP kd = false) := by
  unfold hasP
  by_cases e1 : kd = 5
  · exact Or.inl ⟨e1, by simp [e1]⟩
  by_cases e2 : kd = 6
  · exact Or.inr (Or.inl ⟨e2, by simp [e2]⟩)
  by_cases e3 : kd = 7
  · exact Or.inr (Or.inr (Or.inl ⟨e3, by simp [e3]⟩))
  by_cases e4 : kd = 8
  · exact Or.inr (Or.inr (Or.inr (Or.inl ⟨e4, by simp [e4]⟩)))
  exact Or.inr (Or.inr (Or.inr (Or.inr ⟨e1, e2, e3, e4, by rw [decide_eq_false_iff_not]; omega⟩)))
set_option maxHeartbeats 1000000 in
theorem hasParts_any (kd sg : Int) (w : World) :
    Calls Tryz.prog 88 #[.agg #[.int .i64 kd, .int .i64 sg]] w fun e w' => e = .returned (.bool (hasP kd)) ∧ Below w.heap.size w w' := by
  obtain ⟨y1, y2, y0, hb⟩ := nodeBox w (.int .i64 kd) (.int .i64 sg) 93
  rcases has_cases kd with ⟨rfl, h⟩ | ⟨rfl, h⟩ | ⟨rfl, h⟩ | ⟨rfl, h⟩ | ⟨e1, e2, e3, e4, h⟩
  all_goals
    rw [h]
    clear h
    go_enter Tryz.func88, Tryz.ntmps88
    go_wp2_with fail
    go_ret
    exact ⟨rfl, hb⟩
theorem wait_cases (kd : Int) : (kd = 1 ∧ waitK kd = true) ∨ (kd = 2 ∧ waitK kd = true) ∨ (kd = 4 ∧ waitK kd = true) ∨ (kd ≠ 1 ∧ kd ≠ 2 ∧ kd ≠ 4 ∧ waitK kd = false) := by
  unfold waitK
  by_cases e1 : kd = 1
  · exact Or.inl ⟨e1, by simp [e1]⟩
  by_cases e2 : kd = 2
  · exact Or.inr (Or.inl ⟨e2, by simp [e2]⟩)
  by_cases e3 : kd = 4
  · exact Or.inr (Or.inr (Or.inl ⟨e3, by simp [e3]⟩))
  exact Or.inr (Or.inr (Or.inr ⟨e1, e2, e3, by simp [e1, e2, e3]⟩))
set_option maxHeartbeats 1000000 in
theorem mayWait_any (kd sg : Int) (w : World) :
    Calls Tryz.prog 89 #[.agg #[.int .i64 kd, .int .i64 sg]] w fun e w' => e = .returned (.bool (waitK kd)) ∧ Below w.heap.size w w' := by
  obtain ⟨y1, y2, y0, hb⟩ := nodeBox w (.int .i64 kd) (.int .i64 sg) 93
  rcases wait_cases kd with ⟨rfl, h⟩ | ⟨rfl, h⟩ | ⟨rfl, h⟩ | ⟨e1, e2, e3, h⟩
  all_goals
    rw [h]
    clear h
    go_enter Tryz.func89, Tryz.ntmps89
    go_wp2_with fail
    go_ret
    exact ⟨rfl, hb⟩

set_option maxHeartbeats 1000000 in
theorem Index_isOfNoKind (p : List NodeD) (a : Option Addr) (n c : Nat) (w : World) (h : Nodes w a n p) :
    Calls Tryz.prog 85 #[.slice a n c, .func (.func 56) #[] #[]] w fun e w' => ∃ r, e = .returned (.int .i64 r) ∧ ((pkTo p p.length = false ∧ 0 ≤ r) ∨ (pkTo p p.length = true ∧ r = -1)) ∧ Below w.heap.size w w' := by
  have HN := hide h.1
  have hm : n ≤ maxLen := by rw [h.1]; exact h.2.1
  unfold maxLen at hm
  go_enter Tryz.func85, Tryz.ntmps85
  go_wp2_with fail
  go_loopw [8] (fun i' wr => ∃ k : Nat, k ≤ n ∧ i' = .int .i64 k ∧ pkTo p k = true ∧ Below w.heap.size w wr) (fun i' _ => n - (intOf i').toNat)
  case atStart => exact ⟨0, Nat.zero_le _, rfl, rfl, Below.refl _ _⟩
  case round =>
    obtain ⟨k, hk, rfl, hno, hbel⟩ := hrel
    by_cases hlt : k < n
    · have hkp : k < p.length := by have := unhide HN; omega
      have hki : (k : Int) < (n : Int) := by omega
      obtain ⟨b', off, rfl, hbb, c1, c2⟩ := (h.below hbel).at hkp
      have HNO := hide hno
      clear hno
      have HS := hide (pkTo_succ p k hkp)
      have HF := hide (fun e => pkTo_no (p := p) hkp e)
      go_wp2_with (go_at_call 56; refine (isOfNoKind_any p[k].kind p[k].sig _).mono ?_; rintro e w9 ⟨rfl, hb9⟩; cases e9 : kindOk p[k].kind)
      · have HN2 := hide (unhide HF e9)
        have B9 := bstep hbel hb9
        clear e9
        go_wp2_with fail
        go_ret
        exact ⟨_, rfl, Or.inl ⟨unhide HN2, by omega⟩, B9⟩
      · have HN2 := hide (show pkTo p (k + 1) = true by rw [unhide HS, unhide HNO]; exact e9)
        have B9 := bstep hbel hb9
        clear e9
        go_wp2_with fail
        exact ⟨⟨k + 1, by omega, by go_num, unhide HN2, B9⟩, by simp [intOf]; omega⟩
    · have HN2 := hide (show pkTo p p.length = true by
        have : k = p.length := by have := unhide HN; omega
        rw [← this]; exact hno)
      clear hno
      go_wp2_with fail
      go_ret
      exact ⟨_, rfl, Or.inr ⟨unhide HN2, rfl⟩, hbel⟩
theorem Contains_isOfNoKind (p : List NodeD) (a : Option Addr) (n c : Nat) (w : World) (h : Nodes w a n p) :
    Calls Tryz.prog 55 #[.slice a n c, .func (.func 56) #[] #[]] w fun e w' => e = .returned (.bool (!pkTo p p.length)) ∧ Below w.heap.size w w' := by
  go_enter Tryz.func55, Tryz.ntmps55
  go_wp2_with fail
  refine (Index_isOfNoKind p _ _ _ _ h).mono ?_
  rintro e w1 ⟨r, rfl, hr, hb⟩
  rcases hr with ⟨h1, h2⟩ | ⟨h1, rfl⟩
  · have HM := hide (show (!pkTo p p.length) = true by rw [h1]; rfl)
    clear h1
    go_wp2_with fail
    go_ret
    exact ⟨ret_bool (unhide HM).symm, hb⟩
  · have HM := hide (show (!pkTo p p.length) = false by rw [h1]; rfl)
    clear h1
    go_wp2_with fail
    go_ret
    exact ⟨ret_bool (unhide HM).symm, hb⟩

set_option maxHeartbeats 1000000 in
theorem Index_isSigOut (p : List NodeD) (a : Option Addr) (n c : Nat) (w : World) (h : Nodes w a n p) :
    Calls Tryz.prog 85 #[.slice a n c, .func (.func 57) #[] #[]] w fun e w' => ∃ r, e = .returned (.int .i64 r) ∧ ((psTo p p.length = false ∧ 0 ≤ r) ∨ (psTo p p.length = true ∧ r = -1)) ∧ Below w.heap.size w w' := by
  have HN := hide h.1
  have hm : n ≤ maxLen := by rw [h.1]; exact h.2.1
  unfold maxLen at hm
  go_enter Tryz.func85, Tryz.ntmps85
  go_wp2_with fail
  go_loopw [8] (fun i' wr => ∃ k : Nat, k ≤ n ∧ i' = .int .i64 k ∧ psTo p k = true ∧ Below w.heap.size w wr) (fun i' _ => n - (intOf i').toNat)
  case atStart => exact ⟨0, Nat.zero_le _, rfl, rfl, Below.refl _ _⟩
  case round =>
    obtain ⟨k, hk, rfl, hno, hbel⟩ := hrel
    by_cases hlt : k < n
    · have hkp : k < p.length := by have := unhide HN; omega
      have hki : (k : Int) < (n : Int) := by omega
      obtain ⟨b', off, rfl, hbb, c1, c2⟩ := (h.below hbel).at hkp
      have HNO := hide hno
      clear hno
      have HS := hide (psTo_succ p k hkp)
      have HF := hide (fun e => psTo_no (p := p) hkp e)
      go_wp2_with (go_at_call 57; refine (isSigOut_any p[k].kind p[k].sig _).mono ?_; rintro e w9 ⟨rfl, hb9⟩; cases e9 : sigB p[k].kind p[k].sig)
      · have HN2 := hide (unhide HF e9)
        have B9 := bstep hbel hb9
        clear e9
        go_wp2_with fail
        go_ret
        exact ⟨_, rfl, Or.inl ⟨unhide HN2, by omega⟩, B9⟩
      · have HN2 := hide (show psTo p (k + 1) = true by rw [unhide HS, unhide HNO]; exact e9)
        have B9 := bstep hbel hb9
        clear e9
        go_wp2_with fail
        exact ⟨⟨k + 1, by omega, by go_num, unhide HN2, B9⟩, by simp [intOf]; omega⟩
    · have HN2 := hide (show psTo p p.length = true by
        have : k = p.length := by have := unhide HN; omega
        rw [← this]; exact hno)
      clear hno
      go_wp2_with fail
      go_ret
      exact ⟨_, rfl, Or.inr ⟨unhide HN2, rfl⟩, hbel⟩
theorem Contains_isSigOut (p : List NodeD) (a : Option Addr) (n c : Nat) (w : World) (h : Nodes w a n p) :
    Calls Tryz.prog 55 #[.slice a n c, .func (.func 57) #[] #[]] w fun e w' => e = .returned (.bool (!psTo p p.length)) ∧ Below w.heap.size w w' := by
  go_enter Tryz.func55, Tryz.ntmps55
  go_wp2_with fail
  refine (Index_isSigOut p _ _ _ _ h).mono ?_
  rintro e w1 ⟨r, rfl, hr, hb⟩
  rcases hr with ⟨h1, h2⟩ | ⟨h1, rfl⟩
  · have HM := hide (show (!psTo p p.length) = true by rw [h1]; rfl)
    clear h1
    go_wp2_with fail
    go_ret
    exact ⟨ret_bool (unhide HM).symm, hb⟩
  · have HM := hide (show (!psTo p p.length) = false by rw [h1]; rfl)
    clear h1
    go_wp2_with fail
    go_ret
    exact ⟨ret_bool (unhide HM).symm, hb⟩

theorem size_leaf {p : List NodeD} {d k : Nat} (hk : k < p.length) (hp : hasP p[k].kind = false) : sizeF (d + 1) k (p.drop k) = if d = 0 then k + 1 else sizeF d (k + 1) (p.drop (k + 1)) := by
  rw [drop_at hk]
  show (if (if hasP p[k].kind then d + 1 + 1 else d + 1 - 1) = 0 then k + 1 else sizeF (if hasP p[k].kind then d + 1 + 1 else d + 1 - 1) (k + 1) (p.drop (k + 1))) = _
  rw [hp]; rfl
theorem size_node {p : List NodeD} {d k : Nat} (hk : k < p.length) (hp : hasP p[k].kind = true) : sizeF (d + 1) k (p.drop k) = sizeF (d + 2) (k + 1) (p.drop (k + 1)) := by
  rw [drop_at hk]
  show (if (if hasP p[k].kind then d + 1 + 1 else d + 1 - 1) = 0 then k + 1 else sizeF (if hasP p[k].kind then d + 1 + 1 else d + 1 - 1) (k + 1) (p.drop (k + 1))) = _
  rw [hp]; rfl
set_option maxHeartbeats 2000000 in
theorem size_any (p : List NodeD) (a : Option Addr) (n c : Nat) (w : World) (h : Nodes w a n p) (hn : n ≤ 14) :
    Calls Tryz.prog 87 #[.slice a n c] w fun e w' => e = .returned (.int .i64 (sizeP p : Nat)) ∧ Below w.heap.size w w' := by
  have HN := hide h.1
  go_enter Tryz.func87, Tryz.ntmps87
  go_wp2_with fail
  go_loopw [3, 8] (fun dv iv wr => ∃ k d : Nat, k ≤ n ∧ iv = .int .i64 k ∧ dv = .int .i64 ((d : Int) + 1) ∧ d ≤ k ∧ sizeP p = sizeF (d + 1) k (p.drop k) ∧ Below w.heap.size w wr) (fun _ iv _ => n - (intOf iv).toNat)
  case atStart => exact ⟨0, 0, Nat.zero_le _, rfl, rfl, Nat.le_refl _, rfl, Below.refl _ _⟩
  case round =>
    obtain ⟨k, d, hk, rfl, rfl, hd, hS, hbel⟩ := hrel
    have HS := hide hS
    clear hS
    by_cases hlt : k < n
    · have hkp : k < p.length := by have := unhide HN; omega
      have hki : (k : Int) < (n : Int) := by omega
      obtain ⟨b', off, rfl, hbb, c1, c2⟩ := (h.below hbel).at hkp
      have HL := hide (fun e => size_leaf (p := p) (d := d) hkp e)
      have HD := hide (fun e => size_node (p := p) (d := d) hkp e)
      generalize p[k].kind = kd at *
      generalize p[k].sig = sg at *
      obtain ⟨y1, y2, y0, hb0⟩ := nodeBox wr (.int .i64 kd) (.int .i64 sg) 93
      have hB0 := bstep hbel hb0
      go_wp2_with fail
      refine (hasParts_any kd sg _).mono ?_
      rintro e w9 ⟨rfl, hb9⟩
      have B9 := bstep hB0 hb9
      clear hb9
      cases e9 : hasP kd
      · cases d with
        | zero =>
          have R := hide (show sizeP p = k + 1 by rw [unhide HS, unhide HL e9]; rfl)
          clear e9
          go_wp2_with fail
          go_ret
          exact ⟨ret_int (by rw [unhide R]; go_num), B9⟩
        | succ d =>
          have R := hide (show sizeP p = sizeF (d + 1) (k + 1) (p.drop (k + 1)) by rw [unhide HS, unhide HL e9]; rfl)
          have hne : ¬ ((d : Int) + 1 = 0) := by omega
          clear e9
          go_wp2_with fail
          exact ⟨⟨k + 1, d, by omega, by go_num, by go_num, by omega, unhide R, B9⟩, by simp [intOf]; omega⟩
      · have R := hide (show sizeP p = sizeF (d + 1 + 1) (k + 1) (p.drop (k + 1)) by rw [unhide HS, unhide HD e9])
        have hne : ¬ ((d : Int) + 2 = 0) := by omega
        clear e9
        go_wp2_with fail
        exact ⟨⟨k + 1, d + 1, by omega, by go_num, by go_num, by omega, unhide R, B9⟩, by simp [intOf]; omega⟩
    · have R := hide (show sizeP p = 0 by
        rw [unhide HS, List.drop_of_length_le (by have := unhide HN; omega)]; rfl)
      go_wp2_with fail
      go_ret
      exact ⟨ret_int (by rw [unhide R]; rfl), hbel⟩

set_option maxHeartbeats 1000000 in
theorem isOneProgram_any (p : List NodeD) (a : Option Addr) (n c : Nat) (w : World) (h : Nodes w a n p) (hn : n ≤ 14) :
    Calls Tryz.prog 58 #[.slice a n c] w fun e w' => e = .returned (.bool (okF 1 p)) ∧ Below w.heap.size w w' := by
  have HN := hide h.1
  rw [← oneP_ok]
  by_cases h0 : n = 0
  · have R := hide (show oneP p = false by unfold oneP; rw [← unhide HN, h0]; rfl)
    subst h0
    go_enter Tryz.func58, Tryz.ntmps58
    go_wp2_with fail
    go_ret
    exact ⟨ret_bool (unhide R).symm, Below.refl _ _⟩
  · have hpos : (0 : Int) < (n : Int) := by omega
    go_enter Tryz.func58, Tryz.ntmps58
    go_wp2_with fail
    refine (size_any p _ _ _ _ h hn).mono ?_
    rintro e w1 ⟨rfl, hb⟩
    by_cases he : sizeP p = n
    · have R := hide (show oneP p = true by unfold oneP; rw [← unhide HN, he]; simp; omega)
      have hq : ((sizeP p : Int) == (n : Int)) = true := by simp [he]
      generalize sizeP p = sz at *
      clear he
      go_wp2_with fail
      go_ret
      exact ⟨ret_bool (unhide R).symm, hb⟩
    · have R := hide (show oneP p = false by unfold oneP; rw [← unhide HN]; simp [he])
      have hq : ((sizeP p : Int) == (n : Int)) = false := by simp; omega
      generalize sizeP p = sz at *
      clear he
      go_wp2_with fail
      go_ret
      exact ⟨ret_bool (unhide R).symm, hb⟩
set_option maxHeartbeats 2000000 in
theorem PCheck_any (p : List NodeD) (a : Option Addr) (n c : Nat) (w : World) (h : Nodes w a n p) :
    Calls Tryz.prog 27 #[.slice a n c] w fun e w' => e = .returned (.int .i64 (checkP p)) ∧ Below w.heap.size w w' := by
  have HN := hide h.1
  by_cases hm : p.length ≤ 14
  case neg =>
    have hni : (14 : Int) < (n : Int) := by have := unhide HN; omega
    have R := hide (show checkP p = 2 by unfold checkP; rw [if_neg hm])
    rw [unhide R]
    clear hm h
    go_enter Tryz.func27, Tryz.ntmps27
    go_wp2_with fail
    go_ret
    exact ⟨rfl, Below.refl _ _⟩
  have hn14 : n ≤ 14 := by have := unhide HN; omega
  have hni : ¬ (14 : Int) < (n : Int) := by omega
  have hH : checkP p = (if pkTo p p.length then (if psTo p p.length then (if okF 1 p then 0 else 1) else 3) else 4) := by unfold checkP; rw [if_pos hm]
  have HH := hide hH
  clear hH hm
  go_enter Tryz.func27, Tryz.ntmps27
  go_wp2_with fail
  refine (Contains_isOfNoKind p _ _ _ _ h).mono ?_
  rintro e w1 ⟨rfl, hb1⟩
  cases e1 : pkTo p p.length
  · have R := hide (show checkP p = 4 by rw [unhide HH, e1]; rfl)
    clear e1
    go_wp2_with fail
    go_ret
    exact ⟨ret_int (unhide R).symm, hb1⟩
  have H1 := hide e1
  clear e1
  go_wp2_with fail
  refine (Contains_isSigOut p _ _ _ _ (h.below hb1)).mono ?_
  rintro e w2 ⟨rfl, hb2⟩
  have B2 := bstep hb1 hb2
  cases e2 : psTo p p.length
  · have R := hide (show checkP p = 3 by rw [unhide HH, unhide H1, e2]; rfl)
    clear e2
    go_wp2_with fail
    go_ret
    exact ⟨ret_int (unhide R).symm, B2⟩
  have H2 := hide e2
  clear e2
  go_wp2_with fail
  refine (isOneProgram_any p _ _ _ _ (h.below B2) hn14).mono ?_
  rintro e w3 ⟨rfl, hb3⟩
  have B3 := bstep B2 hb3
  cases e3 : okF 1 p
  · have R := hide (show checkP p = 1 by rw [unhide HH, unhide H1, unhide H2, e3]; rfl)
    clear e3
    go_wp2_with fail
    go_ret
    exact ⟨ret_int (unhide R).symm, B3⟩
  · have R := hide (show checkP p = 0 by rw [unhide HH, unhide H1, unhide H2, e3]; rfl)
    clear e3
    go_wp2_with fail
    go_ret
    exact ⟨ret_int (unhide R).symm, B3⟩
theorem run_madeC (n : Nat) (h : n ≤ 200) : ∀ W : World, (Instr.makeSlice 33 (.int .i64 (n : Int)) (.int .i64 (n : Int))).run Tryz.prog W = .ok (.slice (some ⟨W.heap.size, 0, none⟩) n n) (W.alloc (.cells (bs (List.replicate n false)) 4)) := by
  obtain ⟨i0, hi, hz0, hz1, hz2⟩ := info_parts Tryz.infoBool
  intro W
  have hr := run_make (P := Tryz.prog) W 33 4 i0 (.bool false) Tryz.underlying33 hi hz0 .i64 .i64 n n (by omega) (Int.le_refl _) (by rw [hz2]; omega) (by omega)
  simp only [Int.toNat_natCast, hz1, Nat.mul_one] at hr
  have e1 : madeCells (Value.bool false).cells n = bs (List.replicate n false) := by
    apply Array.ext'
    have := toList_madeCells_one (Value.bool false) n
    rw [show (Value.bool false).cells = #[Value.bool false] from rfl, this]
    simp [bs]
  rw [e1] at hr
  exact hr
theorem BoolRow.onB {w w' : World} {g : Nat} {ys : List Bool} (h : BoolRow w g ys) (hb : Below w.heap.size w w') : BoolRow w' g ys := (hb.block g h.lt).trans h
theorem size_le14 {a b : Nat} (h : a = b) (h' : b ≤ 14) : a ≤ 14 := by omega
theorem Nodes.part {w : World} {b off n : Nat} {p : List NodeD} (h : Nodes w (some ⟨b, off, Option.none⟩) n p) {k m : Nat} (hk : k < n) (hm : m = n - k) : Nodes w (some ⟨b, off + k * 2, Option.none⟩) m (p.drop k) := by
  obtain ⟨h1, h2, h3⟩ := h
  refine ⟨by rw [hm, List.length_drop, h1], by rw [List.length_drop]; omega, ?_⟩
  rcases h3 with h3 | ⟨b', off', ha, hlt, hc⟩
  · rw [h3] at h1; simp at h1; omega
  · simp at ha
    obtain ⟨rfl, rfl⟩ := ha
    refine Or.inr ⟨b, off + k * 2, rfl, hlt, fun i hi => ?_⟩
    have hi' : k + i < p.length := by rw [List.length_drop] at hi; omega
    have := hc (k + i) hi'
    rw [List.getElem_drop]
    rw [show off + k * 2 + i * 2 = off + (k + i) * 2 by omega]
    exact this

set_option maxHeartbeats 2000000 in
theorem PParts_any (p : List NodeD) (a : Option Addr) (n c : Nat) (k : Int) (w : World) (h : Nodes w a n p) (hc : n ≤ c) :
    Calls Tryz.prog 63 #[.slice a n c, .int .i64 k] w fun e w' => PartsRet p k e ∧ Below w.heap.size w w' := by
  have HN := hide h.1
  by_cases e0 : checkP p = 0
  case neg =>
    have hq : (checkP p != 0) = true := by simp [e0]
    have HE := hide (show partsE p k = checkP p by unfold partsE; rw [if_neg e0])
    have R := hide (parts_no (p := p) (k := k) (by rw [unhide HE]; exact e0))
    clear e0
    go_enter Tryz.func63, Tryz.ntmps63
    go_wp2_with fail
    refine (PCheck_any p _ _ _ _ h).mono ?_
    rintro e w' ⟨rfl, hb⟩
    obtain ⟨ck, hck⟩ : ∃ ck, checkP p = ck := ⟨_, rfl⟩
    rw [hck] at hq ⊢
    rw [hck] at HE
    clear hck
    go_wp2_with fail
    exact bodyPost_ret (v := .tuple #[.int .i64 0, .int .i64 0, .int .i64 0, .int .i64 ck]) (by simp [results, Tryz.results63, go_sem]) rfl ⟨parts_ret (unhide R).1 (unhide R).2.1 (unhide R).2.2 (unhide HE), hb⟩
  have hok := pok_of e0
  have hn14 : n ≤ 14 := by have := hok.few; have := unhide HN; omega
  have HE0 := hide e0
  by_cases hk : 0 ≤ k ∧ k < p.length
  case neg =>
    have HE := hide (show partsE p k = 3 by unfold partsE; rw [if_pos e0, if_neg hk])
    have R := hide (parts_no (p := p) (k := k) (by rw [unhide HE]; decide))
    have hd : k < 0 ∨ (¬ k < 0 ∧ (n : Int) ≤ k) := by have := unhide HN; omega
    clear e0 hk hok
    go_enter Tryz.func63, Tryz.ntmps63
    go_wp2_with fail
    refine (PCheck_any p _ _ _ _ h).mono ?_
    rintro e w' ⟨rfl, hb⟩
    rw [unhide HE0]
    rcases hd with hd | ⟨hd, hd2⟩
    · go_wp2_with fail
      exact bodyPost_ret (v := .tuple #[.int .i64 0, .int .i64 0, .int .i64 0, .int .i64 3]) (by simp [results, Tryz.results63, go_sem]) rfl ⟨parts_ret (unhide R).1 (unhide R).2.1 (unhide R).2.2 (unhide HE), hb⟩
    · go_wp2_with fail
      exact bodyPost_ret (v := .tuple #[.int .i64 0, .int .i64 0, .int .i64 0, .int .i64 3]) (by simp [results, Tryz.results63, go_sem]) rfl ⟨parts_ret (unhide R).1 (unhide R).2.1 (unhide R).2.2 (unhide HE), hb⟩
  obtain ⟨x, rfl⟩ := Int.eq_ofNat_of_zero_le hk.1
  have hx : x < p.length := by omega
  have hxi : (x : Int) < (n : Int) := by have := unhide HN; omega
  have HE := hide (show partsE p (x : Int) = 0 by unfold partsE; rw [if_pos e0, if_pos hk])
  have hd : ¬ (x : Int) < 0 := by omega
  have hd2 : ¬ (n : Int) ≤ (x : Int) := by omega
  have hnl : n = p.length := unhide HN
  clear e0 hk
  obtain ⟨b, off, rfl, hbb, c1, c2⟩ := h.at hx
  cases hp : hasP p[x].kind
  · have R := hide (parts_leaf (unhide HE) hx hp)
    have HP := hide hp
    clear hp hok hnl
    go_enter Tryz.func63, Tryz.ntmps63
    go_wp2_with fail
    refine (PCheck_any p _ _ _ _ h).mono ?_
    rintro e w1 ⟨rfl, hb⟩
    rw [unhide HE0]
    have c3 := (hb.cell (p := ⟨b, off + x * 2, none⟩) hbb).trans c1
    have c4 := (hb.cell (p := ⟨b, off + x * 2 + 1, none⟩) hbb).trans c2
    clear c1 c2
    generalize p[x].kind = kd at *
    generalize p[x].sig = sg at *
    go_wp2_with fail
    refine (hasParts_any kd sg _).mono ?_
    rintro e w2 ⟨rfl, hb2⟩
    have B2 := bstep hb hb2
    rw [unhide HP]
    go_wp2_with fail
    exact bodyPost_ret (v := .tuple #[.int .i64 0, .int .i64 0, .int .i64 ((x : Int) + 1), .int .i64 0]) (by simp [results, Tryz.results63, go_sem]) rfl ⟨parts_ret (unhide R).1 (unhide R).2.1 (unhide R).2.2 (unhide HE), B2⟩
  · have R := hide (parts_node (unhide HE) hx hp)
    obtain ⟨h1, h2⟩ := end_two hok.form hx hp
    have hz1 := size_end hok.form h1
    have hz2 := size_end hok.form h2
    have hen := end_node hx hp
    have hle := end_le hok.form hx
    have HP := hide hp
    have hn2 : x + 1 < n := by omega
    have hn3 : endP p (x + 1) < n := by omega
    have hle14 : endP p x ≤ 14 := by omega
    have hgt := end_gt h1
    have HZ := hide (And.intro hz1 (And.intro hz2 (And.intro hen hle)))
    clear hp hen hz1 hz2 hle h1 h2 hok hnl
    generalize he1 : endP p (x + 1) = e1 at *
    clear he1
    go_enter Tryz.func63, Tryz.ntmps63
    go_wp2_with fail
    refine (PCheck_any p _ _ _ _ h).mono ?_
    rintro e w1 ⟨rfl, hb⟩
    rw [unhide HE0]
    have c3 := (hb.cell (p := ⟨b, off + x * 2, none⟩) hbb).trans c1
    have c4 := (hb.cell (p := ⟨b, off + x * 2 + 1, none⟩) hbb).trans c2
    clear c1 c2
    generalize p[x].kind = kd at *
    generalize p[x].sig = sg at *
    go_wp2_with fail
    refine (hasParts_any kd sg _).mono ?_
    rintro e w2 ⟨rfl, hb2⟩
    have B2 := bstep hb hb2
    rw [unhide HP]
    go_wp2_with fail
    have hP1 := (h.below B2).part (k := x + 1) (m := n - (x + 1)) hn2 rfl
    refine (size_any _ _ _ _ _ hP1 (by omega)).mono ?_
    rintro e w3 ⟨rfl, hb3⟩
    have B3 := bstep B2 hb3
    obtain ⟨z1, hz1⟩ : ∃ z1, sizeP (p.drop (x + 1)) = z1 := ⟨_, rfl⟩
    rw [hz1]
    rw [hz1] at HZ
    have he1 : e1 = x + 1 + z1 := (unhide HZ).1.symm
    have HE1 := hide he1
    have hz14 : x + 1 + z1 < n := by omega
    subst he1
    have HZ2 := hide (show x + 1 + z1 + sizeP (p.drop (x + 1 + z1)) = endP p x by rw [(unhide HZ).2.1, (unhide HZ).2.2.1])
    clear hz1 HZ hP1 hb3
    go_wp2_with fail
    have hP2 := (h.below B3).part (k := x + 1 + z1) (m := n - (x + 1 + z1)) hz14 rfl
    refine (size_any _ _ _ _ _ hP2 (by omega)).mono ?_
    rintro e w4 ⟨rfl, hb4⟩
    have B4 := bstep B3 hb4
    obtain ⟨z2, hz2⟩ : ∃ z2, sizeP (p.drop (x + 1 + z1)) = z2 := ⟨_, rfl⟩
    rw [hz2]
    rw [hz2] at HZ2
    have hlast : x + 1 + z1 + z2 ≤ 14 := by
      have h8 := size_le14 (unhide HZ2) hle14
      exact h8
    clear hz2 hP2 hb4
    go_wp2_with fail
    exact bodyPost_ret (v := .tuple #[.int .i64 ((x : Int) + 1), .int .i64 ((x : Int) + 1 + z1), .int .i64 ((x : Int) + 1 + z1 + z2), .int .i64 0]) (by simp [results, Tryz.results63, go_sem]) rfl ⟨parts_ret (unhide R).1 (by rw [(unhide R).2.1]; go_num) (by rw [(unhide R).2.2, ← unhide HZ2]; go_num) (unhide HE), B4⟩

/-- What Waits answers. -/
def WaitsRet (p : List NodeD) (w w' : World) (e : Ending) : Prop := ∃ a n c, e = .returned (.tuple #[.slice a n c, .int .i64 (checkP p)]) ∧ Bools w' a n (if checkP p = 0 then waitsV p else []) ∧ Below w.heap.size w w'
theorem waits_set (p : List NodeD) {k : Nat} (hk : k < p.length) : ((waitsV p).take k ++ List.replicate (p.length - k) false).set k (waitK p[k].kind) = (waitsV p).take (k + 1) ++ List.replicate (p.length - (k + 1)) false := by
  have hl : ((waitsV p).take k).length = k := by simp [waitsV]; omega
  have h' : k < (waitsV p).length := by simpa [waitsV] using hk
  rw [List.set_append_right (s := (waitsV p).take k) k _ (by omega), hl, Nat.sub_self, List.take_succ_eq_append_getElem h']
  have : p.length - k = (p.length - (k + 1)) + 1 := by omega
  rw [this, List.replicate_succ]
  simp [waitsV]
set_option maxHeartbeats 2000000 in
theorem PWaits_any (p : List NodeD) (a : Option Addr) (n c : Nat) (w : World) (h : Nodes w a n p) :
    Calls Tryz.prog 64 #[.slice a n c] w fun e w' => WaitsRet p w w' e := by
  have HN := hide h.1
  go_enter Tryz.func64, Tryz.ntmps64
  go_wp2_with fail
  refine (PCheck_any p _ _ _ _ h).mono ?_
  rintro e w1 ⟨rfl, hb1⟩
  by_cases e0 : checkP p = 0
  case neg =>
    have hq : (checkP p != 0) = true := by simp [e0]
    have R := hide (show (if checkP p = 0 then waitsV p else []) = [] by rw [if_neg e0])
    obtain ⟨ck, hck⟩ : ∃ ck, checkP p = ck := ⟨_, rfl⟩
    have HCK := hide hck
    rw [hck] at hq ⊢
    clear e0 hck
    go_wp2_with fail
    go_ret2
    exact ⟨none, 0, 0, ret_sl (unhide HCK).symm, by rw [unhide R]; exact Bools.nothing _, hb1⟩
  have hn14 : n ≤ 14 := by have := (pok_of e0).few; have := unhide HN; omega
  have R := hide (show (if checkP p = 0 then waitsV p else []) = waitsV p by rw [if_pos e0])
  have HCK := hide e0
  rw [e0]
  clear e0
  have hP1 := h.below hb1
  clear h
  have hmk : ∀ W : World, (Instr.makeSlice 33 (.int .i64 (n : Int)) (.int .i64 (n : Int))).run Tryz.prog W = .ok (.slice (some ⟨W.heap.size, 0, none⟩) n n) (W.alloc (.cells (bs (List.replicate n false)) 4)) := run_madeC n (by omega)
  have hrow0 : BoolRow (w1.alloc (.cells (bs (List.replicate n false)) 4)) w1.heap.size (List.replicate n false) := heap_alloc_new w1 _
  have hbA := (Below.refl _ w1).alloc (Nat.le_refl _) (.cells (bs (List.replicate n false)) 4)
  go_wp2_with fail
  generalize hw2 : w1.alloc (.cells (bs (List.replicate n false)) 4) = w2 at *
  clear hw2
  obtain ⟨g, hg⟩ : ∃ g, w1.heap.size = g := ⟨_, rfl⟩
  have HG := hide hg
  rw [hg] at hrow0
  rw [hg]
  clear hg
  go_loopw [18] (fun iv wr => ∃ k : Nat, k ≤ n ∧ iv = .int .i64 k ∧ BoolRow wr g ((waitsV p).take k ++ List.replicate (p.length - k) false) ∧ Below g w1 wr) (fun iv _ => n - (intOf iv).toNat)
  case atStart => exact ⟨0, Nat.zero_le _, rfl, by simpa [← unhide HN] using hrow0, by rw [← unhide HG]; exact hbA⟩
  case round =>
    obtain ⟨k, hk, rfl, hrow, hbel⟩ := hrel
    by_cases hlt : k < n
    · have hkp : k < p.length := by have := unhide HN; omega
      have hki : (k : Int) < (n : Int) := by omega
      have hbel' : Below w1.heap.size w1 wr := by rw [unhide HG]; exact hbel
      obtain ⟨b', off, rfl, hbb, c1, c2⟩ := (hP1.below hbel').at hkp
      have HS := hide (waits_set p hkp)
      obtain ⟨rw0, hrw0⟩ : ∃ rw0, (waitsV p).take k ++ List.replicate (p.length - k) false = rw0 := ⟨_, rfl⟩
      have hlen : rw0.length = n := by rw [← hrw0, unhide HN]; simp [waitsV]; omega
      rw [hrw0] at hrow HS
      clear hrw0
      generalize p[k].kind = kd at *
      generalize p[k].sig = sg at *
      obtain ⟨y1, y2, y0, hb0⟩ := nodeBox wr (.int .i64 kd) (.int .i64 sg) 93
      have hrow1 := hrow.onB hb0
      have hbl : g < wr.heap.size := hrow.lt
      go_wp2_with fail
      refine (mayWait_any kd sg _).mono ?_
      rintro e w9 ⟨rfl, hb9⟩
      have hrow2 := hrow1.onB hb9
      have hB9 : Below g w1 w9 := (hbel.trans (hb0.mono (Nat.le_of_lt hbl))).trans (hb9.mono (by have := hb0.size; omega))
      clear hb9 hrow1 hrow
      have hcl := hrow2.cell k (by omega)
      have hfz := hrow2.frozen k
      have hlt9 := hrow2.lt
      have R9 := hide (And.intro (hrow2.set k (waitK kd)) (hB9.setCell (p := ⟨g, k, none⟩) (Nat.le_refl _) (.bool (waitK kd))))
      rw [unhide HS] at R9
      generalize waitK kd = wk at *
      clear hB9 hrow2
      go_wp2_with fail
      exact ⟨⟨k + 1, by omega, by go_num, (unhide R9).1, (unhide R9).2⟩, by simp [intOf]; omega⟩
    · have hkn : k = p.length := by have := unhide HN; omega
      have hrow3 : BoolRow wr g (waitsV p) := by
        have : (waitsV p).take k ++ List.replicate (p.length - k) false = waitsV p := by
          rw [hkn, List.take_of_length_le (by simp [waitsV])]; simp
        rw [← this]; exact hrow
      have B9 : Below w.heap.size w wr := bstep hb1 (by rw [unhide HG]; exact hbel)
      have hbs : Bools wr (some ⟨g, 0, none⟩) n (waitsV p) := by
        have := hrow3.bools (by simp [waitsV]; have := unhide HN; unfold maxLen; omega)
        rwa [show (waitsV p).length = n by simp [waitsV]; exact (unhide HN).symm] at this
      clear hrow hkn hrow3
      go_wp2_with fail
      go_ret2
      exact ⟨_, _, _, ret_sl (unhide HCK).symm, by rw [unhide R]; exact hbs, B9⟩
end Go.Proofs.YtongajonecgdpagGreatDoor
