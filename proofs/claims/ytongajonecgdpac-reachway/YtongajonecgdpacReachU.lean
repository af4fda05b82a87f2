/- The document's reach: two rows of rows in memory. -/
import Derived.Test.YtongajonecgdpacReachT
namespace Go.Proofs.Ytongajonecgdpac
open Go.RowKit Go.Maps

/-- Rows of numbers that lie in none of the blocks G. -/
def RG (w : World) (G : List (Option Nat)) (vs : List Value) (xss : List (List Int)) : Prop :=
  vs.length = xss.length ∧ ∀ i (_ : i < xss.length), ∃ a n c, vs[i]? = some (.slice a n c) ∧ OffG w G a n (xss.getD i [])
def NilOk (vs : List Value) : Prop := ∀ (i n c : Nat), vs[i]? = some (Value.slice none n c) → n = 0 ∧ c = 0
theorem RG.kept {w w' : World} {G G' : List (Option Nat)} {vs : List Value} {xss : List (List Int)} (h : RG w G vs xss) (hk : Kept w w' G) (hG : ∀ b, b < w.heap.size → some b ∉ G → some b ∉ G') : RG w' G' vs xss :=
  ⟨h.1, fun i hi => by obtain ⟨a, n, c, e, o⟩ := h.2 i hi; exact ⟨a, n, c, e, o.kept hk hG⟩⟩
theorem RG.snoc {w : World} {G : List (Option Nat)} {vs : List Value} {xss : List (List Int)} {a : Option Addr} {n c : Nat} {x : List Int} (h : RG w G vs xss) (hx : OffG w G a n x) : RG w G (vs ++ [.slice a n c]) (xss ++ [x]) := by
  obtain ⟨h1, h2⟩ := h
  refine ⟨by simp [h1], fun i hi => ?_⟩
  have hi' : i < xss.length + 1 := by simpa using hi
  by_cases e : i < xss.length
  · obtain ⟨a0, n0, c0, e1, o⟩ := h2 i e
    refine ⟨a0, n0, c0, ?_, ?_⟩
    · rw [List.getElem?_append_left (by omega)]; exact e1
    · rw [getD_more rfl e]; exact o
  · have ei : i = xss.length := by omega
    subst ei
    refine ⟨a, n, c, ?_, ?_⟩
    · rw [List.getElem?_append_right (by omega), h1]; simp
    · simpa [List.getD_eq_getElem?_getD] using hx
theorem NilOk.snoc {vs : List Value} {a : Option Addr} {n c : Nat} (h : NilOk vs) (ha : a ≠ none) : NilOk (vs ++ [.slice a n c]) := by
  intro i n' c' e
  by_cases hi : i < vs.length
  · rw [List.getElem?_append_left hi] at e; exact h i n' c' e
  · rw [List.getElem?_append_right (by omega)] at e
    by_cases h0 : i - vs.length = 0
    · rw [h0] at e; simp at e; exact absurd e.1 ha
    · rw [List.getElem?_eq_none (by simp; omega)] at e; simp at e

structure RW (w : World) (B : Nat) (v1 v2 : Value) (sts ws : List (List Int)) : Prop where
  ap : v1.ownBlock ≠ v2.ownBlock
  r1 : ∃ vs, w.ownsRow B 24 1 v1 sts.length vs ∧ RG w [v1.ownBlock, v2.ownBlock] vs sts
  r2 : ∃ vs, w.ownsRow B 24 1 v2 ws.length vs ∧ RG w [v1.ownBlock, v2.ownBlock] vs ws ∧ NilOk vs
theorem RW.below {w w' : World} {B : Nat} {v1 v2 : Value} {sts ws : List (List Int)} (h : RW w B v1 v2 sts ws) (hb : Below w.heap.size w w') : RW w' B v1 v2 sts ws := by
  refine ⟨h.ap, ?_, ?_⟩
  · obtain ⟨vs, h1, h2⟩ := h.r1
    exact ⟨vs, ownsRow_below h1 hb, h2.kept (Kept.of_below hb _) (fun _ _ h => h)⟩
  · obtain ⟨vs, h1, h2, h3⟩ := h.r2
    exact ⟨vs, ownsRow_below h1 hb, h2.kept (Kept.of_below hb _) (fun _ _ h => h), h3⟩
theorem RW.lt {w : World} {B : Nat} {v1 v2 : Value} {sts ws : List (List Int)} (h : RW w B v1 v2 sts ws) : ∀ j, some j ∈ [v1.ownBlock, v2.ownBlock] → j < w.heap.size := by
  intro j hj
  simp only [List.mem_cons, List.not_mem_nil, or_false] at hj
  rcases hj with hj | hj
  · obtain ⟨vs, h1, _⟩ := h.r1; exact (h1.lt j hj.symm).2
  · obtain ⟨vs, h1, _⟩ := h.r2; exact (h1.lt j hj.symm).2
theorem row_at {w : World} {B : Nat} {v : Value} {vs : List Value} {xss : List (List Int)} {G : List (Option Nat)} (hrow : w.ownsRow B 24 1 v xss.length vs) (hG : RG w G vs xss) {i : Nat} (hi : i < xss.length) :
    ∃ g cap a n c, v = .slice (some ⟨g, 0, none⟩) xss.length cap ∧ g < w.heap.size ∧ w.cell? ⟨g, i, none⟩ = some (.slice a n c) ∧ vs[i]? = some (.slice a n c) ∧ OffG w G a n (xss.getD i []) := by
  obtain ⟨a, n, c, e1, o⟩ := hG.2 i hi
  rcases hrow.2 with ⟨h2, h3⟩ | ⟨g, cap, cur, h2, h4, h5, _⟩
  · omega
  · have hg : v.ownBlock = some g := by rw [h2]; rfl
    have q1 := hrow.cells hg _ _ e1
    rw [addr_plus, Nat.zero_add] at q1
    exact ⟨g, cap, a, n, c, h2, (Array.getElem?_eq_some_iff.1 h5).1, q1, e1, o⟩
theorem RW.at1 {w : World} {B : Nat} {v1 v2 : Value} {sts ws : List (List Int)} (h : RW w B v1 v2 sts ws) {i : Nat} (hi : i < sts.length) :
    ∃ g cap a n c, v1 = .slice (some ⟨g, 0, none⟩) sts.length cap ∧ g < w.heap.size ∧ w.cell? ⟨g, i, none⟩ = some (.slice a n c) ∧ Ints w a n (sts.getD i []) := by
  obtain ⟨vs, h1, h2⟩ := h.r1
  obtain ⟨g, cap, a, n, c, e1, e2, e3, _, o⟩ := row_at h1 h2 hi
  exact ⟨g, cap, a, n, c, e1, e2, e3, o.1⟩
theorem RW.at2 {w : World} {B : Nat} {v1 v2 : Value} {sts ws : List (List Int)} (h : RW w B v1 v2 sts ws) {i : Nat} (hi : i < ws.length) :
    ∃ g cap a n c, v2 = .slice (some ⟨g, 0, none⟩) ws.length cap ∧ g < w.heap.size ∧ w.cell? ⟨g, i, none⟩ = some (.slice a n c) ∧ Ints w a n (ws.getD i []) ∧ (a = none → n = 0 ∧ c = 0) := by
  obtain ⟨vs, h1, h2, h3⟩ := h.r2
  obtain ⟨g, cap, a, n, c, e1, e2, e3, e4, o⟩ := row_at h1 h2 hi
  exact ⟨g, cap, a, n, c, e1, e2, e3, o.1, fun hn => by subst hn; exact h3 i n c e4⟩
theorem RW.rows {w : World} {B : Nat} {v1 v2 : Value} {sts ws : List (List Int)} (h : RW w B v1 v2 sts ws) (hm : sts.length ≤ maxLen) : ∃ a c, v1 = .slice a sts.length c ∧ Rows w a sts.length sts := by
  obtain ⟨vs, h1, h2⟩ := h.r1
  have hR : RowsOff w v1.ownBlock vs sts := ⟨h2.1, fun i hi => by
    obtain ⟨a, n, c, e, o⟩ := h2.2 i hi
    have hget : sts.getD i [] = sts[i] := by simp [List.getD_eq_getElem?_getD, hi]
    rw [hget] at o
    refine ⟨a, n, c, e, o.1, ?_⟩
    rcases o.2 with h | ⟨b, off, ha, hl, hn⟩
    · exact Or.inl h
    · exact Or.inr ⟨b, off, ha, hl, fun hh => hn (by rw [← hh]; simp)⟩⟩
  obtain ⟨a, cap, e1, e2, _⟩ := own_rows h1 hm hR
  exact ⟨a, cap, e1, e2⟩
/-- The two rows, as they are laid. -/
theorem RW.start (w : World) (a : Option Addr) (n c : Nat) (x : List Int) (h : Ints w a n x) :
    RW ((w.alloc (.cells #[.slice a n c] 24)).alloc (.cells #[.slice none 0 0] 24)) w.heap.size (.slice (some ⟨w.heap.size, 0, none⟩) 1 1) (.slice (some ⟨w.heap.size + 1, 0, none⟩) 1 1) [x] [[]] := by
  have hs : (w.alloc (.cells #[.slice a n c] 24)).heap.size = w.heap.size + 1 := by simp
  have hb : Below w.heap.size w ((w.alloc (.cells #[.slice a n c] 24)).alloc (.cells #[.slice none 0 0] 24)) := ((Below.refl _ w).alloc (Nat.le_refl _) _).alloc (by simp) _
  refine ⟨by simp [Value.ownBlock], ⟨[.slice a n c], ?_, ?_⟩, ⟨[.slice none 0 0], ?_, ?_, ?_⟩⟩
  · exact (World.ownsRow_lit w #[.slice a n c] 1 (Nat.le_refl _) (by unfold maxLen; omega) rfl).alloc _
  · refine ⟨rfl, fun i hi => ?_⟩
    have : i = 0 := by simp at hi; exact hi
    subst this
    exact ⟨a, n, c, rfl, OffG.early h hb (fun j hj => by simp [Value.ownBlock] at hj; omega)⟩
  · have := World.ownsRow_lit (base := w.heap.size) (e := 24) (size := 1) (w.alloc (.cells #[.slice a n c] 24)) #[.slice none 0 0] 1 (by simp) (by unfold maxLen; omega) rfl
    rw [hs] at this
    exact this
  · refine ⟨rfl, fun i hi => ?_⟩
    have : i = 0 := by simp at hi; exact hi
    subst this
    exact ⟨none, 0, 0, rfl, Ints.none _, Or.inl rfl⟩
  · intro i n' c' e
    by_cases h0 : i = 0
    · subst h0; simp at e; exact ⟨e.1.symm, e.2.symm⟩
    · rw [List.getElem?_eq_none (by simp; omega)] at e; simp at e
/-- Both rows grow by one. -/
theorem RW.push {w w3 w4 : World} {B : Nat} {v1 v2 v1' v2' : Value} {sts ws : List (List Int)} (h : RW w B v1 v2 sts ws) {na ya : Option Addr} {nn nc yn yc : Nat} {x y : List Int}
    (hX : OffG w [v1.ownBlock, v2.ownBlock] na nn x) (hY : OffG w [v1.ownBlock, v2.ownBlock] ya yn y) (hya : ya ≠ none) (hB : B ≤ w.heap.size)
    (vs1 : List Value) (hg1 : RG w [v1.ownBlock, v2.ownBlock] vs1 sts) (ho1 : w3.ownsRow B 24 1 v1' (sts.length + 1) (vs1 ++ [.slice na nn nc])) (gr1 : (w.alloc (.cells #[.slice na nn nc] 24)).grownBy w3 v1.ownBlock) (lo1 : v1'.ownBlock = v1.ownBlock ∨ v1'.ownBlock = some (w.heap.size + 1))
    (vs2 : List Value) (hg2 : RG w [v1.ownBlock, v2.ownBlock] vs2 ws) (hn2 : NilOk vs2) (ho2 : w4.ownsRow B 24 1 v2' (ws.length + 1) (vs2 ++ [.slice ya yn yc])) (gr2 : (w3.alloc (.cells #[.slice ya yn yc] 24)).grownBy w4 v2.ownBlock) (lo2 : v2'.ownBlock = v2.ownBlock ∨ v2'.ownBlock = some (w3.heap.size + 1)) :
    RW w4 B v1' v2' (sts ++ [x]) (ws ++ [y]) ∧ Below B w w4 := by
  have hlt := h.lt
  have al1 := (Below.refl w.heap.size w).alloc (Nat.le_refl _) (.cells #[.slice na nn nc] 24)
  have al2 := (Below.refl w3.heap.size w3).alloc (Nat.le_refl _) (.cells #[.slice ya yn yc] 24)
  have hs1 : w.heap.size + 1 ≤ w3.heap.size := by have := gr1.size; simpa using this
  have l1 := ho1.lt
  have hap := h.ap
  have nb1 : v1'.ownBlock ≠ v2.ownBlock := by
    rcases lo1 with e | e <;> rw [e]
    · exact hap
    · intro hh; have := hlt (w.heap.size + 1) (by simp [hh]); omega
  have nb2 : v1'.ownBlock ≠ v2'.ownBlock := by
    rcases lo2 with e | e <;> rw [e]
    · exact nb1
    · intro hh; have := (l1 _ hh).2; omega
  have kp : Kept w w4 [v1.ownBlock, v2.ownBlock] := (((Kept.of_below al1 _).trans (Kept.of_grown gr1 (by simp))).trans (Kept.of_below al2 _)).trans (Kept.of_grown gr2 (by simp))
  have gG : ∀ b, b < w.heap.size → some b ∉ [v1.ownBlock, v2.ownBlock] → some b ∉ [v1'.ownBlock, v2'.ownBlock] := by
    intro b hb hn hh
    simp only [List.mem_cons, List.not_mem_nil, or_false] at hn hh
    rcases hh with hh | hh
    · rcases lo1 with e | e
      · exact hn (Or.inl (hh.trans e))
      · rw [e] at hh; injection hh with hh; omega
    · rcases lo2 with e | e
      · exact hn (Or.inr (hh.trans e))
      · rw [e] at hh; injection hh with hh; omega
  have hb1 : Below B w w3 := ((Below.refl B w).alloc hB _).grown gr1 (by simp; omega) (fun j hj => by obtain ⟨vs, q, _⟩ := h.r1; exact (q.lt j hj).1)
  have hb2 : Below B w w4 := (hb1.alloc (Nat.le_trans hB hb1.size) _).grown gr2 (by have := hb1.size; simp; omega) (fun j hj => by obtain ⟨vs, q, _⟩ := h.r2; exact (q.lt j hj).1)
  refine ⟨⟨nb2, ⟨_, by simpa using ((ho1.alloc _).kept gr2 (Or.inr nb1)), (hg1.kept kp gG).snoc (hX.kept kp gG)⟩, ⟨_, by simpa using ho2, (hg2.kept kp gG).snoc (hY.kept kp gG), hn2.snoc hya⟩⟩, hb2⟩

/-- A list of numbers, appended: the run itself. -/
theorem app_ints {w : World} (base : Nat) (v : Value) (n : Nat) (ys : List Int) (hown : w.ownsRow base 3 1 v n (ys.map (fun x => Value.int .i64 x)))
    (xs : List Int) (la : Option Addr) (m c : Nat) (hc : la = none → m = 0 ∧ c = 0) (hI : Ints w la m xs) (hnm : n + m ≤ 1000) (hbase : base ≤ w.heap.size) :
    ∃ v' w', (Builtin.append_ #[24, 24] 24 #[v, .slice la m c]).run Try.prog w = .ok v' w' ∧ w'.ownsRow base 3 1 v' (n + m) ((ys ++ xs).map (fun x => Value.int .i64 x)) ∧ Below base w w' := by
  obtain ⟨i0, hi, hz0, hz1, hz2⟩ := info_parts Try.infoInt
  cases la with
  | none =>
    obtain ⟨rfl, rfl⟩ := hc rfl
    have hx : xs = [] := List.length_eq_zero_iff.1 hI.1.symm
    subst hx
    exact ⟨v, w, run_append_owned_none (P := Try.prog) (w := w) base 24 24 3 i0 1 Try.underlying24 hi v n _ hown, by rw [List.append_nil]; exact hown, Below.refl _ _⟩
  | some ad =>
    obtain ⟨v', w', hr, h1, h2, _, _⟩ := run_append_own_at (P := Try.prog) w base 24 24 3 i0 (.int .i64 0) 1 8 Try.underlying24 hi hz0 hz1 hz2 rfl (by decide) v n _ hown ad m c (xs.map (fun x => Value.int .i64 x)) (by have := hI.1; simp; omega) (by
      intro j u hj
      obtain ⟨h1, h2, h3⟩ := hI
      rcases h3 with h3 | ⟨b, off, h4, _, hcell⟩
      · subst h3; simp at hj
      · simp at h4; subst h4
        have hj' : j < xs.length := by
          rcases Nat.lt_or_ge j xs.length with h | h
          · exact h
          · rw [List.getElem?_eq_none (by simpa using h)] at hj; simp at hj
        rw [addr_plus, hcell j hj']
        simpa [hj'] using hj) (by
      intro u hu
      obtain ⟨z, _, rfl⟩ := List.mem_map.1 hu
      rfl) (by unfold maxLen; omega) (by omega) hbase
    exact ⟨v', w', hr, by rw [List.map_append]; exact h1, (Below.refl _ _).grown h2 hbase (fun k hk => (hown.lt k hk).1)⟩
end Go.Proofs.Ytongajonecgdpac
