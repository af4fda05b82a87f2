/- The document's PackStep. -/
import Derived.Test.YtongajonecgdpafPackP
import Derived.Test.YtongajonecgdpafLevelA
namespace Go.Proofs.Ytongajonecgdpaf
open Go.RowKit

/-- The first k lanes, as words. -/
def lanesTo (f : Nat → List Int) (n k : Nat) : List Int := (List.range n).map (fun i => wordTo f i k)
def mixW (f : Nat → List Int) (n k j : Nat) : List Int := (List.range n).map (fun i => if i < j then wordTo f i (k + 1) else wordTo f i k)
theorem mixW_len (f : Nat → List Int) (n k j : Nat) : (mixW f n k j).length = n := by simp [mixW]
theorem mixW_zero (f : Nat → List Int) (n k : Nat) : mixW f n k 0 = lanesTo f n k := by simp [mixW, lanesTo]
theorem mixW_full (f : Nat → List Int) (n k j : Nat) (h : n ≤ j) : mixW f n k j = lanesTo f n (k + 1) := by
  unfold mixW lanesTo
  apply List.map_congr_left
  intro i hi
  rw [if_pos (by have := List.mem_range.1 hi; omega)]
theorem mixW_at (f : Nat → List Int) (n k j : Nat) (h' : j < (mixW f n k j).length) : (mixW f n k j)[j] = wordTo f j k := by simp [mixW]
theorem mixW_set (f : Nat → List Int) (n k j : Nat) : (mixW f n k j).set j (wordTo f j (k + 1)) = mixW f n k (j + 1) := by
  apply List.ext_getElem (by simp [mixW])
  intro i h1 h2
  rw [List.getElem_set]
  by_cases e : j = i
  · subst e; simp [mixW]
  · rw [if_neg e]
    simp only [mixW, List.getElem_map, List.getElem_range]
    by_cases e2 : i < j
    · rw [if_pos e2, if_pos (by omega)]
    · rw [if_neg e2, if_neg (by omega)]
theorem lanesTo_zero (f : Nat → List Int) (n : Nat) : lanesTo f n 0 = List.replicate n 0 := by
  apply List.ext_getElem (by simp [lanesTo])
  intro i h1 h2; simp [lanesTo, wordTo]
theorem lane_or {f : Nat → List Int} {j k : Nat} (h : ∀ k, (f k).getD j 0 = 0 ∨ (f k).getD j 0 = 1) (hk : k < 64) : bits .or .u64 (wordTo f j k) (IntKind.u64.wrap (IntKind.u64.wrap ((f k).getD j 0) * 2 ^ k)) = wordTo f j (k + 1) := by
  have hl := wordTo_lt h k
  have hlt : (2 : Nat) ^ k < 2 ^ 64 := Nat.pow_lt_pow_right (by decide) hk
  have hlt' : (2 : Int) ^ k < 2 ^ 64 := by exact_mod_cast hlt
  have hp : (0 : Int) < 2 ^ k := Int.pow_pos (by decide)
  have hb : 0 ≤ (f k).getD j 0 * 2 ^ k ∧ (f k).getD j 0 * 2 ^ k < 2 ^ 64 := by rcases h k with e | e <;> rw [e] <;> omega
  have h0 : IntKind.u64.wrap ((f k).getD j 0) = (f k).getD j 0 := wraps_u64' _ (by rcases h k with e | e <;> rw [e] <;> decide) (by rcases h k with e | e <;> rw [e] <;> decide)
  rw [h0, wraps_u64' _ hb.1 hb.2, or_word hk hl.1 hl.2 (h k)]
  rfl
theorem isW_num {x : Int} (h : isW x) : 0 ≤ x ∧ x < 18446744073709551616 := ⟨h.1, by have h1 := h.2; have e : (2 : Int) ^ 64 = 18446744073709551616 := by decide
                                                                                     omega⟩
theorem out01 (d : NetD) (r i : List Int) (j k : Nat) : (laneOuts d r i k).getD j 0 = 0 ∨ (laneOuts d r i k).getD j 0 = 1 := by
  by_cases hj : j < (laneOuts d r i k).length
  · rw [show (laneOuts d r i k).getD j 0 = (laneOuts d r i k)[j] by simp [List.getD_eq_getElem?_getD, hj]]
    have hm := List.getElem_mem hj
    by_cases e : doE d (laneV r k) (laneV i k) = 0
    · obtain ⟨hs, ho⟩ := doE_ok e
      obtain ⟨_, _, _, hr, hi⟩ := stepE_ok hs
      unfold laneOuts doOuts at hm
      simp only [if_pos e] at hm
      unfold pickV at hm
      obtain ⟨z, _, hz⟩ := List.mem_map.1 hm
      have hz2 : (laneOuts d r i k)[j] = (lfp d (laneV r k) (laneV i k)).getD z.toNat 0 := by rw [hz]; simp only [laneOuts, doOuts, if_pos e]; rfl
      rw [hz2]
      exact settled_vals (iter_vals d hr hi _) ho _
    · unfold laneOuts doOuts at hj
      rw [if_neg e] at hj
      simp at hj
  · left; simp [List.getD_eq_getElem?_getD, List.getElem?_eq_none (show (laneOuts d r i k).length ≤ j by omega)]
theorem Ints.other {w w' : World} {a : Option Addr} {n : Nat} {xs : List Int} {g B : Nat} (h : Ints w a n xs) (hF : Fresh B a n) (hg : g < B) (hs : w.heap.size ≤ w'.heap.size) (hk : ∀ k, k ≠ g → w'.heap[k]? = w.heap[k]?) : Ints w' a n xs := by
  obtain ⟨h1, h2, h3⟩ := h
  refine ⟨h1, h2, ?_⟩
  rcases h3 with h3 | ⟨b, off, ha, hlt, hc⟩
  · exact Or.inl h3
  · rcases hF with hF | ⟨b', off', ha', hB⟩
    · left; exact List.length_eq_zero_iff.1 (by omega)
    · rw [ha] at ha'
      injection ha' with ha'
      injection ha' with e1 e2 _
      subst e1
      refine Or.inr ⟨b, off, ha, Nat.lt_of_lt_of_le hlt hs, fun i hi => ?_⟩
      rw [World.cell?_of_block (a := ⟨b, off + i, Option.none⟩) (hk b (by omega))]
      exact hc i hi
theorem run_madeU (W : World) (n : Nat) (h : n ≤ 200) : (Instr.makeSlice 62 (.int .i64 (n : Int)) (.int .i64 (n : Int))).run Try.prog W = .ok (.slice (some ⟨W.heap.size, 0, none⟩) n n) (W.alloc (.cells (wordsV (List.replicate n 0)).toArray 63)) := by
  obtain ⟨i0, hi, hz0, hz1, hz2⟩ := info_parts Try.infoU
  have hr := run_make (P := Try.prog) W 62 63 i0 (.int .u64 0) Try.underlying62 hi hz0 .i64 .i64 n n (by omega) (Int.le_refl _) (by rw [hz2]; omega) (by omega)
  simp only [Int.toNat_natCast] at hr
  have e : madeCells (Value.int .u64 0).cells (n * i0.size) = (wordsV (List.replicate n 0)).toArray := by
    rw [hz1, Nat.mul_one]
    apply Array.ext'
    rw [show (madeCells (Value.int .u64 0).cells n).toList = List.replicate n (.int .u64 0) from toList_madeCells_one _ n]
    simp [wordsV]
  rw [e] at hr
  exact hr
theorem two_made (w : World) (A B : List Value) (T : TypeId) : Cells ((w.alloc (.cells A.toArray T)).alloc (.cells B.toArray T)).drew w.heap.size A T ∧ Cells ((w.alloc (.cells A.toArray T)).alloc (.cells B.toArray T)).drew (w.heap.size + 1) B T ∧ Below w.heap.size w ((w.alloc (.cells A.toArray T)).alloc (.cells B.toArray T)).drew := by
  have c1 := (Cells.new w A T).below ((Below.refl _ (w.alloc (.cells A.toArray T))).alloc (Nat.le_refl _) (.cells B.toArray T)) (Cells.new w A T).lt
  have c2 := Cells.new (w.alloc (.cells A.toArray T)) B T
  rw [show (w.alloc (.cells A.toArray T)).heap.size = w.heap.size + 1 by simp] at c2
  exact ⟨c1, c2, (((Below.refl _ _).alloc (Nat.le_refl _) _).alloc (by simp) _).drew⟩
/-- The two rows, whichever was made first. -/
def Made2 (w W : World) (gO gN on rn : Nat) : Prop := Cells W gO (wordsV (List.replicate on 0)) 63 ∧ Cells W gN (wordsV (List.replicate rn 0)) 63 ∧ Below w.heap.size w W ∧ w.heap.size ≤ gO ∧ w.heap.size ≤ gN ∧ gO ≠ gN
theorem made_A (w : World) (on rn : Nat) : ∃ gO gN W, w.heap.size = gO ∧ w.heap.size + 1 = gN ∧ ((w.alloc (Obj.cells (wordsV (List.replicate on 0)).toArray 63)).alloc (Obj.cells (wordsV (List.replicate rn 0)).toArray 63)).drew = W ∧ Made2 w W gO gN on rn := by
  obtain ⟨h1, h2, h3⟩ := two_made w (wordsV (List.replicate on 0)) (wordsV (List.replicate rn 0)) 63
  exact ⟨_, _, _, rfl, rfl, rfl, h1, h2, h3, by omega, by omega, by omega⟩
theorem made_B (w : World) (on rn : Nat) : ∃ gO gN W, w.heap.size + 1 = gO ∧ w.heap.size = gN ∧ ((w.alloc (Obj.cells (wordsV (List.replicate rn 0)).toArray 63)).alloc (Obj.cells (wordsV (List.replicate on 0)).toArray 63)).drew = W ∧ Made2 w W gO gN on rn := by
  obtain ⟨h1, h2, h3⟩ := two_made w (wordsV (List.replicate rn 0)) (wordsV (List.replicate on 0)) 63
  exact ⟨_, _, _, rfl, rfl, rfl, h2, h1, h3, by omega, by omega, by omega⟩
theorem held_mk {w0 W : World} {b : Nat} {u v : Value} {R : Prop} {o : Obj} (hb : b < w0.heap.size) (h1 : w0.cell? ⟨b, 3, none⟩ = some u) (h2 : w0.cell? ⟨b, 2, none⟩ = some v) (h : Below w0.heap.size w0 W ∧ R) :
    Below w0.heap.size w0 (W.alloc o) ∧ (W.alloc o).cell? ⟨b, 3, none⟩ = some u ∧ (W.alloc o).cell? ⟨b, 2, none⟩ = some v := by
  have hB := h.1.alloc h.1.size o
  exact ⟨hB, (hB.cell (p := ⟨b, 3, none⟩) hb).trans h1, (hB.cell (p := ⟨b, 2, none⟩) hb).trans h2⟩

/-- Words that lie in memory, and not in block g. -/
def WordsOff (w : World) (g : Option Nat) (a : Option Addr) (n : Nat) (xs : List Int) : Prop := Words w a n xs ∧ (n = 0 ∨ ∃ b off, a = some ⟨b, off, none⟩ ∧ b < w.heap.size ∧ g ≠ some b)
theorem WordsOff.below {w w' : World} {g : Option Nat} {a : Option Addr} {n : Nat} {xs : List Int} (h : WordsOff w g a n xs) (hb : Below w.heap.size w w') : WordsOff w' g a n xs := by
  refine ⟨h.1.below hb, ?_⟩
  rcases h.2 with h | ⟨b, off, ha, hl, hg⟩
  · exact Or.inl h
  · exact Or.inr ⟨b, off, ha, Nat.lt_of_lt_of_le hl hb.size, hg⟩
theorem WordsOff.grown {w w' : World} {g g' : Option Nat} {a : Option Addr} {n : Nat} {xs : List Int} (h : WordsOff w g a n xs) (hg : w.grownBy w' g) (hg' : g' = g ∨ g' = some w.heap.size) : WordsOff w' g' a n xs := by
  obtain ⟨⟨h1, h2, h3⟩, h4⟩ := h
  rcases h4 with h4 | ⟨b, off, ha, hl, hne⟩
  · exact ⟨⟨h1, h2, Or.inl (List.length_eq_zero_iff.1 (by omega))⟩, Or.inl h4⟩
  · refine ⟨⟨h1, h2, ?_⟩, Or.inr ⟨b, off, ha, Nat.lt_of_lt_of_le hl hg.size, ?_⟩⟩
    · rcases h3 with h3 | ⟨b', off', ha', hl', hc⟩
      · exact Or.inl h3
      · rw [ha] at ha'
        injection ha' with ha'
        injection ha' with e1 e2 _
        subst e1; subst e2
        exact Or.inr ⟨b, off, ha, Nat.lt_of_lt_of_le hl hg.size, fun i hi => hg.cell (hc i hi) (fun e => hne e.symm)⟩
    · rcases hg' with e | e
      · rw [e]; exact hne
      · rw [e]; intro hh; injection hh with hh; omega
theorem WordsOff.fresh {w : World} {base : Nat} {g : Option Nat} {a : Option Addr} {n : Nat} {xs : List Int} (h : Words w a n xs) (hF : Fresh base a n) (hg : ∀ k, g = some k → k < base) : WordsOff w g a n xs := by
  refine ⟨h, ?_⟩
  rcases hF with hF | ⟨b, off, ha, hb⟩
  · exact Or.inl hF
  · rcases h.2.2 with h3 | ⟨b', off', ha', hl', hc⟩
    · exact Or.inl (by rw [h.1, h3]; rfl)
    · rw [ha] at ha'
      injection ha' with ha'
      injection ha' with e1 e2 _
      exact Or.inr ⟨b, off, ha, by omega, fun e => by have := hg b e; omega⟩

/-- Rows of words: the values vs lead to them. -/
def WRowsOff (w : World) (g : Option Nat) (vs : List Value) (xss : List (List Int)) : Prop :=
  vs.length = xss.length ∧ ∀ i (hi : i < xss.length), ∃ a n c, vs[i]? = some (.slice a n c) ∧ WordsOff w g a n xss[i]
theorem WRowsOff.nil (w : World) (g : Option Nat) : WRowsOff w g [] [] := ⟨rfl, fun i hi => absurd hi (by simp)⟩
theorem WRowsOff.below {w w' : World} {g : Option Nat} {vs : List Value} {xss : List (List Int)} (h : WRowsOff w g vs xss) (hb : Below w.heap.size w w') : WRowsOff w' g vs xss :=
  ⟨h.1, fun i hi => by obtain ⟨a, n, c, e, hI⟩ := h.2 i hi; exact ⟨a, n, c, e, hI.below hb⟩⟩
theorem WRowsOff.grown {w w' : World} {g g' : Option Nat} {vs : List Value} {xss : List (List Int)} (h : WRowsOff w g vs xss) (hg : w.grownBy w' g) (hg' : g' = g ∨ g' = some w.heap.size) : WRowsOff w' g' vs xss :=
  ⟨h.1, fun i hi => by obtain ⟨a, n, c, e, hI⟩ := h.2 i hi; exact ⟨a, n, c, e, hI.grown hg hg'⟩⟩
theorem WRowsOff.snoc {w : World} {g : Option Nat} {vs : List Value} {xss : List (List Int)} {a : Option Addr} {n c : Nat} {xs : List Int} (h : WRowsOff w g vs xss) (h' : WordsOff w g a n xs) : WRowsOff w g (vs ++ [.slice a n c]) (xss ++ [xs]) := by
  refine ⟨by simp [h.1], fun i hi => ?_⟩
  by_cases hlt : i < xss.length
  · obtain ⟨a', n', c', e, hI⟩ := h.2 i hlt
    refine ⟨a', n', c', ?_, ?_⟩
    · rw [List.getElem?_append_left (by rw [h.1]; exact hlt)]; exact e
    · rw [List.getElem_append_left hlt]; exact hI
  · have hi' : i = xss.length := by simp at hi; omega
    subst hi'
    refine ⟨a, n, c, ?_, ?_⟩
    · rw [List.getElem?_append_right (by rw [h.1]; exact Nat.le_refl _), h.1]; simp
    · simpa using h'

theorem WordsOff.start {w : World} {a : Option Addr} {n : Nat} {xs : List Int} (h : Words w a n xs) : WordsOff w Option.none a n xs := by
  refine ⟨h, ?_⟩
  rcases h.2.2 with h3 | ⟨b, off, ha, hl, hc⟩
  · exact Or.inl (by rw [h.1, h3]; rfl)
  · exact Or.inr ⟨b, off, ha, hl, by simp⟩
theorem own_wrows {w : World} {base : Nat} {e : TypeId} {v : Value} {n : Nat} {vs : List Value} {xss : List (List Int)} (h : w.ownsRow base e 1 v n vs) (hm : n ≤ maxLen) (hR : WRowsOff w v.ownBlock vs xss) :
    ∃ a cap, v = .slice a n cap ∧ WRows w a n xss ∧ n ≤ cap := by
  have hn : n = xss.length := by have := h.1; have := hR.1; omega
  rcases h.2 with ⟨h1, h2⟩ | ⟨g, cap, cur, hv, hg, hh, r⟩
  · subst h2
    have : xss = [] := List.length_eq_zero_iff.1 hn.symm
    subst this
    exact ⟨_, _, h1, WRows.none _, Nat.le_refl _⟩
  · refine ⟨_, _, hv, ⟨hn, by omega, Or.inr ⟨g, 0, rfl, (Array.getElem?_eq_some_iff.1 hh).1, fun i hi => ?_⟩⟩, r.1⟩
    obtain ⟨a', n', c', e', hI⟩ := hR.2 i hi
    refine ⟨a', n', c', ?_, hI.1⟩
    have := h.cells (g := g) (by rw [hv]; rfl) i _ e'
    have hadd : (⟨g, 0, none⟩ : Addr).add i = ⟨g, 0 + i, none⟩ := by unfold Addr.add; split <;> simp_all
    rw [hadd] at this
    exact this
theorem own_words {w : World} {base : Nat} {e : TypeId} {v : Value} {n : Nat} {ys : List Int} (h : w.ownsRow base e 1 v n (wordsV ys)) (hm : n ≤ maxLen) :
    ∃ a cap, v = .slice a n cap ∧ Words w a n ys := by
  unfold wordsV at h
  have hn : n = ys.length := by have := h.1; simpa using this.symm
  rcases h.2 with ⟨h1, h2⟩ | ⟨g, cap, cur, hv, hg, hh, r⟩
  · subst h2
    have : ys = [] := List.eq_nil_of_length_eq_zero hn.symm
    exact ⟨_, _, h1, hn, by omega, Or.inl this⟩
  · refine ⟨_, cap, hv, hn, by omega, Or.inr ⟨g, 0, rfl, (Array.getElem?_eq_some_iff.1 hh).1, fun i hi => ?_⟩⟩
    rw [hv] at h
    rw [Nat.zero_add, h.cellAt i (by omega)]
    simp [hi]
theorem wordsV_succ (l : List Int) (k : Nat) (h : k < l.length) : wordsV (l.take (k + 1)) = wordsV (l.take k) ++ [.int .u64 l[k]] := by
  unfold wordsV
  rw [List.take_succ_eq_append_getElem h, List.map_append]
  rfl
theorem xor_zero : bits .xor .u64 IntKind.u64.max 0 = fullW := by rw [xor_not zero_bit.1]; unfold notW; omega
theorem prun_ok {d : NetD} {l : List (List Int)} {k : Nat} (ho : orderE d = 0) (hr : rowsOk d l l.length = true) (hk : k < l.length) : pstepE d (packAt d l k) l[k] = 0 := by
  unfold pstepE
  rw [if_pos ho, if_pos ⟨packAt_len d l k, rowsOk_at hr k hk⟩]

set_option maxRecDepth 100000 in
theorem tied_step : pstepE knotDT [6] [5] = 0 ∧ pstepO knotDT [6] [5] = [3, 6] ∧ pstepN knotDT [6] [5] = [3] ∧ pstepE knotDT [] [5] = 1 := by decide +kernel
set_option maxRecDepth 100000 in
theorem tied_run : prunE knotDT [[5], [1]] = 0 ∧ prunL knotDT [[5], [1]] = [packRow knotDT [[5], [1]] 0, [4, 5]] ∧ prunE knotD [] = 5 := by decide +kernel

theorem KnotAt.keep {w w' : World} {b g : Nat} {G R : Array Value} (h : KnotAt w b G R) (hg : g < b) (hk : ∀ k, k ≠ g → w'.heap[k]? = w.heap[k]?) : KnotAt w' b G R := by
  obtain ⟨h1, h2, h3, h4, h5, h6, h7, h8, h9, h10⟩ := h
  refine ⟨?_, ?_, ?_, ?_, ?_, ?_, ?_, ?_, ?_, ?_⟩ <;> (rw [hk _ (by omega)]; assumption)

theorem Words.new (w : World) (C : Array Value) (T : TypeId) (n : Nat) (xs : List Int) (hC : C = (xs.map (fun x => Value.int .u64 x)).toArray) (hn : n = xs.length) (hm : xs.length ≤ maxLen) :
    Words (w.alloc (.cells C T)) (some ⟨w.heap.size, 0, Option.none⟩) n xs := by
  subst hC
  exact (Cells.new w (wordsV xs) T).words hn hm
theorem Words.new' (w : World) (C : Array Value) (T : TypeId) (g n : Nat) (xs : List Int) (hg : g = w.heap.size) (hC : C = (xs.map (fun x => Value.int .u64 x)).toArray) (hn : n = xs.length) (hm : xs.length ≤ maxLen) :
    Words (w.alloc (.cells C T)) (some ⟨g, 0, Option.none⟩) n xs := by
  subst hg; exact Words.new w C T n xs hC hn hm
theorem two_rows {w : World} {a b : Nat} {T : TypeId} {x y : List Int} (h1 : Words w (some ⟨a, 0, none⟩) 1 x) (h2 : Words w (some ⟨b, 0, none⟩) 1 y) :
    WRows (w.alloc (.cells #[.slice (some ⟨a, 0, none⟩) 1 1, .slice (some ⟨b, 0, none⟩) 1 1] T)) (some ⟨w.heap.size, 0, none⟩) 2 [x, y] := by
  have hal := (Below.refl _ w).alloc (Nat.le_refl _) (.cells #[.slice (some ⟨a, 0, none⟩) 1 1, .slice (some ⟨b, 0, none⟩) 1 1] T)
  have hC := Cells.new w [.slice (some ⟨a, 0, none⟩) 1 1, .slice (some ⟨b, 0, none⟩) 1 1] T
  refine ⟨rfl, lt_maxLen _ (by simp), Or.inr ⟨w.heap.size, 0, rfl, hC.lt, fun i hi => ?_⟩⟩
  have hi' : i < 2 := hi
  match i, hi' with
  | 0, _ => exact ⟨_, _, _, hC.cell 0, h1.below hal⟩
  | 1, _ => exact ⟨_, _, _, hC.cell 1, h2.below hal⟩
theorem isW_small {x : Int} (h0 : 0 ≤ x) (h1 : x ≤ 1000) : isW x := by
  have e : (2 : Int) ^ 64 = 18446744073709551616 := by decide
  refine ⟨h0, ?_⟩
  omega
theorem isW_one {x : Int} (h0 : 0 ≤ x) (h1 : x ≤ 1000) : ∀ y ∈ [x], isW y := by intro y hy; rw [List.mem_singleton.1 hy]; exact isW_small h0 h1

end Go.Proofs.Ytongajonecgdpaf
