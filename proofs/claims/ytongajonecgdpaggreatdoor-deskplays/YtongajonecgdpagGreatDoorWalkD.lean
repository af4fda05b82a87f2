/- The document's FreshOf and SameRests. -/
import Derived.Test.YtongajonecgdpagGreatDoorWalkM
import Derived.Test.YtongajonecgdpagGreatDoorEvalP
import Derived.Test.YtongajonecgdpagGreatDoorTickA
namespace Go.Proofs.YtongajonecgdpagGreatDoor
open Go.RowKit

def falsesL (n : Nat) : List Bool := List.replicate n false
theorem run_madeB (n : Nat) (h : n ≤ 200) : ∀ W : World, (Instr.makeSlice 33 (.int .i64 (n : Int)) (.int .i64 (n : Int))).run Tryz.prog W = .ok (.slice (some ⟨W.heap.size, 0, none⟩) n n) (W.alloc (.cells (bs (falsesL n)) 4)) := by
  obtain ⟨i0, hi, hz0, hz1, hz2⟩ := info_parts Tryz.infoBool
  intro W
  have hr := run_make (P := Tryz.prog) W 33 4 i0 (.bool false) Tryz.underlying33 hi hz0 .i64 .i64 n n (by omega) (Int.le_refl _) (by rw [hz2]; omega) (by omega)
  simp only [Int.toNat_natCast, hz1, Nat.mul_one] at hr
  have e1 : madeCells (Value.bool false).cells n = bs (falsesL n) := by
    apply Array.ext'
    have := toList_madeCells_one (Value.bool false) n
    rw [show (Value.bool false).cells = #[Value.bool false] from rfl, this]
    simp [bs, falsesL]
  rw [e1] at hr
  exact hr
theorem row_new (W : World) (ys : List Bool) : BoolRow (W.alloc (.cells (bs ys) 4)) W.heap.size ys := heap_alloc_new W _
/-- What FreshOf answers: rows of its own. -/
def FreshRet (n : Nat) (w w' : World) (e : Ending) : Prop := ∃ gW gO, e = .returned (.agg #[.bool true, .slice (some ⟨gW, 0, none⟩) n n, .slice (some ⟨gO, 0, none⟩) 3 3]) ∧ gW ≠ gO ∧ w.heap.size ≤ gW ∧ w.heap.size ≤ gO ∧ BoolRow w' gW (falsesL n) ∧ BoolRow w' gO (falsesL 3) ∧ Below w.heap.size w w'
theorem kept3m {W : World} {bm : Nat} {G : List Nat} (hm : bm ∈ G) (u0 u1 u2 : Value) : KeptG G W (((W.setCell ⟨bm, 0, none⟩ u0).setCell ⟨bm, 1, none⟩ u1).setCell ⟨bm, 2, none⟩ u2) :=
  ((KeptG.set (k := 0) u0 hm).trans (KeptG.set (k := 1) u1 hm)).trans (KeptG.set (k := 2) u2 hm)
theorem BoolRow.kept {w w' : World} {G : List Nat} {g : Nat} {ys : List Bool} (h : BoolRow w g ys) (hk : KeptG G w w') (hg : g ∉ G) : BoolRow w' g ys := (hk.2 g h.lt hg).trans h
def Cells3 (w : World) (g : Nat) : Prop := w.heap[g]? = some (.cells #[.bool false, .slice none 0 0, .slice none 0 0] 35 (0, 0))
theorem Cells3.on {w w' : World} {g : Nat} (h : Cells3 w g) (hl : g < w.heap.size) (hb : Below w.heap.size w w') : w'.cell? ⟨g, 0, none⟩ = some (.bool false) ∧ w'.cell? ⟨g, 1, none⟩ = some (.slice none 0 0) ∧ w'.cell? ⟨g, 2, none⟩ = some (.slice none 0 0) ∧ w'.frozen? ⟨g, 0, none⟩ = false ∧ w'.frozen? ⟨g, 1, none⟩ = false ∧ w'.frozen? ⟨g, 2, none⟩ = false := by
  have h9 := (hb.block g hl).trans h
  exact ⟨by rw [cell_of_row _ _ _ _ _ _ h9]; rfl, by rw [cell_of_row _ _ _ _ _ _ h9]; rfl, by rw [cell_of_row _ _ _ _ _ _ h9]; rfl, frozen_of_row _ _ _ _ _ h9, frozen_of_row _ _ _ _ _ h9, frozen_of_row _ _ _ _ _ h9⟩
theorem fresh_rows {w W3 : World} (hs : W3.heap.size = w.heap.size + 1) (hB : Below w.heap.size w W3) (xs ys : List Bool) : BoolRow ((W3.alloc (.cells (bs xs) 4)).alloc (.cells (bs ys) 4)).drew (w.heap.size + 1) xs ∧ BoolRow ((W3.alloc (.cells (bs xs) 4)).alloc (.cells (bs ys) 4)).drew (w.heap.size + 1 + 1) ys ∧ Below W3.heap.size W3 ((W3.alloc (.cells (bs xs) 4)).alloc (.cells (bs ys) 4)).drew ∧ Below w.heap.size w ((W3.alloc (.cells (bs xs) 4)).alloc (.cells (bs ys) 4)).drew := by
  have h1 := (Below.refl _ W3).alloc (Nat.le_refl _) (.cells (bs xs) 4)
  have h2 := (Below.refl _ (W3.alloc (.cells (bs xs) 4))).alloc (Nat.le_refl _) (.cells (bs ys) 4)
  have h3 := (Below.refl ((W3.alloc (.cells (bs xs) 4)).alloc (.cells (bs ys) 4)).heap.size ((W3.alloc (.cells (bs xs) 4)).alloc (.cells (bs ys) 4))).drew
  have r1 := ((row_new W3 xs).on h2).on h3
  have r2 := (row_new (W3.alloc (.cells (bs xs) 4)) ys).on h3
  have e : (W3.alloc (.cells (bs xs) 4)).heap.size = w.heap.size + 1 + 1 := by simp [hs]
  rw [hs] at r1
  rw [e] at r2
  have h4 := bstep (bstep h1 h2) h3
  exact ⟨r1, r2, h4, bstep hB h4⟩
set_option maxRecDepth 100000 in
set_option maxHeartbeats 2000000 in
theorem FreshOf_any (a : Option Addr) (n c : Nat) (w : World) (hn : n ≤ 14) :
    Calls Tryz.prog 19 #[.slice a n c] w fun e w' => FreshRet n w w' e := by
  have hm1 := run_madeB n (by omega)
  have hm2 : ∀ W : World, (Instr.makeSlice 33 (.int .i64 3) (.int .i64 3)).run Tryz.prog W = .ok (.slice (some ⟨W.heap.size, 0, none⟩) 3 3) (W.alloc (.cells (bs (falsesL 3)) 4)) := run_madeB 3 (by omega)
  have hb0 : Below w.heap.size w (w.alloc (.cells #[.bool false, .slice none 0 0, .slice none 0 0] 35)) := (Below.refl _ _).alloc (Nat.le_refl _) _
  have hc0 : Cells3 (w.alloc (.cells #[.bool false, .slice none 0 0, .slice none 0 0] 35)) w.heap.size := heap_alloc_new w _
  have hsz : (w.alloc (.cells #[.bool false, .slice none 0 0, .slice none 0 0] 35)).heap.size = w.heap.size + 1 := by simp
  have hn0 : (0 : Int) ≤ (n : Int) := by omega
  go_enter Tryz.func19, Tryz.ntmps19
  go_wp2_with fail
  generalize hw1 : w.alloc (.cells #[.bool false, .slice none 0 0, .slice none 0 0] 35) = w1 at *
  clear hw1
  have hl1 : w.heap.size < w1.heap.size := by omega
  obtain ⟨a0, a1, a2, a3, a4, a5⟩ := hc0.on hl1 (Below.refl _ _)
  have HC := hide hc0
  clear hc0
  go_region
  all_goals go_wp2_with fail
  all_goals
    have hc1 : Cells w1 w.heap.size [.bool false, .slice none 0 0, .slice none 0 0] 35 := unhide HC
  · have hc9 := ((hc1.set 0 (.bool true)).set 1 (.slice (some ⟨w.heap.size + 1, 0, none⟩) n n)).set 2 (.slice (some ⟨w.heap.size + 1 + 1, 0, none⟩) 3 3)
    have hB9 : Below w.heap.size w _ := ((hb0.setCell (p := ⟨w.heap.size, 0, none⟩) (Nat.le_refl _) (.bool true)).setCell (p := ⟨w.heap.size, 1, none⟩) (Nat.le_refl _) (.slice (some ⟨w.heap.size + 1, 0, none⟩) n n)).setCell (p := ⟨w.heap.size, 2, none⟩) (Nat.le_refl _) (.slice (some ⟨w.heap.size + 1 + 1, 0, none⟩) 3 3)
    obtain ⟨g1, g2, g3, g4⟩ := fresh_rows (by simp [hsz]) hB9 (falsesL n) (falsesL 3)
    have hl9 := hc9.lt
    have y0 := (g3.cell (p := ⟨w.heap.size, 0, none⟩) hl9).trans (hc9.cell 0)
    have y1 := (g3.cell (p := ⟨w.heap.size, 1, none⟩) hl9).trans (hc9.cell 1)
    have y2 := (g3.cell (p := ⟨w.heap.size, 2, none⟩) hl9).trans (hc9.cell 2)
    generalize ((((((w1.setCell ⟨w.heap.size, 0, none⟩ (.bool true)).setCell ⟨w.heap.size, 1, none⟩ (.slice (some ⟨w.heap.size + 1, 0, none⟩) n n)).setCell ⟨w.heap.size, 2, none⟩ (.slice (some ⟨w.heap.size + 1 + 1, 0, none⟩) 3 3)).alloc (.cells (bs (falsesL n)) 4)).alloc (.cells (bs (falsesL 3)) 4)).drew) = w9 at *
    exact bodyPost_ret (v := .agg #[.bool true, .slice (some ⟨w.heap.size + 1, 0, none⟩) n n, .slice (some ⟨w.heap.size + 1 + 1, 0, none⟩) 3 3]) (by simp [results, Tryz.results19, go_sem, y0, y1, y2]) rfl ⟨_, _, rfl, by omega, by omega, by omega, g1, g2, g4⟩
  · have hc9 := ((hc1.set 0 (.bool true)).set 1 (.slice (some ⟨w.heap.size + 1 + 1, 0, none⟩) n n)).set 2 (.slice (some ⟨w.heap.size + 1, 0, none⟩) 3 3)
    have hB9 : Below w.heap.size w _ := ((hb0.setCell (p := ⟨w.heap.size, 0, none⟩) (Nat.le_refl _) (.bool true)).setCell (p := ⟨w.heap.size, 1, none⟩) (Nat.le_refl _) (.slice (some ⟨w.heap.size + 1 + 1, 0, none⟩) n n)).setCell (p := ⟨w.heap.size, 2, none⟩) (Nat.le_refl _) (.slice (some ⟨w.heap.size + 1, 0, none⟩) 3 3)
    obtain ⟨g1, g2, g3, g4⟩ := fresh_rows (by simp [hsz]) hB9 (falsesL 3) (falsesL n)
    have hl9 := hc9.lt
    have y0 := (g3.cell (p := ⟨w.heap.size, 0, none⟩) hl9).trans (hc9.cell 0)
    have y1 := (g3.cell (p := ⟨w.heap.size, 1, none⟩) hl9).trans (hc9.cell 1)
    have y2 := (g3.cell (p := ⟨w.heap.size, 2, none⟩) hl9).trans (hc9.cell 2)
    generalize ((((((w1.setCell ⟨w.heap.size, 0, none⟩ (.bool true)).setCell ⟨w.heap.size, 1, none⟩ (.slice (some ⟨w.heap.size + 1 + 1, 0, none⟩) n n)).setCell ⟨w.heap.size, 2, none⟩ (.slice (some ⟨w.heap.size + 1, 0, none⟩) 3 3)).alloc (.cells (bs (falsesL 3)) 4)).alloc (.cells (bs (falsesL n)) 4)).drew) = w9 at *
    exact bodyPost_ret (v := .agg #[.bool true, .slice (some ⟨w.heap.size + 1 + 1, 0, none⟩) n n, .slice (some ⟨w.heap.size + 1, 0, none⟩) 3 3]) (by simp [results, Tryz.results19, go_sem, y0, y1, y2]) rfl ⟨_, _, rfl, by omega, by omega, by omega, g2, g1, g4⟩

def walkE (p : List NodeD) (r : RestD) (x : Int) : Int := if restE p r = 0 then (if 0 ≤ x ∧ x ≤ 7 then 0 else 3) else restE p r
def walkT (p : List NodeD) (r : RestD) (x : Int) : NextD × Bool := if r.fresh then beginF p r.outs (bitsV x 3) p.length 0 (falsesL p.length, falsesL 3) else if someP p r.waits 0 then onF p r.waits r.outs (bitsV x 3) p.length 0 (falsesL p.length, falsesL 3) else ((falsesL p.length, falsesL 3), false)
def walkR (p : List NodeD) (r : RestD) (x : Int) : RestD := if walkE p r x = 0 then ⟨false, (walkT p r x).1.1, (walkT p r x).1.2⟩ else ⟨false, [], []⟩
def walkO (p : List NodeD) (r : RestD) (x : Int) : Bool := if walkE p r x = 0 then (walkT p r x).2 else false
def WalkRet (p : List NodeD) (r : RestD) (x : Int) (w w' : World) (e : Ending) : Prop := ∃ f wa wn wc oa on oc, e = .returned (.tuple #[.agg #[.bool f, .slice wa wn wc, .slice oa on oc], .bool (walkO p r x), .int .i64 (walkE p r x)]) ∧ RestAt w' (walkR p r x) f wa wn oa on ∧ Below w.heap.size w w'
theorem walk_err {p : List NodeD} {r : RestD} {x : Int} {w w' : World} {er : Int} (he : walkE p r x = er) (h0 : er ≠ 0) (hb : Below w.heap.size w w') : WalkRet p r x w w' (.returned (.tuple #[.agg #[.bool false, .slice none 0 0, .slice none 0 0], .bool false, .int .i64 er])) := by
  have h1 : walkE p r x ≠ 0 := by rw [he]; exact h0
  refine ⟨false, none, 0, 0, none, 0, 0, by unfold walkO; rw [if_neg h1, he], ?_, hb⟩
  unfold walkR
  rw [if_neg h1]
  exact ⟨rfl, ⟨rfl, Nat.zero_le _, Or.inl rfl⟩, ⟨rfl, Nat.zero_le _, Or.inl rfl⟩⟩
theorem restE_ok {p : List NodeD} {r : RestD} (h : restE p r = 0) : checkP p = 0 ∧ r.waits.length = p.length ∧ r.outs.length = 3 ∧ ∀ k, k < p.length → badAt p r k = false := by
  unfold restE at h
  split at h
  · rename_i h1
    split at h
    · rename_i h2
      split at h
      · rename_i h3
        refine ⟨h1, h2.1, h2.2, fun k hk => ?_⟩
        simp only [restB, List.all_eq_true, List.mem_range] at h3
        have := h3 k hk
        simpa using this
      · simp at h
    · simp at h
  · rename_i h1; exact absurd h h1
theorem rest_may {p : List NodeD} {r : RestD} (h : restE p r = 0) : ∀ i, r.waits.getD i false = true → waitK (kindAt p i) = true := by
  obtain ⟨_, h2, _, h4⟩ := restE_ok h
  intro i hi
  have hl : i < p.length := by
    rw [← h2]
    rcases Nat.lt_or_ge i r.waits.length with h5 | h5
    · exact h5
    · rw [List.getD_eq_getElem?_getD, List.getElem?_eq_none h5] at hi; simp at hi
  have h6 := h4 i hl
  unfold badAt at h6
  rw [hi] at h6
  simp at h6
  exact h6.2

theorem falses_get (n i : Nat) : (falsesL n).getD i false = false := by
  unfold falsesL
  rw [List.getD_eq_getElem?_getD, List.getElem?_replicate]
  split <;> rfl
theorem falses_all (n : Nat) : allF (falsesL n) := falses_get n
theorem falses_len (n : Nat) : (falsesL n).length = n := by simp [falsesL]
theorem all_falses {l : List Bool} (h : allF l) : l = falsesL l.length := by
  apply List.ext_getElem (by simp [falsesL])
  intro i h1 h2
  have := h i
  rw [List.getD_eq_getElem?_getD, List.getElem?_eq_getElem h1] at this
  simpa [falsesL] using this
theorem walk_ok {p : List NodeD} {r : RestD} {x : Int} (h : walkE p r x = 0) : restE p r = 0 ∧ 0 ≤ x ∧ x ≤ 7 := by
  unfold walkE at h
  split at h
  · split at h
    · rename_i h1 h2; exact ⟨h1, h2⟩
    · simp at h
  · rename_i h1; exact absurd h h1
theorem walkT_went (p : List NodeD) (r : RestD) (x : Int) : Went4 p (falsesL p.length, falsesL 3) (walkT p r x).1 := by
  unfold walkT
  split
  · exact begin_went _ _ _ _ _ _
  split
  · exact on_went _ _ _ _ _ _ _
  · exact Went4.refl _ _
theorem walkT_over (p : List NodeD) (r : RestD) (x : Int) (h : (walkT p r x).2 = true) : (walkT p r x).1.1 = falsesL p.length := by
  unfold walkT at h ⊢
  split at h
  · rename_i h1
    rw [if_pos h1]
    exact begin_over _ _ _ _ _ _ h
  rename_i h1
  rw [if_neg h1]
  split at h
  · rename_i h2
    rw [if_pos h2]
    exact on_over _ _ _ _ _ _ _ (falses_all _) h
  · simp at h
theorem walkR_eq {p : List NodeD} {r : RestD} {x : Int} (h : walkE p r x = 0) : walkR p r x = ⟨false, (walkT p r x).1.1, (walkT p r x).1.2⟩ := by unfold walkR; rw [if_pos h]
theorem walkO_eq {p : List NodeD} {r : RestD} {x : Int} (h : walkE p r x = 0) : walkO p r x = (walkT p r x).2 := by unfold walkO; rw [if_pos h]
theorem restE_of {p : List NodeD} {q : RestD} (h0 : checkP p = 0) (h1 : q.waits.length = p.length) (h2 : q.outs.length = 3) (h3 : q.fresh = false) (h4 : ∀ i, q.waits.getD i false = true → waitK (kindAt p i) = true) : restE p q = 0 := by
  unfold restE
  rw [if_pos h0, if_pos ⟨h1, h2⟩, if_pos]
  simp only [restB, List.all_eq_true, List.mem_range]
  intro k _
  unfold badAt
  rw [h3]
  cases hb : q.waits.getD k false
  · rfl
  · rw [h4 k hb]; rfl
theorem walk_rest {p : List NodeD} {r : RestD} {x : Int} (h : walkE p r x = 0) : restE p (walkR p r x) = 0 := by
  have hw := walkT_went p r x
  have h1 := restE_ok (walk_ok h).1
  rw [walkR_eq h]
  refine restE_of h1.1 ?_ ?_ rfl ?_
  · exact hw.len.trans (falses_len _)
  · exact hw.outs.trans (falses_len _)
  · intro i hi
    rcases hw.may i hi with h2 | h2
    · rw [falses_get] at h2; simp at h2
    · exact h2
theorem walk_over {p : List NodeD} {r : RestD} {x : Int} (h : walkE p r x = 0) (ho : walkO p r x = true) : allF (walkR p r x).waits := by
  rw [walkO_eq h] at ho
  rw [walkR_eq h]
  show allF (walkT p r x).1.1
  rw [walkT_over p r x ho]
  exact falses_all _
theorem walk_idle {p : List NodeD} {q : RestD} {y : Int} (h : restE p q = 0) (hf : q.fresh = false) (ha : allF q.waits) (hy : 0 ≤ y ∧ y ≤ 7) : walkE p q y = 0 ∧ walkR p q y = ⟨false, falsesL p.length, falsesL 3⟩ ∧ walkO p q y = false := by
  have hE : walkE p q y = 0 := by unfold walkE; rw [if_pos h, if_pos hy]
  have hT : walkT p q y = ((falsesL p.length, falsesL 3), false) := by
    unfold walkT
    rw [if_neg (by rw [hf]; simp), if_neg (by rw [some_no ha]; simp)]
  refine ⟨hE, ?_, ?_⟩
  · rw [walkR_eq hE, hT]
  · rw [walkO_eq hE, hT]

def toldV (l : List Bool) : List Int := l.map (fun b => if b then 1 else 0)
theorem toldV_take (l : List Bool) (k : Nat) (h : k < l.length) : intsV ((toldV l).take (k + 1)) = intsV ((toldV l).take k) ++ [.int .i64 (if l[k] then 1 else 0)] := by
  rw [intsV_succ _ _ (by simpa [toldV] using h)]
  simp [toldV]
end Go.Proofs.YtongajonecgdpagGreatDoor
