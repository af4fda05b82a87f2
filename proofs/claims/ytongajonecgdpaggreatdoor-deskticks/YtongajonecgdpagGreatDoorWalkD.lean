/- The document's FreshOf and SameRests. -/
import Derived.Test.YtongajonecgdpagGreatDoorWalkM
import Derived.Test.YtongajonecgdpagGreatDoorEvalP
import Derived.Test.YtongajonecgdpagGreatDoorTickA
namespace Go.Proofs.YtongajonecgdpagGreatDoor
open Go.RowKit

def falsesL (n : Nat) : List Bool := List.replicate n false
theorem run_madeB (n : Nat) (h : n ≤ 200) : ∀ W : World, (Instr.makeSlice 33 (.int .i64 (n : Int)) (.int .i64 (n : Int))).run Tryz.prog W = .ok (.slice (some ⟨W.heap.size, 0, none⟩) n n) (W.alloc (.cells (bs (falsesL n)) 4)) := by
  obtain ⟨i0, hi, hz0, hz1, hz2⟩ := info_parts Tryz.infoBool
  intro W
  have hr := run_make (P := Tryz.prog) W 33 4 i0 (.bool false) Tryz.underlying33 hi hz0 .i64 .i64 n n (by omega) (Int.le_refl _) (by rw [hz2]; omega) (by omega)
  simp only [Int.toNat_natCast, hz1, Nat.mul_one] at hr
  have e1 : madeCells (Value.bool false).cells n = bs (falsesL n) := by
    apply Array.ext'
    have := toList_madeCells_one (Value.bool false) n
    rw [show (Value.bool false).cells = #[Value.bool false] from rfl, this]
    simp [bs, falsesL]
  rw [e1] at hr
  exact hr
theorem row_new (W : World) (ys : List Bool) : BoolRow (W.alloc (.cells (bs ys) 4)) W.heap.size ys := heap_alloc_new W _
theorem kept3m {W : World} {bm : Nat} {G : List Nat} (hm : bm ∈ G) (u0 u1 u2 : Value) : KeptG G W (((W.setCell ⟨bm, 0, none⟩ u0).setCell ⟨bm, 1, none⟩ u1).setCell ⟨bm, 2, none⟩ u2) :=
  ((KeptG.set (k := 0) u0 hm).trans (KeptG.set (k := 1) u1 hm)).trans (KeptG.set (k := 2) u2 hm)
theorem BoolRow.kept {w w' : World} {G : List Nat} {g : Nat} {ys : List Bool} (h : BoolRow w g ys) (hk : KeptG G w w') (hg : g ∉ G) : BoolRow w' g ys := (hk.2 g h.lt hg).trans h
def Cells3 (w : World) (g : Nat) : Prop := w.heap[g]? = some (.cells #[.bool false, .slice none 0 0, .slice none 0 0] 35 (0, 0))
theorem Cells3.on {w w' : World} {g : Nat} (h : Cells3 w g) (hl : g < w.heap.size) (hb : Below w.heap.size w w') : w'.cell? ⟨g, 0, none⟩ = some (.bool false) ∧ w'.cell? ⟨g, 1, none⟩ = some (.slice none 0 0) ∧ w'.cell? ⟨g, 2, none⟩ = some (.slice none 0 0) ∧ w'.frozen? ⟨g, 0, none⟩ = false ∧ w'.frozen? ⟨g, 1, none⟩ = false ∧ w'.frozen? ⟨g, 2, none⟩ = false := by
  have h9 := (hb.block g hl).trans h
  exact ⟨by rw [cell_of_row _ _ _ _ _ _ h9]; rfl, by rw [cell_of_row _ _ _ _ _ _ h9]; rfl, by rw [cell_of_row _ _ _ _ _ _ h9]; rfl, frozen_of_row _ _ _ _ _ h9, frozen_of_row _ _ _ _ _ h9, frozen_of_row _ _ _ _ _ h9⟩
theorem fresh_rows {w W3 : World} (hs : W3.heap.size = w.heap.size + 1) (hB : Below w.heap.size w W3) (xs ys : List Bool) : BoolRow ((W3.alloc (.cells (bs xs) 4)).alloc (.cells (bs ys) 4)).drew (w.heap.size + 1) xs ∧ BoolRow ((W3.alloc (.cells (bs xs) 4)).alloc (.cells (bs ys) 4)).drew (w.heap.size + 1 + 1) ys ∧ Below W3.heap.size W3 ((W3.alloc (.cells (bs xs) 4)).alloc (.cells (bs ys) 4)).drew ∧ Below w.heap.size w ((W3.alloc (.cells (bs xs) 4)).alloc (.cells (bs ys) 4)).drew := by
  have h1 := (Below.refl _ W3).alloc (Nat.le_refl _) (.cells (bs xs) 4)
  have h2 := (Below.refl _ (W3.alloc (.cells (bs xs) 4))).alloc (Nat.le_refl _) (.cells (bs ys) 4)
  have h3 := (Below.refl ((W3.alloc (.cells (bs xs) 4)).alloc (.cells (bs ys) 4)).heap.size ((W3.alloc (.cells (bs xs) 4)).alloc (.cells (bs ys) 4))).drew
  have r1 := ((row_new W3 xs).on h2).on h3
  have r2 := (row_new (W3.alloc (.cells (bs xs) 4)) ys).on h3
  have e : (W3.alloc (.cells (bs xs) 4)).heap.size = w.heap.size + 1 + 1 := by simp [hs]
  rw [hs] at r1
  rw [e] at r2
  have h4 := bstep (bstep h1 h2) h3
  exact ⟨r1, r2, h4, bstep hB h4⟩
def walkE (p : List NodeD) (r : RestD) (x : Int) : Int := if restE p r = 0 then (if 0 ≤ x ∧ x ≤ 7 then 0 else 3) else restE p r
def walkT (p : List NodeD) (r : RestD) (x : Int) : NextD × Bool := if r.fresh then beginF p r.outs (bitsV x 3) p.length 0 (falsesL p.length, falsesL 3) else if someP p r.waits 0 then onF p r.waits r.outs (bitsV x 3) p.length 0 (falsesL p.length, falsesL 3) else ((falsesL p.length, falsesL 3), false)
def walkR (p : List NodeD) (r : RestD) (x : Int) : RestD := if walkE p r x = 0 then ⟨false, (walkT p r x).1.1, (walkT p r x).1.2⟩ else ⟨false, [], []⟩
def walkO (p : List NodeD) (r : RestD) (x : Int) : Bool := if walkE p r x = 0 then (walkT p r x).2 else false
theorem restE_ok {p : List NodeD} {r : RestD} (h : restE p r = 0) : checkP p = 0 ∧ r.waits.length = p.length ∧ r.outs.length = 3 ∧ ∀ k, k < p.length → badAt p r k = false := by
  unfold restE at h
  split at h
  · rename_i h1
    split at h
    · rename_i h2
      split at h
      · rename_i h3
        refine ⟨h1, h2.1, h2.2, fun k hk => ?_⟩
        simp only [restB, List.all_eq_true, List.mem_range] at h3
        have := h3 k hk
        simpa using this
      · simp at h
    · simp at h
  · rename_i h1; exact absurd h h1
theorem rest_may {p : List NodeD} {r : RestD} (h : restE p r = 0) : ∀ i, r.waits.getD i false = true → waitK (kindAt p i) = true := by
  obtain ⟨_, h2, _, h4⟩ := restE_ok h
  intro i hi
  have hl : i < p.length := by
    rw [← h2]
    rcases Nat.lt_or_ge i r.waits.length with h5 | h5
    · exact h5
    · rw [List.getD_eq_getElem?_getD, List.getElem?_eq_none h5] at hi; simp at hi
  have h6 := h4 i hl
  unfold badAt at h6
  rw [hi] at h6
  simp at h6
  exact h6.2

theorem falses_get (n i : Nat) : (falsesL n).getD i false = false := by
  unfold falsesL
  rw [List.getD_eq_getElem?_getD, List.getElem?_replicate]
  split <;> rfl
theorem falses_len (n : Nat) : (falsesL n).length = n := by simp [falsesL]
theorem walk_ok {p : List NodeD} {r : RestD} {x : Int} (h : walkE p r x = 0) : restE p r = 0 ∧ 0 ≤ x ∧ x ≤ 7 := by
  unfold walkE at h
  split at h
  · split at h
    · rename_i h1 h2; exact ⟨h1, h2⟩
    · simp at h
  · rename_i h1; exact absurd h h1
theorem walkT_went (p : List NodeD) (r : RestD) (x : Int) : Went4 p (falsesL p.length, falsesL 3) (walkT p r x).1 := by
  unfold walkT
  split
  · exact begin_went _ _ _ _ _ _
  split
  · exact on_went _ _ _ _ _ _ _
  · exact Went4.refl _ _
theorem walkR_eq {p : List NodeD} {r : RestD} {x : Int} (h : walkE p r x = 0) : walkR p r x = ⟨false, (walkT p r x).1.1, (walkT p r x).1.2⟩ := by unfold walkR; rw [if_pos h]
theorem walkO_eq {p : List NodeD} {r : RestD} {x : Int} (h : walkE p r x = 0) : walkO p r x = (walkT p r x).2 := by unfold walkO; rw [if_pos h]
theorem restE_of {p : List NodeD} {q : RestD} (h0 : checkP p = 0) (h1 : q.waits.length = p.length) (h2 : q.outs.length = 3) (h3 : q.fresh = false) (h4 : ∀ i, q.waits.getD i false = true → waitK (kindAt p i) = true) : restE p q = 0 := by
  unfold restE
  rw [if_pos h0, if_pos ⟨h1, h2⟩, if_pos]
  simp only [restB, List.all_eq_true, List.mem_range]
  intro k _
  unfold badAt
  rw [h3]
  cases hb : q.waits.getD k false
  · rfl
  · rw [h4 k hb]; rfl
theorem walk_rest {p : List NodeD} {r : RestD} {x : Int} (h : walkE p r x = 0) : restE p (walkR p r x) = 0 := by
  have hw := walkT_went p r x
  have h1 := restE_ok (walk_ok h).1
  rw [walkR_eq h]
  refine restE_of h1.1 ?_ ?_ rfl ?_
  · exact hw.len.trans (falses_len _)
  · exact hw.outs.trans (falses_len _)
  · intro i hi
    rcases hw.may i hi with h2 | h2
    · rw [falses_get] at h2; simp at h2
    · exact h2
def toldV (l : List Bool) : List Int := l.map (fun b => if b then 1 else 0)
end Go.Proofs.YtongajonecgdpagGreatDoor
