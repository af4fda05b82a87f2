/- What sweep.moved keeps, loop by loop. -/
import Derived.Test.YtongajonecgdpadSweepV
namespace Go.Proofs.Ytongajonecgdpad
open Go.RowKit Go.Maps

theorem hl_alloc {w0 W : World} {b : Nat} {u0 u2 u3 : Value} {o : Obj} (hb : b < w0.heap.size) (h : Below w0.heap.size w0 W ∧ W.cell? ⟨b, 0, none⟩ = some u0 ∧ W.cell? ⟨b, 2, none⟩ = some u2 ∧ W.cell? ⟨b, 3, none⟩ = some u3) :
    Below w0.heap.size w0 (W.alloc o) ∧ (W.alloc o).cell? ⟨b, 0, none⟩ = some u0 ∧ (W.alloc o).cell? ⟨b, 2, none⟩ = some u2 ∧ (W.alloc o).cell? ⟨b, 3, none⟩ = some u3 := by
  have hB := (Below.refl W.heap.size W).alloc (Nat.le_refl _) o
  have hl := Nat.lt_of_lt_of_le hb h.1.size
  exact ⟨h.1.alloc h.1.size o, (hB.cell (p := ⟨b, 0, none⟩) hl).trans h.2.1, (hB.cell (p := ⟨b, 2, none⟩) hl).trans h.2.2.1, (hB.cell (p := ⟨b, 3, none⟩) hl).trans h.2.2.2⟩
theorem hl_call {w0 W W' : World} {b : Nat} {u0 u2 u3 : Value} (hb : b < w0.heap.size) (hB : Below W.heap.size W W') (h : Below w0.heap.size w0 W ∧ W.cell? ⟨b, 0, none⟩ = some u0 ∧ W.cell? ⟨b, 2, none⟩ = some u2 ∧ W.cell? ⟨b, 3, none⟩ = some u3) :
    Below w0.heap.size w0 W' ∧ W'.cell? ⟨b, 0, none⟩ = some u0 ∧ W'.cell? ⟨b, 2, none⟩ = some u2 ∧ W'.cell? ⟨b, 3, none⟩ = some u3 := by
  have hl := Nat.lt_of_lt_of_le hb h.1.size
  exact ⟨bstep h.1 hB, (hB.cell (p := ⟨b, 0, none⟩) hl).trans h.2.1, (hB.cell (p := ⟨b, 2, none⟩) hl).trans h.2.2.1, (hB.cell (p := ⟨b, 3, none⟩) hl).trans h.2.2.2⟩
theorem hl_set {w0 W : World} {b g k : Nat} {u0 u2 u3 v : Value} (hb : b < w0.heap.size) (hg : w0.heap.size ≤ g) (h : Below w0.heap.size w0 W ∧ W.cell? ⟨b, 0, none⟩ = some u0 ∧ W.cell? ⟨b, 2, none⟩ = some u2 ∧ W.cell? ⟨b, 3, none⟩ = some u3) :
    Below w0.heap.size w0 (W.setCell ⟨g, k, none⟩ v) ∧ (W.setCell ⟨g, k, none⟩ v).cell? ⟨b, 0, none⟩ = some u0 ∧ (W.setCell ⟨g, k, none⟩ v).cell? ⟨b, 2, none⟩ = some u2 ∧ (W.setCell ⟨g, k, none⟩ v).cell? ⟨b, 3, none⟩ = some u3 := by
  have hk : (W.setCell ⟨g, k, none⟩ v).heap[b]? = W.heap[b]? := set_other (by omega)
  exact ⟨h.1.setCell hg v, (World.cell?_of_block (a := ⟨b, 0, none⟩) hk).trans h.2.1, (World.cell?_of_block (a := ⟨b, 2, none⟩) hk).trans h.2.2.1, (World.cell?_of_block (a := ⟨b, 3, none⟩) hk).trans h.2.2.2⟩

abbrev zeroN : List Value := [.int .i64 0, .slice none 0 0, .slice none 0 0, .slice none 0 0]
theorem z_one (w2 : World) (Z : List Value) (T : TypeId) : Cells (w2.alloc (.cells Z.toArray T)).drew w2.heap.size Z T := (Cells.new w2 Z T).below (Below.refl (w2.alloc (.cells Z.toArray T)).heap.size _).drew (Cells.new w2 Z T).lt
theorem z_two (w2 : World) (Z : List Value) (T : TypeId) (R : Obj) : Cells ((w2.alloc (.cells Z.toArray T)).alloc R).drew w2.heap.size Z T := (Cells.new w2 Z T).below ((Below.refl (w2.alloc (.cells Z.toArray T)).heap.size _).alloc (Nat.le_refl _) R).drew (Cells.new w2 Z T).lt
theorem z_three (w2 : World) (Z : List Value) (T : TypeId) (R : Obj) : Cells ((w2.alloc R).alloc (.cells Z.toArray T)).drew (w2.heap.size + 1) Z T := by
  have h := z_one (w2.alloc R) Z T
  rwa [show (w2.alloc R).heap.size = w2.heap.size + 1 by simp] at h
theorem z_on {wA W : World} {g : Nat} {Z : List Value} {T : TypeId} (h : Cells W g Z T) (hb : Below W.heap.size W wA) : Cells wA g Z T := h.below hb h.lt

/-- What lies there ahead of the loops. -/
def Began (w2 wx : World) (rz i rn on bm gR : Nat) (vs : List Value) (oa : Option Addr) (oc : Nat) (os : List Int) : Prop :=
  Cells wx bm [.int .i64 (i : Int), .slice none 0 0, .slice (some ⟨gR, 0, none⟩) rn rn, .slice oa on oc] 26 ∧ Cells wx gR vs 53 ∧ OffI wx [bm, gR, rz] oa on os ∧ w2.heap.size ≤ bm ∧ w2.heap.size ≤ gR ∧ bm ≠ gR ∧ Below w2.heap.size w2 wx

abbrev fullN (i rn on gR : Nat) (oa : Option Addr) (oc : Nat) : List Value := [.int .i64 (i : Int), .slice none 0 0, .slice (some ⟨gR, 0, none⟩) rn rn, .slice oa on oc]
abbrev four (wA : World) (bm i rn on gR : Nat) (oa : Option Addr) (oc : Nat) : World := (((wA.setCell ⟨bm, 0, none⟩ (.int .i64 (i : Int))).setCell ⟨bm, 1, none⟩ (.slice none 0 0)).setCell ⟨bm, 2, none⟩ (.slice (some ⟨gR, 0, none⟩) rn rn)).setCell ⟨bm, 3, none⟩ (.slice oa on oc)
theorem four_cells {wA : World} {bm : Nat} (i rn on gR : Nat) (oa : Option Addr) (oc : Nat) (h : Cells wA bm zeroN 26) : Cells (four wA bm i rn on gR oa oc) bm (fullN i rn on gR oa oc) 26 := (((h.set 0 _).set 1 _).set 2 _).set 3 _
theorem four_kept (wA : World) (bm i rn on gR : Nat) (oa : Option Addr) (oc : Nat) (G : List Nat) (h : bm ∈ G) : KeptG G wA (four wA bm i rn on gR oa oc) := (((KeptG.set _ h).trans (KeptG.set _ h)).trans (KeptG.set _ h)).trans (KeptG.set _ h)
theorem four_below {w2 wA : World} {bm B : Nat} (i rn on gR : Nat) (oa : Option Addr) (oc : Nat) (h : Below B w2 wA) (hb : B ≤ bm) : Below B w2 (four wA bm i rn on gR oa oc) := (((h.setCell hb _).setCell hb _).setCell hb _).setCell hb _
theorem four_size (wA : World) (bm i rn on gR : Nat) (oa : Option Addr) (oc : Nat) : (four wA bm i rn on gR oa oc).heap.size = wA.heap.size := by simp [four]
theorem began_ab {w2 wA : World} {rz i rn on bm gR : Nat} {vs : List Value} {oa : Option Addr} {oc : Nat} {os : List Int} (hZ : Cells wA bm zeroN 26) (hR : Cells wA gR vs 53) (hne : bm ≠ gR) (hI : OffI wA [bm, gR, rz] oa on os) (h1 : w2.heap.size ≤ bm) (h2 : w2.heap.size ≤ gR) (hB : Below w2.heap.size w2 wA) : Began w2 (four wA bm i rn on gR oa oc) rz i rn on bm gR vs oa oc os :=
  ⟨four_cells i rn on gR oa oc hZ, (four_kept wA bm i rn on gR oa oc [bm] (by simp)).cells hR (by simp; omega), hI.keep (four_kept wA bm i rn on gR oa oc _ (by simp)), h1, h2, hne, four_below i rn on gR oa oc hB h1⟩
theorem began_c {w2 wA : World} {rz i rn on bm : Nat} {vs : List Value} {oa : Option Addr} {oc : Nat} {os : List Int} (hZ : Cells wA bm zeroN 26) (hI : OffI wA [bm, rz] oa on os) (h1 : w2.heap.size ≤ bm) (hB : Below w2.heap.size w2 wA) : Began w2 ((four wA bm i rn on wA.heap.size oa oc).alloc (.cells vs.toArray 53)) rz i rn on bm wA.heap.size vs oa oc os := by
  have hl := hZ.lt
  have hb4 := (Below.refl _ (four wA bm i rn on wA.heap.size oa oc)).alloc (Nat.le_refl _) (.cells vs.toArray 53)
  have hn := Cells.new (four wA bm i rn on wA.heap.size oa oc) vs 53
  rw [four_size] at hn
  have hI2 : OffI (four wA bm i rn on wA.heap.size oa oc) [bm, wA.heap.size, rz] oa on os := (hI.turn (fun b hb h => by simp at h ⊢; omega)).keep (four_kept wA bm i rn on wA.heap.size oa oc _ (by simp))
  exact ⟨(four_cells i rn on _ oa oc hZ).below hb4 (by rw [four_size]; exact hl), hn, hI2.keep (KeptG.of hb4), h1, hB.size, by omega, bstep (four_below i rn on _ oa oc hB h1) hb4⟩
theorem began_d {w2 wA : World} {rz i rn on gR : Nat} {vs : List Value} {oa : Option Addr} {oc : Nat} {os : List Int} (hR : Cells wA gR vs 53) (hI : OffI wA [gR, rz] oa on os) (h2 : w2.heap.size ≤ gR) (hB : Below w2.heap.size w2 wA) : Began w2 (wA.alloc (.cells (fullN i rn on gR oa oc).toArray 26)) rz i rn on wA.heap.size gR vs oa oc os := by
  have hl := hR.lt
  have hb4 := (Below.refl _ wA).alloc (Nat.le_refl _) (.cells (fullN i rn on gR oa oc).toArray 26)
  exact ⟨Cells.new _ _ _, hR.below hb4 hl, (hI.turn (fun b hb h => by simp at h ⊢; omega)).keep (KeptG.of hb4), hB.size, h2, by omega, bstep hB hb4⟩
theorem began_e {w2 wA : World} {rz i rn on : Nat} {vs : List Value} {oa : Option Addr} {oc : Nat} {os : List Int} (hI : OffI wA [rz] oa on os) (hB : Below w2.heap.size w2 wA) : Began w2 ((wA.alloc (.cells vs.toArray 53)).alloc (.cells (fullN i rn on wA.heap.size oa oc).toArray 26)) rz i rn on (wA.heap.size + 1) wA.heap.size vs oa oc os := by
  have hb4 := (Below.refl _ wA).alloc (Nat.le_refl _) (.cells vs.toArray 53)
  have h := began_d (rz := rz) (i := i) (rn := rn) (oc := oc) (Cells.new wA vs 53) ((hI.turn (G' := [wA.heap.size, rz]) (fun b hb h => by simp at h ⊢; omega)).keep (KeptG.of hb4)) hB.size (bstep hB hb4)
  rwa [show (wA.alloc (.cells vs.toArray 53)).heap.size = wA.heap.size + 1 by simp] at h
theorem began_f {w2 wA : World} {rz i rn on : Nat} {vs : List Value} {oa : Option Addr} {oc : Nat} {os : List Int} (hI : OffI wA [rz] oa on os) (hB : Below w2.heap.size w2 wA) : Began w2 ((wA.alloc (.cells (fullN i rn on (wA.heap.size + 1) oa oc).toArray 26)).alloc (.cells vs.toArray 53)) rz i rn on wA.heap.size (wA.heap.size + 1) vs oa oc os := by
  have hb4 := (Below.refl _ wA).alloc (Nat.le_refl _) (.cells (fullN i rn on (wA.heap.size + 1) oa oc).toArray 26)
  have hb5 := (Below.refl _ (wA.alloc (.cells (fullN i rn on (wA.heap.size + 1) oa oc).toArray 26))).alloc (Nat.le_refl _) (.cells vs.toArray 53)
  have hn := Cells.new (wA.alloc (.cells (fullN i rn on (wA.heap.size + 1) oa oc).toArray 26)) vs 53
  rw [show (wA.alloc (.cells (fullN i rn on (wA.heap.size + 1) oa oc).toArray 26)).heap.size = wA.heap.size + 1 by simp] at hn
  have h4 := Cells.new wA (fullN i rn on (wA.heap.size + 1) oa oc) 26
  have hBs := hB.size
  exact ⟨h4.below hb5 h4.lt, hn, ((hI.turn (G' := [wA.heap.size, wA.heap.size + 1, rz]) (fun b hb h => by simp at h ⊢; omega)).keep (KeptG.of hb4)).keep (KeptG.of hb5), hB.size, by omega, by omega, bstep (bstep hB hb4) hb5⟩


/-- What lies there in the first loop. -/
def ownL (v : Value) : List Nat := v.ownBlock.toList
def MInv (w2 wr : World) (rz i rn on bm gR : Nat) (vs : List Value) (oa : Option Addr) (oc : Nat) (os : List Int) (pa : Option Addr) (pn pc : Nat) (cs : List Value) (gs : List GateD) : Prop :=
  pn = gs.length ∧ Cells wr bm [.int .i64 (i : Int), .slice pa pn pc, .slice (some ⟨gR, 0, none⟩) rn rn, .slice oa on oc] 26 ∧ Cells wr gR vs 53 ∧ OffI wr (bm :: gR :: rz :: ownL (.slice pa pn pc)) oa on os ∧ wr.ownsRow w2.heap.size 47 3 (.slice pa pn pc) pn cs ∧ GRow wr (bm :: gR :: rz :: ownL (.slice pa pn pc)) cs gs ∧ Below w2.heap.size w2 wr
theorem own_ne {w : World} {base g size n : Nat} {e T : TypeId} {v : Value} {xs vs : List Value} (h : w.ownsRow base e size v n xs) (hc : Cells w g vs T) (hT : T ≠ e) : v.ownBlock ≠ some g := by
  rcases h.2 with ⟨h1, _⟩ | ⟨g', cap, cur, hv, _, hh, _⟩
  · rw [h1]; simp [Value.ownBlock]
  · rw [hv]
    intro e1
    have e2 : g' = g := by simpa [Value.ownBlock] using e1
    subst e2
    unfold Cells at hc
    rw [hh] at hc
    injection hc with hc
    injection hc with _ hc _
    exact hT hc.symm
theorem own_lt {w : World} {base size n : Nat} {e : TypeId} {v : Value} {xs : List Value} (h : w.ownsRow base e size v n xs) : ∀ b, v.ownBlock = some b → b < w.heap.size := by
  rcases h.2 with ⟨h1, _⟩ | ⟨g', cap, cur, hv, _, hh, _⟩
  · rw [h1]; simp [Value.ownBlock]
  · rw [hv]
    intro b e1
    have e2 : g' = b := by simpa [Value.ownBlock] using e1
    subst e2
    exact (Array.getElem?_eq_some_iff.1 hh).1
theorem own_on {w w' : World} {base size n : Nat} {e : TypeId} {v : Value} {xs : List Value} (h : w.ownsRow base e size v n xs) (hb : Below w.heap.size w w') : w'.ownsRow base e size v n xs := by
  refine ⟨h.1, ?_⟩
  rcases h.2 with hn | ⟨g', cap, cur, hv, hbs, hgg, rest⟩
  · exact .inl hn
  · exact .inr ⟨g', cap, cur, hv, hbs, (hb.block g' (Array.getElem?_eq_some_iff.1 hgg).1).trans hgg, rest⟩
theorem MInv.on {w2 wr w' : World} {rz i rn on bm gR : Nat} {vs : List Value} {oa : Option Addr} {oc : Nat} {os : List Int} {pa : Option Addr} {pn pc : Nat} {cs : List Value} {gs : List GateD} (h : MInv w2 wr rz i rn on bm gR vs oa oc os pa pn pc cs gs) (hb : Below wr.heap.size wr w') : MInv w2 w' rz i rn on bm gR vs oa oc os pa pn pc cs gs := by
  obtain ⟨h0, h1, h2, h3, h4, h5, h6⟩ := h
  exact ⟨h0, h1.below hb h1.lt, h2.below hb h2.lt, h3.keep (KeptG.of hb), own_on h4 hb, h5.keep (KeptG.of hb), bstep h6 hb⟩
theorem OffI.move {w w' : World} {G G' : List Nat} {a : Option Addr} {n : Nat} {xs : List Int} (h : OffI w G a n xs) (hk : KeptG G w w') (hg : ∀ b, b < w.heap.size → b ∉ G → b ∉ G') : OffI w' G' a n xs :=
  ((h.turn (G' := G ++ G') (fun b hb hn => by simp only [List.mem_append, not_or]; exact ⟨hn, hg b hb hn⟩)).keep (hk.mono (fun b hb => by simp [hb]))).turn (fun b _ hn => by simp only [List.mem_append, not_or] at hn; exact hn.2)
theorem GRow.move {w w' : World} {G G' : List Nat} {cs : List Value} {gs : List GateD} (h : GRow w G cs gs) (hk : KeptG G w w') (hg : ∀ b, b < w.heap.size → b ∉ G → b ∉ G') : GRow w' G' cs gs :=
  ⟨h.1, fun j hj => by obtain ⟨aa, an, ac, h1, h2, h3, h4⟩ := h.2 j hj; exact ⟨aa, an, ac, h1, h2, h3, h4.move hk hg⟩⟩
theorem own_set {w : World} {base size n bm k : Nat} {e : TypeId} {v u : Value} {xs : List Value} (h : w.ownsRow base e size v n xs) (hne : v.ownBlock ≠ some bm) : (w.setCell ⟨bm, k, none⟩ u).ownsRow base e size v n xs := by
  refine ⟨h.1, ?_⟩
  rcases h.2 with hn | ⟨g', cap, cur, hv, hbs, hgg, rest⟩
  · exact .inl hn
  · exact .inr ⟨g', cap, cur, hv, hbs, (set_other (fun e1 => hne (by rw [hv, ← e1]; rfl))).trans hgg, rest⟩
/-- A gate more. -/
theorem MInv.more {w2 w6 w8 : World} {rz i rn on bm gR : Nat} {vs : List Value} {oa : Option Addr} {oc : Nat} {os : List Int} {pa : Option Addr} {pn pc : Nat} {cs : List Value} {gs : List GateD} (h : MInv w2 w6 rz i rn on bm gR vs oa oc os pa pn pc cs gs) (x : GateD) {aa : Option Addr} {an ac g8 cap8 : Nat}
    (hI : OffI w6 (bm :: gR :: rz :: ownL (.slice pa pn pc)) aa an x.args) (hown : w8.ownsRow w2.heap.size 47 3 (.slice (some ⟨g8, 0, none⟩) (pn + 1) cap8) (pn + 1) (cs ++ [.int .i64 x.kind, .int .i64 x.n, .slice aa an ac])) (hgr : w6.grownBy w8 (Value.slice pa pn pc).ownBlock) (hat : (Value.slice pa pn pc).ownBlock = some g8 ∨ g8 = w6.heap.size) (hbm : w2.heap.size ≤ bm) :
    MInv w2 (w8.setCell ⟨bm, 1, none⟩ (.slice (some ⟨g8, 0, none⟩) (pn + 1) cap8)) rz i rn on bm gR vs oa oc os (some ⟨g8, 0, none⟩) (pn + 1) cap8 (cs ++ [.int .i64 x.kind, .int .i64 x.n, .slice aa an ac]) (gs ++ [x]) := by
  obtain ⟨h0, h1, h2, h3, h4, h5, h6⟩ := h
  have n1 := own_ne h4 h1 (by decide)
  have n2 := own_ne h4 h2 (by decide)
  have l1 := h1.lt
  have l2 := h2.lt
  have c1 : Cells w8 bm _ 26 := (hgr.block bm l1 (Ne.symm n1)).trans h1
  have c2 : Cells w8 gR _ 53 := (hgr.block gR l2 (Ne.symm n2)).trans h2
  have m1 := own_ne hown c1 (by decide)
  have m2 := own_ne hown c2 (by decide)
  have hrm : bm ≠ gR := by
    intro e
    subst e
    unfold Cells at h1 h2
    rw [h1] at h2
    injection h2 with h2
    injection h2 with _ h2 _
    exact absurd h2 (by decide)
  have hkg : KeptG (bm :: gR :: rz :: ownL (.slice pa pn pc)) w6 w8 := KeptG.grown hgr (fun b hb => by simp [ownL, hb])
  have hturn : ∀ b, b < w6.heap.size → b ∉ (bm :: gR :: rz :: ownL (.slice pa pn pc)) → b ∉ (bm :: gR :: rz :: ownL (.slice (some ⟨g8, 0, none⟩) (pn + 1) cap8)) := by
    intro b hb hn
    simp only [List.mem_cons, not_or] at hn ⊢
    refine ⟨hn.1, hn.2.1, hn.2.2.1, ?_⟩
    have hn3 := hn.2.2.2
    simp only [ownL, Value.ownBlock, Option.toList_some, List.mem_singleton]
    rcases hat with e | e
    · intro eb
      subst eb
      exact hn3 (by simp [ownL, e])
    · omega
  have hb8 : Below w2.heap.size w2 w8 := h6.grown hgr h6.size (fun k hk => by
    rcases h4.2 with ⟨hv, _⟩ | ⟨g', _, _, hv, hbs, _⟩
    · rw [hv] at hk; simp [Value.ownBlock] at hk
    · rw [hv] at hk; simp [Value.ownBlock] at hk; omega)
  have hset : ∀ {G : List Nat}, bm ∈ G → KeptG G w8 (w8.setCell ⟨bm, 1, none⟩ (.slice (some ⟨g8, 0, none⟩) (pn + 1) cap8)) := fun hm => KeptG.set _ hm
  refine ⟨by simp [h0], c1.set 1 _, (hset (G := [bm]) (by simp)).cells c2 (by simp; omega), (h3.move hkg hturn).keep (hset (by simp)), own_set hown m1, ?_, hb8.setCell hbm _⟩
  exact ((h5.move hkg hturn).more (hI.move hkg hturn)).keep (hset (by simp))
end Go.Proofs.Ytongajonecgdpad
