/- Rows of rows; what all instants come to; the document's RunOf. -/
import Derived.Test.YtongajonecgdpaeTickC
import Derived.Maps.AppendAt
namespace Go.Proofs.Ytongajonecgdpae
open Go.RowKit

/-- Numbers that lie in memory, and not in block g. -/
def IntsOff (w : World) (g : Option Nat) (a : Option Addr) (n : Nat) (xs : List Int) : Prop := Ints w a n xs ∧ (n = 0 ∨ ∃ b off, a = some ⟨b, off, none⟩ ∧ b < w.heap.size ∧ g ≠ some b)
theorem IntsOff.below {w w' : World} {g : Option Nat} {a : Option Addr} {n : Nat} {xs : List Int} (h : IntsOff w g a n xs) (hb : Below w.heap.size w w') : IntsOff w' g a n xs := by
  refine ⟨h.1.below hb, ?_⟩
  rcases h.2 with h | ⟨b, off, ha, hl, hg⟩
  · exact Or.inl h
  · exact Or.inr ⟨b, off, ha, Nat.lt_of_lt_of_le hl hb.size, hg⟩
theorem IntsOff.grown {w w' : World} {g g' : Option Nat} {a : Option Addr} {n : Nat} {xs : List Int} (h : IntsOff w g a n xs) (hg : w.grownBy w' g) (hg' : g' = g ∨ g' = some w.heap.size) : IntsOff w' g' a n xs := by
  obtain ⟨⟨h1, h2, h3⟩, h4⟩ := h
  rcases h4 with h4 | ⟨b, off, ha, hl, hne⟩
  · exact ⟨⟨h1, h2, Or.inl (List.length_eq_zero_iff.1 (by omega))⟩, Or.inl h4⟩
  · refine ⟨⟨h1, h2, ?_⟩, Or.inr ⟨b, off, ha, Nat.lt_of_lt_of_le hl hg.size, ?_⟩⟩
    · rcases h3 with h3 | ⟨b', off', ha', hl', hc⟩
      · exact Or.inl h3
      · rw [ha] at ha'
        injection ha' with ha'
        injection ha' with e1 e2 _
        subst e1; subst e2
        exact Or.inr ⟨b, off, ha, Nat.lt_of_lt_of_le hl hg.size, fun i hi => hg.cell (hc i hi) (fun e => hne e.symm)⟩
    · rcases hg' with e | e
      · rw [e]; exact hne
      · rw [e]; intro hh; injection hh with hh; omega
theorem IntsOff.fresh {w : World} {base : Nat} {g : Option Nat} {a : Option Addr} {n : Nat} {xs : List Int} (h : Ints w a n xs) (hF : Fresh base a n) (hg : ∀ k, g = some k → k < base) : IntsOff w g a n xs := by
  refine ⟨h, ?_⟩
  rcases hF with hF | ⟨b, off, ha, hb⟩
  · exact Or.inl hF
  · rcases h.2.2 with h3 | ⟨b', off', ha', hl', hc⟩
    · exact Or.inl (by rw [h.1, h3]; rfl)
    · rw [ha] at ha'
      injection ha' with ha'
      injection ha' with e1 e2 _
      exact Or.inr ⟨b, off, ha, by omega, fun e => by have := hg b e; omega⟩

/-- Rows of numbers: the values vs lead to them. -/
def RowsOff (w : World) (g : Option Nat) (vs : List Value) (xss : List (List Int)) : Prop :=
  vs.length = xss.length ∧ ∀ i (hi : i < xss.length), ∃ a n c, vs[i]? = some (.slice a n c) ∧ IntsOff w g a n xss[i]
theorem RowsOff.nil (w : World) (g : Option Nat) : RowsOff w g [] [] := ⟨rfl, fun i hi => absurd hi (by simp)⟩
theorem RowsOff.below {w w' : World} {g : Option Nat} {vs : List Value} {xss : List (List Int)} (h : RowsOff w g vs xss) (hb : Below w.heap.size w w') : RowsOff w' g vs xss :=
  ⟨h.1, fun i hi => by obtain ⟨a, n, c, e, hI⟩ := h.2 i hi; exact ⟨a, n, c, e, hI.below hb⟩⟩
theorem RowsOff.grown {w w' : World} {g g' : Option Nat} {vs : List Value} {xss : List (List Int)} (h : RowsOff w g vs xss) (hg : w.grownBy w' g) (hg' : g' = g ∨ g' = some w.heap.size) : RowsOff w' g' vs xss :=
  ⟨h.1, fun i hi => by obtain ⟨a, n, c, e, hI⟩ := h.2 i hi; exact ⟨a, n, c, e, hI.grown hg hg'⟩⟩
theorem RowsOff.snoc {w : World} {g : Option Nat} {vs : List Value} {xss : List (List Int)} {a : Option Addr} {n c : Nat} {xs : List Int} (h : RowsOff w g vs xss) (h' : IntsOff w g a n xs) : RowsOff w g (vs ++ [.slice a n c]) (xss ++ [xs]) := by
  refine ⟨by simp [h.1], fun i hi => ?_⟩
  by_cases hlt : i < xss.length
  · obtain ⟨a', n', c', e, hI⟩ := h.2 i hlt
    refine ⟨a', n', c', ?_, ?_⟩
    · rw [List.getElem?_append_left (by rw [h.1]; exact hlt)]; exact e
    · rw [List.getElem_append_left hlt]; exact hI
  · have hi' : i = xss.length := by simp at hi; omega
    subst hi'
    refine ⟨a, n, c, ?_, ?_⟩
    · rw [List.getElem?_append_right (by rw [h.1]; exact Nat.le_refl _), h.1]; simp
    · simpa using h'

/-- A [][]int. -/
def Rows (w : World) (a : Option Addr) (n : Nat) (xss : List (List Int)) : Prop :=
  n = xss.length ∧ xss.length ≤ maxLen ∧ (xss = [] ∨ ∃ b off, a = some ⟨b, off, none⟩ ∧ b < w.heap.size ∧ ∀ i (hi : i < xss.length), ∃ ra rn rc, w.cell? ⟨b, off + i, none⟩ = some (.slice ra rn rc) ∧ Ints w ra rn xss[i])
theorem Rows.below {w w' : World} {a : Option Addr} {n : Nat} {xss : List (List Int)} (h : Rows w a n xss) (hb : Below w.heap.size w w') : Rows w' a n xss := by
  obtain ⟨h1, h2, h3⟩ := h
  refine ⟨h1, h2, ?_⟩
  rcases h3 with h3 | ⟨b, off, ha, hlt, hc⟩
  · exact Or.inl h3
  · refine Or.inr ⟨b, off, ha, Nat.lt_of_lt_of_le hlt hb.size, fun i hi => ?_⟩
    obtain ⟨ra, rn, rc, e, hI⟩ := hc i hi
    exact ⟨ra, rn, rc, (hb.cell hlt).trans e, hI.below hb⟩
theorem Rows.nil0 (w : World) : Rows w Option.none 0 [] := ⟨rfl, Nat.zero_le _, Or.inl rfl⟩
theorem Rows.at {w : World} {a : Option Addr} {n : Nat} {xss : List (List Int)} (h : Rows w a n xss) {k : Nat} (hk : k < xss.length) :
    ∃ b off ra rn rc, a = some ⟨b, off, Option.none⟩ ∧ b < w.heap.size ∧ w.cell? ⟨b, off + k, Option.none⟩ = some (.slice ra rn rc) ∧ Ints w ra rn xss[k] := by
  obtain ⟨h1, h2, h3⟩ := h
  rcases h3 with h3 | ⟨b, off, ha, hlt, hc⟩
  · rw [h3] at hk; simp at hk
  · obtain ⟨ra, rn, rc, e, hI⟩ := hc k hk
    exact ⟨b, off, ra, rn, rc, ha, hlt, e, hI⟩
theorem own_rows {w : World} {base : Nat} {e : TypeId} {v : Value} {n : Nat} {vs : List Value} {xss : List (List Int)} (h : w.ownsRow base e 1 v n vs) (hm : n ≤ maxLen) (hR : RowsOff w v.ownBlock vs xss) :
    ∃ a cap, v = .slice a n cap ∧ Rows w a n xss ∧ n ≤ cap := by
  have hn : n = xss.length := by have := h.1; have := hR.1; omega
  rcases h.2 with ⟨h1, h2⟩ | ⟨g, cap, cur, hv, hg, hh, r⟩
  · subst h2
    have : xss = [] := List.length_eq_zero_iff.1 hn.symm
    subst this
    exact ⟨_, _, h1, Rows.nil0 _, Nat.le_refl _⟩
  · refine ⟨_, _, hv, ⟨hn, by omega, Or.inr ⟨g, 0, rfl, (Array.getElem?_eq_some_iff.1 hh).1, fun i hi => ?_⟩⟩, r.1⟩
    obtain ⟨a', n', c', e', hI⟩ := hR.2 i hi
    refine ⟨a', n', c', ?_, hI.1⟩
    have := h.cells (g := g) (by rw [hv]; rfl) i _ e'
    have hadd : (⟨g, 0, none⟩ : Addr).add i = ⟨g, 0 + i, none⟩ := by unfold Addr.add; split <;> simp_all
    rw [hadd] at this
    exact this
theorem Rows.take {w : World} {a : Option Addr} {n k : Nat} {xss : List (List Int)} (h : Rows w a n xss) (hk : k ≤ n) : Rows w a k (xss.take k) := by
  obtain ⟨h1, h2, h3⟩ := h
  have hl : (xss.take k).length = k := by simp; omega
  refine ⟨hl.symm, by omega, ?_⟩
  rcases h3 with h3 | ⟨b, off, ha, hlt, hc⟩
  · subst h3; exact Or.inl (by simp)
  · refine Or.inr ⟨b, off, ha, hlt, fun i hi => ?_⟩
    obtain ⟨ra, rn, rc, e, hI⟩ := hc i (by omega)
    exact ⟨ra, rn, rc, e, by rw [List.getElem_take]; exact hI⟩
theorem ownsRow_below {w w' : World} {base size : Nat} {e : TypeId} {v : Value} {n : Nat} {vs : List Value} (h : w.ownsRow base e size v n vs) (hb : Below w.heap.size w w') : w'.ownsRow base e size v n vs := by
  refine ⟨h.1, ?_⟩
  rcases h.2 with h1 | ⟨g, cap, cur, hv, hg, hh, r⟩
  · exact Or.inl h1
  · exact Or.inr ⟨g, cap, cur, hv, hg, (hb.block g (Array.getElem?_eq_some_iff.1 hh).1).trans hh, r⟩

/-- In which state instant k begins; what error it gives; what it puts out. -/
def stateAt (d : NetD) (l : List Int) : Nat → List Int
  | 0 => begins d
  | k + 1 => doNext d (stateAt d l k) (bitsV (l.getD k 0) d.ins.toNat)
def errAt (d : NetD) (l : List Int) (k : Nat) : Int := doE d (stateAt d l k) (bitsV (l.getD k 0) d.ins.toNat)
def outAt (d : NetD) (l : List Int) (k : Nat) : List Int := doOuts d (stateAt d l k) (bitsV (l.getD k 0) d.ins.toNat)
def errTo (d : NetD) (l : List Int) : Nat → Int
  | 0 => 0
  | k + 1 => if errTo d l k = 0 then errAt d l k else errTo d l k
def runE (d : NetD) (l : List Int) : Int := if checkE d = 0 then (if timesE l d.ins.toNat = 0 then errTo d l l.length else timesE l d.ins.toNat) else checkE d
def rowsTo (d : NetD) (l : List Int) (k : Nat) : List (List Int) := (List.range k).map (outAt d l)
def runRows (d : NetD) (l : List Int) : List (List Int) := if runE d l = 0 then rowsTo d l l.length else []
def runRegs (d : NetD) (l : List Int) : List Int := if runE d l = 0 then stateAt d l l.length else []
theorem rowsTo_succ (d : NetD) (l : List Int) (k : Nat) : rowsTo d l (k + 1) = rowsTo d l k ++ [outAt d l k] := by simp [rowsTo, List.range_succ]
theorem errTo_stays (d : NetD) (l : List Int) (k : Nat) (h : errTo d l k ≠ 0) : ∀ m, k ≤ m → errTo d l m = errTo d l k := by
  intro m
  induction m with
  | zero => intro hk; rw [show k = 0 by omega]
  | succ m ih =>
    intro hk
    by_cases e : k = m + 1
    · rw [e]
    · have := ih (by omega)
      show (if errTo d l m = 0 then errAt d l m else errTo d l m) = _
      rw [if_neg (by rw [this]; exact h), this]


theorem Try.infoSl : (Try.prog.info? 24).map (fun i => (i.zero, i.size, i.bytes)) = some (some (.slice none 0 0), 1, 24) := by kernel_rfl
theorem IntsOff.start {w : World} {a : Option Addr} {n : Nat} {xs : List Int} (h : Ints w a n xs) : IntsOff w Option.none a n xs := by
  refine ⟨h, ?_⟩
  rcases h.2.2 with h3 | ⟨b, off, ha, hl, hc⟩
  · exact Or.inl (by rw [h.1, h3]; rfl)
  · exact Or.inr ⟨b, off, ha, hl, by simp⟩
theorem heldl_of {w0 W : World} {b : Nat} {ins0 : Int} {ga ra oa : Option Addr} {gn gc rn rc on oc : Nat} {p : Addr} {x : Value} (hx : Boxed w0 b ins0 ga gn gc ra rn rc oa on oc) (hp : p.block < w0.heap.size) (hc : w0.cell? p = some x) (h : Below w0.heap.size w0 W) :
    Below w0.heap.size w0 W ∧ W.cell? ⟨b, 0, none⟩ = some (.int .i64 ins0) ∧ W.cell? ⟨b, 1, none⟩ = some (.slice ga gn gc) ∧ W.cell? ⟨b, 2, none⟩ = some (.slice ra rn rc) ∧ W.cell? ⟨b, 3, none⟩ = some (.slice oa on oc) ∧ W.cell? p = some x := by
  obtain ⟨_, x1, x2, x3, x4⟩ := hx.below h
  exact ⟨h, x1, x2, x3, x4, (h.cell hp).trans hc⟩
theorem held_next' {w0 W W' : World} {R : Prop} (h : Below w0.heap.size w0 W ∧ R) (hb : Below W.heap.size W W') : Below w0.heap.size w0 W' := bstep h.1 hb
theorem ret_ro {a b : Option Addr} {n c m k : Nat} {x y : Int} (h : x = y) : Ending.returned (.tuple #[.slice a n c, .slice b m k, .int .i64 x]) = .returned (.tuple #[.slice a n c, .slice b m k, .int .i64 y]) := by rw [h]

end Go.Proofs.Ytongajonecgdpae
