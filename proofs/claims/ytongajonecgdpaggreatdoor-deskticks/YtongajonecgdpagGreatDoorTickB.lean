/- The document's timesError and DoOf. -/
import Derived.Test.YtongajonecgdpagGreatDoorTickA
import Derived.Test.YtongajonecgdpagGreatDoorEvalP
import Derived.Deep.RegionHeld3
import Derived.Deep.DrawnRows
import Derived.Maps.AppendAt
import Derived.Deep.RegionLaw
namespace Go.Proofs.YtongajonecgdpagGreatDoor
open Go.RowKit

def inPow (l : List Int) (n : Nat) : Bool := l.all (fun x => wth x 0 (2 ^ n - 1))
def timesE (l : List Int) (n : Nat) : Int := if 60 < l.length then 2 else if inPow l n = true then 0 else 3

def lfp (d : NetD) (regs ins : List Int) : List Int := iterV d regs ins d.gates.length
theorem iter_down (d : NetD) (regs ins : List Int) : ∀ k, roundV d regs ins (iterV d regs ins k) = iterV d regs ins k ∨ opens (iterV d regs ins k) + k ≤ d.gates.length
  | 0 => Or.inr (by have := opens_le_length (List.replicate d.gates.length 2); simpa [iterV] using this)
  | k + 1 => by
    rcases iter_down d regs ins k with h | h
    · exact Or.inl (by show roundV d regs ins (roundV d regs ins (iterV d regs ins k)) = roundV d regs ins (iterV d regs ins k); rw [h, h])
    · by_cases hf : roundV d regs ins (iterV d regs ins k) = iterV d regs ins k
      · exact Or.inl (by show roundV d regs ins (roundV d regs ins (iterV d regs ins k)) = roundV d regs ins (iterV d regs ins k); rw [hf, hf])
      · have := (iter_way d regs ins k).fewer hf
        exact Or.inr (by show opens (roundV d regs ins (iterV d regs ins k)) + (k + 1) ≤ _; omega)
theorem lfp_least (d : NetD) (regs ins : List Int) : Least d regs ins (lfp d regs ins) := by
  refine (iter_way d regs ins _).least ?_
  rcases iter_down d regs ins d.gates.length with h | h
  · exact h
  · apply Classical.byContradiction
    intro hf
    have := (iter_way d regs ins _).fewer hf
    omega
theorem Least.is {d : NetD} {regs ins v : List Int} (h : Least d regs ins v) : v = lfp d regs ins := h.same (lfp_least d regs ins)

/-- Which error Do gives; what it puts out; what is next. -/
def doE (d : NetD) (regs ins : List Int) : Int := if stepE d regs ins = 0 then (if opens (lfp d regs ins) = 0 then 0 else 6) else stepE d regs ins
def doOuts (d : NetD) (regs ins : List Int) : List Int := if doE d regs ins = 0 then pickV (lfp d regs ins) d.outs else []
def doNext (d : NetD) (regs ins : List Int) : List Int := if doE d regs ins = 0 then pickV (lfp d regs ins) (nextsV d) else []
theorem outs_in {d : NetD} (h : numbersB d = true) (j : Nat) (hj : j < d.outs.length) : 0 ≤ d.outs[j] ∧ d.outs[j] < d.gates.length := by
  simp only [numbersB, Bool.and_eq_true] at h
  have := h.1.2
  unfold outsTo at this
  rw [List.take_length, List.all_eq_true] at this
  simpa [isB] using this _ (List.getElem_mem hj)
theorem nexts_in {d : NetD} (h : numbersB d = true) (j : Nat) (hj : j < (nextsV d).length) : 0 ≤ (nextsV d)[j] ∧ (nextsV d)[j] < d.gates.length := by
  simp only [numbersB, Bool.and_eq_true] at h
  have := h.1.1.2
  unfold regsTo at this
  rw [List.take_length, List.all_eq_true] at this
  rw [nextsV_len] at hj
  simpa [isB, nextsV] using this _ (List.getElem_mem hj)
theorem held_below {w0 W : World} {R : Prop} (h : Below w0.heap.size w0 W ∧ R) : Below w0.heap.size w0 W := h.1
theorem held_of {w0 W : World} {b : Nat} {ins0 : Int} {ga ra oa : Option Addr} {gn gc rn rc on oc : Nat} (hx : Boxed w0 b ins0 ga gn gc ra rn rc oa on oc) (h : Below w0.heap.size w0 W) :
    Below w0.heap.size w0 W ∧ W.cell? ⟨b, 0, none⟩ = some (.int .i64 ins0) ∧ W.cell? ⟨b, 1, none⟩ = some (.slice ga gn gc) ∧ W.cell? ⟨b, 2, none⟩ = some (.slice ra rn rc) ∧ W.cell? ⟨b, 3, none⟩ = some (.slice oa on oc) := by
  obtain ⟨_, x1, x2, x3, x4⟩ := hx.below h
  exact ⟨h, x1, x2, x3, x4⟩
theorem held_start {w0 : World} {b : Nat} {ins0 : Int} {ga ra oa : Option Addr} {gn gc rn rc on oc : Nat} (hx : Boxed w0 b ins0 ga gn gc ra rn rc oa on oc) :
    Below w0.heap.size w0 w0.drew ∧ w0.drew.cell? ⟨b, 0, none⟩ = some (.int .i64 ins0) ∧ w0.drew.cell? ⟨b, 1, none⟩ = some (.slice ga gn gc) ∧ w0.drew.cell? ⟨b, 2, none⟩ = some (.slice ra rn rc) ∧ w0.drew.cell? ⟨b, 3, none⟩ = some (.slice oa on oc) := held_of hx (Below.refl _ _).drew
theorem held_next {w0 W W' : World} {R : Prop} {b : Nat} {ins0 : Int} {ga ra oa : Option Addr} {gn gc rn rc on oc : Nat} (hx : Boxed w0 b ins0 ga gn gc ra rn rc oa on oc) (h : Below w0.heap.size w0 W ∧ R) (hb : Below W.heap.size W W') :
    Below w0.heap.size w0 W' ∧ W'.cell? ⟨b, 0, none⟩ = some (.int .i64 ins0) ∧ W'.cell? ⟨b, 1, none⟩ = some (.slice ga gn gc) ∧ W'.cell? ⟨b, 2, none⟩ = some (.slice ra rn rc) ∧ W'.cell? ⟨b, 3, none⟩ = some (.slice oa on oc) := held_of hx (bstep h.1 hb)
theorem Fresh.down {b b' : Nat} {a : Option Addr} {n : Nat} (h : Fresh b a n) (hb : b' ≤ b) : Fresh b' a n := by
  rcases h with h | ⟨g, off, ha, hg⟩
  · exact Or.inl h
  · exact Or.inr ⟨g, off, ha, Nat.le_trans hb hg⟩
theorem fresh_size {w w0 W : World} {R : Prop} (h0 : Below w.heap.size w w0) (h : Below w0.heap.size w0 W ∧ R) : w.heap.size ≤ W.heap.size := Nat.le_trans h0.size h.1.size
theorem ret_sl2 {a b : Option Addr} {n c m k : Nat} {x y : Int} (h : x = y) : Ending.returned (.tuple #[.slice a n c, .slice b m k, .int .i64 x]) = .returned (.tuple #[.slice a n c, .slice b m k, .int .i64 y]) := by rw [h]

/-- Numbers that lie in memory, and not in block g. -/
def IntsOff (w : World) (g : Option Nat) (a : Option Addr) (n : Nat) (xs : List Int) : Prop := Ints w a n xs ∧ (n = 0 ∨ ∃ b off, a = some ⟨b, off, none⟩ ∧ b < w.heap.size ∧ g ≠ some b)
theorem IntsOff.below {w w' : World} {g : Option Nat} {a : Option Addr} {n : Nat} {xs : List Int} (h : IntsOff w g a n xs) (hb : Below w.heap.size w w') : IntsOff w' g a n xs := by
  refine ⟨h.1.below hb, ?_⟩
  rcases h.2 with h | ⟨b, off, ha, hl, hg⟩
  · exact Or.inl h
  · exact Or.inr ⟨b, off, ha, Nat.lt_of_lt_of_le hl hb.size, hg⟩
theorem IntsOff.grown {w w' : World} {g g' : Option Nat} {a : Option Addr} {n : Nat} {xs : List Int} (h : IntsOff w g a n xs) (hg : w.grownBy w' g) (hg' : g' = g ∨ g' = some w.heap.size) : IntsOff w' g' a n xs := by
  obtain ⟨⟨h1, h2, h3⟩, h4⟩ := h
  rcases h4 with h4 | ⟨b, off, ha, hl, hne⟩
  · exact ⟨⟨h1, h2, Or.inl (List.length_eq_zero_iff.1 (by omega))⟩, Or.inl h4⟩
  · refine ⟨⟨h1, h2, ?_⟩, Or.inr ⟨b, off, ha, Nat.lt_of_lt_of_le hl hg.size, ?_⟩⟩
    · rcases h3 with h3 | ⟨b', off', ha', hl', hc⟩
      · exact Or.inl h3
      · rw [ha] at ha'
        injection ha' with ha'
        injection ha' with e1 e2 _
        subst e1; subst e2
        exact Or.inr ⟨b, off, ha, Nat.lt_of_lt_of_le hl hg.size, fun i hi => hg.cell (hc i hi) (fun e => hne e.symm)⟩
    · rcases hg' with e | e
      · rw [e]; exact hne
      · rw [e]; intro hh; injection hh with hh; omega
theorem IntsOff.fresh {w : World} {base : Nat} {g : Option Nat} {a : Option Addr} {n : Nat} {xs : List Int} (h : Ints w a n xs) (hF : Fresh base a n) (hg : ∀ k, g = some k → k < base) : IntsOff w g a n xs := by
  refine ⟨h, ?_⟩
  rcases hF with hF | ⟨b, off, ha, hb⟩
  · exact Or.inl hF
  · rcases h.2.2 with h3 | ⟨b', off', ha', hl', hc⟩
    · exact Or.inl (by rw [h.1, h3]; rfl)
    · rw [ha] at ha'
      injection ha' with ha'
      injection ha' with e1 e2 _
      exact Or.inr ⟨b, off, ha, by omega, fun e => by have := hg b e; omega⟩

/-- Rows of numbers: the values vs lead to them. -/
def RowsOff (w : World) (g : Option Nat) (vs : List Value) (xss : List (List Int)) : Prop :=
  vs.length = xss.length ∧ ∀ i (hi : i < xss.length), ∃ a n c, vs[i]? = some (.slice a n c) ∧ IntsOff w g a n xss[i]
theorem RowsOff.nil (w : World) (g : Option Nat) : RowsOff w g [] [] := ⟨rfl, fun i hi => absurd hi (by simp)⟩
theorem RowsOff.below {w w' : World} {g : Option Nat} {vs : List Value} {xss : List (List Int)} (h : RowsOff w g vs xss) (hb : Below w.heap.size w w') : RowsOff w' g vs xss :=
  ⟨h.1, fun i hi => by obtain ⟨a, n, c, e, hI⟩ := h.2 i hi; exact ⟨a, n, c, e, hI.below hb⟩⟩
theorem RowsOff.grown {w w' : World} {g g' : Option Nat} {vs : List Value} {xss : List (List Int)} (h : RowsOff w g vs xss) (hg : w.grownBy w' g) (hg' : g' = g ∨ g' = some w.heap.size) : RowsOff w' g' vs xss :=
  ⟨h.1, fun i hi => by obtain ⟨a, n, c, e, hI⟩ := h.2 i hi; exact ⟨a, n, c, e, hI.grown hg hg'⟩⟩
theorem RowsOff.snoc {w : World} {g : Option Nat} {vs : List Value} {xss : List (List Int)} {a : Option Addr} {n c : Nat} {xs : List Int} (h : RowsOff w g vs xss) (h' : IntsOff w g a n xs) : RowsOff w g (vs ++ [.slice a n c]) (xss ++ [xs]) := by
  refine ⟨by simp [h.1], fun i hi => ?_⟩
  by_cases hlt : i < xss.length
  · obtain ⟨a', n', c', e, hI⟩ := h.2 i hlt
    refine ⟨a', n', c', ?_, ?_⟩
    · rw [List.getElem?_append_left (by rw [h.1]; exact hlt)]; exact e
    · rw [List.getElem_append_left hlt]; exact hI
  · have hi' : i = xss.length := by simp at hi; omega
    subst hi'
    refine ⟨a, n, c, ?_, ?_⟩
    · rw [List.getElem?_append_right (by rw [h.1]; exact Nat.le_refl _), h.1]; simp
    · simpa using h'

/-- A [][]int. -/
def Rows (w : World) (a : Option Addr) (n : Nat) (xss : List (List Int)) : Prop :=
  n = xss.length ∧ xss.length ≤ maxLen ∧ (xss = [] ∨ ∃ b off, a = some ⟨b, off, none⟩ ∧ b < w.heap.size ∧ ∀ i (hi : i < xss.length), ∃ ra rn rc, w.cell? ⟨b, off + i, none⟩ = some (.slice ra rn rc) ∧ Ints w ra rn xss[i])
theorem Rows.below {w w' : World} {a : Option Addr} {n : Nat} {xss : List (List Int)} (h : Rows w a n xss) (hb : Below w.heap.size w w') : Rows w' a n xss := by
  obtain ⟨h1, h2, h3⟩ := h
  refine ⟨h1, h2, ?_⟩
  rcases h3 with h3 | ⟨b, off, ha, hlt, hc⟩
  · exact Or.inl h3
  · refine Or.inr ⟨b, off, ha, Nat.lt_of_lt_of_le hlt hb.size, fun i hi => ?_⟩
    obtain ⟨ra, rn, rc, e, hI⟩ := hc i hi
    exact ⟨ra, rn, rc, (hb.cell hlt).trans e, hI.below hb⟩
theorem Rows.nil0 (w : World) : Rows w Option.none 0 [] := ⟨rfl, Nat.zero_le _, Or.inl rfl⟩
theorem Rows.at {w : World} {a : Option Addr} {n : Nat} {xss : List (List Int)} (h : Rows w a n xss) {k : Nat} (hk : k < xss.length) :
    ∃ b off ra rn rc, a = some ⟨b, off, Option.none⟩ ∧ b < w.heap.size ∧ w.cell? ⟨b, off + k, Option.none⟩ = some (.slice ra rn rc) ∧ Ints w ra rn xss[k] := by
  obtain ⟨h1, h2, h3⟩ := h
  rcases h3 with h3 | ⟨b, off, ha, hlt, hc⟩
  · rw [h3] at hk; simp at hk
  · obtain ⟨ra, rn, rc, e, hI⟩ := hc k hk
    exact ⟨b, off, ra, rn, rc, ha, hlt, e, hI⟩
theorem Rows.take {w : World} {a : Option Addr} {n k : Nat} {xss : List (List Int)} (h : Rows w a n xss) (hk : k ≤ n) : Rows w a k (xss.take k) := by
  obtain ⟨h1, h2, h3⟩ := h
  have hl : (xss.take k).length = k := by simp; omega
  refine ⟨hl.symm, by omega, ?_⟩
  rcases h3 with h3 | ⟨b, off, ha, hlt, hc⟩
  · subst h3; exact Or.inl (by simp)
  · refine Or.inr ⟨b, off, ha, hlt, fun i hi => ?_⟩
    obtain ⟨ra, rn, rc, e, hI⟩ := hc i (by omega)
    exact ⟨ra, rn, rc, e, by rw [List.getElem_take]; exact hI⟩
/-- In which state instant k begins; what error it gives; what it puts out. -/
def stateAt (d : NetD) (l : List Int) : Nat → List Int
  | 0 => begins d
  | k + 1 => doNext d (stateAt d l k) (bitsV (l.getD k 0) d.ins.toNat)
def errAt (d : NetD) (l : List Int) (k : Nat) : Int := doE d (stateAt d l k) (bitsV (l.getD k 0) d.ins.toNat)
def outAt (d : NetD) (l : List Int) (k : Nat) : List Int := doOuts d (stateAt d l k) (bitsV (l.getD k 0) d.ins.toNat)
def errTo (d : NetD) (l : List Int) : Nat → Int
  | 0 => 0
  | k + 1 => if errTo d l k = 0 then errAt d l k else errTo d l k
def runE (d : NetD) (l : List Int) : Int := if checkE d = 0 then (if timesE l d.ins.toNat = 0 then errTo d l l.length else timesE l d.ins.toNat) else checkE d
def rowsTo (d : NetD) (l : List Int) (k : Nat) : List (List Int) := (List.range k).map (outAt d l)
def runRows (d : NetD) (l : List Int) : List (List Int) := if runE d l = 0 then rowsTo d l l.length else []
def runRegs (d : NetD) (l : List Int) : List Int := if runE d l = 0 then stateAt d l l.length else []
theorem rowsTo_succ (d : NetD) (l : List Int) (k : Nat) : rowsTo d l (k + 1) = rowsTo d l k ++ [outAt d l k] := by simp [rowsTo, List.range_succ]
theorem errTo_stays (d : NetD) (l : List Int) (k : Nat) (h : errTo d l k ≠ 0) : ∀ m, k ≤ m → errTo d l m = errTo d l k := by
  intro m
  induction m with
  | zero => intro hk; rw [show k = 0 by omega]
  | succ m ih =>
    intro hk
    by_cases e : k = m + 1
    · rw [e]
    · have := ih (by omega)
      show (if errTo d l m = 0 then errAt d l m else errTo d l m) = _
      rw [if_neg (by rw [this]; exact h), this]


theorem Tryz.infoSl : (Tryz.prog.info? 28).map (fun i => (i.zero, i.size, i.bytes)) = some (some (.slice none 0 0), 1, 24) := by kernel_rfl
theorem IntsOff.start {w : World} {a : Option Addr} {n : Nat} {xs : List Int} (h : Ints w a n xs) : IntsOff w Option.none a n xs := by
  refine ⟨h, ?_⟩
  rcases h.2.2 with h3 | ⟨b, off, ha, hl, hc⟩
  · exact Or.inl (by rw [h.1, h3]; rfl)
  · exact Or.inr ⟨b, off, ha, hl, by simp⟩
theorem ret_ro {a b : Option Addr} {n c m k : Nat} {x y : Int} (h : x = y) : Ending.returned (.tuple #[.slice a n c, .slice b m k, .int .i64 x]) = .returned (.tuple #[.slice a n c, .slice b m k, .int .i64 y]) := by rw [h]

theorem getD_snoc (l : List Int) (x : Int) (k : Nat) (h : k < l.length) : (l ++ [x]).getD k 0 = l.getD k 0 := by
  simp [List.getD_eq_getElem?_getD, List.getElem?_append_left h]
theorem getD_last (l : List Int) (x : Int) : (l ++ [x]).getD l.length 0 = x := by
  simp [List.getD_eq_getElem?_getD]
theorem stateAt_snoc (d : NetD) (l : List Int) (x : Int) : ∀ k, k ≤ l.length → stateAt d (l ++ [x]) k = stateAt d l k
  | 0, _ => rfl
  | k + 1, h => by
    show doNext d (stateAt d (l ++ [x]) k) (bitsV ((l ++ [x]).getD k 0) d.ins.toNat) = doNext d (stateAt d l k) (bitsV (l.getD k 0) d.ins.toNat)
    rw [stateAt_snoc d l x k (by omega), getD_snoc l x k (by omega)]
theorem errAt_snoc (d : NetD) (l : List Int) (x : Int) (k : Nat) (h : k < l.length) : errAt d (l ++ [x]) k = errAt d l k := by
  unfold errAt; rw [stateAt_snoc d l x k (by omega), getD_snoc l x k h]
theorem errTo_snoc (d : NetD) (l : List Int) (x : Int) : ∀ k, k ≤ l.length → errTo d (l ++ [x]) k = errTo d l k
  | 0, _ => rfl
  | k + 1, h => by
    show (if errTo d (l ++ [x]) k = 0 then errAt d (l ++ [x]) k else errTo d (l ++ [x]) k) = (if errTo d l k = 0 then errAt d l k else errTo d l k)
    rw [errTo_snoc d l x k (by omega), errAt_snoc d l x k (by omega)]
theorem times_ok {l : List Int} {n : Nat} (h : timesE l n = 0) : l.length ≤ 60 ∧ inPow l n = true := by
  unfold timesE at h
  by_cases h6 : 60 < l.length
  · rw [if_pos h6] at h; simp at h
  · rw [if_neg h6] at h
    by_cases h7 : inPow l n = true
    · exact ⟨by omega, h7⟩
    · rw [if_neg h7] at h; simp at h
theorem iter_vals (d : NetD) {regs ins : List Int} (hr : vals regs = true) (hi : vals ins = true) : ∀ k, vals (iterV d regs ins k) = true
  | 0 => vals_open _
  | k + 1 => roundV_vals d hr hi (iter_vals d hr hi k)
theorem addr_plus (b off j : Nat) : (⟨b, off, none⟩ : Addr).add j = ⟨b, off + j, none⟩ := by unfold Addr.add; split <;> simp_all
theorem app_empty (w : World) (g base : Nat) (hg : g = w.heap.size) (hb : base ≤ w.heap.size) : (w.alloc (.cells #[] 3)).ownsRow base 3 1 (.slice (some ⟨g, 0, none⟩) 0 0) 0 (([] : List Int).map (fun x => Value.int .i64 x)) := by
  subst hg
  exact World.ownsRow_lit w #[] 0 hb (Nat.zero_le _) rfl
end Go.Proofs.YtongajonecgdpagGreatDoor
