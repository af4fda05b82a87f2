/- Rows of rows; what all instants come to; the document's RunOf. -/
import Derived.Test.YtongajonecgdpabTickC
import Derived.Maps.AppendAt
namespace Go.Proofs.Ytongajonecgdpab
open Go.RowKit

/-- Numbers that lie in memory, and not in block g. -/
def IntsOff (w : World) (g : Option Nat) (a : Option Addr) (n : Nat) (xs : List Int) : Prop := Ints w a n xs ∧ (n = 0 ∨ ∃ b off, a = some ⟨b, off, none⟩ ∧ b < w.heap.size ∧ g ≠ some b)
theorem IntsOff.below {w w' : World} {g : Option Nat} {a : Option Addr} {n : Nat} {xs : List Int} (h : IntsOff w g a n xs) (hb : Below w.heap.size w w') : IntsOff w' g a n xs := by
  refine ⟨h.1.below hb, ?_⟩
  rcases h.2 with h | ⟨b, off, ha, hl, hg⟩
  · exact Or.inl h
  · exact Or.inr ⟨b, off, ha, Nat.lt_of_lt_of_le hl hb.size, hg⟩
theorem IntsOff.grown {w w' : World} {g g' : Option Nat} {a : Option Addr} {n : Nat} {xs : List Int} (h : IntsOff w g a n xs) (hg : w.grownBy w' g) (hg' : g' = g ∨ g' = some w.heap.size) : IntsOff w' g' a n xs := by
  obtain ⟨⟨h1, h2, h3⟩, h4⟩ := h
  rcases h4 with h4 | ⟨b, off, ha, hl, hne⟩
  · exact ⟨⟨h1, h2, Or.inl (List.length_eq_zero_iff.1 (by omega))⟩, Or.inl h4⟩
  · refine ⟨⟨h1, h2, ?_⟩, Or.inr ⟨b, off, ha, Nat.lt_of_lt_of_le hl hg.size, ?_⟩⟩
    · rcases h3 with h3 | ⟨b', off', ha', hl', hc⟩
      · exact Or.inl h3
      · rw [ha] at ha'
        injection ha' with ha'
        injection ha' with e1 e2 _
        subst e1; subst e2
        exact Or.inr ⟨b, off, ha, Nat.lt_of_lt_of_le hl hg.size, fun i hi => hg.cell (hc i hi) (fun e => hne e.symm)⟩
    · rcases hg' with e | e
      · rw [e]; exact hne
      · rw [e]; intro hh; injection hh with hh; omega
theorem IntsOff.fresh {w : World} {base : Nat} {g : Option Nat} {a : Option Addr} {n : Nat} {xs : List Int} (h : Ints w a n xs) (hF : Fresh base a n) (hg : ∀ k, g = some k → k < base) : IntsOff w g a n xs := by
  refine ⟨h, ?_⟩
  rcases hF with hF | ⟨b, off, ha, hb⟩
  · exact Or.inl hF
  · rcases h.2.2 with h3 | ⟨b', off', ha', hl', hc⟩
    · exact Or.inl (by rw [h.1, h3]; rfl)
    · rw [ha] at ha'
      injection ha' with ha'
      injection ha' with e1 e2 _
      exact Or.inr ⟨b, off, ha, by omega, fun e => by have := hg b e; omega⟩

/-- Rows of numbers: the values vs lead to them. -/
def RowsOff (w : World) (g : Option Nat) (vs : List Value) (xss : List (List Int)) : Prop :=
  vs.length = xss.length ∧ ∀ i (hi : i < xss.length), ∃ a n c, vs[i]? = some (.slice a n c) ∧ IntsOff w g a n xss[i]
theorem RowsOff.nil (w : World) (g : Option Nat) : RowsOff w g [] [] := ⟨rfl, fun i hi => absurd hi (by simp)⟩
theorem RowsOff.below {w w' : World} {g : Option Nat} {vs : List Value} {xss : List (List Int)} (h : RowsOff w g vs xss) (hb : Below w.heap.size w w') : RowsOff w' g vs xss :=
  ⟨h.1, fun i hi => by obtain ⟨a, n, c, e, hI⟩ := h.2 i hi; exact ⟨a, n, c, e, hI.below hb⟩⟩
theorem RowsOff.grown {w w' : World} {g g' : Option Nat} {vs : List Value} {xss : List (List Int)} (h : RowsOff w g vs xss) (hg : w.grownBy w' g) (hg' : g' = g ∨ g' = some w.heap.size) : RowsOff w' g' vs xss :=
  ⟨h.1, fun i hi => by obtain ⟨a, n, c, e, hI⟩ := h.2 i hi; exact ⟨a, n, c, e, hI.grown hg hg'⟩⟩
theorem RowsOff.snoc {w : World} {g : Option Nat} {vs : List Value} {xss : List (List Int)} {a : Option Addr} {n c : Nat} {xs : List Int} (h : RowsOff w g vs xss) (h' : IntsOff w g a n xs) : RowsOff w g (vs ++ [.slice a n c]) (xss ++ [xs]) := by
  refine ⟨by simp [h.1], fun i hi => ?_⟩
  by_cases hlt : i < xss.length
  · obtain ⟨a', n', c', e, hI⟩ := h.2 i hlt
    refine ⟨a', n', c', ?_, ?_⟩
    · rw [List.getElem?_append_left (by rw [h.1]; exact hlt)]; exact e
    · rw [List.getElem_append_left hlt]; exact hI
  · have hi' : i = xss.length := by simp at hi; omega
    subst hi'
    refine ⟨a, n, c, ?_, ?_⟩
    · rw [List.getElem?_append_right (by rw [h.1]; exact Nat.le_refl _), h.1]; simp
    · simpa using h'

/-- A [][]int. -/
def Rows (w : World) (a : Option Addr) (n : Nat) (xss : List (List Int)) : Prop :=
  n = xss.length ∧ xss.length ≤ maxLen ∧ (xss = [] ∨ ∃ b off, a = some ⟨b, off, none⟩ ∧ b < w.heap.size ∧ ∀ i (hi : i < xss.length), ∃ ra rn rc, w.cell? ⟨b, off + i, none⟩ = some (.slice ra rn rc) ∧ Ints w ra rn xss[i])
theorem Rows.below {w w' : World} {a : Option Addr} {n : Nat} {xss : List (List Int)} (h : Rows w a n xss) (hb : Below w.heap.size w w') : Rows w' a n xss := by
  obtain ⟨h1, h2, h3⟩ := h
  refine ⟨h1, h2, ?_⟩
  rcases h3 with h3 | ⟨b, off, ha, hlt, hc⟩
  · exact Or.inl h3
  · refine Or.inr ⟨b, off, ha, Nat.lt_of_lt_of_le hlt hb.size, fun i hi => ?_⟩
    obtain ⟨ra, rn, rc, e, hI⟩ := hc i hi
    exact ⟨ra, rn, rc, (hb.cell hlt).trans e, hI.below hb⟩
theorem Rows.nil0 (w : World) : Rows w Option.none 0 [] := ⟨rfl, Nat.zero_le _, Or.inl rfl⟩
theorem Rows.at {w : World} {a : Option Addr} {n : Nat} {xss : List (List Int)} (h : Rows w a n xss) {k : Nat} (hk : k < xss.length) :
    ∃ b off ra rn rc, a = some ⟨b, off, Option.none⟩ ∧ b < w.heap.size ∧ w.cell? ⟨b, off + k, Option.none⟩ = some (.slice ra rn rc) ∧ Ints w ra rn xss[k] := by
  obtain ⟨h1, h2, h3⟩ := h
  rcases h3 with h3 | ⟨b, off, ha, hlt, hc⟩
  · rw [h3] at hk; simp at hk
  · obtain ⟨ra, rn, rc, e, hI⟩ := hc k hk
    exact ⟨b, off, ra, rn, rc, ha, hlt, e, hI⟩
theorem own_rows {w : World} {base : Nat} {e : TypeId} {v : Value} {n : Nat} {vs : List Value} {xss : List (List Int)} (h : w.ownsRow base e 1 v n vs) (hm : n ≤ maxLen) (hR : RowsOff w v.ownBlock vs xss) :
    ∃ a cap, v = .slice a n cap ∧ Rows w a n xss ∧ n ≤ cap := by
  have hn : n = xss.length := by have := h.1; have := hR.1; omega
  rcases h.2 with ⟨h1, h2⟩ | ⟨g, cap, cur, hv, hg, hh, r⟩
  · subst h2
    have : xss = [] := List.length_eq_zero_iff.1 hn.symm
    subst this
    exact ⟨_, _, h1, Rows.nil0 _, Nat.le_refl _⟩
  · refine ⟨_, _, hv, ⟨hn, by omega, Or.inr ⟨g, 0, rfl, (Array.getElem?_eq_some_iff.1 hh).1, fun i hi => ?_⟩⟩, r.1⟩
    obtain ⟨a', n', c', e', hI⟩ := hR.2 i hi
    refine ⟨a', n', c', ?_, hI.1⟩
    have := h.cells (g := g) (by rw [hv]; rfl) i _ e'
    have hadd : (⟨g, 0, none⟩ : Addr).add i = ⟨g, 0 + i, none⟩ := by unfold Addr.add; split <;> simp_all
    rw [hadd] at this
    exact this
theorem Rows.take {w : World} {a : Option Addr} {n k : Nat} {xss : List (List Int)} (h : Rows w a n xss) (hk : k ≤ n) : Rows w a k (xss.take k) := by
  obtain ⟨h1, h2, h3⟩ := h
  have hl : (xss.take k).length = k := by simp; omega
  refine ⟨hl.symm, by omega, ?_⟩
  rcases h3 with h3 | ⟨b, off, ha, hlt, hc⟩
  · subst h3; exact Or.inl (by simp)
  · refine Or.inr ⟨b, off, ha, hlt, fun i hi => ?_⟩
    obtain ⟨ra, rn, rc, e, hI⟩ := hc i (by omega)
    exact ⟨ra, rn, rc, e, by rw [List.getElem_take]; exact hI⟩
theorem ownsRow_below {w w' : World} {base size : Nat} {e : TypeId} {v : Value} {n : Nat} {vs : List Value} (h : w.ownsRow base e size v n vs) (hb : Below w.heap.size w w') : w'.ownsRow base e size v n vs := by
  refine ⟨h.1, ?_⟩
  rcases h.2 with h1 | ⟨g, cap, cur, hv, hg, hh, r⟩
  · exact Or.inl h1
  · exact Or.inr ⟨g, cap, cur, hv, hg, (hb.block g (Array.getElem?_eq_some_iff.1 hh).1).trans hh, r⟩

/-- In which state instant k begins; what error it gives; what it puts out. -/
def stateAt (d : NetD) (l : List Int) : Nat → List Int
  | 0 => begins d
  | k + 1 => doNext d (stateAt d l k) (bitsV (l.getD k 0) d.ins.toNat)
def errAt (d : NetD) (l : List Int) (k : Nat) : Int := doE d (stateAt d l k) (bitsV (l.getD k 0) d.ins.toNat)
def outAt (d : NetD) (l : List Int) (k : Nat) : List Int := doOuts d (stateAt d l k) (bitsV (l.getD k 0) d.ins.toNat)
def errTo (d : NetD) (l : List Int) : Nat → Int
  | 0 => 0
  | k + 1 => if errTo d l k = 0 then errAt d l k else errTo d l k
def runE (d : NetD) (l : List Int) : Int := if checkE d = 0 then (if timesE l d.ins.toNat = 0 then errTo d l l.length else timesE l d.ins.toNat) else checkE d
def rowsTo (d : NetD) (l : List Int) (k : Nat) : List (List Int) := (List.range k).map (outAt d l)
def runRows (d : NetD) (l : List Int) : List (List Int) := if runE d l = 0 then rowsTo d l l.length else []
def runRegs (d : NetD) (l : List Int) : List Int := if runE d l = 0 then stateAt d l l.length else []
theorem rowsTo_succ (d : NetD) (l : List Int) (k : Nat) : rowsTo d l (k + 1) = rowsTo d l k ++ [outAt d l k] := by simp [rowsTo, List.range_succ]
theorem errTo_stays (d : NetD) (l : List Int) (k : Nat) (h : errTo d l k ≠ 0) : ∀ m, k ≤ m → errTo d l m = errTo d l k := by
  intro m
  induction m with
  | zero => intro hk; rw [show k = 0 by omega]
  | succ m ih =>
    intro hk
    by_cases e : k = m + 1
    · rw [e]
    · have := ih (by omega)
      show (if errTo d l m = 0 then errAt d l m else errTo d l m) = _
      rw [if_neg (by rw [this]; exact h), this]


theorem Try.infoSl : (Try.prog.info? 24).map (fun i => (i.zero, i.size, i.bytes)) = some (some (.slice none 0 0), 1, 24) := by kernel_rfl
theorem IntsOff.start {w : World} {a : Option Addr} {n : Nat} {xs : List Int} (h : Ints w a n xs) : IntsOff w Option.none a n xs := by
  refine ⟨h, ?_⟩
  rcases h.2.2 with h3 | ⟨b, off, ha, hl, hc⟩
  · exact Or.inl (by rw [h.1, h3]; rfl)
  · exact Or.inr ⟨b, off, ha, hl, by simp⟩
theorem heldl_of {w0 W : World} {b : Nat} {ins0 : Int} {ga ra oa : Option Addr} {gn gc rn rc on oc : Nat} {p : Addr} {x : Value} (hx : Boxed w0 b ins0 ga gn gc ra rn rc oa on oc) (hp : p.block < w0.heap.size) (hc : w0.cell? p = some x) (h : Below w0.heap.size w0 W) :
    Below w0.heap.size w0 W ∧ W.cell? ⟨b, 0, none⟩ = some (.int .i64 ins0) ∧ W.cell? ⟨b, 1, none⟩ = some (.slice ga gn gc) ∧ W.cell? ⟨b, 2, none⟩ = some (.slice ra rn rc) ∧ W.cell? ⟨b, 3, none⟩ = some (.slice oa on oc) ∧ W.cell? p = some x := by
  obtain ⟨_, x1, x2, x3, x4⟩ := hx.below h
  exact ⟨h, x1, x2, x3, x4, (h.cell hp).trans hc⟩
theorem held_next' {w0 W W' : World} {R : Prop} (h : Below w0.heap.size w0 W ∧ R) (hb : Below W.heap.size W W') : Below w0.heap.size w0 W' := bstep h.1 hb
theorem ret_ro {a b : Option Addr} {n c m k : Nat} {x y : Int} (h : x = y) : Ending.returned (.tuple #[.slice a n c, .slice b m k, .int .i64 x]) = .returned (.tuple #[.slice a n c, .slice b m k, .int .i64 y]) := by rw [h]

set_option maxHeartbeats 2000000 in
theorem RunOf_any (d : NetD) (ins0 : Int) (ga ra oa : Option Addr) (gn gc rn rc on oc : Nat) (w : World) (h : NetAt w d ins0 ga gn ra rn oa on) (l : List Int) (la : Option Addr) (ln lc : Nat) (hl : Ints w la ln l) :
    Calls Try.prog 20 #[.agg #[.int .i64 ins0, .slice ga gn gc, .slice ra rn rc, .slice oa on oc], .slice la ln lc] w fun e w' => ∃ a n c b m k, e = .returned (.tuple #[.slice a n c, .slice b m k, .int .i64 (runE d l)]) ∧ Rows w' a n (runRows d l) ∧ Ints w' b m (runRegs d l) ∧ n ≤ c ∧ Below w.heap.size w w' := by
  have hb0 : Below w.heap.size w (w.alloc (.cells #[.int .i64 ins0, .slice ga gn gc, .slice ra rn rc, .slice oa on oc] 26)) := (Below.refl _ _).alloc (Nat.le_refl _) _
  have hbox : Boxed (w.alloc (.cells #[.int .i64 ins0, .slice ga gn gc, .slice ra rn rc, .slice oa on oc] 26)) w.heap.size ins0 ga gn gc ra rn rc oa on oc := Boxed.new _ _ _ _ _ _ _ _ _ _ _ _
  have hN := h.below hb0
  have hl0 := hl.below hb0
  clear h hl
  go_enter Try.func20, Try.ntmps20
  go_wp2_with fail
  refine (CheckNet_any d _ _ _ _ _ _ _ _ _ _ _ hN).mono ?_
  rintro e w1 ⟨rfl, hb⟩
  have B1 := bstep hb0 hb
  have hN1 := hN.below hb
  have hl1 := hl0.below hb
  have hx1 := hbox.below hb
  clear hb hb0 hN hbox hl0
  by_cases e0 : checkE d = 0
  · rw [e0]
    have hcs := counts_gates (check_ok e0).1
    have hrn : rn ≤ 20 := by have := hN1.regs.1; omega
    have hge : 0 ≤ d.ins := by have := (check_ok e0).2.1; simp only [numbersB, Bool.and_eq_true, decide_eq_true_iff] at this; exact this.1.1.1
    have hii := hN1.ins
    obtain ⟨i, hie⟩ := Int.eq_ofNat_of_zero_le (show 0 ≤ ins0 by omega)
    have hi20 : i ≤ 20 := by omega
    have HI := hide (show d.ins.toNat = i by omega)
    subst hie
    have HE := hide (show runE d l = if timesE l i = 0 then errTo d l l.length else timesE l i by unfold runE; rw [if_pos e0, unhide HI])
    clear hcs hge hii e0
    have hx0 := hx1
    obtain ⟨x0, x1, x2, x3, x4⟩ := hx1
    go_wp2_with fail
    refine (timesError_any _ _ _ _ _ _ hl1 hi20).mono ?_
    rintro e w2 ⟨rfl, hb2⟩
    have B2 := bstep B1 hb2
    have hN2 := hN1.below hb2
    have hl2 := hl1.below hb2
    have hx2 := hx0.below hb2
    clear hb2 B1 hN1 hl1 hx0 x0 x1 x2 x3 x4
    by_cases e1 : timesE l i = 0
    · rw [e1]
      have HE1 := hide (show runE d l = errTo d l l.length by rw [unhide HE, if_pos e1])
      have hl60 : ln ≤ 60 := by
        have h1 := hl2.1
        unfold timesE at e1
        by_cases h6 : 60 < l.length
        · rw [if_pos h6] at e1; simp at e1
        · omega
      have HPW := hide (show ∀ k (hk : k < l.length), 0 ≤ l[k] ∧ l[k] ≤ 1048576 by
        intro k hk
        unfold timesE at e1
        by_cases h6 : 60 < l.length
        · rw [if_pos h6] at e1; simp at e1
        · rw [if_neg h6] at e1
          by_cases h7 : inPow l i = true
          · unfold inPow at h7
            rw [List.all_eq_true] at h7
            have h8 := h7 _ (List.getElem_mem hk)
            have h9 := power_le i hi20
            simp only [wth, decide_eq_true_iff] at h8
            omega
          · rw [if_neg h7] at e1; simp at e1)
      clear e1
      have hx0 := hx2
      obtain ⟨x0, x1, x2, x3, x4⟩ := hx2
      go_wp2_with fail
      refine (BeginOf_any d _ _ _ _ _ _ _ _ _ _ _ hN2 hrn).mono ?_
      rintro e w3 ⟨q0, q1, q2, rfl, hQ, hb3⟩
      have B3 := bstep B2 hb3
      have hN3 := hN2.below hb3
      have hl3 := hl2.below hb3
      have hx3 := hx0.below hb3
      clear hb3 B2 hN2 hl2 hx0 x0 x1 x2 x3 x4
      go_wp2_with fail
      obtain ⟨i0, hi, hz0, hz1, hz2⟩ := info_parts Try.infoSl
      have HLL : Hid (l.length = ln) := hl3.1.symm
      have hll : ln ≤ l.length := by have := HLL.out; omega
      go_loopw [9, 10, 11] (fun q v i' wr => ∃ (k : Nat) (qa : Option Addr) (qn qc : Nat) (vs : List Value), k ≤ ln ∧ i' = .int .i64 k ∧ q = .slice qa qn qc ∧ errTo d l k = 0 ∧ wr.ownsRow w3.heap.size 24 1 v k vs ∧ RowsOff wr v.ownBlock vs (rowsTo d l k) ∧ IntsOff wr v.ownBlock qa qn (stateAt d l k) ∧ Below w3.heap.size w3 wr) (fun _ _ i' _ => ln - (intOf i').toNat)
      case atStart => exact ⟨0, q0, q1, q2, [], Nat.zero_le _, rfl, rfl, rfl, World.ownsRow_nil _ _ _ _, RowsOff.nil _ _, IntsOff.start hQ, Below.refl _ _⟩
      case round =>
        clear hQ
        obtain ⟨k, qa, qn, qc, vs, hk, rfl, rfl, hno, hown, hRO, hQr, hbel⟩ := hrel
        by_cases hlt : k < ln
        · have hltl : k < l.length := by omega
          have hki : (k : Int) < (ln : Int) := by omega
          obtain ⟨b, off, rfl, hbb, c1⟩ := (hl3.below hbel).at hltl
          have hNr := hN3.below hbel
          have hxr := hx3.below hbel
          obtain ⟨hlo, hhi⟩ := (unhide HPW) k hltl
          have hget : l.getD k 0 = l[k] := by simp [List.getD_eq_getElem?_getD, hltl]
          have HK := hide (show errAt d l k = doE d (stateAt d l k) (bitsV l[k] i) by unfold errAt; rw [hget, unhide HI])
          have HKO := hide (show outAt d l k = doOuts d (stateAt d l k) (bitsV l[k] i) by unfold outAt; rw [hget, unhide HI])
          have HKN := hide (show stateAt d l (k + 1) = doNext d (stateAt d l k) (bitsV l[k] i) by show doNext d (stateAt d l k) (bitsV (l.getD k 0) d.ins.toNat) = _; rw [hget, unhide HI])
          have HNO := hide hno
          have HLT := hide hown.lt
          have HOWN := hide hown
          have HRO := hide hRO
          clear hget hno hown hRO
          by_cases e2 : doE d (stateAt d l k) (bitsV l[k] i) = 0
          · have HD := hide e2
            have HT := hide (show errTo d l (k + 1) = 0 by show (if errTo d l k = 0 then errAt d l k else errTo d l k) = 0; rw [if_pos (unhide HNO), unhide HK]; exact e2)
            clear e2
            go_wp2_with fail
            go_region_held3 (fun W => Below wr.heap.size wr W ∧ W.cell? ⟨w.heap.size, 0, none⟩ = some (.int .i64 (i : Int)) ∧ W.cell? ⟨w.heap.size, 1, none⟩ = some (.slice ga gn gc) ∧ W.cell? ⟨w.heap.size, 2, none⟩ = some (.slice ra rn rc) ∧ W.cell? ⟨w.heap.size, 3, none⟩ = some (.slice oa on oc) ∧ W.cell? ⟨b, off + k, none⟩ = some (.int .i64 l[k]))
            ((first | exact heldl_of hxr hbb c1 (Below.refl _ _).drew | exact heldl_of hxr hbb c1 (held_next' (by assumption) hbB) | exact heldl_of hxr hbb c1 (held_next' (by assumption) hbD)))
            ((first
              | (go_at_call 46; refine (bits_any l[k] i _ hlo hhi hi20).mono ?_; rintro e wB ⟨aB, nB, cB, rfl, hIB, hbB⟩)
              | (go_at_call 17; refine (DoOf_any d _ _ _ _ _ _ _ _ _ _ _ (hNr.below (held_below (by assumption))) (stateAt d l k) (bitsV l[k] i) qa aB qn qc nB cB (hQr.1.below (held_below (by assumption))) hIB).mono ?_; rintro e wD ⟨uo, un, uc, na, nn, nc, rfl, hIO, hIN, hFO, hFN, hbD⟩; have hGO := hFO.down (held_below (w0 := wr) (by assumption)).size; have hGN := hFN.down (held_below (w0 := wr) (by assumption)).size; rw [unhide HD])))
            have hSD : Below wr.heap.size wr wD := held_below (w0 := wr) (by assumption)
            have hIO1 := IntsOff.fresh hIO hGO (fun g hg => (unhide HLT g hg).2)
            rw [← unhide HKO] at hIO1
            have hIN1 := IntsOff.fresh hIN hGN (fun g hg => (unhide HLT g hg).2)
            rw [← unhide HKN] at hIN1
            have HOW2 := hide (ownsRow_below (unhide HOWN) hSD)
            have HRO2 := hide (RowsOff.snoc (c := uc) ((unhide HRO).below hSD) hIO1)
            have BD := bstep hbel hSD
            clear hIO hIN hGO hGN hFO hFN hbB hIB hbD
            go_wp2_with (at_builtin; refine wpList_append_own_at _ rfl _ _ 40 rfl w3.heap.size 24 i0 (.slice none 0 0) 1 24 Try.underlying40 hi hz0 hz1 hz2 rfl (by decide) _ _ _ rfl ((unhide HOW2).alloc _) ⟨wD.heap.size, 0, none⟩ 1 1 [.slice uo un uc] rfl rfl ?c1 ?c2 ?c3 ?c4 ?c5 ?_)
            case c1 =>
              intro j u hj
              match j, hj with
              | 0, hj => simp at hj; subst hj; simp [Addr.add]
            case c2 => intro u hu; simp at hu; subst hu; rfl
            case c3 => unfold maxLen; omega
            case c4 => omega
            case c5 => have := BD.size; simp; omega
            intro v' w4 hown' hgrow _ hat
            rw [show wD.heap.size + 1 = (wD.alloc (.cells #[.slice uo un uc] 24)).heap.size by simp] at hat
            have al : Below wD.heap.size wD (wD.alloc (.cells #[.slice uo un uc] 24)) := (Below.refl _ _).alloc (Nat.le_refl _) _
            have R2 := ((unhide HRO2).below al).grown hgrow hat
            rw [← rowsTo_succ] at R2
            have R3 := (hIN1.below al).grown hgrow hat
            have R4 : Below w3.heap.size w3 w4 := (BD.alloc BD.size _).grown hgrow (by have := BD.size; simp; omega) (fun g hg => (unhide HLT g hg).1)
            have R := hide (And.intro hown' (And.intro R2 (And.intro R3 R4)))
            clear hown' hgrow hat al R2 R3 R4 c1
            go_wp2_with fail
            exact ⟨⟨k + 1, na, nn, nc, vs ++ [.slice uo un uc], by omega, by go_num, rfl, unhide HT, (unhide R).1, (unhide R).2.1, (unhide R).2.2.1, (unhide R).2.2.2⟩, by simp [intOf]; omega⟩
          · have hne : (doE d (stateAt d l k) (bitsV l[k] i) != 0) = true := by simp [e2]
            have HT := hide (show runE d l = doE d (stateAt d l k) (bitsV l[k] i) by
              have h1 : errTo d l (k + 1) = doE d (stateAt d l k) (bitsV l[k] i) := by show (if errTo d l k = 0 then errAt d l k else errTo d l k) = _; rw [if_pos (unhide HNO), unhide HK]
              rw [unhide HE1, errTo_stays d l (k + 1) (by rw [h1]; exact e2) l.length (by omega), h1])
            have HO := hide (show runRows d l = [] by unfold runRows; rw [if_neg (by rw [unhide HT]; exact e2)])
            have HX := hide (show runRegs d l = [] by unfold runRegs; rw [if_neg (by rw [unhide HT]; exact e2)])
            clear e2
            go_wp2_with fail
            go_region_held3 (fun W => Below wr.heap.size wr W ∧ W.cell? ⟨w.heap.size, 0, none⟩ = some (.int .i64 (i : Int)) ∧ W.cell? ⟨w.heap.size, 1, none⟩ = some (.slice ga gn gc) ∧ W.cell? ⟨w.heap.size, 2, none⟩ = some (.slice ra rn rc) ∧ W.cell? ⟨w.heap.size, 3, none⟩ = some (.slice oa on oc) ∧ W.cell? ⟨b, off + k, none⟩ = some (.int .i64 l[k]))
            ((first | exact heldl_of hxr hbb c1 (Below.refl _ _).drew | exact heldl_of hxr hbb c1 (held_next' (by assumption) hbB) | exact heldl_of hxr hbb c1 (held_next' (by assumption) hbD)))
            ((first
              | (go_at_call 46; refine (bits_any l[k] i _ hlo hhi hi20).mono ?_; rintro e wB ⟨aB, nB, cB, rfl, hIB, hbB⟩)
              | (go_at_call 17; refine (DoOf_any d _ _ _ _ _ _ _ _ _ _ _ (hNr.below (held_below (by assumption))) (stateAt d l k) (bitsV l[k] i) qa aB qn qc nB cB (hQr.1.below (held_below (by assumption))) hIB).mono ?_; rintro e wD ⟨uo, un, uc, na, nn, nc, rfl, hIO, hIN, hFO, hFN, hbD⟩; have hGO := hFO.down (held_below (w0 := wr) (by assumption)).size; have hGN := hFN.down (held_below (w0 := wr) (by assumption)).size)))
            have hSD : Below wr.heap.size wr wD := held_below (w0 := wr) (by assumption)
            clear hIO hIN hGO hGN hFO hFN hbB hIB hbD c1
            go_wp2_with fail
            go_ret3
            exact ⟨none, 0, 0, none, 0, 0, ret_ro (unhide HT).symm, by rw [unhide HO]; exact Rows.nil0 _, by rw [unhide HX]; exact Ints.none _, Nat.le_refl _, bstep B3 (bstep hbel hSD)⟩
        · have hkl : k = l.length := by have := HLL.out; omega
          have HE2 := hide (show runE d l = 0 by rw [unhide HE1, ← hkl]; exact hno)
          have HO := hide (show runRows d l = rowsTo d l k by unfold runRows; rw [if_pos (unhide HE2), hkl])
          have HX := hide (show runRegs d l = stateAt d l k by unfold runRegs; rw [if_pos (unhide HE2), hkl])
          obtain ⟨a2, c2, hv', hRW, hnc⟩ := own_rows hown (by unfold maxLen; omega) hRO
          rw [hv']
          have HQ2 := hide hQr.1
          clear hv' hown hRO hQr hno hkl
          go_wp2_with fail
          go_ret3
          exact ⟨_, _, _, _, _, _, ret_ro (unhide HE2).symm, by rw [unhide HO]; exact hRW, by rw [unhide HX]; exact unhide HQ2, hnc, bstep B3 hbel⟩
    · have hne : (timesE l i != 0) = true := by simp [e1]
      have HE0 := hide (show runE d l = timesE l i by rw [unhide HE, if_neg e1])
      have HO := hide (show runRows d l = [] by unfold runRows; rw [if_neg (by rw [unhide HE0]; exact e1)])
      have HX := hide (show runRegs d l = [] by unfold runRegs; rw [if_neg (by rw [unhide HE0]; exact e1)])
      clear e1
      go_wp2_with fail
      go_ret3
      exact ⟨none, 0, 0, none, 0, 0, ret_ro (unhide HE0).symm, by rw [unhide HO]; exact Rows.nil0 _, by rw [unhide HX]; exact Ints.none _, Nat.le_refl _, B2⟩
  · have hne : (checkE d != 0) = true := by simp [e0]
    have HE0 := hide (show runE d l = checkE d by unfold runE; rw [if_neg e0])
    have HO := hide (show runRows d l = [] by unfold runRows; rw [if_neg (by rw [unhide HE0]; exact e0)])
    have HX := hide (show runRegs d l = [] by unfold runRegs; rw [if_neg (by rw [unhide HE0]; exact e0)])
    clear e0
    go_wp2_with fail
    go_ret3
    exact ⟨none, 0, 0, none, 0, 0, ret_ro (unhide HE0).symm, by rw [unhide HO]; exact Rows.nil0 _, by rw [unhide HX]; exact Ints.none _, Nat.le_refl _, B1⟩

end Go.Proofs.Ytongajonecgdpab
