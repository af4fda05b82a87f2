/- What one instant comes to: the least that solves, as a function; the document's DoOf. -/
import Derived.Test.YtongajonecgdpaeTickB
namespace Go.Proofs.Ytongajonecgdpae
open Go.RowKit

def lfp (d : NetD) (regs ins : List Int) : List Int := iterV d regs ins d.gates.length
theorem iter_down (d : NetD) (regs ins : List Int) : ∀ k, roundV d regs ins (iterV d regs ins k) = iterV d regs ins k ∨ opens (iterV d regs ins k) + k ≤ d.gates.length
  | 0 => Or.inr (by have := opens_le_length (List.replicate d.gates.length 2); simpa [iterV] using this)
  | k + 1 => by
    rcases iter_down d regs ins k with h | h
    · exact Or.inl (by show roundV d regs ins (roundV d regs ins (iterV d regs ins k)) = roundV d regs ins (iterV d regs ins k); rw [h, h])
    · by_cases hf : roundV d regs ins (iterV d regs ins k) = iterV d regs ins k
      · exact Or.inl (by show roundV d regs ins (roundV d regs ins (iterV d regs ins k)) = roundV d regs ins (iterV d regs ins k); rw [hf, hf])
      · have := (iter_way d regs ins k).fewer hf
        exact Or.inr (by show opens (roundV d regs ins (iterV d regs ins k)) + (k + 1) ≤ _; omega)
theorem lfp_least (d : NetD) (regs ins : List Int) : Least d regs ins (lfp d regs ins) := by
  refine (iter_way d regs ins _).least ?_
  rcases iter_down d regs ins d.gates.length with h | h
  · exact h
  · apply Classical.byContradiction
    intro hf
    have := (iter_way d regs ins _).fewer hf
    omega
theorem Least.is {d : NetD} {regs ins v : List Int} (h : Least d regs ins v) : v = lfp d regs ins := h.same (lfp_least d regs ins)

/-- Which error Do gives; what it puts out; what is next. -/
def doE (d : NetD) (regs ins : List Int) : Int := if stepE d regs ins = 0 then (if opens (lfp d regs ins) = 0 then 0 else 6) else stepE d regs ins
def doOuts (d : NetD) (regs ins : List Int) : List Int := if doE d regs ins = 0 then pickV (lfp d regs ins) d.outs else []
def doNext (d : NetD) (regs ins : List Int) : List Int := if doE d regs ins = 0 then pickV (lfp d regs ins) (nextsV d) else []
theorem doE_ok {d : NetD} {regs ins : List Int} (h : doE d regs ins = 0) : stepE d regs ins = 0 ∧ opens (lfp d regs ins) = 0 := by
  unfold doE at h
  by_cases e : stepE d regs ins = 0
  · rw [if_pos e] at h
    by_cases o : opens (lfp d regs ins) = 0
    · exact ⟨e, o⟩
    · rw [if_neg o] at h; simp at h
  · rw [if_neg e] at h; exact absurd h e


theorem outs_in {d : NetD} (h : numbersB d = true) (j : Nat) (hj : j < d.outs.length) : 0 ≤ d.outs[j] ∧ d.outs[j] < d.gates.length := by
  simp only [numbersB, Bool.and_eq_true] at h
  have := h.1.2
  unfold outsTo at this
  rw [List.take_length, List.all_eq_true] at this
  simpa [isB] using this _ (List.getElem_mem hj)
theorem nexts_in {d : NetD} (h : numbersB d = true) (j : Nat) (hj : j < (nextsV d).length) : 0 ≤ (nextsV d)[j] ∧ (nextsV d)[j] < d.gates.length := by
  simp only [numbersB, Bool.and_eq_true] at h
  have := h.1.1.2
  unfold regsTo at this
  rw [List.take_length, List.all_eq_true] at this
  rw [nextsV_len] at hj
  simpa [isB, nextsV] using this _ (List.getElem_mem hj)
theorem held_below {w0 W : World} {R : Prop} (h : Below w0.heap.size w0 W ∧ R) : Below w0.heap.size w0 W := h.1
theorem held_of {w0 W : World} {b : Nat} {ins0 : Int} {ga ra oa : Option Addr} {gn gc rn rc on oc : Nat} (hx : Boxed w0 b ins0 ga gn gc ra rn rc oa on oc) (h : Below w0.heap.size w0 W) :
    Below w0.heap.size w0 W ∧ W.cell? ⟨b, 0, none⟩ = some (.int .i64 ins0) ∧ W.cell? ⟨b, 1, none⟩ = some (.slice ga gn gc) ∧ W.cell? ⟨b, 2, none⟩ = some (.slice ra rn rc) ∧ W.cell? ⟨b, 3, none⟩ = some (.slice oa on oc) := by
  obtain ⟨_, x1, x2, x3, x4⟩ := hx.below h
  exact ⟨h, x1, x2, x3, x4⟩
theorem held_start {w0 : World} {b : Nat} {ins0 : Int} {ga ra oa : Option Addr} {gn gc rn rc on oc : Nat} (hx : Boxed w0 b ins0 ga gn gc ra rn rc oa on oc) :
    Below w0.heap.size w0 w0.drew ∧ w0.drew.cell? ⟨b, 0, none⟩ = some (.int .i64 ins0) ∧ w0.drew.cell? ⟨b, 1, none⟩ = some (.slice ga gn gc) ∧ w0.drew.cell? ⟨b, 2, none⟩ = some (.slice ra rn rc) ∧ w0.drew.cell? ⟨b, 3, none⟩ = some (.slice oa on oc) := held_of hx (Below.refl _ _).drew
theorem held_next {w0 W W' : World} {R : Prop} {b : Nat} {ins0 : Int} {ga ra oa : Option Addr} {gn gc rn rc on oc : Nat} (hx : Boxed w0 b ins0 ga gn gc ra rn rc oa on oc) (h : Below w0.heap.size w0 W ∧ R) (hb : Below W.heap.size W W') :
    Below w0.heap.size w0 W' ∧ W'.cell? ⟨b, 0, none⟩ = some (.int .i64 ins0) ∧ W'.cell? ⟨b, 1, none⟩ = some (.slice ga gn gc) ∧ W'.cell? ⟨b, 2, none⟩ = some (.slice ra rn rc) ∧ W'.cell? ⟨b, 3, none⟩ = some (.slice oa on oc) := held_of hx (bstep h.1 hb)
theorem Fresh.down {b b' : Nat} {a : Option Addr} {n : Nat} (h : Fresh b a n) (hb : b' ≤ b) : Fresh b' a n := by
  rcases h with h | ⟨g, off, ha, hg⟩
  · exact Or.inl h
  · exact Or.inr ⟨g, off, ha, Nat.le_trans hb hg⟩
theorem fresh_size {w w0 W : World} {R : Prop} (h0 : Below w.heap.size w w0) (h : Below w0.heap.size w0 W ∧ R) : w.heap.size ≤ W.heap.size := Nat.le_trans h0.size h.1.size
theorem ret_sl2 {a b : Option Addr} {n c m k : Nat} {x y : Int} (h : x = y) : Ending.returned (.tuple #[.slice a n c, .slice b m k, .int .i64 x]) = .returned (.tuple #[.slice a n c, .slice b m k, .int .i64 y]) := by rw [h]

set_option maxHeartbeats 2000000 in
theorem DoOf_any (d : NetD) (ins0 : Int) (ga ra oa : Option Addr) (gn gc rn rc on oc : Nat) (w : World) (h : NetAt w d ins0 ga gn ra rn oa on) (regs ins : List Int) (qa ia : Option Addr) (qn qc inn ic : Nat) (hr : Ints w qa qn regs) (hi : Ints w ia inn ins) :
    Calls Try.prog 34 #[.agg #[.int .i64 ins0, .slice ga gn gc, .slice ra rn rc, .slice oa on oc], .slice qa qn qc, .slice ia inn ic] w fun e w' => ∃ a n c b m k, e = .returned (.tuple #[.slice a n c, .slice b m k, .int .i64 (doE d regs ins)]) ∧ Ints w' a n (doOuts d regs ins) ∧ Ints w' b m (doNext d regs ins) ∧ Fresh w.heap.size a n ∧ Fresh w.heap.size b m ∧ Below w.heap.size w w' := by
  have hb0 : Below w.heap.size w (w.alloc (.cells #[.int .i64 ins0, .slice ga gn gc, .slice ra rn rc, .slice oa on oc] 26)) := (Below.refl _ _).alloc (Nat.le_refl _) _
  have hbox : Boxed (w.alloc (.cells #[.int .i64 ins0, .slice ga gn gc, .slice ra rn rc, .slice oa on oc] 26)) w.heap.size ins0 ga gn gc ra rn rc oa on oc := Boxed.new _ _ _ _ _ _ _ _ _ _ _ _
  have hN := h.below hb0
  have hr0 := hr.below hb0
  have hi0 := hi.below hb0
  clear h hr hi
  go_enter Try.func34, Try.ntmps34
  go_wp2_with fail
  refine (StepOf_any d _ _ _ _ _ _ _ _ _ _ _ hN regs ins _ _ _ _ _ _ hr0 hi0).mono ?_
  rintro e w1 ⟨va, vn, vc, v, rfl, hV, hA, hb⟩
  have B1 := bstep hb0 hb
  have hN1 := hN.below hb
  have hx1 := hbox.below hb
  clear hb hb0 hN hbox hr0 hi0
  by_cases e0 : stepE d regs ins = 0
  · have HS := hide e0
    obtain ⟨hL, hvv⟩ := hA.1 e0
    have hv : v = lfp d regs ins := hL.is
    have HE := hide (show doE d regs ins = if opens v = 0 then 0 else 6 by unfold doE; rw [if_pos e0, hv])
    have hvl : v.length = d.gates.length := hL.1
    have hck := (stepE_ok e0).1
    rw [e0]
    clear e0 hA
    by_cases ho : opens v = 0
    · have HC := hide (show (cnt 2 v : Int) = 0 by show ((opens v : Nat) : Int) = 0; omega)
      have HE0 := hide (show doE d regs ins = 0 by rw [unhide HE, if_pos ho])
      have HO := hide (show doOuts d regs ins = pickV v d.outs by unfold doOuts; rw [if_pos (unhide HE0), hv])
      have HX := hide (show doNext d regs ins = pickV v (nextsV d) by unfold doNext; rw [if_pos (unhide HE0), hv])
      have hcs := counts_gates (check_ok hck).1
      have hon : on ≤ 200 := by have := hN1.outs.1; omega
      have hrn : rn ≤ 20 := by have := hN1.regs.1; omega
      have HOI := hide (show ∀ k (hk : k < d.outs.length), 0 ≤ d.outs[k] ∧ d.outs[k] < v.length by intro k hk; rw [hvl]; exact outs_in (check_ok hck).2.1 k hk)
      have HNI := hide (show ∀ k (hk : k < (nextsV d).length), 0 ≤ (nextsV d)[k] ∧ (nextsV d)[k] < v.length by intro k hk; rw [hvl]; exact nexts_in (check_ok hck).2.1 k hk)
      clear ho hv hvl hck hcs hvv hL
      have hx0 := hx1
      obtain ⟨x0, x1, x2, x3, x4⟩ := hx1
      go_wp2_with fail
      refine (count_any _ _ _ _ _ _ hV).mono ?_
      rintro e w2 ⟨rfl, rfl⟩
      rw [unhide HC]
      go_wp2_with fail
      go_region_held3 (fun W => Below w2.heap.size w2 W ∧ W.cell? ⟨w.heap.size, 0, none⟩ = some (.int .i64 ins0) ∧ W.cell? ⟨w.heap.size, 1, none⟩ = some (.slice ga gn gc) ∧ W.cell? ⟨w.heap.size, 2, none⟩ = some (.slice ra rn rc) ∧ W.cell? ⟨w.heap.size, 3, none⟩ = some (.slice oa on oc))
        ((first | exact held_start hx0 | exact held_next hx0 (by assumption) hbA | exact held_next hx0 (by assumption) hbB | exact held_next hx0 (by assumption) hbC))
        ((first
          | (go_at_call 70; refine (nexts_any d _ _ _ _ _ _ _ _ _ _ _ (hN1.below (held_below (by assumption))) hrn).mono ?_; rintro e wB ⟨aB, nB, cB, rfl, hIB, hbB⟩)
          | (go_at_call_of 69 (Value.slice oa on oc); refine (picked_any v d.outs va oa vn vc on oc _ (hV.below (held_below (by assumption))) (hN1.outs.below (held_below (by assumption))) hon (unhide HOI)).mono ?_; rintro e wA ⟨aA, nA, cA, rfl, hIA, hFA, hbA⟩; have hGA := hFA.down (fresh_size B1 (by assumption)))
          | (go_at_call_of 69 (Value.slice aB nB cB); refine (picked_any v (nextsV d) va aB vn vc nB cB _ (hV.below (held_below (by assumption))) (by first | exact hIB | exact hIB.below hbA) (by have := hIB.1; have := nextsV_len d; have := hN1.regs.1; omega) (unhide HNI)).mono ?_; rintro e wC ⟨aC, nC, cC, rfl, hIC, hFC, hbC⟩; have hGC := hFC.down (fresh_size B1 (by assumption)))))
      all_goals (go_wp2_with fail; go_ret3)
      all_goals exact ⟨aA, nA, cA, aC, nC, cC, ret_sl2 (unhide HE0).symm, by rw [unhide HO]; first | exact hIA | exact hIA.below hbC | exact (hIA.below hbB).below hbC, by rw [unhide HX]; first | exact hIC | exact hIC.below hbA, hGA, hGC, bstep B1 (held_below (by assumption))⟩
    · have HC := hide (show (0 : Int) < (cnt 2 v : Int) by show (0 : Int) < ((opens v : Nat) : Int); omega)
      have HE0 := hide (show doE d regs ins = 6 by rw [unhide HE, if_neg ho])
      have HO := hide (show doOuts d regs ins = [] by unfold doOuts; rw [if_neg (by rw [unhide HE0]; decide)])
      have HX := hide (show doNext d regs ins = [] by unfold doNext; rw [if_neg (by rw [unhide HE0]; decide)])
      clear ho hv hvl hck hvv hL
      go_wp2_with fail
      refine (count_any _ _ _ _ _ _ hV).mono ?_
      rintro e w2 ⟨rfl, rfl⟩
      have hc := unhide HC
      go_wp2_with fail
      go_ret3
      exact ⟨none, 0, 0, none, 0, 0, ret_sl2 (unhide HE0).symm, by rw [unhide HO]; exact Ints.none _, by rw [unhide HX]; exact Ints.none _, Or.inl rfl, Or.inl rfl, B1⟩
  · have hne : (stepE d regs ins != 0) = true := by simp [e0]
    have HD := hide (show doE d regs ins = stepE d regs ins by unfold doE; rw [if_neg e0])
    have HO := hide (show doOuts d regs ins = [] by unfold doOuts; rw [if_neg (by rw [unhide HD]; exact e0)])
    have HX := hide (show doNext d regs ins = [] by unfold doNext; rw [if_neg (by rw [unhide HD]; exact e0)])
    clear e0 hA
    go_wp2_with fail
    go_ret3
    exact ⟨none, 0, 0, none, 0, 0, ret_sl2 (unhide HD).symm, by rw [unhide HO]; exact Ints.none _, by rw [unhide HX]; exact Ints.none _, Or.inl rfl, Or.inl rfl, B1⟩

end Go.Proofs.Ytongajonecgdpae
