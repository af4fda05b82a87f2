/- What is shown is read as it was (plain). -/
import Derived.Test.YtongajonecgdpagGreatDoorTextC
namespace Go.Proofs.YtongajonecgdpagGreatDoor
open Go.RowKit

theorem after_pre (t r : List UInt8) : afterL (t ++ r) t = (r, true) := by simp [afterL]
theorem after_no {c d : UInt8} (s t : List UInt8) (h : c ≠ d) : (afterL (c :: s) (d :: t)).2 = false := by
  unfold afterL
  rw [if_neg]
  intro e
  simp at e
  exact h e.1
theorem let_ok {f z : Nat} (hf : f = 65 ∨ f = 120) (hz : z ≤ 2) (r : List UInt8) : letF f (letter f z ++ r) = some (z, r) := by
  rcases hf with rfl | rfl <;> rcases three' hz with rfl | rfl | rfl <;> rfl
theorem two_ok {f : List UInt8 → Int → Option (List NodeD × List UInt8)} {x : NodeD} {a b c l1 l2 r : List UInt8} {one other : List NodeD} {left : Int} (h1 : f (l1 ++ (b ++ (l2 ++ (c ++ r)))) (left - 2) = some (one, b ++ (l2 ++ (c ++ r)))) (h2 : f (l2 ++ (c ++ r)) (left - 1 - (one.length : Int)) = some (other, c ++ r)) :
    twoF f x (a ++ (l1 ++ (b ++ (l2 ++ (c ++ r))))) a b c left = some ([x] ++ one ++ other, r) := by
  unfold twoF
  simp only [after_pre, if_true]
  rw [h1]
  simp only [after_pre, if_true]
  rw [h2]
  simp only [after_pre, if_true]
/-- Another word stands between: it is none. -/
theorem two_no {f : List UInt8 → Int → Option (List NodeD × List UInt8)} {x : NodeD} {a b' c l1 s : List UInt8} {one : List NodeD} {left : Int} (h1 : f (l1 ++ s) (left - 2) = some (one, s)) (hb : (afterL s b').2 = false) : twoF f x (a ++ (l1 ++ s)) a b' c left = none := by
  unfold twoF
  simp only [after_pre, if_true]
  rw [h1]
  simp only [hb]
  rfl
theorem take_leaf {p : List NodeD} {k : Nat} (hk : k < p.length) : (p.drop k).take 1 = [p[k]] := by rw [List.drop_eq_getElem_cons hk]; rfl
theorem take_node {p : List NodeD} {k a b : Nat} (hk : k < p.length) : (p.drop k).take (1 + (a + b)) = [p[k]] ++ (p.drop (k + 1)).take a ++ (p.drop (k + 1 + a)).take b := by
  rw [List.drop_eq_getElem_cons hk, Nat.add_comm 1, List.take_succ_cons, List.take_add, List.drop_drop]
  simp
theorem from_text {p : List NodeD} (hok : POk p) : ∀ (m f k : Nat) (r : List UInt8) (left : Int), p.length - k ≤ m → k < p.length → endP p k - k ≤ f → ((endP p k - k : Nat) : Int) ≤ left → fromF f (textL p m k ++ r) left = some ((p.drop k).take (endP p k - k), r)
  | 0, f, k, r, left, hm, hk, _, _ => by omega
  | m + 1, 0, k, r, left, hm, hk, hf, _ => by have := end_gt hk; omega
  | m + 1, f + 1, k, r, left, hm, hk, hf, hl => by
    have ih := from_text hok m f
    have hgt := end_gt hk
    have hkd := hok.kinds p[k] (List.getElem_mem hk)
    have hsg := hok.sigs p[k] (List.getElem_mem hk)
    have hkk : kindAt p k = p[k].kind := by simp [kindAt, List.getD_eq_getElem?_getD, hk]
    obtain ⟨z, hz⟩ := Int.eq_ofNat_of_zero_le hsg.1
    have hsn := sigN_of hk hz
    have hz2 : z ≤ 2 := by
      have h1 := hsg.2
      rw [hz] at h1
      unfold mostS at h1
      split at h1 <;> omega
    have hl0 : ¬ left ≤ 0 := by omega
    have hx : p[k] = ⟨p[k].kind, p[k].sig⟩ := rfl
    have hz0 : ∀ y : Int, p[k].kind = y → mostS y = 0 → p[k].sig = 0 := fun y h1 h2 => by have := hsg.1; have := hsg.2; rw [h1, h2] at this; omega
    have hleaf : hasP p[k].kind = false → endP p k - k = 1 := fun h => by rw [end_leaf hk h]; omega
    have hnode : hasP p[k].kind = true → ∃ a b, endP p k - k = 1 + (a + b) ∧ k + 1 + a = endP p (k + 1) ∧ fromF f (textL p m (k + 1) ++ r) left = fromF f (textL p m (k + 1) ++ r) left ∧ (∀ (r' : List UInt8) (l : Int), (a : Int) ≤ l → fromF f (textL p m (k + 1) ++ r') l = some ((p.drop (k + 1)).take a, r')) ∧ (∀ (r' : List UInt8) (l : Int), (b : Int) ≤ l → fromF f (textL p m (endP p (k + 1)) ++ r') l = some ((p.drop (endP p (k + 1))).take b, r')) ∧ 1 ≤ a ∧ 1 ≤ b ∧ ((p.drop (k + 1)).take a).length = a := fun hp => by
      obtain ⟨t1, t2⟩ := end_two hok.form hk hp
      have hn := end_node hk hp
      have g1 := end_gt t1
      have g2 := end_gt t2
      have e2 := end_le hok.form t2
      refine ⟨endP p (k + 1) - (k + 1), endP p (endP p (k + 1)) - endP p (k + 1), by omega, by omega, rfl, fun r' l h => ih _ r' l (by omega) t1 (by omega) (by omega), fun r' l h => ih _ r' l (by omega) t2 (by omega) (by omega), by omega, by omega, by simp; omega⟩
    rcases nineT hkd with hk0 | hk0 | hk0 | hk0 | hk0 | hk0 | hk0 | hk0 | hk0
    · -- 0
      have hT : textL p (m + 1) k ++ r = tNothing ++ (r) := by
        have hu : textL p (m + 1) k = tNothing := by
          conv => lhs; unfold textL
          rw [hkk, hk0]; rfl
        rw [hu]
      rw [hT]
      unfold fromF
      rw [if_neg hl0]
      simp only [after_pre, if_true]
      rw [hleaf (by rw [hk0]; rfl), take_leaf hk, hx, hk0, hz0 0 hk0 rfl]
    · -- 1
      have hT : textL p (m + 1) k ++ r = tPause ++ (r) := by
        have hu : textL p (m + 1) k = tPause := by
          conv => lhs; unfold textL
          rw [hkk, hk0]; rfl
        rw [hu]
      rw [hT]
      have e0 : (afterL (tPause ++ (r)) tNothing).2 = false := after_no _ _ (by decide)
      unfold fromF
      rw [if_neg hl0]
      simp only [e0, after_pre, if_true, Bool.false_eq_true, if_false]
      rw [hleaf (by rw [hk0]; rfl), take_leaf hk, hx, hk0, hz0 1 hk0 rfl]
    · -- 2
      have hT : textL p (m + 1) k ++ r = tHalt ++ (r) := by
        have hu : textL p (m + 1) k = tHalt := by
          conv => lhs; unfold textL
          rw [hkk, hk0]; rfl
        rw [hu]
      rw [hT]
      have e0 : (afterL (tHalt ++ (r)) tNothing).2 = false := after_no _ _ (by decide)
      have e1 : (afterL (tHalt ++ (r)) tPause).2 = false := after_no _ _ (by decide)
      unfold fromF
      rw [if_neg hl0]
      simp only [e0, e1, after_pre, if_true, Bool.false_eq_true, if_false]
      rw [hleaf (by rw [hk0]; rfl), take_leaf hk, hx, hk0, hz0 2 hk0 rfl]
    · -- 3
      have hT : textL p (m + 1) k ++ r = tEmit ++ (letter 65 z ++ r) := by
        have hu : textL p (m + 1) k = tEmit ++ letter 65 z := by
          conv => lhs; unfold textL
          rw [hkk, hk0, hsn]; rfl
        rw [hu]; simp [List.append_assoc]
      rw [hT]
      have e0 : (afterL (tEmit ++ (letter 65 z ++ r)) tNothing).2 = false := after_no _ _ (by decide)
      have e1 : (afterL (tEmit ++ (letter 65 z ++ r)) tPause).2 = false := after_no _ _ (by decide)
      have e2 : (afterL (tEmit ++ (letter 65 z ++ r)) tHalt).2 = false := after_no _ _ (by decide)
      unfold fromF
      rw [if_neg hl0]
      simp only [e0, e1, e2, after_pre, if_true, Bool.false_eq_true, if_false]
      rw [let_ok (by simp) hz2, hleaf (by rw [hk0]; rfl), take_leaf hk, hx, hk0, hz]
      rfl
    · -- 4
      have hT : textL p (m + 1) k ++ r = tAwait ++ (letter 120 z ++ r) := by
        have hu : textL p (m + 1) k = tAwait ++ letter 120 z := by
          conv => lhs; unfold textL
          rw [hkk, hk0, hsn]; rfl
        rw [hu]; simp [List.append_assoc]
      rw [hT]
      have e0 : (afterL (tAwait ++ (letter 120 z ++ r)) tNothing).2 = false := after_no _ _ (by decide)
      have e1 : (afterL (tAwait ++ (letter 120 z ++ r)) tPause).2 = false := after_no _ _ (by decide)
      have e2 : (afterL (tAwait ++ (letter 120 z ++ r)) tHalt).2 = false := after_no _ _ (by decide)
      have e3 : (afterL (tAwait ++ (letter 120 z ++ r)) tEmit).2 = false := after_no _ _ (by decide)
      unfold fromF
      rw [if_neg hl0]
      simp only [e0, e1, e2, e3, after_pre, if_true, Bool.false_eq_true, if_false]
      rw [let_ok (by simp) hz2, hleaf (by rw [hk0]; rfl), take_leaf hk, hx, hk0, hz]
      rfl
    · -- 5
      have hT : textL p (m + 1) k ++ r = [40] ++ ([] ++ (textL p m (k + 1) ++ ([59, 32] ++ (textL p m (endP p (k + 1)) ++ ([41] ++ r))))) := by
        have hu : textL p (m + 1) k = ((([40] ++ textL p m (k + 1)) ++ [59, 32]) ++ textL p m (endP p (k + 1))) ++ [41] := by
          conv => lhs; unfold textL
          rw [hkk, hk0]; rfl
        rw [hu]; simp [List.append_assoc]
      rw [hT]
      have e0 : (afterL ([40] ++ ([] ++ (textL p m (k + 1) ++ ([59, 32] ++ (textL p m (endP p (k + 1)) ++ ([41] ++ r)))))) tNothing).2 = false := after_no _ _ (by decide)
      have e1 : (afterL ([40] ++ ([] ++ (textL p m (k + 1) ++ ([59, 32] ++ (textL p m (endP p (k + 1)) ++ ([41] ++ r)))))) tPause).2 = false := after_no _ _ (by decide)
      have e2 : (afterL ([40] ++ ([] ++ (textL p m (k + 1) ++ ([59, 32] ++ (textL p m (endP p (k + 1)) ++ ([41] ++ r)))))) tHalt).2 = false := after_no _ _ (by decide)
      have e3 : (afterL ([40] ++ ([] ++ (textL p m (k + 1) ++ ([59, 32] ++ (textL p m (endP p (k + 1)) ++ ([41] ++ r)))))) tEmit).2 = false := after_no _ _ (by decide)
      have e4 : (afterL ([40] ++ ([] ++ (textL p m (k + 1) ++ ([59, 32] ++ (textL p m (endP p (k + 1)) ++ ([41] ++ r)))))) tAwait).2 = false := after_no _ _ (by decide)
      have e5 : (afterL ([40] ++ ([] ++ (textL p m (k + 1) ++ ([59, 32] ++ (textL p m (endP p (k + 1)) ++ ([41] ++ r)))))) tIf).2 = false := after_no _ _ (by decide)
      have e6 : (afterL ([40] ++ ([] ++ (textL p m (k + 1) ++ ([59, 32] ++ (textL p m (endP p (k + 1)) ++ ([41] ++ r)))))) tWas).2 = false := after_no _ _ (by decide)
      unfold fromF
      rw [if_neg hl0]
      simp only [e0, e1, e2, e3, e4, e5, e6, after_pre, if_true, Bool.false_eq_true, if_false]
      obtain ⟨a, b, h1, h2, _, h4, h5, h6, h7, h8⟩ := hnode (by rw [hk0]; rfl)
      rw [two_ok (h4 _ _ (by omega)) (h5 _ _ (by rw [h8]; omega))]
      rw [h1, take_node hk, h2, hx, hk0, hz0 5 hk0 rfl]
      rfl
    · -- 6
      have hT : textL p (m + 1) k ++ r = [40] ++ ([] ++ (textL p m (k + 1) ++ ([32, 124, 32] ++ (textL p m (endP p (k + 1)) ++ ([41] ++ r))))) := by
        have hu : textL p (m + 1) k = ((([40] ++ textL p m (k + 1)) ++ [32, 124, 32]) ++ textL p m (endP p (k + 1))) ++ [41] := by
          conv => lhs; unfold textL
          rw [hkk, hk0]; rfl
        rw [hu]; simp [List.append_assoc]
      rw [hT]
      have e0 : (afterL ([40] ++ ([] ++ (textL p m (k + 1) ++ ([32, 124, 32] ++ (textL p m (endP p (k + 1)) ++ ([41] ++ r)))))) tNothing).2 = false := after_no _ _ (by decide)
      have e1 : (afterL ([40] ++ ([] ++ (textL p m (k + 1) ++ ([32, 124, 32] ++ (textL p m (endP p (k + 1)) ++ ([41] ++ r)))))) tPause).2 = false := after_no _ _ (by decide)
      have e2 : (afterL ([40] ++ ([] ++ (textL p m (k + 1) ++ ([32, 124, 32] ++ (textL p m (endP p (k + 1)) ++ ([41] ++ r)))))) tHalt).2 = false := after_no _ _ (by decide)
      have e3 : (afterL ([40] ++ ([] ++ (textL p m (k + 1) ++ ([32, 124, 32] ++ (textL p m (endP p (k + 1)) ++ ([41] ++ r)))))) tEmit).2 = false := after_no _ _ (by decide)
      have e4 : (afterL ([40] ++ ([] ++ (textL p m (k + 1) ++ ([32, 124, 32] ++ (textL p m (endP p (k + 1)) ++ ([41] ++ r)))))) tAwait).2 = false := after_no _ _ (by decide)
      have e5 : (afterL ([40] ++ ([] ++ (textL p m (k + 1) ++ ([32, 124, 32] ++ (textL p m (endP p (k + 1)) ++ ([41] ++ r)))))) tIf).2 = false := after_no _ _ (by decide)
      have e6 : (afterL ([40] ++ ([] ++ (textL p m (k + 1) ++ ([32, 124, 32] ++ (textL p m (endP p (k + 1)) ++ ([41] ++ r)))))) tWas).2 = false := after_no _ _ (by decide)
      unfold fromF
      rw [if_neg hl0]
      simp only [e0, e1, e2, e3, e4, e5, e6, after_pre, if_true, Bool.false_eq_true, if_false]
      obtain ⟨a, b, h1, h2, _, h4, h5, h6, h7, h8⟩ := hnode (by rw [hk0]; rfl)
      rw [two_no (a := []) (left := left) (s := [32, 124, 32] ++ (textL p m (endP p (k + 1)) ++ ([41] ++ r))) (h4 _ _ (by omega)) (after_no (c := 32) (d := 59) _ _ (by decide))]
      show twoF (fromF f) ⟨6, 0⟩ _ _ _ _ left = _
      rw [two_ok (h4 _ _ (by omega)) (h5 _ _ (by rw [h8]; omega))]
      rw [h1, take_node hk, h2, hx, hk0, hz0 6 hk0 rfl]
    · -- 7
      have hT : textL p (m + 1) k ++ r = tIf ++ (letter 120 z ++ (tThen ++ (textL p m (k + 1) ++ (tElse ++ (textL p m (endP p (k + 1)) ++ (tEnd ++ r)))))) := by
        have hu : textL p (m + 1) k = (((((tIf ++ letter 120 z) ++ tThen) ++ textL p m (k + 1)) ++ tElse) ++ textL p m (endP p (k + 1))) ++ tEnd := by
          conv => lhs; unfold textL
          rw [hkk, hk0, hsn]; rfl
        rw [hu]; simp [List.append_assoc]
      rw [hT]
      have e0 : (afterL (tIf ++ (letter 120 z ++ (tThen ++ (textL p m (k + 1) ++ (tElse ++ (textL p m (endP p (k + 1)) ++ (tEnd ++ r))))))) tNothing).2 = false := after_no _ _ (by decide)
      have e1 : (afterL (tIf ++ (letter 120 z ++ (tThen ++ (textL p m (k + 1) ++ (tElse ++ (textL p m (endP p (k + 1)) ++ (tEnd ++ r))))))) tPause).2 = false := after_no _ _ (by decide)
      have e2 : (afterL (tIf ++ (letter 120 z ++ (tThen ++ (textL p m (k + 1) ++ (tElse ++ (textL p m (endP p (k + 1)) ++ (tEnd ++ r))))))) tHalt).2 = false := after_no _ _ (by decide)
      have e3 : (afterL (tIf ++ (letter 120 z ++ (tThen ++ (textL p m (k + 1) ++ (tElse ++ (textL p m (endP p (k + 1)) ++ (tEnd ++ r))))))) tEmit).2 = false := after_no _ _ (by decide)
      have e4 : (afterL (tIf ++ (letter 120 z ++ (tThen ++ (textL p m (k + 1) ++ (tElse ++ (textL p m (endP p (k + 1)) ++ (tEnd ++ r))))))) tAwait).2 = false := after_no _ _ (by decide)
      unfold fromF
      rw [if_neg hl0]
      simp only [e0, e1, e2, e3, e4, after_pre, if_true, Bool.false_eq_true, if_false]
      obtain ⟨a, b, h1, h2, _, h4, h5, h6, h7, h8⟩ := hnode (by rw [hk0]; rfl)
      rw [let_ok (by simp) hz2]
      show twoF (fromF f) ⟨7, (z : Int)⟩ _ _ _ _ left = _
      rw [two_ok (h4 _ _ (by omega)) (h5 _ _ (by rw [h8]; omega))]
      rw [h1, take_node hk, h2, hx, hk0, hz]
    · -- 8
      have hT : textL p (m + 1) k ++ r = tWas ++ (letter 65 z ++ (tThen ++ (textL p m (k + 1) ++ (tElse ++ (textL p m (endP p (k + 1)) ++ (tEnd ++ r)))))) := by
        have hu : textL p (m + 1) k = (((((tWas ++ letter 65 z) ++ tThen) ++ textL p m (k + 1)) ++ tElse) ++ textL p m (endP p (k + 1))) ++ tEnd := by
          conv => lhs; unfold textL
          rw [hkk, hk0, hsn]; rfl
        rw [hu]; simp [List.append_assoc]
      rw [hT]
      have e0 : (afterL (tWas ++ (letter 65 z ++ (tThen ++ (textL p m (k + 1) ++ (tElse ++ (textL p m (endP p (k + 1)) ++ (tEnd ++ r))))))) tNothing).2 = false := after_no _ _ (by decide)
      have e1 : (afterL (tWas ++ (letter 65 z ++ (tThen ++ (textL p m (k + 1) ++ (tElse ++ (textL p m (endP p (k + 1)) ++ (tEnd ++ r))))))) tPause).2 = false := after_no _ _ (by decide)
      have e2 : (afterL (tWas ++ (letter 65 z ++ (tThen ++ (textL p m (k + 1) ++ (tElse ++ (textL p m (endP p (k + 1)) ++ (tEnd ++ r))))))) tHalt).2 = false := after_no _ _ (by decide)
      have e3 : (afterL (tWas ++ (letter 65 z ++ (tThen ++ (textL p m (k + 1) ++ (tElse ++ (textL p m (endP p (k + 1)) ++ (tEnd ++ r))))))) tEmit).2 = false := after_no _ _ (by decide)
      have e4 : (afterL (tWas ++ (letter 65 z ++ (tThen ++ (textL p m (k + 1) ++ (tElse ++ (textL p m (endP p (k + 1)) ++ (tEnd ++ r))))))) tAwait).2 = false := after_no _ _ (by decide)
      have e5 : (afterL (tWas ++ (letter 65 z ++ (tThen ++ (textL p m (k + 1) ++ (tElse ++ (textL p m (endP p (k + 1)) ++ (tEnd ++ r))))))) tIf).2 = false := after_no _ _ (by decide)
      unfold fromF
      rw [if_neg hl0]
      simp only [e0, e1, e2, e3, e4, e5, after_pre, if_true, Bool.false_eq_true, if_false]
      obtain ⟨a, b, h1, h2, _, h4, h5, h6, h7, h8⟩ := hnode (by rw [hk0]; rfl)
      rw [let_ok (by simp) hz2]
      show twoF (fromF f) ⟨8, (z : Int)⟩ _ _ _ _ left = _
      rw [two_ok (h4 _ _ (by omega)) (h5 _ _ (by rw [h8]; omega))]
      rw [h1, take_node hk, h2, hx, hk0, hz]
/-- What is shown is read as it was. -/
theorem read_shown {p : List NodeD} (hok : POk p) : progF (textL p p.length 0) = some p := by
  have hpos : 0 < p.length := ok_some (o := 0) hok.form
  have he := end_le hok.form hpos
  have hfew := hok.few
  have hend : endP p 0 = p.length := by
    obtain ⟨h1, h2, _⟩ := ok_split p 1 0 hok.form
    have h3 := congrArg List.length (ok_none h2)
    simp at h3
    unfold endP
    rw [List.drop_zero, Nat.zero_add]
    omega
  have h := from_text hok p.length 15 0 [] 14 (by omega) hpos (by omega) (by omega)
  rw [List.append_nil, hend] at h
  unfold progF
  rw [h]
  simp [of_pok hok]
/-- What is read is shown so. -/
theorem shown_read {s : List UInt8} {p : List NodeD} (h : progF s = some p) : checkP p = 0 ∧ textL p p.length 0 = s := by
  unfold progF at h
  split at h
  · simp at h
  · split at h
    · rename_i hc
      simp at h
      subst h
      exact ⟨hc.2.1, hc.2.2⟩
    · simp at h
end Go.Proofs.YtongajonecgdpagGreatDoor
