/- The document's SameRows. -/
import Derived.Test.YtongajonecgdpacTickD
namespace Go.Proofs.Ytongajonecgdpac
open Go.RowKit

theorem held2_of {w0 W : World} {p q : Addr} {x y : Value} (hp : p.block < w0.heap.size) (hc : w0.cell? p = some x) (hq : q.block < w0.heap.size) (hd : w0.cell? q = some y) (h : Below w0.heap.size w0 W) :
    Below w0.heap.size w0 W ∧ W.cell? p = some x ∧ W.cell? q = some y := ⟨h, (h.cell hp).trans hc, (h.cell hq).trans hd⟩
def sameTo (xss yss : List (List Int)) (k : Nat) : Bool := decide (xss.take k = yss.take k)
theorem sameTo_succ (xss yss : List (List Int)) (k : Nat) (h : k < xss.length) (h' : k < yss.length) (hs : sameTo xss yss k = true) (e : decide (xss[k] = yss[k]) = true) : sameTo xss yss (k + 1) = true := by
  unfold sameTo at hs ⊢
  rw [decide_eq_true_iff] at hs e ⊢
  rw [List.take_succ_eq_append_getElem h, List.take_succ_eq_append_getElem h', hs, e]

set_option maxHeartbeats 1000000 in
theorem SameRows_any (xss yss : List (List Int)) (a b : Option Addr) (n c m c' : Nat) (w : World) (hx : Rows w a n xss) (hy : Rows w b m yss) :
    Calls Try.prog 11 #[.slice a n c, .slice b m c'] w fun e w' => e = .returned (.bool (decide (xss = yss))) ∧ Below w.heap.size w w' := by
  have HN := hide hx.1
  have HM := hide hy.1
  by_cases e0 : n = m
  · subst e0
    have hl1 : n ≤ xss.length := by have := unhide HN; omega
    have hm63 := hx.2.1
    unfold maxLen at hm63
    have hl2 : n ≤ yss.length := by have := unhide HM; omega
    go_enter Try.func11, Try.ntmps11
    go_wp2_with fail
    go_loopw [5] (fun i wr => ∃ k : Nat, k ≤ n ∧ i = .int .i64 k ∧ sameTo xss yss k = true ∧ Below w.heap.size w wr) (fun i _ => n - (intOf i).toNat)
    case atStart => exact ⟨0, Nat.zero_le _, rfl, by simp [sameTo], Below.refl _ _⟩
    case round =>
      obtain ⟨k, hk, rfl, hno, hbel⟩ := hrel
      by_cases hlt : k < n
      · have hk1 : k < xss.length := by omega
        have hk2 : k < yss.length := by omega
        have hki : (k : Int) < (n : Int) := by omega
        obtain ⟨b, off, xa, xn, xc, rfl, hbb, c1, hX⟩ := (hx.below hbel).at hk1
        obtain ⟨b2, off2, ya, yn, yc, rfl, hbb2, c2, hY⟩ := (hy.below hbel).at hk2
        cases e : decide (xss[k] = yss[k])
        · have HD := hide e
          have HT := hide (show decide (xss = yss) = false by
            rw [decide_eq_false_iff_not] at e ⊢
            intro hh; subst hh; exact e rfl)
          clear e hno
          go_wp2_with fail
          go_region_held3 (fun W => Below wr.heap.size wr W ∧ W.cell? ⟨b, off + k, none⟩ = some (.slice xa xn xc) ∧ W.cell? ⟨b2, off2 + k, none⟩ = some (.slice ya yn yc))
          ((first | exact held2_of hbb c1 hbb2 c2 (Below.refl _ _).drew | exact held2_of hbb c1 hbb2 c2 (held_next' (by assumption) hbB)))
          ((first | (go_at_call 13; refine (SameInts_any _ _ _ _ _ _ _ _ _ (hX.below (held_below (by assumption))) (hY.below (held_below (by assumption)))).mono ?_; rintro e wB ⟨rfl, hbB⟩; rw [unhide HD])))
          have hSB : Below wr.heap.size wr wB := held_below (w0 := wr) (by assumption)
          go_wp2_with fail
          go_ret
          exact ⟨ret_bool (unhide HT).symm, bstep hbel hSB⟩
        · have HD := hide e
          have HT := hide (sameTo_succ xss yss k hk1 hk2 hno e)
          clear e hno
          go_wp2_with fail
          go_region_held3 (fun W => Below wr.heap.size wr W ∧ W.cell? ⟨b, off + k, none⟩ = some (.slice xa xn xc) ∧ W.cell? ⟨b2, off2 + k, none⟩ = some (.slice ya yn yc))
          ((first | exact held2_of hbb c1 hbb2 c2 (Below.refl _ _).drew | exact held2_of hbb c1 hbb2 c2 (held_next' (by assumption) hbB)))
          ((first | (go_at_call 13; refine (SameInts_any _ _ _ _ _ _ _ _ _ (hX.below (held_below (by assumption))) (hY.below (held_below (by assumption)))).mono ?_; rintro e wB ⟨rfl, hbB⟩; rw [unhide HD])))
          have hSB : Below wr.heap.size wr wB := held_below (w0 := wr) (by assumption)
          go_wp2_with fail
          exact ⟨⟨k + 1, by omega, by go_num, unhide HT, bstep hbel hSB⟩, by simp [intOf]; omega⟩
      · have HT := hide (show decide (xss = yss) = true by
          unfold sameTo at hno
          rwa [List.take_of_length_le (l := xss) (by have := unhide HN; omega), List.take_of_length_le (l := yss) (by have := unhide HM; omega)] at hno)
        clear hno
        go_wp2_with fail
        go_ret
        exact ⟨ret_bool (unhide HT).symm, hbel⟩
  · have hne : ¬ (n : Int) = (m : Int) := by omega
    have HT := hide (show decide (xss = yss) = false by
      rw [decide_eq_false_iff_not]; intro hh; subst hh; have := unhide HN; have := unhide HM; omega)
    go_enter Try.func11, Try.ntmps11
    go_wp2_with fail
    go_ret
    exact ⟨ret_bool (unhide HT).symm, Below.refl _ _⟩
end Go.Proofs.Ytongajonecgdpac
