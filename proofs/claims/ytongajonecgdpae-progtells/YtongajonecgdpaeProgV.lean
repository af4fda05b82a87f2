/- The walk of ProgTells. -/
import Derived.Test.YtongajonecgdpaeProgL
namespace Go.Proofs.Ytongajonecgdpae
open Go.RowKit

set_option maxRecDepth 100000 in
set_option maxHeartbeats 4000000 in
theorem ProgTells_any (p : List NodeD) (a : Option Addr) (n c : Nat) (k : Int) (w : World) (h : Nodes w a n p) (hc : n ≤ c) :
    Calls Try.prog 6 #[.slice a n c, .int .i64 k] w fun e w' => e = .returned (.bool true) ∧ Below w.heap.size w w' := by
  have HN := hide h.1
  go_enter Try.func6, Try.ntmps6
  go_wp2_with fail
  refine (PParts_any p _ _ _ k _ h hc).mono ?_
  rintro e w1 ⟨hr, b1⟩
  unfold PartsRet at hr
  obtain ⟨pa, hpa⟩ : ∃ pa, partA p k = pa := ⟨_, rfl⟩
  obtain ⟨pb, hpb⟩ : ∃ pb, partB p k = pb := ⟨_, rfl⟩
  obtain ⟨pc, hpc⟩ : ∃ pc, partC p k = pc := ⟨_, rfl⟩
  obtain ⟨pe, hpe⟩ : ∃ pe, partsE p k = pe := ⟨_, rfl⟩
  rw [hpa, hpb, hpc, hpe] at hr
  subst hr
  have HP := hide (And.intro hpa (And.intro hpb (And.intro hpc hpe)))
  clear hpa hpb hpc hpe
  go_wp2_with fail
  refine (PWaits_any p _ _ _ _ (h.below b1)).mono ?_
  rintro e w2 ⟨la, ln, lc, he, hL, b2⟩
  obtain ⟨ck, hck⟩ : ∃ ck, checkP p = ck := ⟨_, rfl⟩
  rw [hck] at he hL
  subst he
  have HCK := hide hck
  clear hck
  have B2 := bstep b1 b2
  clear b1 b2
  go_wp2_with fail
  refine (PartsOf_any p _ _ _ k _ (h.below B2)).mono ?_
  rintro e w3 ⟨hr, rfl⟩
  unfold PartsRet at hr
  rw [(unhide HP).1, (unhide HP).2.1, (unhide HP).2.2.1, (unhide HP).2.2.2] at hr
  subst hr
  clear HP
  rename World => wq
  go_wp2_with fail
  refine (CheckProg_any p _ _ _ _ (h.below B2)).mono ?_
  rintro e w4 ⟨rfl, rfl⟩
  rw [unhide HCK]
  rename World => wr
  have hrest : ∀ (wa : Option Addr) (wn wc : Nat) (w5 : World), Below w.heap.size w w5 → Bools w5 la ln (if ck = 0 then waitsV p else []) → Bools w5 wa wn (if ck = 0 then waitsV p else []) → True := fun _ _ _ _ _ _ _ => trivial
  clear hrest
  by_cases e0 : ck = 0
  · subst e0
    have hn14 : n ≤ 14 := by have := (pok_of (unhide HCK)).few; have := unhide HN; omega
    rw [if_pos rfl] at hL
    go_wp2_with fail
    refine (WaitsOf_any p _ _ _ _ (h.below B2) hn14).mono ?_
    rintro e w5 ⟨wa, wc, rfl, hW, b5⟩
    have B5 := bstep B2 b5
    have hL5 := hL.below b5
    clear hL B2 b5
    go_wp2_with fail
    refine (progBegun_any _).mono ?_
    rintro e w6 ⟨rfl, b6⟩
    have B6 := bstep B5 b6
    have hL6 := hL5.below b6
    have hW6 := hW.below b6
    clear B5 hL5 hW b6
    go_wp2_with fail
    refine (PCheck_any p _ _ _ _ (h.below B6)).mono ?_
    rintro e w7 ⟨rfl, b7⟩
    rw [unhide HCK]
    have B7 := bstep B6 b7
    have hL7 := hL6.below b7
    have hW7 := hW6.below b7
    clear B6 hL6 hW6 b7
    go_wp2_with fail
    refine (SameBools_any _ _ _ _ _ _ _ _ _ hL7 hW7).mono ?_
    rintro e w8 ⟨rfl, b8⟩
    have B8 := bstep B7 b8
    rw [show decide (waitsV p = waitsV p) = true from decide_eq_true rfl]
    go_wp2_with fail
    go_ret
    exact ⟨rfl, B8⟩
  · have hq : (ck == 0) = false := by simp [e0]
    rw [if_neg e0] at hL
    have HE := hide e0
    clear e0
    go_wp2_with fail
    refine (progBegun_any _).mono ?_
    rintro e w6 ⟨rfl, b6⟩
    have B6 := bstep B2 b6
    have hL6 := hL.below b6
    clear B2 hL b6
    go_wp2_with fail
    refine (PCheck_any p _ _ _ _ (h.below B6)).mono ?_
    rintro e w7 ⟨rfl, b7⟩
    rw [unhide HCK]
    have B7 := bstep B6 b7
    have hL7 := hL6.below b7
    clear B6 hL6 b7
    go_wp2_with fail
    refine (SameBools_any _ _ _ _ _ _ _ _ _ hL7 (Bools.nothing _)).mono ?_
    rintro e w8 ⟨rfl, b8⟩
    have B8 := bstep B7 b8
    rw [show decide (([] : List Bool) = []) = true from rfl]
    go_wp2_with fail
    go_ret
    exact ⟨rfl, B8⟩
end Go.Proofs.Ytongajonecgdpae
