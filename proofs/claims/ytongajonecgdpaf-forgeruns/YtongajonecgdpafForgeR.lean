/- The statement ForgeRuns. -/
import Derived.Test.YtongajonecgdpafSmithN
import Derived.Test.YtongajonecgdpafPlayB
namespace Go.Proofs.Ytongajonecgdpaf
open Go.RowKit

theorem waits_at {p : List NodeD} {k : Nat} (hk : k < p.length) (hk' : k < (waitsV p).length) : (waitsV p)[k] = waitK (kindAt p k) := by
  simp [waitsV, kindAt, List.getD_eq_getElem?_getD, hk]

set_option maxRecDepth 100000 in
set_option maxHeartbeats 8000000 in
theorem ForgeRuns_any (p : List NodeD) (pa : Option Addr) (pn pc : Nat) (l : List Int) (la : Option Addr) (ln lc : Nat) (w : World) (hN : Nodes w pa pn p) (hc : pn ≤ pc) (hl : Ints w la ln l) :
    Calls Try.prog 5 #[.slice pa pn pc, .slice la ln lc] w fun e w' => e = .returned (.bool true) ∧ Below w.heap.size w w' := by
  go_enter Try.func5, Try.ntmps5
  go_wp2_with fail
  refine (FRun_any p pa pn pc l la ln lc w hN hc hl).mono ?_
  rintro e w1 ⟨a1, n1, c1, rfl, hR1, B1⟩
  have hN1 := hN.below B1
  have hl1 := hl.below B1
  clear hN hl
  go_wp2_with fail
  refine (FSize_any p pa pn pc _ hN1).mono ?_
  rintro e w2 ⟨rfl, hb⟩
  have B2 := bstep B1 hb
  have hN2 := hN1.below hb
  have hl2 := hl1.below hb
  have hR2 := hR1.below hb
  clear hb B1 hN1 hl1 hR1
  go_wp2_with fail
  refine (PlayedOf_any p pa pn pc l la ln lc _ hN2 hl2).mono ?_
  rintro e w3 ⟨a3, n3, c3, rfl, hP3, hb⟩
  have B3 := bstep B2 hb
  have hN3 := hN2.below hb
  have hR3 := hR2.below hb
  clear hb B2 hN2 hl2 hR2
  go_wp2_with fail
  refine (CheckProg_any p _ _ _ _ hN3).mono ?_
  rintro e w' ⟨rfl, rfl⟩
  rename World => w3
  obtain ⟨pe, hpe⟩ : ∃ pe, playE p l = pe := ⟨_, rfl⟩
  obtain ⟨rows, hrows⟩ : ∃ r, playRows p l = r := ⟨_, rfl⟩
  rw [hrows] at hR3 hP3
  rw [hpe]
  clear hpe hrows
  by_cases he : checkP p = 0
  · have hok := pok_of he
    have hn14 : pn ≤ 14 := by rw [hN3.1]; exact hok.few
    have HNL := hide hN3.1
    have HW := hide (show waitN p = numW p by unfold waitN; rw [if_pos he])
    have HS := hide (show sizeN p = pn by unfold sizeN; rw [if_pos he, hN3.1])
    rw [he]
    clear he hok
    go_wp2_with fail
    refine (WaitsOf_any p pa pn pc _ hN3 hn14).mono ?_
    rintro e w4 ⟨wa, wc, rfl, hB4, hb⟩
    have B4 := bstep B3 hb
    have hR4 := hR3.below hb
    have hP4 := hP3.below hb
    clear hb B3 hN3 hR3 hP3
    go_wp2_with fail
    go_loopw [13, 16] (fun m iv wr => ∃ k : Nat, k ≤ pn ∧ iv = .int .i64 k ∧ m = .int .i64 (mayN p k : Nat) ∧ Below w4.heap.size w4 wr) (fun _ iv _ => pn - (intOf iv).toNat)
    case atStart => exact ⟨0, Nat.zero_le _, rfl, rfl, Below.refl _ _⟩
    case round =>
      obtain ⟨k, hk, rfl, rfl, hbel⟩ := hrel
      have hml := may_le (p := p) k
      by_cases hlt : k < pn
      · have hki : (k : Int) < (pn : Int) := by omega
        have hkp : k < p.length := by have := unhide HNL; omega
        have hkw : k < (waitsV p).length := by simpa [waitsV] using hkp
        obtain ⟨b, off, rfl, hbb, c1⟩ := (hB4.below hbel).at hkw
        rw [waits_at hkp hkw] at c1
        have HM := hide (may_succ p k)
        generalize waitK (kindAt p k) = wk at *
        cases wk
        · simp only [Bool.false_eq_true, if_false, Nat.add_zero] at HM
          go_wp2_with fail
          exact ⟨⟨k + 1, by omega, by go_num, by rw [unhide HM], hbel⟩, by simp [intOf]; omega⟩
        · simp only [if_true] at HM
          go_wp2_with fail
          exact ⟨⟨k + 1, by omega, by go_num, by rw [unhide HM]; go_num, hbel⟩, by simp [intOf]; omega⟩
      · have hkn : k = pn := by omega
        have HW2 := hide (show mayN p k = waitN p by rw [unhide HW, hkn, unhide HNL]; rfl)
        have B5 := bstep B4 hbel
        have hR5 := hR4.below hbel
        have hP5 := hP4.below hbel
        clear hbel B4 hR4 hP4 hB4
        rw [unhide HW2, unhide HS]
        generalize waitN p = wN
        clear hml
        go_wp2_with fail
        refine (forgeBegun_any _).mono ?_
        rintro e w6 ⟨rfl, hb⟩
        have B6 := bstep B5 hb
        have hR6 := hR5.below hb
        have hP6 := hP5.below hb
        clear hb B5 hR5 hP5
        go_wp2_with fail
        refine (SameRows_any _ _ _ _ _ _ _ _ _ hR6 hP6).mono ?_
        rintro e w7 ⟨rfl, hb⟩
        rw [show decide (rows = rows) = true from decide_eq_true rfl]
        have B7 := bstep B6 hb
        clear hb B6 hR6 hP6
        go_wp2_with fail
        go_ret
        exact ⟨rfl, B7⟩
  · have HW := hide (show waitN p = 0 by unfold waitN; rw [if_neg he])
    have HS := hide (show sizeN p = 0 by unfold sizeN; rw [if_neg he])
    have hq : (checkP p == 0) = false := by simp [he]
    rw [unhide HW, unhide HS]
    generalize checkP p = ck at *
    clear he
    go_wp2_with fail
    refine (forgeBegun_any _).mono ?_
    rintro e w6 ⟨rfl, hb⟩
    have B6 := bstep B3 hb
    have hR6 := hR3.below hb
    have hP6 := hP3.below hb
    clear hb B3 hR3 hP3
    go_wp2_with fail
    refine (SameRows_any _ _ _ _ _ _ _ _ _ hR6 hP6).mono ?_
    rintro e w7 ⟨rfl, hb⟩
    rw [show decide (rows = rows) = true from decide_eq_true rfl]
    have B7 := bstep B6 hb
    clear hb B6 hR6 hP6
    go_wp2_with fail
    go_ret
    exact ⟨rfl, B7⟩
end Go.Proofs.Ytongajonecgdpaf
