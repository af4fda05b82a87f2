/- The document's ProgFrom, and the statement TextShows. -/
import Derived.Test.YtongajonecgdpagTextF
import Derived.Test.YtongajonecgdpagTextS
namespace Go.Proofs.Ytongajonecgdpag
open Go.RowKit

theorem prog_none {s : List UInt8} (h : fromF 15 s 14 = none) : progF s = none := by unfold progF; rw [h]
theorem prog_some {s : List UInt8} {p : List NodeD} {r : List UInt8} (h : fromF 15 s 14 = some (p, r)) : progF s = if r = [] ∧ checkP p = 0 ∧ textL p p.length 0 = s then some p else none := by unfold progF; rw [h]
def PfRet (o : Option (List NodeD)) (w w' : World) (e : Ending) : Prop := ∃ a n c, e = .returned (.tuple #[.slice a n c, .bool o.isSome]) ∧ Nodes w' a n (o.getD []) ∧ n ≤ c ∧ Below w.heap.size w w'
theorem pf_none {o : Option (List NodeD)} {w w' : World} {e : Ending} (h : o = none) (he : e = .returned (.tuple #[.slice none 0 0, .bool false])) (hb : Below w.heap.size w w') : PfRet o w w' e := by
  subst h; exact ⟨none, 0, 0, he, ⟨rfl, by simp, Or.inl rfl⟩, Nat.le_refl _, hb⟩
theorem pf_some {o : Option (List NodeD)} {w w' : World} {e : Ending} {p : List NodeD} (h : o = some p) {a : Option Addr} {n c : Nat} (he : e = .returned (.tuple #[.slice a n c, .bool true])) (hN : Nodes w' a n p) (hc : n ≤ c) (hb : Below w.heap.size w w') : PfRet o w w' e := by
  subst h; exact ⟨a, n, c, he, hN, hc, hb⟩

set_option maxRecDepth 100000 in
set_option maxHeartbeats 4000000 in
theorem ProgFrom_any (s : List UInt8) (w : World) :
    Calls Try.prog 11 #[.string ⟨s.toArray⟩] w fun e w' => PfRet (progF s) w w' e := by
  go_enter Try.func11, Try.ntmps11
  go_wp2_with fail
  refine (from_all 15 s 14 w (by decide) (by decide) (by decide)).mono ?_
  intro e w1 hret
  obtain ⟨r, hr⟩ : ∃ r, fromF 15 s 14 = r := ⟨_, rfl⟩
  rw [hr] at hret
  cases r with
  | none =>
    obtain ⟨a, n, c, rest, rfl, hb⟩ := hret
    have HP := hide (prog_none hr)
    clear hr
    go_wp2_with fail
    go_ret2
    exact pf_none (unhide HP) rfl hb
  | some v =>
  obtain ⟨p, rest⟩ := v
  obtain ⟨a, c, rfl, hN, hc, hb⟩ := hret
  have HP := hide (prog_some hr)
  obtain ⟨hl1, hl2⟩ := from_len 15 _ _ _ _ hr
  clear hr
  by_cases hrest : rest = []
  · subst hrest
    by_cases hck : checkP p = 0
    · have hok := pok_of hck
      by_cases ht : textL p p.length 0 = s
      · have HS := hide ((unhide HP).trans (if_pos ⟨rfl, hck, ht⟩))
        have HT := hide ht
        have HC := hide hck
        have HL := hide (show p.length ≤ 14 by omega)
        have HL1 := hide (show 0 < p.length by omega)
        have HNo := hide hN
        have HCc := hide hc
        clear HP ht hck hl1 hl2 hc
        go_wp2_with fail
        refine (CheckProg_any p _ _ _ _ hN).mono ?_
        rintro e w' ⟨rfl, rfl⟩
        rename World => w1
        rw [unhide HC]
        go_wp2_with fail
        refine (NodeText_any p _ _ _ hok (unhide HL) p.length 0 _ (by omega) (unhide HL1) hN).mono ?_
        rintro e w2 ⟨rfl, hb2⟩
        have B2 := bstep hb hb2
        have HN2 := hide (hN.below hb2)
        rw [unhide HT]
        clear hb hb2 hN HNo
        go_wp2_with fail
        go_ret2
        exact pf_some (unhide HS) rfl (unhide HN2) (unhide HCc) B2
      · have HS := hide ((unhide HP).trans (if_neg (fun h => ht h.2.2)))
        have hne : (textL p p.length 0 == s) = false := by simp [ht]
        have HC := hide hck
        have HL := hide (show p.length ≤ 14 by omega)
        have HL1 := hide (show 0 < p.length by omega)
        clear HP ht hck hl1 hl2 hc
        go_wp2_with fail
        refine (CheckProg_any p _ _ _ _ hN).mono ?_
        rintro e w' ⟨rfl, rfl⟩
        rename World => w1
        rw [unhide HC]
        go_wp2_with fail
        refine (NodeText_any p _ _ _ hok (unhide HL) p.length 0 _ (by omega) (unhide HL1) hN).mono ?_
        rintro e w2 ⟨rfl, hb2⟩
        have B2 := bstep hb hb2
        clear hb hb2 hN
        go_wp2_with fail
        go_ret2
        exact pf_none (unhide HS) rfl B2
    · have HS := hide ((unhide HP).trans (if_neg (fun h => hck h.2.1)))
      have hq : (checkP p != 0) = true := by simp [hck]
      clear HP hck hl1 hl2 hc
      go_wp2_with fail
      refine (CheckProg_any p _ _ _ _ hN).mono ?_
      rintro e w' ⟨rfl, rfl⟩
      rename World => w1
      obtain ⟨ck, hck⟩ : ∃ ck, checkP p = ck := ⟨_, rfl⟩
      rw [hck] at hq ⊢
      clear hck
      go_wp2_with fail
      go_ret2
      exact pf_none (unhide HS) rfl hb
  · have HS := hide ((unhide HP).trans (if_neg (fun h => hrest h.1)))
    have hne : (rest == []) = false := by simp [hrest]
    have hne2 : (rest != []) = true := by simp [hrest]
    clear HP hrest hl1 hl2 hc
    go_wp2_with fail
    go_ret2
    exact pf_none (unhide HS) rfl hb

theorem show_when {p : List NodeD} (h : checkP p = 0) : textL p p.length 0 = showL p := by unfold showL; rw [if_pos h]
theorem show_not {p : List NodeD} (h : ¬ checkP p = 0) : showL p = [] := by unfold showL; rw [if_neg h]
theorem pok_pos {p : List NodeD} (h : checkP p = 0) : 0 < p.length := ok_some (o := 0) (pok_of h).form

set_option maxRecDepth 100000 in
set_option maxHeartbeats 8000000 in
/-- Behind the look at the list and at the text. -/
theorem TextShows_any (p : List NodeD) (pa : Option Addr) (pn pc : Nat) (s : List UInt8) (w : World) (hN : Nodes w pa pn p) (hc : pn ≤ pc) :
    Calls Try.prog 3 #[.slice pa pn pc, .string ⟨s.toArray⟩] w fun e w' => e = .returned (.bool true) ∧ Below w.heap.size w w' := by
  go_enter Try.func3, Try.ntmps3
  go_wp2_with fail
  refine (Show_any p _ _ _ _ hN hc).mono ?_
  rintro e w1 ⟨rfl, B1⟩
  have hN1 := hN.below B1
  clear hN
  go_wp2_with fail
  refine (CheckProg_any p _ _ _ _ hN1).mono ?_
  rintro e w' ⟨rfl, rfl⟩
  rename World => w1
  by_cases he : checkP p = 0
  · have HT := hide (show_when he)
    have hok := pok_of he
    have hpos := pok_pos he
    have hn14 : pn ≤ 14 := by rw [hN1.1]; exact hok.few
    rw [he]
    clear he
    go_wp2_with fail
    refine (NodeText_any p _ _ _ hok hn14 p.length 0 _ (by omega) hpos hN1).mono ?_
    rintro e w2 ⟨rfl, hb⟩
    have B2 := bstep B1 hb
    rw [unhide HT]
    clear hb B1 hN1 hok hpos hn14 HT
    generalize showL p = sp at *
    go_wp2_with fail
    refine (Read_any s _).mono ?_
    rintro e w3 ⟨a3, n3, c3, rfl, hN3, _, hb⟩
    have B3 := bstep B2 hb
    clear hb B2
    by_cases h4 : 4096 < s.length
    · have h4i : (4096 : Int) < (s.length : Int) := by omega
      have hre : readE s = 2 := by unfold readE; rw [if_pos h4]
      have hrl : readL s = [] := by unfold readL; rw [if_pos h4]
      have hn0 : n3 = 0 := by have := hN3.1; rw [hrl] at this; simpa using this
      subst hn0
      rw [hre]
      clear hre hrl hN3 h4
      go_wp2_with fail
      refine (textBegun_any _).mono ?_
      rintro e w6 ⟨rfl, hb⟩
      have B6 := bstep B3 hb
      clear hb B3
      go_wp2_with fail
      go_ret
      exact ⟨rfl, B6⟩
    · have h4i : ¬ (4096 : Int) < (s.length : Int) := by omega
      obtain ⟨q, hq⟩ : ∃ q, progF s = q := ⟨_, rfl⟩
      have hrl : readL s = q.getD [] := by unfold readL; rw [if_neg h4, hq]
      have hre : readE s = if q.isSome then 0 else 1 := by unfold readE; rw [if_neg h4, hq]
      have HQ := hide hq
      rw [hrl] at hN3
      clear h4 hrl hq
      obtain ⟨E, hE⟩ : ∃ E : Int, (if q.isSome then 0 else 1) = E := ⟨_, rfl⟩
      rw [hre, hE]
      have HE := hide hE
      clear hre hE
      go_wp2_with fail
      refine (ProgFrom_any s _).mono ?_
      rintro e w4 ⟨a4, n4, c4, rfl, hN4, _, hb⟩
      rw [unhide HQ] at hN4 ⊢
      have hN34 := hN3.below hb
      have B4 := bstep B3 hb
      clear hb B3 hN3
      cases q with
      | none =>
        obtain rfl := unhide HE
        clear HE
        go_wp2_with fail
        refine (textBegun_any _).mono ?_
        rintro e w6 ⟨rfl, hb⟩
        have B6 := bstep B4 hb
        have hN36 := hN34.below hb
        have hN46 := hN4.below hb
        clear hb B4 hN34 hN4
        go_wp2_with fail
        refine (SameProgs_any [] _ _ _ _ _ _ _ hN36 hN46).mono ?_
        rintro e w7 ⟨rfl, hb⟩
        have B7 := bstep B6 hb
        clear hb B6 hN36 hN46
        go_wp2_with fail
        go_ret
        exact ⟨rfl, B7⟩
      | some l =>
        obtain rfl := unhide HE
        clear HE
        go_wp2_with fail
        refine (textBegun_any _).mono ?_
        rintro e w6 ⟨rfl, hb⟩
        have B6 := bstep B4 hb
        have hN36 := hN34.below hb
        have hN46 := hN4.below hb
        clear hb B4 hN34 hN4
        go_wp2_with fail
        refine (SameProgs_any l _ _ _ _ _ _ _ hN36 hN46).mono ?_
        rintro e w7 ⟨rfl, hb⟩
        have B7 := bstep B6 hb
        clear hb B6 hN36 hN46
        go_wp2_with fail
        go_ret
        exact ⟨rfl, B7⟩
  · have hq0 : (checkP p == 0) = false := by simp [he]
    rw [show_not he]
    obtain ⟨ck, hck⟩ : ∃ ck, checkP p = ck := ⟨_, rfl⟩
    rw [hck] at hq0 ⊢
    have B2 := B1
    clear he hck B1 hN1
    go_wp2_with fail
    refine (Read_any s _).mono ?_
    rintro e w3 ⟨a3, n3, c3, rfl, hN3, _, hb⟩
    have B3 := bstep B2 hb
    clear hb B2
    by_cases h4 : 4096 < s.length
    · have h4i : (4096 : Int) < (s.length : Int) := by omega
      have hre : readE s = 2 := by unfold readE; rw [if_pos h4]
      have hrl : readL s = [] := by unfold readL; rw [if_pos h4]
      have hn0 : n3 = 0 := by have := hN3.1; rw [hrl] at this; simpa using this
      subst hn0
      rw [hre]
      clear hre hrl hN3 h4
      go_wp2_with fail
      refine (textBegun_any _).mono ?_
      rintro e w6 ⟨rfl, hb⟩
      have B6 := bstep B3 hb
      clear hb B3
      go_wp2_with fail
      go_ret
      exact ⟨rfl, B6⟩
    · have h4i : ¬ (4096 : Int) < (s.length : Int) := by omega
      obtain ⟨q, hq⟩ : ∃ q, progF s = q := ⟨_, rfl⟩
      have hrl : readL s = q.getD [] := by unfold readL; rw [if_neg h4, hq]
      have hre : readE s = if q.isSome then 0 else 1 := by unfold readE; rw [if_neg h4, hq]
      have HQ := hide hq
      rw [hrl] at hN3
      clear h4 hrl hq
      obtain ⟨E, hE⟩ : ∃ E : Int, (if q.isSome then 0 else 1) = E := ⟨_, rfl⟩
      rw [hre, hE]
      have HE := hide hE
      clear hre hE
      go_wp2_with fail
      refine (ProgFrom_any s _).mono ?_
      rintro e w4 ⟨a4, n4, c4, rfl, hN4, _, hb⟩
      rw [unhide HQ] at hN4 ⊢
      have hN34 := hN3.below hb
      have B4 := bstep B3 hb
      clear hb B3 hN3
      cases q with
      | none =>
        obtain rfl := unhide HE
        clear HE
        go_wp2_with fail
        refine (textBegun_any _).mono ?_
        rintro e w6 ⟨rfl, hb⟩
        have B6 := bstep B4 hb
        have hN36 := hN34.below hb
        have hN46 := hN4.below hb
        clear hb B4 hN34 hN4
        go_wp2_with fail
        refine (SameProgs_any [] _ _ _ _ _ _ _ hN36 hN46).mono ?_
        rintro e w7 ⟨rfl, hb⟩
        have B7 := bstep B6 hb
        clear hb B6 hN36 hN46
        go_wp2_with fail
        go_ret
        exact ⟨rfl, B7⟩
      | some l =>
        obtain rfl := unhide HE
        clear HE
        go_wp2_with fail
        refine (textBegun_any _).mono ?_
        rintro e w6 ⟨rfl, hb⟩
        have B6 := bstep B4 hb
        have hN36 := hN34.below hb
        have hN46 := hN4.below hb
        clear hb B4 hN34 hN4
        go_wp2_with fail
        refine (SameProgs_any l _ _ _ _ _ _ _ hN36 hN46).mono ?_
        rintro e w7 ⟨rfl, hb⟩
        have B7 := bstep B6 hb
        clear hb B6 hN36 hN46
        go_wp2_with fail
        go_ret
        exact ⟨rfl, B7⟩
end Go.Proofs.Ytongajonecgdpag
