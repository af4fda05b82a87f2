/- The document's ProgFrom, and the statement TextShows. -/
import Derived.Test.YtongajonecgdpagGreatDoorTextF
import Derived.Test.YtongajonecgdpagGreatDoorTextS
namespace Go.Proofs.YtongajonecgdpagGreatDoor
open Go.RowKit

theorem prog_none {s : List UInt8} (h : fromF 15 s 14 = none) : progF s = none := by unfold progF; rw [h]
theorem prog_some {s : List UInt8} {p : List NodeD} {r : List UInt8} (h : fromF 15 s 14 = some (p, r)) : progF s = if r = [] ∧ checkP p = 0 ∧ textL p p.length 0 = s then some p else none := by unfold progF; rw [h]
def PfRet (o : Option (List NodeD)) (w w' : World) (e : Ending) : Prop := ∃ a n c, e = .returned (.tuple #[.slice a n c, .bool o.isSome]) ∧ Nodes w' a n (o.getD []) ∧ n ≤ c ∧ Below w.heap.size w w'
theorem pf_none {o : Option (List NodeD)} {w w' : World} {e : Ending} (h : o = none) (he : e = .returned (.tuple #[.slice none 0 0, .bool false])) (hb : Below w.heap.size w w') : PfRet o w w' e := by
  subst h; exact ⟨none, 0, 0, he, ⟨rfl, by simp, Or.inl rfl⟩, Nat.le_refl _, hb⟩
theorem pf_some {o : Option (List NodeD)} {w w' : World} {e : Ending} {p : List NodeD} (h : o = some p) {a : Option Addr} {n c : Nat} (he : e = .returned (.tuple #[.slice a n c, .bool true])) (hN : Nodes w' a n p) (hc : n ≤ c) (hb : Below w.heap.size w w') : PfRet o w w' e := by
  subst h; exact ⟨a, n, c, he, hN, hc, hb⟩

set_option maxRecDepth 100000 in
set_option maxHeartbeats 4000000 in
theorem ProgFrom_any (s : List UInt8) (w : World) :
    Calls Tryz.prog 18 #[.string ⟨s.toArray⟩] w fun e w' => PfRet (progF s) w w' e := by
  go_enter Tryz.func18, Tryz.ntmps18
  go_wp2_with fail
  refine (from_all 15 s 14 w (by decide) (by decide) (by decide)).mono ?_
  intro e w1 hret
  obtain ⟨r, hr⟩ : ∃ r, fromF 15 s 14 = r := ⟨_, rfl⟩
  rw [hr] at hret
  cases r with
  | none =>
    obtain ⟨a, n, c, rest, rfl, hb⟩ := hret
    have HP := hide (prog_none hr)
    clear hr
    go_wp2_with fail
    go_ret2
    exact pf_none (unhide HP) rfl hb
  | some v =>
  obtain ⟨p, rest⟩ := v
  obtain ⟨a, c, rfl, hN, hc, hb⟩ := hret
  have HP := hide (prog_some hr)
  obtain ⟨hl1, hl2⟩ := from_len 15 _ _ _ _ hr
  clear hr
  by_cases hrest : rest = []
  · subst hrest
    by_cases hck : checkP p = 0
    · have hok := pok_of hck
      by_cases ht : textL p p.length 0 = s
      · have HS := hide ((unhide HP).trans (if_pos ⟨rfl, hck, ht⟩))
        have HT := hide ht
        have HC := hide hck
        have HL := hide (show p.length ≤ 14 by omega)
        have HL1 := hide (show 0 < p.length by omega)
        have HNo := hide hN
        have HCc := hide hc
        clear HP ht hck hl1 hl2 hc
        go_wp2_with fail
        refine (CheckProg_any p _ _ _ _ hN).mono ?_
        rintro e w' ⟨rfl, rfl⟩
        rename World => w1
        rw [unhide HC]
        go_wp2_with fail
        refine (NodeText_any p _ _ _ hok (unhide HL) p.length 0 _ (by omega) (unhide HL1) hN).mono ?_
        rintro e w2 ⟨rfl, hb2⟩
        have B2 := bstep hb hb2
        have HN2 := hide (hN.below hb2)
        rw [unhide HT]
        clear hb hb2 hN HNo
        go_wp2_with fail
        go_ret2
        exact pf_some (unhide HS) rfl (unhide HN2) (unhide HCc) B2
      · have HS := hide ((unhide HP).trans (if_neg (fun h => ht h.2.2)))
        have hne : (textL p p.length 0 == s) = false := by simp [ht]
        have HC := hide hck
        have HL := hide (show p.length ≤ 14 by omega)
        have HL1 := hide (show 0 < p.length by omega)
        clear HP ht hck hl1 hl2 hc
        go_wp2_with fail
        refine (CheckProg_any p _ _ _ _ hN).mono ?_
        rintro e w' ⟨rfl, rfl⟩
        rename World => w1
        rw [unhide HC]
        go_wp2_with fail
        refine (NodeText_any p _ _ _ hok (unhide HL) p.length 0 _ (by omega) (unhide HL1) hN).mono ?_
        rintro e w2 ⟨rfl, hb2⟩
        have B2 := bstep hb hb2
        clear hb hb2 hN
        go_wp2_with fail
        go_ret2
        exact pf_none (unhide HS) rfl B2
    · have HS := hide ((unhide HP).trans (if_neg (fun h => hck h.2.1)))
      have hq : (checkP p != 0) = true := by simp [hck]
      clear HP hck hl1 hl2 hc
      go_wp2_with fail
      refine (CheckProg_any p _ _ _ _ hN).mono ?_
      rintro e w' ⟨rfl, rfl⟩
      rename World => w1
      obtain ⟨ck, hck⟩ : ∃ ck, checkP p = ck := ⟨_, rfl⟩
      rw [hck] at hq ⊢
      clear hck
      go_wp2_with fail
      go_ret2
      exact pf_none (unhide HS) rfl hb
  · have HS := hide ((unhide HP).trans (if_neg (fun h => hrest h.1)))
    have hne : (rest == []) = false := by simp [hrest]
    have hne2 : (rest != []) = true := by simp [hrest]
    clear HP hrest hl1 hl2 hc
    go_wp2_with fail
    go_ret2
    exact pf_none (unhide HS) rfl hb

theorem show_when {p : List NodeD} (h : checkP p = 0) : textL p p.length 0 = showL p := by unfold showL; rw [if_pos h]
theorem show_not {p : List NodeD} (h : ¬ checkP p = 0) : showL p = [] := by unfold showL; rw [if_neg h]
theorem pok_pos {p : List NodeD} (h : checkP p = 0) : 0 < p.length := ok_some (o := 0) (pok_of h).form

end Go.Proofs.YtongajonecgdpagGreatDoor
