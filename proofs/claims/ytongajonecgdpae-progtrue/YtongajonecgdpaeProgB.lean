/- The document's programs: end, PartsOf, WaitsOf. -/
import Derived.Test.YtongajonecgdpaeProgA
namespace Go.Proofs.Ytongajonecgdpae
open Go.RowKit

set_option maxHeartbeats 1000000 in
theorem end_any (p : List NodeD) (a : Option Addr) (n c : Nat) (w : World) (h : Nodes w a n p) (hf : okF 1 p = true) (hn : n ≤ 14) : ∀ (m k : Nat), p.length - k ≤ m → k < p.length →
    Calls Try.prog 49 #[.slice a n c, .int .i64 (k : Int)] w fun e w' => e = .returned (.int .i64 (endP p k : Nat)) ∧ w' = w
  | 0, k, hm, hk => by omega
  | m + 1, k, hm, hk => by
    have HN := hide h.1
    have hki : (k : Int) < (n : Int) := by have := unhide HN; omega
    obtain ⟨b, off, rfl, hbb, c1, c2⟩ := h.at hk
    cases hp : hasP p[k].kind
    · have R := hide (end_leaf hk hp)
      have HP := hide hp
      clear hp
      go_enter Try.func49, Try.ntmps49
      go_wp2_with fail
      refine (parts_any _ _).mono ?_
      rintro e w' ⟨rfl, rfl⟩
      rw [unhide HP]
      go_wp2_with fail
      go_ret
      exact ⟨ret_int (by rw [unhide R]; go_num), rfl⟩
    · obtain ⟨h1, h2⟩ := end_two hf hk hp
      have h3 := end_gt h1
      have R := hide (end_node hk hp)
      have HP := hide hp
      have ih1 : Calls Try.prog 49 #[.slice (some ⟨b, off, none⟩) n c, .int .i64 ((k : Int) + 1)] w fun e w' => e = .returned (.int .i64 (endP p (k + 1) : Nat)) ∧ w' = w := by
        have := end_any p _ n c w h hf hn m (k + 1) (by omega) h1
        rwa [show ((k + 1 : Nat) : Int) = (k : Int) + 1 by omega] at this
      have ih2 := end_any p _ n c w h hf hn m (endP p (k + 1)) (by omega) h2
      clear hp
      go_enter Try.func49, Try.ntmps49
      go_wp2_with fail
      refine (parts_any _ _).mono ?_
      rintro e w' ⟨rfl, rfl⟩
      rw [unhide HP]
      go_wp2_with fail
      refine ih1.mono ?_
      rintro e w' ⟨rfl, rfl⟩
      go_wp2_with fail
      refine ih2.mono ?_
      rintro e w' ⟨rfl, rfl⟩
      go_wp2_with fail
      go_ret
      exact ⟨ret_int (by rw [unhide R]), rfl⟩
def partsE (p : List NodeD) (k : Int) : Int := if checkP p = 0 then (if 0 ≤ k ∧ k < p.length then 0 else 3) else checkP p
def kindAt (p : List NodeD) (k : Nat) : Int := (p.getD k ⟨0, 0⟩).kind
def partA (p : List NodeD) (k : Int) : Int := if partsE p k = 0 then (if hasP (kindAt p k.toNat) then k + 1 else 0) else 0
def partB (p : List NodeD) (k : Int) : Int := if partsE p k = 0 then (if hasP (kindAt p k.toNat) then (endP p (k.toNat + 1) : Int) else 0) else 0
def partC (p : List NodeD) (k : Int) : Int := if partsE p k = 0 then (endP p k.toNat : Int) else 0
theorem parts_no {p : List NodeD} {k : Int} (h : partsE p k ≠ 0) : partA p k = 0 ∧ partB p k = 0 ∧ partC p k = 0 := by
  unfold partA partB partC; rw [if_neg h, if_neg h, if_neg h]; exact ⟨rfl, rfl, rfl⟩
theorem parts_leaf {p : List NodeD} {k : Nat} (h : partsE p k = 0) (hk : k < p.length) (hp : hasP p[k].kind = false) : partA p k = 0 ∧ partB p k = 0 ∧ partC p k = (k : Int) + 1 := by
  have e : kindAt p (k : Int).toNat = p[k].kind := by simp [kindAt, List.getD_eq_getElem?_getD, hk]
  unfold partA partB partC
  rw [if_pos h, if_pos h, if_pos h, e, hp, Int.toNat_natCast, end_leaf hk hp]
  exact ⟨rfl, rfl, by omega⟩
theorem parts_node {p : List NodeD} {k : Nat} (h : partsE p k = 0) (hk : k < p.length) (hp : hasP p[k].kind = true) : partA p k = (k : Int) + 1 ∧ partB p k = (endP p (k + 1) : Nat) ∧ partC p k = (endP p k : Nat) := by
  have e : kindAt p (k : Int).toNat = p[k].kind := by simp [kindAt, List.getD_eq_getElem?_getD, hk]
  unfold partA partB partC
  rw [if_pos h, if_pos h, if_pos h, e, hp, Int.toNat_natCast]
  exact ⟨rfl, rfl, rfl⟩
def PartsRet (p : List NodeD) (k : Int) (e : Ending) : Prop := e = .returned (.tuple #[.int .i64 (partA p k), .int .i64 (partB p k), .int .i64 (partC p k), .int .i64 (partsE p k)])
theorem parts_ret {p : List NodeD} {k x y z e : Int} (h1 : partA p k = x) (h2 : partB p k = y) (h3 : partC p k = z) (h4 : partsE p k = e) : PartsRet p k (.returned (.tuple #[.int .i64 x, .int .i64 y, .int .i64 z, .int .i64 e])) := by
  unfold PartsRet; rw [h1, h2, h3, h4]

set_option maxHeartbeats 2000000 in
theorem PartsOf_any (p : List NodeD) (a : Option Addr) (n c : Nat) (k : Int) (w : World) (h : Nodes w a n p) :
    Calls Try.prog 19 #[.slice a n c, .int .i64 k] w fun e w' => PartsRet p k e ∧ w' = w := by
  have HN := hide h.1
  by_cases e0 : checkP p = 0
  case neg =>
    have hq : (checkP p != 0) = true := by simp [e0]
    have HE := hide (show partsE p k = checkP p by unfold partsE; rw [if_neg e0])
    have R := hide (parts_no (p := p) (k := k) (by rw [unhide HE]; exact e0))
    clear e0
    go_enter Try.func19, Try.ntmps19
    go_wp2_with fail
    refine (CheckProg_any p _ _ _ _ h).mono ?_
    rintro e w' ⟨rfl, rfl⟩
    obtain ⟨ck, hck⟩ : ∃ ck, checkP p = ck := ⟨_, rfl⟩
    rw [hck] at hq ⊢
    rw [hck] at HE
    clear hck
    go_wp2_with fail
    exact bodyPost_ret (v := .tuple #[.int .i64 0, .int .i64 0, .int .i64 0, .int .i64 ck]) (by simp [results, Try.results19, go_sem]) rfl ⟨parts_ret (unhide R).1 (unhide R).2.1 (unhide R).2.2 (unhide HE), rfl⟩
  have hok := pok_of e0
  have hn14 : n ≤ 14 := by have := hok.few; have := unhide HN; omega
  have HE0 := hide e0
  by_cases hk : 0 ≤ k ∧ k < p.length
  case neg =>
    have HE := hide (show partsE p k = 3 by unfold partsE; rw [if_pos e0, if_neg hk])
    have R := hide (parts_no (p := p) (k := k) (by rw [unhide HE]; decide))
    have hd : decide (0 ≤ k ∧ k ≤ (n : Int) - 1) = false := by
      rw [decide_eq_false_iff_not]; have := unhide HN; omega
    clear e0 hk hok
    go_enter Try.func19, Try.ntmps19
    go_wp2_with fail
    refine (CheckProg_any p _ _ _ _ h).mono ?_
    rintro e w' ⟨rfl, rfl⟩
    rw [unhide HE0]
    go_wp2_with fail
    refine (within_any k 0 _ _).mono ?_
    rintro e w' ⟨rfl, rfl⟩
    rw [hd]
    clear hd
    go_wp2_with fail
    exact bodyPost_ret (v := .tuple #[.int .i64 0, .int .i64 0, .int .i64 0, .int .i64 3]) (by simp [results, Try.results19, go_sem]) rfl ⟨parts_ret (unhide R).1 (unhide R).2.1 (unhide R).2.2 (unhide HE), rfl⟩
  obtain ⟨x, rfl⟩ := Int.eq_ofNat_of_zero_le hk.1
  have hx : x < p.length := by omega
  have hxi : (x : Int) < (n : Int) := by have := unhide HN; omega
  have HE := hide (show partsE p (x : Int) = 0 by unfold partsE; rw [if_pos e0, if_pos hk])
  have hd : decide (0 ≤ (x : Int) ∧ (x : Int) ≤ (n : Int) - 1) = true := by
    rw [decide_eq_true_iff]; omega
  have hnl : n = p.length := unhide HN
  clear e0 hk
  obtain ⟨b, off, rfl, hbb, c1, c2⟩ := h.at hx
  cases hp : hasP p[x].kind
  · have R := hide (parts_leaf (unhide HE) hx hp)
    have HP := hide hp
    clear hp hok hnl
    go_enter Try.func19, Try.ntmps19
    go_wp2_with fail
    refine (CheckProg_any p _ _ _ _ h).mono ?_
    rintro e w' ⟨rfl, rfl⟩
    rw [unhide HE0]
    go_wp2_with fail
    refine (within_any (x : Int) 0 _ _).mono ?_
    rintro e w' ⟨rfl, rfl⟩
    rw [hd]
    clear hd
    go_wp2_with fail
    refine (parts_any _ _).mono ?_
    rintro e w' ⟨rfl, rfl⟩
    rw [unhide HP]
    go_wp2_with fail
    exact bodyPost_ret (v := .tuple #[.int .i64 0, .int .i64 0, .int .i64 ((x : Int) + 1), .int .i64 0]) (by simp [results, Try.results19, go_sem]) rfl ⟨parts_ret (unhide R).1 (unhide R).2.1 (unhide R).2.2 (unhide HE), rfl⟩
  · have R := hide (parts_node (unhide HE) hx hp)
    obtain ⟨h1, h2⟩ := end_two hok.form hx hp
    have ih1 : Calls Try.prog 49 #[.slice (some ⟨b, off, none⟩) n c, .int .i64 ((x : Int) + 1)] w fun e w' => e = .returned (.int .i64 (endP p (x + 1) : Nat)) ∧ w' = w := by
      have := end_any p _ n c w h hok.form hn14 p.length (x + 1) (by omega) h1
      rwa [show ((x + 1 : Nat) : Int) = (x : Int) + 1 by omega] at this
    have ih2 := end_any p _ n c w h hok.form hn14 p.length x (by omega) hx
    have HP := hide hp
    clear hp hok hnl h1 h2
    go_enter Try.func19, Try.ntmps19
    go_wp2_with fail
    refine (CheckProg_any p _ _ _ _ h).mono ?_
    rintro e w' ⟨rfl, rfl⟩
    rw [unhide HE0]
    go_wp2_with fail
    refine (within_any (x : Int) 0 _ _).mono ?_
    rintro e w' ⟨rfl, rfl⟩
    rw [hd]
    clear hd
    go_wp2_with fail
    refine (parts_any _ _).mono ?_
    rintro e w' ⟨rfl, rfl⟩
    rw [unhide HP]
    go_wp2_with fail
    refine ih1.mono ?_
    rintro e w' ⟨rfl, rfl⟩
    go_wp2_with fail
    refine ih2.mono ?_
    rintro e w' ⟨rfl, rfl⟩
    go_wp2_with fail
    exact bodyPost_ret (v := .tuple #[.int .i64 ((x : Int) + 1), .int .i64 (endP p (x + 1) : Nat), .int .i64 (endP p x : Nat), .int .i64 0]) (by simp [results, Try.results19, go_sem]) rfl ⟨parts_ret (unhide R).1 (unhide R).2.1 (unhide R).2.2 (unhide HE), rfl⟩
end Go.Proofs.Ytongajonecgdpae
