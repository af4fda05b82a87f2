/- The document's programs: WaitsOf, CheckRest, SameRests. -/
import Derived.Test.YtongajonecgdpaeProgB
import Derived.Test.YtongajonecgdpaeNetP
namespace Go.Proofs.Ytongajonecgdpae
open Go.RowKit

theorem own_bools {w : World} {base : Nat} {e : TypeId} {v : Value} {n : Nat} {ys : List Bool} (h : w.ownsRow base e 1 v n (ys.map (fun x => Value.bool x))) (hm : n ≤ maxLen) :
    ∃ a cap, v = .slice a n cap ∧ Bools w a n ys := by
  have hn : n = ys.length := by have := h.1; simpa using this.symm
  rcases h.2 with ⟨h1, h2⟩ | ⟨g, cap, cur, hv, hg, hh, r⟩
  · subst h2
    have : ys = [] := List.eq_nil_of_length_eq_zero hn.symm
    exact ⟨_, _, h1, hn, by omega, Or.inl this⟩
  · refine ⟨_, cap, hv, hn, by omega, Or.inr ⟨g, 0, rfl, (Array.getElem?_eq_some_iff.1 hh).1, fun i hi => ?_⟩⟩
    rw [hv] at h
    rw [Nat.zero_add, h.cellAt i (by omega)]
    simp [hi]
def waitsV (p : List NodeD) : List Bool := p.map (fun x => waitK x.kind)
def boolsV (xs : List Bool) : List Value := xs.map (fun x => Value.bool x)
theorem waitsV_take (p : List NodeD) (k : Nat) (h : k < p.length) : boolsV ((waitsV p).take (k + 1)) = boolsV ((waitsV p).take k) ++ [.bool (waitK p[k].kind)] := by
  have h' : k < (waitsV p).length := by simpa [waitsV] using h
  rw [List.take_succ_eq_append_getElem h']
  simp [boolsV, waitsV]
set_option maxHeartbeats 1000000 in
theorem WaitsOf_any (p : List NodeD) (a : Option Addr) (n c : Nat) (w : World) (h : Nodes w a n p) (hn14 : n ≤ 14) :
    Calls Try.prog 21 #[.slice a n c] w fun e w' => ∃ a' c', e = .returned (.slice a' n c') ∧ Bools w' a' n (waitsV p) ∧ Below w.heap.size w w' := by
  have HN := hide h.1
  obtain ⟨i0, hi, hz0, hz1, hz2⟩ := info_parts Try.infoBool
  go_enter Try.func21, Try.ntmps21
  go_wp2_with fail
  go_loopw [3, 4] (fun v' iv wr => ∃ k : Nat, k ≤ n ∧ iv = .int .i64 k ∧ wr.ownsRow w.heap.size 4 1 v' k (boolsV ((waitsV p).take k)) ∧ Below w.heap.size w wr) (fun _ iv _ => n - (intOf iv).toNat)
  case atStart => exact ⟨0, Nat.zero_le _, rfl, World.ownsRow_nil _ _ _ _, Below.refl _ _⟩
  case round =>
    obtain ⟨k, hk, rfl, hown, hbel⟩ := hrel
    by_cases hlt : k < n
    · have hki : (k : Int) < (n : Int) := by omega
      have hkp : k < p.length := by have := unhide HN; omega
      obtain ⟨b, off, rfl, hbb, c1, c2⟩ := (h.below hbel).at hkp
      have HT := hide (waitsV_take p k hkp)
      generalize p[k].kind = kd at *
      go_wp2_with fail
      refine (waits_any kd _).mono ?_
      rintro e w' ⟨rfl, rfl⟩
      generalize waitK kd = wk at *
      go_wp2_with (at_builtin; refine wpList_append_own _ rfl _ _ 47 rfl (w.heap.size) 4 i0 (.bool false) 1 1 Try.underlying47 hi hz0 hz1 hz2 rfl (by decide) _ _ _ rfl (hown.alloc _) ⟨w'.heap.size, 0, none⟩ 1 1 [.bool wk] rfl rfl ?c1 ?c2 ?c3 ?c4 ?c5 ?_)
      case c1 =>
        intro j u hj
        match j, hj with
        | 0, hj => simp at hj; subst hj; simp [Addr.add]
      case c2 => intro u hu; simp at hu; subst hu; rfl
      case c3 => unfold maxLen; omega
      case c4 => omega
      case c5 => have := hbel.size; simp; omega
      intro v' w3 hown' hgrow _
      have hown2 := hown'
      rw [← unhide HT] at hown2
      have hb3 : Below w.heap.size w w3 := hbel.trans (((Below.refl _ w').alloc (hbel.size) _).grown hgrow (by have := hbel.size; simp; omega) (fun k hk => (hown.lt k hk).1))
      have R := hide (And.intro hown2 hb3)
      clear hown hown' hgrow hown2 hb3 c1 c2 hbel
      go_wp2_with fail
      exact ⟨⟨k + 1, by omega, by go_num, (unhide R).1, (unhide R).2⟩, by simp [intOf]; omega⟩
    · have hkn : k = n := by omega
      subst hkn
      rw [List.take_of_length_le (by have := unhide HN; simp [waitsV]; omega)] at hown
      obtain ⟨a2, c2, hv', hI⟩ := own_bools hown (by unfold maxLen; omega)
      rw [hv']
      clear hv' hown
      go_wp2_with fail
      go_ret
      exact ⟨_, _, rfl, hI, hbel⟩

structure RestD where
  fresh : Bool
  waits : List Bool
  outs : List Bool
structure RestAt (w : World) (r : RestD) (f : Bool) (wa : Option Addr) (wn : Nat) (oa : Option Addr) (on : Nat) : Prop where
  fresh : f = r.fresh
  waits : Bools w wa wn r.waits
  outs : Bools w oa on r.outs
theorem RestAt.below {w w' : World} {r : RestD} {f : Bool} {wa : Option Addr} {wn : Nat} {oa : Option Addr} {on : Nat} (h : RestAt w r f wa wn oa on) (hb : Below w.heap.size w w') : RestAt w' r f wa wn oa on := ⟨h.fresh, h.waits.below hb, h.outs.below hb⟩
def RBox (w : World) (b : Nat) (f : Bool) (wa : Option Addr) (wn wc : Nat) (oa : Option Addr) (on oc : Nat) : Prop := b < w.heap.size ∧ w.cell? ⟨b, 0, none⟩ = some (.bool f) ∧ w.cell? ⟨b, 1, none⟩ = some (.slice wa wn wc) ∧ w.cell? ⟨b, 2, none⟩ = some (.slice oa on oc)
theorem RBox.new (w : World) (f : Bool) (wa : Option Addr) (wn wc : Nat) (oa : Option Addr) (on oc : Nat) (T : TypeId) : RBox (w.alloc (.cells #[.bool f, .slice wa wn wc, .slice oa on oc] T)) w.heap.size f wa wn wc oa on oc := ⟨by simp, by simp, by simp, by simp⟩
theorem RBox.below {w w' : World} {b : Nat} {f : Bool} {wa : Option Addr} {wn wc : Nat} {oa : Option Addr} {on oc : Nat} (h : RBox w b f wa wn wc oa on oc) (hb : Below w.heap.size w w') : RBox w' b f wa wn wc oa on oc :=
  ⟨Nat.lt_of_lt_of_le h.1 hb.size, (hb.cell (p := ⟨b, 0, none⟩) h.1).trans h.2.1, (hb.cell (p := ⟨b, 1, none⟩) h.1).trans h.2.2.1, (hb.cell (p := ⟨b, 2, none⟩) h.1).trans h.2.2.2⟩
/-- Does node k wait where it may not? -/
def badAt (p : List NodeD) (r : RestD) (k : Nat) : Bool := r.waits.getD k false && (r.fresh || !waitK (kindAt p k))
def restB (p : List NodeD) (r : RestD) (k : Nat) : Bool := (List.range k).all (fun j => !badAt p r j)
def restE (p : List NodeD) (r : RestD) : Int := if checkP p = 0 then (if r.waits.length = p.length ∧ r.outs.length = 3 then (if restB p r p.length then 0 else 1) else 1) else checkP p
theorem restB_succ (p : List NodeD) (r : RestD) (k : Nat) : restB p r (k + 1) = (restB p r k && !badAt p r k) := by unfold restB; rw [List.range_succ, List.all_append]; simp
theorem restB_no {p : List NodeD} {r : RestD} {k : Nat} (hk : k < p.length) (h : badAt p r k = true) : restB p r p.length = false := by
  rw [Bool.eq_false_iff]
  intro h1
  simp only [restB, List.all_eq_true, List.mem_range] at h1
  have := h1 k hk
  rw [h] at this; simp at this

set_option maxRecDepth 100000 in
set_option maxHeartbeats 2000000 in
theorem CheckRest_any (p : List NodeD) (a : Option Addr) (n c : Nat) (r : RestD) (f : Bool) (wa oa : Option Addr) (wn wc on oc : Nat) (w : World) (h : Nodes w a n p) (hr : RestAt w r f wa wn oa on) :
    Calls Try.prog 29 #[.slice a n c, .agg #[.bool f, .slice wa wn wc, .slice oa on oc]] w fun e w' => e = .returned (.int .i64 (restE p r)) ∧ Below w.heap.size w w' := by
  have hb0 : Below w.heap.size w (w.alloc (.cells #[.bool f, .slice wa wn wc, .slice oa on oc] 55)) := (Below.refl _ _).alloc (Nat.le_refl _) _
  have hx := RBox.new w f wa wn wc oa on oc 55
  have hP := h.below hb0
  have hR := hr.below hb0
  have HN := hide h.1
  have HW := hide hr.waits.1
  have HO := hide hr.outs.1
  clear h hr
  go_enter Try.func29, Try.ntmps29
  go_wp2_with fail
  generalize w.alloc (.cells #[.bool f, .slice wa wn wc, .slice oa on oc] 55) = w1 at *
  refine (CheckProg_any p _ _ _ _ hP).mono ?_
  rintro e w' ⟨rfl, rfl⟩
  by_cases e0 : checkP p = 0
  case neg =>
    have hq : (checkP p != 0) = true := by simp [e0]
    have R := hide (show restE p r = checkP p by unfold restE; rw [if_neg e0])
    obtain ⟨ck, hck⟩ : ∃ ck, checkP p = ck := ⟨_, rfl⟩
    rw [hck] at hq R ⊢
    clear e0 hck
    go_wp2_with fail
    go_ret
    exact ⟨ret_int (unhide R).symm, hb0⟩
  have hn14 : n ≤ 14 := by have := (pok_of e0).few; have := unhide HN; omega
  obtain ⟨x0, x1, x2, x3⟩ := hx
  by_cases e1 : wn = n
  case neg =>
    have R := hide (show restE p r = 1 by unfold restE; rw [if_pos e0, if_neg (fun hh => e1 (by rw [unhide HW, hh.1, unhide HN]))])
    have hq : ((wn : Int) != (n : Int)) = true := by simp; omega
    rw [e0]
    clear e0
    go_wp2_with fail
    go_ret
    exact ⟨ret_int (unhide R).symm, hb0⟩
  by_cases e2 : on = 3
  case neg =>
    have R := hide (show restE p r = 1 by unfold restE; rw [if_pos e0, if_neg (fun hh => e2 (by rw [unhide HO, hh.2]))])
    have hq : ((on : Int) != 3) = true := by simp; omega
    rw [e0]
    subst e1
    clear e0
    go_wp2_with fail
    go_ret
    exact ⟨ret_int (unhide R).symm, hb0⟩
  have H1 := hide (show restB p r p.length = false → restE p r = 1 from fun e => by unfold restE; rw [if_pos e0, if_pos ⟨by rw [← unhide HW, e1]; exact unhide HN, by rw [← unhide HO, e2]⟩, e]; rfl)
  have H0 := hide (show restB p r p.length = true → restE p r = 0 from fun e => by unfold restE; rw [if_pos e0, if_pos ⟨by rw [← unhide HW, e1]; exact unhide HN, by rw [← unhide HO, e2]⟩, e]; rfl)
  rw [e0]
  clear e0
  subst e1
  subst e2
  have hff := hR.fresh
  have HFF := hide hff
  clear hff
  rename World => wq
  go_wp2_with fail
  go_loopw [6] (fun iv wr => ∃ k : Nat, k ≤ wn ∧ iv = .int .i64 k ∧ restB p r k = true ∧ wr = wq) (fun iv _ => wn - (intOf iv).toNat)
  case atStart => exact ⟨0, Nat.zero_le _, rfl, rfl, by first | rfl | trivial⟩
  case round =>
    obtain ⟨k, hk, rfl, hK, rfl⟩ := hrel
    by_cases hlt : k < wn
    · have hki : (k : Int) < (wn : Int) := by omega
      have hkp : k < p.length := by have := unhide HN; omega
      have hkw : k < r.waits.length := by have := unhide HW; omega
      obtain ⟨b, off, rfl, hbb, c1, c2⟩ := hP.at hkp
      obtain ⟨b2, off2, rfl, hbb2, c3⟩ := hR.waits.at hkw
      have hbad : badAt p r k = (r.waits[k] && (f || !waitK p[k].kind)) := by
        unfold badAt kindAt
        rw [unhide HFF]
        simp [List.getD_eq_getElem?_getD, hkw, hkp]
      have HS := hide (restB_succ p r k)
      rw [hbad] at HS
      have HNO := hide (show (r.waits[k] && (f || !waitK p[k].kind)) = true → restE p r = 1 from fun e => unhide H1 (restB_no hkp (by rw [hbad]; exact e)))
      have HK := hide hK
      clear hbad hK
      generalize r.waits[k] = wk at *
      generalize p[k].kind = kd at *
      cases wk
      · have R := hide (show restB p r (k + 1) = true by rw [unhide HS, unhide HK]; rfl)
        go_wp2_with fail
        exact ⟨⟨k + 1, by omega, by go_num, unhide R, by first | rfl | trivial⟩, by simp [intOf]; omega⟩
      · cases f
        · go_wp2_with fail
          refine (waits_any kd _).mono ?_
          rintro e w' ⟨rfl, rfl⟩
          cases eb : waitK kd
          · have R := hide (unhide HNO (by rw [eb]; rfl))
            clear eb
            go_wp2_with fail
            go_ret
            exact ⟨ret_int (unhide R).symm, hb0⟩
          · have R := hide (show restB p r (k + 1) = true by rw [unhide HS, unhide HK, eb]; rfl)
            clear eb
            go_wp2_with fail
            exact ⟨⟨k + 1, by omega, by go_num, unhide R, by first | rfl | trivial⟩, by simp [intOf]; omega⟩
        · have R := hide (unhide HNO (by simp))
          go_wp2_with fail
          go_ret
          exact ⟨ret_int (unhide R).symm, hb0⟩
    · have hkn : k = p.length := by have := unhide HN; omega
      rw [hkn] at hK
      have R := hide (unhide H0 hK)
      clear hK hkn
      go_wp2_with fail
      go_ret
      exact ⟨ret_int (unhide R).symm, hb0⟩
end Go.Proofs.Ytongajonecgdpae
