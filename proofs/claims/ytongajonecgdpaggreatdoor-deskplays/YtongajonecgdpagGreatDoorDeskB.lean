/- The desk, the document's side: PlayOf. -/
import Derived.Test.YtongajonecgdpagGreatDoorDeskA
import Derived.Test.YtongajonecgdpagGreatDoorTextG
import Derived.Test.YtongajonecgdpagGreatDoorWalkF
import Derived.Test.YtongajonecgdpagGreatDoorPlayB
import Derived.Deep.LoopGhost
namespace Go.Proofs.YtongajonecgdpagGreatDoor
open Go.RowKit

theorem desk_no {s t : List UInt8} {e : Int} (h : deskE s t = e) (h0 : e ≠ 0) : deskT s t = [] := by unfold deskT; rw [h, if_neg h0]
theorem str_sub (s : List UInt8) (m n : Nat) : (⟨s.toArray⟩ : ByteArray).extract m n = ⟨((s.take n).drop m).toArray⟩ := by
  apply ByteArray.ext
  simp [ByteArray.data_extract, List.drop_take]
theorem byte_lt {t : List UInt8} {i : Nat} (h : i < t.length) : i < (⟨t.toArray⟩ : ByteArray).size := by show i < t.toArray.size; simpa using h
theorem byte_is {t : List UInt8} {i : Nat} (h : i < t.length) (hc : t[i] = 10) : ((((⟨t.toArray⟩ : ByteArray)[i]'(byte_lt h)).toNat : Int) == 10) = true := by
  have e : (⟨t.toArray⟩ : ByteArray)[i]'(byte_lt h) = t[i] := rfl
  rw [e, hc]; rfl
theorem byte_not {t : List UInt8} {i : Nat} (h : i < t.length) (hc : t[i] ≠ 10) : ((((⟨t.toArray⟩ : ByteArray)[i]'(byte_lt h)).toNat : Int) == 10) = false := by
  have e : (⟨t.toArray⟩ : ByteArray)[i]'(byte_lt h) = t[i] := rfl
  rw [e, beq_eq_false_iff_ne]
  intro h2
  exact hc (UInt8.toNat_inj.1 (by show t[i].toNat = 10; omega))
/-- So much is put out, so much of the script is read, so much of a line. -/
def OfF (p : List NodeD) (s t whole : List UInt8) (i fr : Nat) (out : List UInt8) (r : RestD) : Prop := restE p r = 0 ∧ out ++ runD p s (t.drop i) ((t.take i).drop fr) r = whole
theorem OfF.skip {p : List NodeD} {s t whole : List UInt8} {i fr : Nat} {out : List UInt8} {r : RestD} (h : OfF p s t whole i fr out r) (hi : i < t.length) (hf : fr ≤ i) (hc : t[i] ≠ 10) : OfF p s t whole (i + 1) fr out r := by
  refine ⟨h.1, ?_⟩
  rw [← h.2, List.drop_eq_getElem_cons hi]
  conv => rhs; unfold runD
  rw [if_neg hc, List.take_succ_eq_append_getElem hi, List.drop_append_of_le_length (by simp; omega)]
theorem OfF.line {p : List NodeD} {s t whole : List UInt8} {i fr : Nat} {out : List UInt8} {r : RestD} (h : OfF p s t whole i fr out r) (h0 : checkP p = 0) (hi : i < t.length) (hc : t[i] = 10) : OfF p s t whole (i + 1) (i + 1) ((out ++ giveT p s r ((t.take i).drop fr)) ++ [10]) (giveR p r ((t.take i).drop fr)) := by
  refine ⟨give_ok h0 h.1 _, ?_⟩
  rw [← h.2, List.drop_eq_getElem_cons hi]
  conv => rhs; unfold runD
  rw [if_pos hc, List.drop_of_length_le (i := i + 1) (l := t.take (i + 1)) (by simp; omega)]
  simp
theorem OfF.done {p : List NodeD} {s t whole : List UInt8} {i fr : Nat} {out : List UInt8} {r : RestD} (h : OfF p s t whole i fr out r) (hi : t.length ≤ i) : out = whole := by
  have h2 := h.2
  have e : t.drop i = [] := List.drop_of_length_le hi
  rw [e, show runD p s [] ((t.take i).drop fr) r = [] from rfl, List.append_nil] at h2
  exact h2
theorem OfF.len {p : List NodeD} {s t whole : List UInt8} {i fr : Nat} {out : List UInt8} {r : RestD} (h : OfF p s t whole i fr out r) : out.length ≤ whole.length := by
  rw [← h.2]; simp
theorem count_take_succ {t : List UInt8} {i : Nat} (h : i < t.length) : (t.take (i + 1)).count 10 = (t.take i).count 10 + (if t[i] = 10 then 1 else 0) := by
  rw [List.take_succ_eq_append_getElem h, List.count_append]
  congr 1
  simp [List.count_cons]
theorem give_show {p : List NodeD} {s : List UInt8} {r : RestD} {l : List UInt8} (h : l = [115, 104, 111, 119]) : giveT p s r l = s ∧ giveR p r l = r := by subst h; exact ⟨rfl, rfl⟩
theorem give_again {p : List NodeD} {s : List UInt8} {r : RestD} {l : List UInt8} (h : l = [97, 103, 97, 105, 110]) : giveT p s r l = dOk ∧ giveR p r l = beginR p := by subst h; exact ⟨rfl, rfl⟩
theorem give_rest {p : List NodeD} {s : List UInt8} {r : RestD} {l : List UInt8} (h : l = [114, 101, 115, 116]) : giveT p s r l = joinW (waitTo r.waits p.length) ∧ giveR p r l = r := by subst h; exact ⟨rfl, rfl⟩
theorem give_tick {p : List NodeD} {s : List UInt8} {r : RestD} {l : List UInt8} {x : Nat} (h1 : l ≠ [115, 104, 111, 119]) (h2 : l ≠ [97, 103, 97, 105, 110]) (h3 : l ≠ [114, 101, 115, 116]) (h : insOf l = some x) : giveT p s r l = joinW (tickW p r x) ∧ giveR p r l = walkR p r (x : Int) := by
  unfold giveT giveR
  rw [if_neg (show ¬ l = dRest from h3), if_neg (show ¬ l = dShow from h1), if_neg (show ¬ l = dAgain from h2), h, if_neg (show ¬ l = dRest from h3), if_neg (show ¬ l = dShow from h1), if_neg (show ¬ l = dAgain from h2)]
  exact ⟨rfl, rfl⟩
theorem give_err {p : List NodeD} {s : List UInt8} {r : RestD} {l : List UInt8} (h1 : l ≠ [115, 104, 111, 119]) (h2 : l ≠ [97, 103, 97, 105, 110]) (h3 : l ≠ [114, 101, 115, 116]) (h : insOf l = none) : giveT p s r l = dErr ∧ giveR p r l = r := by
  unfold giveT giveR
  rw [if_neg (show ¬ l = dRest from h3), if_neg (show ¬ l = dShow from h1), if_neg (show ¬ l = dAgain from h2), h, if_neg (show ¬ l = dRest from h3), if_neg (show ¬ l = dShow from h1), if_neg (show ¬ l = dAgain from h2)]
  exact ⟨rfl, rfl⟩
theorem ins_at {l tl : List UInt8} {x : Nat} (h : afterL l dTick = (tl, true)) (h2 : insFrom tl = some x) : insOf l = some x ∧ x < 8 := by
  have e : insOf l = some x := by rw [ins_of, h]; exact h2
  exact ⟨e, (ins_lt e).1⟩
theorem ins_not {l tl : List UInt8} (h : afterL l dTick = (tl, true)) (h2 : insFrom tl = none) : insOf l = none := by rw [ins_of, h]; exact h2
theorem ins_off {l tl : List UInt8} (h : afterL l dTick = (tl, false)) : insOf l = none := by rw [ins_of, h]; rfl
theorem begin_fresh {p : List NodeD} (h : checkP p = 0) : beginR p = ⟨true, falsesL p.length, falsesL 3⟩ := by unfold beginR; rw [if_pos h]

theorem many_end {t : List UInt8} {i : Nat} (h : ¬ (i < t.length ∧ (t.take i).count 10 ≤ 40)) (hi : i ≤ t.length) : (40 < t.count 10 ↔ 40 < (t.take i).count 10) ∧ ((t.take i).count 10 ≤ 40 → i = t.length ∧ (t.take i).count 10 = t.count 10) := by
  have h1 : (t.take i).count 10 ≤ t.count 10 := (List.take_sublist i t).count_le 10
  by_cases h2 : i < t.length
  · have h3 : 40 < (t.take i).count 10 := by omega
    exact ⟨⟨fun _ => h3, fun _ => by omega⟩, fun _ => by omega⟩
  · have h3 : i = t.length := by omega
    have h4 : (t.take i).count 10 = t.count 10 := by rw [h3, List.take_length]
    exact ⟨by rw [h4], fun _ => ⟨h3, h4⟩⟩
/-- A rest in its box; no row of it lies in the box. -/
def PlB (V : World) (bx : Nat) (r : RestD) : Prop := ∃ f wa wn wc oa on oc, Cells V bx [.bool f, .slice wa wn wc, .slice oa on oc] 35 ∧ f = r.fresh ∧ BoolsOff V bx none wa wn r.waits ∧ BoolsOff V bx none oa on r.outs
theorem PlB.on {V V' : World} {bx : Nat} {r : RestD} (h : PlB V bx r) (hb : Below V.heap.size V V') : PlB V' bx r := by
  obtain ⟨f, wa, wn, wc, oa, on, oc, h1, h2, h3, h4⟩ := h
  exact ⟨f, wa, wn, wc, oa, on, oc, h1.onF hb, h2, h3.below hb, h4.below hb⟩
theorem plb_put {W : World} {base bx : Nat} {vs : List Value} {r2 : RestD} {f2 : Bool} {wa2 oa2 : Option Addr} {wn2 on2 : Nat} (h : Cells W bx vs 35) (h3 : vs.length = 3) (hR : RestAt W r2 f2 wa2 wn2 oa2 on2) (hFW : Fresh base wa2 wn2) (hFO : Fresh base oa2 on2) (hb : bx < base) (wc2 oc2 : Nat) :
    PlB (((W.setCell ⟨bx, 0, none⟩ (.bool f2)).setCell ⟨bx, 1, none⟩ (.slice wa2 wn2 wc2)).setCell ⟨bx, 2, none⟩ (.slice oa2 on2 oc2)) bx r2 := by
  obtain ⟨v0, v1, v2, rfl⟩ : ∃ v0 v1 v2, vs = [v0, v1, v2] := by
    match vs, h3 with
    | [a, b, c], _ => exact ⟨a, b, c, rfl⟩
  have q1 := (((BoolsOff.fresh (g := none) hR.waits hFW hb (by simp)).set 0 (.bool f2)).set 1 (.slice wa2 wn2 wc2)).set 2 (.slice oa2 on2 oc2)
  have q2 := (((BoolsOff.fresh (g := none) hR.outs hFO hb (by simp)).set 0 (.bool f2)).set 1 (.slice wa2 wn2 wc2)).set 2 (.slice oa2 on2 oc2)
  have q5 := ((h.set 0 (.bool f2)).set 1 (.slice wa2 wn2 wc2)).set 2 (.slice oa2 on2 oc2)
  exact ⟨f2, wa2, wn2, wc2, oa2, on2, oc2, q5, hR.fresh, q1, q2⟩
theorem below_put {B : Nat} {w0 W : World} {bx : Nat} (h : Below B w0 W) (hB : B ≤ bx) (v0 v1 v2 : Value) : Below B w0 (((W.setCell ⟨bx, 0, none⟩ v0).setCell ⟨bx, 1, none⟩ v1).setCell ⟨bx, 2, none⟩ v2) :=
  ((h.setCell (p := ⟨bx, 0, none⟩) hB v0).setCell (p := ⟨bx, 1, none⟩) hB v1).setCell (p := ⟨bx, 2, none⟩) hB v2
theorem three_app (a b c : List UInt8) : (⟨a.toArray⟩ : ByteArray) ++ ⟨b.toArray⟩ ++ ⟨c.toArray⟩ = ⟨((a ++ b) ++ c).toArray⟩ := by rw [str_app, str_app]
theorem wait_yes {ws : List Bool} {k : Nat} (h : k < ws.length) (hb : ws[k] = true) : waitTo ws (k + 1) = waitTo ws k ++ [Lib.decDigits k] := by
  show waitTo ws k ++ _ = _
  rw [List.getD_eq_getElem?_getD, List.getElem?_eq_getElem h]
  simp [hb]
theorem wait_no {ws : List Bool} {k : Nat} (h : k < ws.length) (hb : ws[k] = false) : waitTo ws (k + 1) = waitTo ws k := by
  show waitTo ws k ++ _ = _
  rw [List.getD_eq_getElem?_getD, List.getElem?_eq_getElem h]
  simp [hb]
theorem put_yes {ws : List Bool} {k : Nat} (h : k < ws.length) (hb : ws[k] = true) : putTo ws (k + 1) = putTo ws k ++ [letter 65 k] := by
  show putTo ws k ++ _ = _
  rw [List.getD_eq_getElem?_getD, List.getElem?_eq_getElem h]
  simp [hb]
theorem put_no {ws : List Bool} {k : Nat} (h : k < ws.length) (hb : ws[k] = false) : putTo ws (k + 1) = putTo ws k := by
  show putTo ws k ++ _ = _
  rw [List.getD_eq_getElem?_getD, List.getElem?_eq_getElem h]
  simp [hb]
theorem fresh_at {base g n : Nat} (h : base ≤ g) : Fresh base (some ⟨g, 0, none⟩) n := Or.inr ⟨g, 0, rfl, h⟩

set_option maxRecDepth 100000 in
set_option maxHeartbeats 8000000 in
theorem PlayOf_any (s t : List UInt8) (hs : s.length ≤ maxLen) (ht : t.length ≤ maxLen) (w : World) :
    Calls Tryz.prog 6 #[.string ⟨s.toArray⟩, .string ⟨t.toArray⟩] w fun e w' => e = .returned (.tuple #[.string ⟨(deskT s t).toArray⟩, .int .i64 (deskE s t)]) ∧ Below w.heap.size w w' := by
  unfold maxLen at hs ht
  by_cases h4 : 4096 < s.length
  · have hi : (4096 : Int) < (s.length : Int) := by omega
    have HE0 := show deskE s t = 2 by unfold deskE readE; rw [if_pos h4, if_neg (by decide)]
    have HT := hide (desk_no HE0 (by decide))
    have HE := hide HE0
    clear HE0
    go_enter Tryz.func6, Tryz.ntmps6
    go_wp2_with fail
    go_ret2
    rw [unhide HE, unhide HT]
    exact ⟨rfl, Below.refl _ _⟩
  have hi : ¬ (4096 : Int) < (s.length : Int) := by omega
  have h4n : ¬ 4096 < s.length := h4
  have hrE := hide (show readE s = if (progF s).isSome then 0 else 1 by unfold readE; rw [if_neg h4])
  have hrL := hide (show readL s = (progF s).getD [] by unfold readL; rw [if_neg h4])
  go_enter Tryz.func6, Tryz.ntmps6
  go_wp2_with fail
  refine (ProgFrom_any s _).mono ?_
  rintro e w1 ⟨pa, pn, pc, rfl, hN1, hpc, B1⟩
  cases hpf : progF s with
  | none =>
    rw [hpf] at hrE
    have HE0 := show deskE s t = 1 by unfold deskE; rw [unhide hrE]; rfl
    have HT := hide (desk_no HE0 (by decide))
    have HE := hide HE0
    clear HE0
    clear hpf hN1
    go_wp2_with fail
    go_ret2
    rw [unhide HE, unhide HT]
    exact ⟨rfl, B1⟩
  | some p =>
    rw [hpf] at hrE hrL hN1
    have hck : checkP p = 0 := (shown_read hpf).1
    have HCK := hide hck
    have hok := pok_of hck
    have hN : Nodes w1 pa pn p := hN1
    have HNL := hide hN.1
    have hn14 : pn ≤ 14 := by have := hok.few; have := unhide HNL; omega
    have hrE0 : readE s = 0 := unhide hrE
    have hrL0 : readL s = p := unhide hrL
    have HRE := hide hrE0
    have HRL := hide hrL0
    have HFW := hide hok.few
    clear hpf hrE hrL hN1 hck hok hrE0 hrL0
    go_wp2_with fail
    go_loopg [8, 9] t.length (fun fu lv iv wr => ∃ i : Nat, t.length - i ≤ fu ∧ i ≤ t.length ∧ iv = .int .i64 i ∧ lv = .int .i64 ((t.take i).count 10 : Nat) ∧ (t.take i).count 10 ≤ 41 ∧ wr = w1)
    case atStart => exact ⟨0, Nat.le_refl _, Nat.zero_le _, rfl, rfl, Nat.zero_le _, rfl⟩
    case round =>
      obtain ⟨i, hfu, hit, rfl, rfl, hcn, rfl⟩ := hrel
      have HFU := hide hfu
      clear hfu
      by_cases hlt : i < t.length ∧ (t.take i).count 10 ≤ 40
      · obtain ⟨hil, hc40⟩ := hlt
        have hii : (i : Int) < (t.length : Int) := by omega
        have hci : (((t.take i).count 10 : Nat) : Int) ≤ 40 := by omega
        have HC := hide (count_take_succ hil)
        generalize hcc : (t.take i).count 10 = cn at *
        by_cases hc : t[i] = 10
        · have hq := byte_is hil hc
          have HC2 := hide (show (t.take (i + 1)).count 10 = cn + 1 by rw [unhide HC, if_pos hc])
          clear hc HC hcc
          go_wp2_with fail
          go_roundg (t.length - (i + 1))
          case measure => have := unhide HFU; omega
          case rel => exact ⟨i + 1, Nat.le_refl _, by omega, by go_num, by rw [unhide HC2]; go_num, by rw [unhide HC2]; omega, rfl⟩
        · have hq := byte_not hil hc
          have HC2 := hide (show (t.take (i + 1)).count 10 = cn by rw [unhide HC, if_neg hc]; rfl)
          clear hc HC hcc
          go_wp2_with fail
          go_roundg (t.length - (i + 1))
          case measure => have := unhide HFU; omega
          case rel => exact ⟨i + 1, Nat.le_refl _, by omega, by go_num, by rw [unhide HC2], by rw [unhide HC2]; omega, rfl⟩
      · have hE := hide (many_end hlt hit)
        generalize hcc : (t.take i).count 10 = cn at *
        have hcond : (¬ (i : Int) < (t.length : Int)) ∨ ((i : Int) < (t.length : Int) ∧ ¬ ((cn : Int) ≤ 40)) := by omega
        by_cases hmany : 4096 < t.length ∨ 40 < t.count 10
        · have HE0 := show deskE s t = 2 by unfold deskE; rw [unhide HRE, if_pos rfl, if_pos hmany]
          have HT := hide (desk_no HE0 (by decide))
          have HE := hide HE0
          clear HE0
          have hm2 : 4096 < t.length ∨ (¬ 4096 < t.length ∧ 40 < cn) := by have := unhide hE; omega
          clear hmany hlt
          rcases hcond with hg1 | ⟨hg1, hg2⟩ <;> rcases hm2 with hm | ⟨hm, hm3⟩
          all_goals
            have hm' : (4096 : Int) < (t.length : Int) ∨ ¬ (4096 : Int) < (t.length : Int) := by omega
          · have hmi : (4096 : Int) < (t.length : Int) := by omega
            go_wp2_with fail
            go_ret2
            rw [unhide HE, unhide HT]
            exact ⟨rfl, B1⟩
          · have hmi : ¬ (4096 : Int) < (t.length : Int) := by omega
            have hci : (40 : Int) < (cn : Int) := by omega
            go_wp2_with fail
            go_ret2
            rw [unhide HE, unhide HT]
            exact ⟨rfl, B1⟩
          · have hmi : (4096 : Int) < (t.length : Int) := by omega
            go_wp2_with fail
            go_ret2
            rw [unhide HE, unhide HT]
            exact ⟨rfl, B1⟩
          · have hmi : ¬ (4096 : Int) < (t.length : Int) := by omega
            have hci : (40 : Int) < (cn : Int) := by omega
            go_wp2_with fail
            go_ret2
            rw [unhide HE, unhide HT]
            exact ⟨rfl, B1⟩
        · have hE2 := unhide hE
          have hil : i = t.length := by omega
          subst hil
          have ht4 : t.length ≤ 4096 := by omega
          have hc40 : t.count 10 ≤ 40 := by omega
          have hmi : ¬ (4096 : Int) < (t.length : Int) := by omega
          have hci : ¬ (40 : Int) < (cn : Int) := by omega
          have hgi : ¬ (t.length : Int) < (t.length : Int) := by omega
          have HM := hide hmany
          have HC40 := hide hc40
          clear hE hE2 hmany hlt hcond hc40 hcc HFU hcn hit
          have hend : (t ≠ [] ∧ t.getLast? ≠ some 10) ∨ (t = [] ∨ t.getLast? = some 10) := by
            by_cases h1 : t = []
            · exact Or.inr (Or.inl h1)
            · by_cases h2 : t.getLast? = some 10
              · exact Or.inr (Or.inr h2)
              · exact Or.inl ⟨h1, h2⟩
          rcases hend with ⟨hne, hlast⟩ | hend
          · have HE0 := show deskE s t = 1 by unfold deskE; rw [unhide HRE, if_pos rfl, if_neg (unhide HM), if_neg (by intro h; rcases h with h | h; exact hne h; exact hlast h)]
            have HT := hide (desk_no HE0 (by decide))
            have HE := hide HE0
            obtain ⟨n, hn⟩ : ∃ n, t.length = n + 1 := ⟨t.length - 1, by have := List.length_pos_iff.2 hne; omega⟩
            have hnl : n < t.length := by omega
            have hq := byte_not hnl (by
              intro e
              apply hlast
              rw [List.getLast?_eq_getElem?, hn, Nat.add_sub_cancel, List.getElem?_eq_getElem hnl, e])
            have hni : (t.length : Int) = (n : Int) + 1 := by omega
            have hn0 : (0 : Int) < (t.length : Int) := by omega
            have hn1 : (n : Int) < (t.length : Int) := by omega
            clear HE0 hlast hne hn
            go_wp2_with fail
            go_ret2
            rw [unhide HE, unhide HT]
            exact ⟨rfl, B1⟩
          · have HE := hide (show deskE s t = 0 by unfold deskE; rw [unhide HRE, if_pos rfl, if_neg (unhide HM), if_pos hend])
            have HT := hide (show deskT s t = runD p s t [] (beginR p) by unfold deskT; rw [unhide HE, if_pos rfl, unhide HRL])
            have HWL := hide (show (runD p s t [] (beginR p)).length ≤ 163880 by
              have h1 := run_len (unhide HFW) (by omega : s.length ≤ 4096) t [] (beginR p)
              have h2 := unhide HC40
              omega)
            by_cases h0 : t = []
            · subst h0
              clear hend HM HC40 hs ht ht4
              simp only [List.length_nil] at *
              go_wp2_with fail
              refine (FreshOf_any pa pn pc _ hn14).mono ?_
              rintro e w3 ⟨gW, gO, rfl, hne, hgW, hgO, hrW, hrO, hb3⟩
              have B4 := bstep B1 (hb3.trans ((Below.refl _ w3).alloc hb3.size (.cells #[.bool true, .slice (some ⟨gW, 0, none⟩) pn pn, .slice (some ⟨gO, 0, none⟩) 3 3] 35)))
              go_wp2_with fail
              go_loopg [11, 12, 13] 0 (fun fu ov fv iv wr => ov = .string ⟨#[]⟩ ∧ iv = .int .i64 0 ∧ Below w.heap.size w wr)
              case atStart => exact ⟨rfl, rfl, B4⟩
              case round =>
                obtain ⟨rfl, rfl, hbel⟩ := hrel
                go_wp2_with fail
                go_ret2
                rw [unhide HE, unhide HT]
                exact ⟨rfl, hbel⟩
            have hlast : t.getLast? = some 10 := by
              rcases hend with h | h
              · exact absurd h h0
              · exact h
            obtain ⟨n, hn⟩ : ∃ n, t.length = n + 1 := ⟨t.length - 1, by have := List.length_pos_iff.2 h0; omega⟩
            have hnl : n < t.length := by omega
            have hq := byte_is hnl (by
              rw [List.getLast?_eq_getElem?, hn, Nat.add_sub_cancel, List.getElem?_eq_getElem hnl] at hlast
              exact Option.some.inj hlast)
            have hq2 : ((((⟨t.toArray⟩ : ByteArray)[n]'(byte_lt hnl)).toNat : Int) != 10) = false := by rw [bne, hq]; rfl
            have hni : (t.length : Int) = (n : Int) + 1 := by omega
            have hn0 : (0 : Int) < (t.length : Int) := by omega
            have hn1 : (n : Int) < (t.length : Int) := by omega
            clear hlast h0 hn hend
            go_upto_region 16 with fail
            generalize Value.int IntKind.u8 ((((⟨t.toArray⟩ : ByteArray)[n]'(byte_lt hnl)).toNat : Nat) : Int) = q66
            clear hq hq2 hni hn0 hn1 hgi
            rename World => w1
            go_wp2_with fail
            refine (FreshOf_any pa pn pc _ hn14).mono ?_
            rintro e w3 ⟨gW, gO, rfl, hne, hgW, hgO, hrW, hrO, hb3⟩
            have hal := (Below.refl w3.heap.size w3).alloc (Nat.le_refl _) (.cells #[.bool true, .slice (some ⟨gW, 0, none⟩) pn pn, .slice (some ⟨gO, 0, none⟩) 3 3] 35)
            have hcB := Cells.new w3 [.bool true, .slice (some ⟨gW, 0, none⟩) pn pn, .slice (some ⟨gO, 0, none⟩) 3 3] 35
            have hsz : (w3.alloc (.cells #[.bool true, .slice (some ⟨gW, 0, none⟩) pn pn, .slice (some ⟨gO, 0, none⟩) 3 3] 35)).heap.size = w3.heap.size + 1 := by simp
            have hW4 := (hrW.on hal).boolsF (n := pn) (by simp [falsesL]) hn14
            have hO4 := (hrO.on hal).boolsF (n := 3) (by simp [falsesL]) (by omega)
            have hlW := hrW.lt
            have hlO := hrO.lt
            have B4 := bstep (bstep (Below.refl _ w1) hb3) hal
            have hwb : w1.heap.size ≤ w3.heap.size := hb3.size
            go_wp2_with fail
            generalize w3.alloc (.cells #[.bool true, .slice (some ⟨gW, 0, none⟩) pn pn, .slice (some ⟨gO, 0, none⟩) 3 3] 35) = w4 at *
            generalize w3.heap.size = bx at *
            have hP0 : PlB w4 bx (beginR p) := by
              rw [begin_fresh (unhide HCK), ← unhide HNL]
              exact ⟨_, _, _, _, _, _, _, hcB, rfl, ⟨hW4, Or.inr ⟨gW, 0, rfl, by omega, by omega, by simp⟩⟩, ⟨hO4, Or.inr ⟨gO, 0, rfl, by omega, by omega, by simp⟩⟩⟩
            have hOF : OfF p s t (runD p s t [] (beginR p)) 0 0 [] (beginR p) := ⟨begin_ok (unhide HCK), by simp⟩
            generalize runD p s t [] (beginR p) = whole at *
            have HOF0 := hide hOF
            clear hal hW4 hO4 hb3 hrW hrO hgW hgO hne hsz hcB hlW hlO hOF
            obtain ⟨i0, hi0, hz0, hz1, hz2⟩ := info_parts Tryz.infoStr
            have hs4 : s.length ≤ 4096 := by omega
            go_loopg [11, 12, 13] t.length (fun fu ov fv iv V => ∃ (i fr : Nat) (out : List UInt8) (r : RestD), t.length - i ≤ fu ∧ i ≤ t.length ∧ fr ≤ i ∧ iv = .int .i64 i ∧ fv = .int .i64 fr ∧ ov = .string ⟨out.toArray⟩ ∧ Hid (OfF p s t whole i fr out r) ∧ PlB V bx r ∧ Below w1.heap.size w1 V)
            case atStart => exact ⟨0, 0, [], beginR p, Nat.le_refl _, Nat.zero_le _, Nat.le_refl _, rfl, rfl, rfl, HOF0, hP0, B4⟩
            case round =>
              clear HOF0 hP0 B4
              obtain ⟨i, fr, out, r, hfu, hil, hfr, rfl, rfl, rfl, HOF, HPB, hbel⟩ := hrel
              rename World => V
              have HFU := hide hfu
              clear hfu
              by_cases hlt : i < t.length
              case neg =>
                have hni : ¬ (i : Int) < (t.length : Int) := by omega
                have hout := (unhide HOF).done (by omega)
                subst hout
                clear HPB HOF
                go_wp2_with fail
                go_ret2
                rw [unhide HE, unhide HT]
                exact ⟨rfl, bstep B1 hbel⟩
              have hii : (i : Int) < (t.length : Int) := by omega
              by_cases hc : t[i] = 10
              case neg =>
                have hq := byte_not hlt hc
                have hq2 : ((((⟨t.toArray⟩ : ByteArray)[i]'(byte_lt hlt)).toNat : Int) != 10) = true := by rw [bne, hq]; rfl
                have HOF2 := hide ((unhide HOF).skip hlt hfr hc)
                clear hc HOF
                go_wp2_with fail
                go_roundg (t.length - (i + 1))
                case measure => have := unhide HFU; omega
                case rel => exact ⟨i + 1, fr, out, r, Nat.le_refl _, by omega, by omega, by go_num, rfl, rfl, HOF2, HPB, hbel⟩
              have hq := byte_is hlt hc
              have hq2 : ((((⟨t.toArray⟩ : ByteArray)[i]'(byte_lt hlt)).toNat : Int) != 10) = false := by rw [bne, hq]; rfl
              have hsub := str_sub t fr i
              have hf1 : (fr : Int) ≤ (i : Int) := by omega
              have hf2 : (i : Int) ≤ (t.length : Int) := by omega
              have HOF2 := hide ((unhide HOF).line (unhide HCK) hlt hc)
              have hol : out.length ≤ 163880 := Nat.le_trans (unhide HOF).len (unhide HWL)
              have HRE0 := hide (unhide HOF).1
              have hln : ((t.take i).drop fr).length ≤ 4096 := by simp; omega
              generalize (t.take i).drop fr = ln at *
              have hgl := give_len (unhide HFW) hs4 r ln
              have HGL := hide hgl
              clear hc HOF hgl
              go_wp2_with fail
              refine (after_any ln dTick _).mono ?_
              rintro e V1 ⟨rfl, rfl⟩
              rename World => V
              clear hq hq2 hsub hf1 hf2
              obtain ⟨tl, it, haf⟩ : ∃ tl it, afterL ln dTick = (tl, it) := ⟨_, _, rfl⟩
              rw [haf]
              have HAF := hide haf
              clear haf
              go_wp2_with fail
              refine (inputsFrom_any tl _).mono ?_
              rintro e V2 ⟨rfl, hbI⟩
              have hbel2 := bstep hbel hbI
              have HPB2 := HPB.on hbI
              clear hbel HPB hbI
              obtain ⟨oi, hoi⟩ : ∃ oi, insFrom tl = oi := ⟨_, rfl⟩
              rw [hoi]
              have HOI := hide hoi
              clear hoi
              by_cases c1 : ln = [115, 104, 111, 119]
              · have HOF3 : Hid (OfF p s t whole (i + 1) (i + 1) ((out ++ s) ++ [10]) r) := by
                  have h := unhide HOF2
                  rw [(give_show (p := p) (s := s) (r := r) c1).1, (give_show (p := p) (s := s) (r := r) c1).2] at h
                  exact hide h
                subst c1
                clear HOF2 HGL HAF HOI
                have E3 := hide (three_app out s [10])
                go_wp2_with fail
                go_roundg (t.length - (i + 1))
                case measure => have := unhide HFU; omega
                case rel => exact ⟨i + 1, i + 1, (out ++ s) ++ [10], r, Nat.le_refl _, by omega, Nat.le_refl _, by go_num, by go_num, congrArg Value.string (unhide E3), HOF3, HPB2, hbel2⟩
              have c1f : (ln == [115, 104, 111, 119]) = false := by simp [c1]
              by_cases c2 : ln = [97, 103, 97, 105, 110]
              · have HOF3 : Hid (OfF p s t whole (i + 1) (i + 1) ((out ++ dOk) ++ [10]) (beginR p)) := by
                  have h := unhide HOF2
                  rw [(give_again (p := p) (s := s) (r := r) c2).1, (give_again (p := p) (s := s) (r := r) c2).2] at h
                  exact hide h
                subst c2
                clear HOF2 HGL HAF HOI c1 c1f
                obtain ⟨f, wa, wn, wc, oa, on, oc, hcx, hf, hW, hO⟩ := HPB2
                go_wp2_with fail
                refine (FreshOf_any pa pn pc _ hn14).mono ?_
                rintro e V3 ⟨gW, gO, rfl, hne, hgW, hgO, hrW, hrO, hb3⟩
                have hc3 := hcx.onF hb3
                have z0 := hc3.cell 0
                have z1 := hc3.cell 1
                have z2 := hc3.cell 2
                have y0 := hc3.frozen 0
                have y1 := hc3.frozen 1
                have y2 := hc3.frozen 2
                have yl := hc3.lt
                have hlx := hcx.lt
                have HPB3 := plb_put (r2 := beginR p) hc3 rfl (f2 := true) (wa2 := some ⟨gW, 0, none⟩) (wn2 := pn) (oa2 := some ⟨gO, 0, none⟩) (on2 := 3) (by
                  rw [begin_fresh (unhide HCK), ← unhide HNL]
                  exact ⟨rfl, hrW.boolsF (by simp [falsesL]) hn14, hrO.boolsF (by simp [falsesL]) (by omega)⟩) (fresh_at hgW) (fresh_at hgO) hlx pn 3
                have hbel3 := below_put (bstep hbel2 hb3) hwb (.bool true) (.slice (some ⟨gW, 0, none⟩) pn pn) (.slice (some ⟨gO, 0, none⟩) 3 3)
                clear hcx hf hW hO hrW hrO hb3 hgW hgO hne hc3 hbel2
                go_upto_region 32 with fail
                clear z0 z1 z2 y0 y1 y2 yl
                generalize ((V3.setCell ⟨bx, 0, none⟩ (.bool true)).setCell ⟨bx, 1, none⟩ (.slice (some ⟨gW, 0, none⟩) pn pn)).setCell ⟨bx, 2, none⟩ (.slice (some ⟨gO, 0, none⟩) 3 3) = V9 at *
                have E3 := hide (three_app out dOk [10])
                go_wp2_with fail
                go_roundg (t.length - (i + 1))
                case measure => have := unhide HFU; omega
                case rel => exact ⟨i + 1, i + 1, (out ++ dOk) ++ [10], (beginR p), Nat.le_refl _, by omega, Nat.le_refl _, by go_num, by go_num, congrArg Value.string (unhide E3), HOF3, HPB3, hbel3⟩
              have c2f : (ln == [97, 103, 97, 105, 110]) = false := by simp [c2]
              by_cases c3 : ln = [114, 101, 115, 116]
              · have hgr := give_rest (p := p) (s := s) (r := r) c3
                have HOF3 : Hid (OfF p s t whole (i + 1) (i + 1) ((out ++ joinW (waitTo r.waits p.length)) ++ [10]) r) := by
                  have h := unhide HOF2
                  rw [hgr.1, hgr.2] at h
                  exact hide h
                have hgl : (joinW (waitTo r.waits p.length)).length ≤ 4096 := by have h := unhide HGL; rwa [hgr.1] at h
                have hJL := join_le' (waitTo r.waits p.length) 2 (wait_len r.waits p.length (unhide HFW)).2
                have hwl : r.waits.length = pn := by rw [(restE_len (unhide HRE0)).2.1, unhide HNL]
                rw [← unhide HNL] at HOF3 hgl
                subst c3
                clear HOF2 HGL HAF HOI c1 c1f c2 c2f hgr hJL
                obtain ⟨f, wa, wn, wc, oa, on, oc, hcx, hf, hW, hO⟩ := HPB2
                have HX := hide (And.intro hf hO)
                clear hf hO
                go_wp2_with fail
                go_loopg [20, 21] pn (fun fu v kv X => ∃ k : Nat, pn - k ≤ fu ∧ k ≤ pn ∧ kv = .int .i64 k ∧ X.ownsRow V2.heap.size 9 1 v (waitTo r.waits k).length (strV (waitTo r.waits k)) ∧ Below V2.heap.size V2 X)
                case atStart => exact ⟨0, by omega, Nat.zero_le _, rfl, World.ownsRow_nil _ _ _ _, Below.refl _ _⟩
                case round =>
                  obtain ⟨k, hfu, hk, rfl, hown, hbX⟩ := hrel
                  rename World => X
                  have HFK := hide hfu
                  clear hfu
                  have hcX := hcx.onF hbX
                  have hlw := (wait_len r.waits k (by omega)).1
                  by_cases hkn : k < pn
                  · have hki : (k : Int) < (pn : Int) := by omega
                    have hkw : k < r.waits.length := by omega
                    obtain ⟨b, off, hwa, hbb, d1⟩ := (hW.1.below hbX).at hkw
                    have hwn : wn = pn := by rw [hW.1.1, hwl]
                    have hkw2 : (k : Int) < (wn : Int) := by omega
                    have x1 := hcX.cell 1
                    rw [hwa] at x1
                    have HWY := hide (wait_yes hkw)
                    have HWN := hide (wait_no hkw)
                    have HCX := hide hcx
                    have HWW := hide hW
                    generalize r.waits[k] = wk at *
                    cases wk
                    · have R := hide (unhide HWN rfl)
                      clear HWN HWY hcX hcx hW
                      go_wp2_with fail
                      have hcx := unhide HCX
                      have hW := unhide HWW
                      go_roundg (pn - (k + 1))
                      case measure => have := unhide HFK; omega
                      case rel => exact ⟨k + 1, Nat.le_refl _, by omega, by go_num, by rw [unhide R]; exact hown, hbX⟩
                    · have R := hide (unhide HWY rfl)
                      clear HWN HWY hcX hcx hW
                      go_wp2_with fail
                      refine (Digits_any k (by omega) _).mono ?_
                      rintro e X2 ⟨rfl, hbD⟩
                      have hbX := bstep hbX hbD
                      have hown := own_below hown hbD
                      go_wp2_with (at_builtin; refine wpList_append_own _ rfl _ _ 57 rfl (V2.heap.size) 9 i0 (.string .empty) 1 16 Tryz.underlying57 hi0 hz0 hz1 hz2 rfl (by decide) _ _ _ rfl (hown.alloc _) ⟨X2.heap.size, 0, none⟩ 1 1 [.string ⟨(Lib.decDigits k).toArray⟩] rfl rfl ?c1 ?c2 ?c3 ?c4 ?c5 ?_)
                      case c1 =>
                        intro j u hj
                        match j, hj with
                        | 0, hj => simp at hj; subst hj; simp [Addr.add]
                      case c2 => intro u hu; simp at hu; subst hu; rfl
                      case c3 => unfold maxLen; omega
                      case c4 => omega
                      case c5 => have := hbX.size; simp; omega
                      intro v' W3 hown' hgrow _
                      have hb3 : Below V2.heap.size V2 W3 := hbX.trans (((Below.refl _ X2).alloc (hbX.size) _).grown hgrow (by have := hbX.size; simp; omega) (fun k hk => (hown.lt k hk).1))
                      have hown2 : W3.ownsRow V2.heap.size 9 1 v' (waitTo r.waits (k + 1)).length (strV (waitTo r.waits (k + 1))) := by
                        rw [unhide R, strV_snoc, List.length_append]
                        exact hown'
                      have RR := hide (And.intro hown2 hb3)
                      clear hown hown' hgrow hown2 hb3 hbX hbD x1 d1
                      go_wp2_with fail
                      go_roundg (pn - (k + 1))
                      case measure => have := unhide HFK; omega
                      case rel => exact ⟨k + 1, Nat.le_refl _, by omega, by go_num, (unhide RR).1, (unhide RR).2⟩
                  · have hkn' : k = pn := by omega
                    subst hkn'
                    have hki : ¬ (k : Int) < (k : Int) := by omega
                    have hJ := join_le (waitTo r.waits k) 2 (wait_len r.waits k (by omega)).2
                    have hlen : (Lib.join (waitTo r.waits k) [32]).length ≤ 100000 := by omega
                    have hl20 : (waitTo r.waits k).length ≤ 20 := by omega
                    obtain ⟨a2, c2', hv', hS, hcc⟩ := own_strs hown
                    rw [hv']
                    have HPB3 : PlB X bx r := ⟨f, wa, wn, wc, oa, on, oc, hcX, (unhide HX).1, hW.below hbX, (unhide HX).2.below hbX⟩
                    clear hv' hown hJ hcX hcx hW
                    generalize waitTo r.waits k = ws at *
                    generalize hnn : ws.length = nn at *
                    go_wp2_with fail
                    refine (joined_any ws a2 nn c2' _ hS hlen (by omega)).mono ?_
                    rintro e X4 ⟨rfl, hb4⟩
                    have hbel3 := bstep (bstep hbel2 hbX) hb4
                    have HPB4 := HPB3.on hb4
                    clear hbel2 hbX hb4 HPB3 hS
                    generalize joinW ws = g at *
                    have E3 := hide (three_app out g [10])
                    go_wp2_with fail
                    go_roundg (t.length - (i + 1))
                    case measure => have := unhide HFU; omega
                    case rel => exact ⟨i + 1, i + 1, (out ++ g) ++ [10], r, Nat.le_refl _, by omega, Nat.le_refl _, by go_num, by go_num, congrArg Value.string (unhide E3), HOF3, HPB4, hbel3⟩
              have c3f : (ln == [114, 101, 115, 116]) = false := by simp [c3]
              have hoff : (it = false ∨ oi = none) ∨ (it = true ∧ ∃ x, oi = some x) := by
                cases it
                · exact Or.inl (Or.inl rfl)
                · cases oi with
                  | none => exact Or.inl (Or.inr rfl)
                  | some x => exact Or.inr ⟨rfl, x, rfl⟩
              rcases hoff with hoff | ⟨rfl, x, rfl⟩
              · have hno : insOf ln = none := by
                  have h1 := unhide HAF
                  have h2 := unhide HOI
                  cases it
                  · exact ins_off h1
                  · rcases hoff with h | h
                    · cases h
                    · rw [h] at h2; exact ins_not h1 h2
                have HOF3 : Hid (OfF p s t whole (i + 1) (i + 1) ((out ++ dErr) ++ [10]) r) := by
                  have h := unhide HOF2
                  rw [(give_err (p := p) (s := s) (r := r) c1 c2 c3 hno).1, (give_err (p := p) (s := s) (r := r) c1 c2 c3 hno).2] at h
                  exact hide h
                clear HOF2 HGL HAF HOI c1 c2 c3 hno
                cases it
                · clear hoff
                  have E3 := hide (three_app out dErr [10])
                  go_wp2_with fail
                  go_roundg (t.length - (i + 1))
                  case measure => have := unhide HFU; omega
                  case rel => exact ⟨i + 1, i + 1, (out ++ dErr) ++ [10], r, Nat.le_refl _, by omega, Nat.le_refl _, by go_num, by go_num, congrArg Value.string (unhide E3), HOF3, HPB2, hbel2⟩
                · rcases hoff with h | rfl
                  · cases h
                  have E3 := hide (three_app out dErr [10])
                  go_wp2_with fail
                  go_roundg (t.length - (i + 1))
                  case measure => have := unhide HFU; omega
                  case rel => exact ⟨i + 1, i + 1, (out ++ dErr) ++ [10], r, Nat.le_refl _, by omega, Nat.le_refl _, by go_num, by go_num, congrArg Value.string (unhide E3), HOF3, HPB2, hbel2⟩
              have hat := ins_at (unhide HAF) (unhide HOI)
              have hgt := give_tick (p := p) (s := s) (r := r) c1 c2 c3 hat.1
              have hx8 := hat.2
              have HOF3 : Hid (OfF p s t whole (i + 1) (i + 1) ((out ++ joinW (tickW p r x)) ++ [10]) (walkR p r (x : Int))) := by
                have h := unhide HOF2
                rw [hgt.1, hgt.2] at h
                exact hide h
              have hgl : (joinW (tickW p r x)).length ≤ 4096 := by have h := unhide HGL; rwa [hgt.1] at h
              have hwe := walk_at (unhide HRE0) hx8
              have HRE2 := hide (walk_rest hwe)
              clear HOF2 HGL HAF HOI c1 c2 c3 hgt hat
              obtain ⟨f, wa, wn, wc, oa, on, oc, hcx, hf, hW, hO⟩ := HPB2
              have hN2 := hN.below hbel2
              have x0 := hcx.cell 0
              have x1 := hcx.cell 1
              have x2 := hcx.cell 2
              have HCX := hide hcx
              have hlx := hcx.lt
              have hRr : RestAt V2 r f wa wn oa on := ⟨hf, hW.1, hO.1⟩
              have HPN := hide hwb
              clear hcx hf hW hO
              go_wp2_with fail
              refine (WalkOf_fresh p _ _ _ r f wa oa wn wc on oc (x : Int) _ hN2 hRr).mono ?_
              rintro e VD ⟨f2, wa2, wn2, wc2, oa2, on2, oc2, he, hRD, hFW, hFO, hbD⟩
              rw [hwe] at he
              subst he
              have hcD := (unhide HCX).onF hbD
              have z0 := hcD.cell 0
              have z1 := hcD.cell 1
              have z2 := hcD.cell 2
              have y0 := hcD.frozen 0
              have y1 := hcD.frozen 1
              have y2 := hcD.frozen 2
              have yl := hcD.lt
              have HPB3 := plb_put hcD rfl hRD hFW hFO hlx wc2 oc2
              have hbel3 := below_put (bstep hbel2 hbD) (unhide HPN) (.bool f2) (.slice wa2 wn2 wc2) (.slice oa2 on2 oc2)
              clear x0 x1 x2 hRr hN2 hRD hFW hFO hbD hcD hbel2 HCX hwe
              go_upto_region 44 with fail
              clear z0 z1 z2 y0 y1 y2 yl
              generalize ((VD.setCell ⟨bx, 0, none⟩ (.bool f2)).setCell ⟨bx, 1, none⟩ (.slice wa2 wn2 wc2)).setCell ⟨bx, 2, none⟩ (.slice oa2 on2 oc2) = V9 at *
              have hol3 : (walkR p r (x : Int)).outs.length = 3 := (restE_len (unhide HRE2)).2.2
              have HTK := hide (show tickW p r x = putTo (walkR p r (x : Int)).outs 3 ++ (if walkO p r (x : Int) then [dOver] else []) from rfl)
              generalize tickW p r x = tw at *
              generalize walkR p r (x : Int) = r2 at *
              generalize walkO p r (x : Int) = ov at *
              obtain ⟨f, wa, wn, wc, oa, on, oc, hcx, hf, hW, hO⟩ := HPB3
              have HX := hide (And.intro hf hW)
              clear hf hW
              go_wp2_with fail
              go_loopg [23, 24] 3 (fun fu v kv X => ∃ k : Nat, 3 - k ≤ fu ∧ k ≤ 3 ∧ kv = .int .i64 k ∧ X.ownsRow V9.heap.size 9 1 v (putTo r2.outs k).length (strV (putTo r2.outs k)) ∧ Below V9.heap.size V9 X)
              case atStart => exact ⟨0, by omega, Nat.zero_le _, rfl, World.ownsRow_nil _ _ _ _, Below.refl _ _⟩
              case round =>
                obtain ⟨k, hfu, hk, rfl, hown, hbX⟩ := hrel
                rename World => X
                have HFK := hide hfu
                clear hfu
                have hcX := hcx.onF hbX
                have hlw := (put_len r2.outs k).1
                by_cases hkn : k < 3
                · have hki : (k : Int) < 3 := by omega
                  have hkw : k < r2.outs.length := by omega
                  obtain ⟨b, off, hoa, hbb, d1⟩ := (hO.1.below hbX).at hkw
                  have hon : on = 3 := by rw [hO.1.1, hol3]
                  have hkw2 : (k : Int) < (on : Int) := by omega
                  have x2 := hcX.cell 2
                  rw [hoa] at x2
                  have HWY := hide (put_yes hkw)
                  have HWN := hide (put_no hkw)
                  have HCX := hide hcx
                  have HOO := hide hO
                  generalize r2.outs[k] = wk at *
                  cases wk
                  · have R := hide (unhide HWN rfl)
                    clear HWN HWY hcX hcx hO
                    go_wp2_with fail
                    have hcx := unhide HCX
                    have hO := unhide HOO
                    go_roundg (3 - (k + 1))
                    case measure => have := unhide HFK; omega
                    case rel => exact ⟨k + 1, Nat.le_refl _, by omega, by go_num, by rw [unhide R]; exact hown, hbX⟩
                  · have R := hide (unhide HWY rfl)
                    clear HWN HWY hcX hcx hO
                    go_wp2_with fail
                    refine (sign_any 65 k (Or.inl rfl) (by omega) _).mono ?_
                    rintro e X2 ⟨rfl, hbD⟩
                    have hbX := bstep hbX hbD
                    have hown := own_below hown hbD
                    go_wp2_with (at_builtin; refine wpList_append_own _ rfl _ _ 57 rfl (V9.heap.size) 9 i0 (.string .empty) 1 16 Tryz.underlying57 hi0 hz0 hz1 hz2 rfl (by decide) _ _ _ rfl (hown.alloc _) ⟨X2.heap.size, 0, none⟩ 1 1 [.string ⟨(letter 65 k).toArray⟩] rfl rfl ?c1 ?c2 ?c3 ?c4 ?c5 ?_)
                    case c1 =>
                      intro j u hj
                      match j, hj with
                      | 0, hj => simp at hj; subst hj; simp [Addr.add]
                    case c2 => intro u hu; simp at hu; subst hu; rfl
                    case c3 => unfold maxLen; omega
                    case c4 => omega
                    case c5 => have := hbX.size; simp; omega
                    intro v' W3 hown' hgrow _
                    have hb3 : Below V9.heap.size V9 W3 := hbX.trans (((Below.refl _ X2).alloc (hbX.size) _).grown hgrow (by have := hbX.size; simp; omega) (fun k hk => (hown.lt k hk).1))
                    have hown2 : W3.ownsRow V9.heap.size 9 1 v' (putTo r2.outs (k + 1)).length (strV (putTo r2.outs (k + 1))) := by
                      rw [unhide R, strV_snoc, List.length_append]
                      exact hown'
                    have RR := hide (And.intro hown2 hb3)
                    clear hown hown' hgrow hown2 hb3 hbX hbD x2 d1
                    go_wp2_with fail
                    go_roundg (3 - (k + 1))
                    case measure => have := unhide HFK; omega
                    case rel => exact ⟨k + 1, Nat.le_refl _, by omega, by go_num, (unhide RR).1, (unhide RR).2⟩
                · have hkn' : k = 3 := by omega
                  subst hkn'
                  have HPB9 : PlB V9 bx r2 := ⟨f, wa, wn, wc, oa, on, oc, hcx, (unhide HX).1, (unhide HX).2, hO⟩
                  have HPB3 := HPB9.on hbX
                  have hp4 := (put_len r2.outs 3).2
                  clear hcX hcx hO
                  cases ov
                  · have htw : tw = putTo r2.outs 3 := by rw [unhide HTK]; simp
                    have hJ := join_le tw 4 (by rw [htw]; exact hp4)
                    rw [← htw] at hown hlw
                    have hlen : (Lib.join tw [32]).length ≤ 100000 := by omega
                    obtain ⟨a2, c2', hv', hS, hcc⟩ := own_strs hown
                    rw [hv']
                    clear hv' hown hJ htw hp4
                    generalize hnn : tw.length = nn at *
                    go_wp2_with fail
                    refine (joined_any tw a2 nn c2' _ hS hlen (by omega)).mono ?_
                    rintro e X4 ⟨rfl, hb4⟩
                    have hbel4 := bstep (bstep hbel3 hbX) hb4
                    have HPB4 := HPB3.on hb4
                    clear hbel3 hbX hb4 HPB3 hS
                    generalize joinW tw = g at *
                    have E3 := hide (three_app out g [10])
                    go_wp2_with fail
                    go_roundg (t.length - (i + 1))
                    case measure => have := unhide HFU; omega
                    case rel => exact ⟨i + 1, i + 1, (out ++ g) ++ [10], r2, Nat.le_refl _, by omega, Nat.le_refl _, by go_num, by go_num, congrArg Value.string (unhide E3), HOF3, HPB4, hbel4⟩
                  · have htw : tw = putTo r2.outs 3 ++ [dOver] := by rw [unhide HTK]; simp
                    have hJ := join_le tw 4 (by
                      rw [htw]
                      intro y hy
                      rcases List.mem_append.1 hy with h | h
                      · exact hp4 y h
                      · rw [List.mem_singleton.1 h]; decide)
                    have htl : tw.length = (putTo r2.outs 3).length + 1 := by rw [htw]; simp
                    have hlen : (Lib.join tw [32]).length ≤ 100000 := by omega
                    clear hJ hp4
                    go_wp2_with (at_builtin; refine wpList_append_own _ rfl _ _ 57 rfl (V9.heap.size) 9 i0 (.string .empty) 1 16 Tryz.underlying57 hi0 hz0 hz1 hz2 rfl (by decide) _ _ _ rfl (hown.alloc _) ⟨X.heap.size, 0, none⟩ 1 1 [.string ⟨#[111, 118, 101, 114]⟩] rfl rfl ?c1 ?c2 ?c3 ?c4 ?c5 ?_)
                    case c2 => rfl
                    case c3 => unfold maxLen; omega
                    case c4 => omega
                    case c5 => have := hbX.size; simp; omega
                    intro v' W3 hown' hgrow _
                    have hb3 : Below V9.heap.size V9 W3 := hbX.trans (((Below.refl _ X).alloc (hbX.size) _).grown hgrow (by have := hbX.size; simp; omega) (fun k hk => (hown.lt k hk).1))
                    have hown2 : W3.ownsRow V9.heap.size 9 1 v' tw.length (strV tw) := by
                      rw [htw, strV_snoc, List.length_append]
                      exact hown'
                    have hlw2 : tw.length ≤ 4 := by omega
                    have HPB5 := HPB9.on hb3
                    have hbel4 := bstep hbel3 hb3
                    clear hown hown' hgrow hb3 HPB3 HPB9 hbel3 htw htl hlw
                    obtain ⟨a2, c2', hv', hS, hcc⟩ := own_strs hown2
                    rw [hv']
                    clear hv' hown2
                    generalize hnn : tw.length = nn at *
                    go_wp2_with fail
                    refine (joined_any tw a2 nn c2' _ hS hlen (by omega)).mono ?_
                    rintro e X4 ⟨rfl, hb4⟩
                    have hbel5 := bstep hbel4 hb4
                    have HPB6 := HPB5.on hb4
                    clear hbel4 hb4 HPB5 hS
                    generalize joinW tw = g at *
                    have E3 := hide (three_app out g [10])
                    go_wp2_with fail
                    go_roundg (t.length - (i + 1))
                    case measure => have := unhide HFU; omega
                    case rel => exact ⟨i + 1, i + 1, (out ++ g) ++ [10], r2, Nat.le_refl _, by omega, Nat.le_refl _, by go_num, by go_num, congrArg Value.string (unhide E3), HOF3, HPB6, hbel5⟩
end Go.Proofs.YtongajonecgdpagGreatDoor
