/- The desk, the program's small parts: Cut at a line feed, Join, lineOf, tickBy. -/
import Derived.Test.YtongajonecgdpagGreatDoorDeskA
import Derived.Test.YtongajonecgdpagGreatDoorPhrC
import Derived.Test.YtongajonecgdpagGreatDoorEvalP
import Derived.Test.YtongajonecgdpagGreatDoorShelf
import Derived.Test.YtongajonecgdpagGreatDoorWalkT
import Derived.Deep.RegionHeld3
import Derived.Test.YtongajonecgdpagGreatDoorDeskB
import Derived.Test.YtongajonecgdpagGreatDoorShowP
import Derived.Test.YtongajonecgdpagGreatDoorTextS
import Derived.Deep.LoopGhost
import Derived.Test.YtongajonecgdpagGreatDoorProgL
import Derived.Test.YtongajonecgdpagGreatDoorPlayB
namespace Go.Proofs.YtongajonecgdpagGreatDoor
open Go.RowKit

set_option maxRecDepth 100000 in
theorem scut_any (a b : List UInt8) (ha : (10 : UInt8) ∉ a) (hl : (a ++ 10 :: b).length ≤ 100000) (w : World) :
    Calls Tryz.prog 40 #[.string ⟨(a ++ 10 :: b).toArray⟩, .string ⟨#[10]⟩] w fun e w' => e = .returned (.tuple #[.string ⟨a.toArray⟩, .string ⟨b.toArray⟩, .bool true]) ∧ Below w.heap.size w w' := by
  have hix : Lib.indexByte (⟨(a ++ 10 :: b).toArray⟩ : ByteArray).data.toList 10 = (a.length : Int) := index_at a b ha
  have ht : (⟨(a ++ 10 :: b).toArray⟩ : ByteArray).extract 0 a.length = ⟨a.toArray⟩ := by rw [str_take]; simp
  have hd : (⟨(a ++ 10 :: b).toArray⟩ : ByteArray).extract (a.length + 1) (a ++ 10 :: b).length = ⟨b.toArray⟩ := by rw [str_drop]; simp
  have hle : a.length + 1 ≤ (a ++ 10 :: b).length := by simp
  generalize a ++ 10 :: b = t at *
  have c1 : (0 : Int) ≤ (a.length : Int) := by omega
  have c2 : (a.length : Int) ≤ (t.length : Int) := by omega
  have c3 : (0 : Int) ≤ (a.length : Int) + 1 := by omega
  have c4 : (a.length : Int) + 1 ≤ (t.length : Int) := by omega
  go_enter Tryz.func40, Tryz.ntmps40
  go_wp2_with fail
  refine (Tryz.stringslite_Index_one ⟨t.toArray⟩ 10 _).mono ?_
  rintro e w' ⟨rfl, rfl⟩
  rw [hix]
  go_wp2_with fail
  go_region
  all_goals go_wp2_with fail
  all_goals go_ret3
  all_goals exact ⟨rfl, (Below.refl _ _).drew⟩
theorem lcut_any (a b : List UInt8) (ha : (10 : UInt8) ∉ a) (hl : (a ++ 10 :: b).length ≤ 100000) (w : World) :
    Calls Tryz.prog 16 #[.string ⟨(a ++ 10 :: b).toArray⟩, .string ⟨#[10]⟩] w fun e w' => e = .returned (.tuple #[.string ⟨a.toArray⟩, .string ⟨b.toArray⟩, .bool true]) ∧ Below w.heap.size w w' := by
  have C := scut_any a b ha hl
  generalize a ++ 10 :: b = t at *
  go_enter Tryz.func16, Tryz.ntmps16
  go_wp2_with fail
  refine (C _).mono ?_
  rintro e w' ⟨rfl, hb⟩
  go_wp2_with fail
  go_ret3
  exact ⟨rfl, hb⟩

theorem join_any (l : List (List UInt8)) (b c : Nat) (w : World) (hc : ∀ j (h : j < l.length), w.cell? ⟨b, j, none⟩ = some (.string ⟨l[j].toArray⟩)) (hb : b < w.heap.size) (hcap : l.length ≤ c) (hl : l.length ≤ 20) (hm : (Lib.join l [32]).length ≤ 100000) :
    Calls Tryz.prog 117 #[.slice (some ⟨b, 0, none⟩) l.length c, .string ⟨#[32]⟩] w fun e w' => e = .returned (.string ⟨(Lib.join l [32]).toArray⟩) ∧ Below w.heap.size w w' := by
  have e1 : (l.map (fun x => (⟨x.toArray⟩ : ByteArray))).map (fun x => x.data.toList) = l := by
    rw [List.map_map]
    conv => rhs; rw [← List.map_id l]
    exact List.map_congr_left (fun x _ => rfl)
  have h := Tryz.strings_Join b 0 c (l.map (fun x => (⟨x.toArray⟩ : ByteArray))) ⟨#[32]⟩ w (fun j x hx => by
    rw [List.getElem?_map] at hx
    cases hj : l[j]? with
    | none => rw [hj] at hx; cases hx
    | some y =>
      rw [hj] at hx
      injection hx with hx
      obtain ⟨hlt, hy⟩ := List.getElem?_eq_some_iff.1 hj
      rw [Nat.zero_add, hc j hlt, hy, ← hx]) hb (by rw [List.length_map]; omega) (by rw [List.length_map]; exact hcap) (by
      rw [e1]
      show (Lib.join l [32]).length ≤ _
      omega)
  rw [List.length_map, e1] at h
  exact h
set_option maxRecDepth 100000 in
theorem lineOf_any (l : List (List UInt8)) (a : Option Addr) (n c : Nat) (w : World) (h : Strs w a n l) (hc : n ≤ c) (hl : l.length ≤ 20) (hm : (Lib.join l [32]).length ≤ 100000) :
    Calls Tryz.prog 79 #[.slice a n c] w fun e w' => e = .returned (.string ⟨(joinW l).toArray⟩) ∧ Below w.heap.size w w' := by
  by_cases h0 : l = []
  · subst h0
    have hn0 : n = 0 := h.1
    subst hn0
    go_enter Tryz.func79, Tryz.ntmps79
    go_wp2_with fail
    go_ret
    exact ⟨rfl, Below.refl _ _⟩
  obtain ⟨b, rfl, hbb, hcc⟩ := h.cell h0
  have hnl : n = l.length := h.1
  subst hnl
  have hpos : 0 < l.length := List.length_pos_iff.2 h0
  have hn1 : ((l.length : Int) == 0) = false := beq_eq_false_iff_ne.2 (by omega)
  have R := hide (show joinW l = Lib.join l [32] by unfold joinW; rw [if_neg h0])
  have J := hide (fun W => join_any l b c W)
  have HC := hide hcc
  clear hcc h
  go_enter Tryz.func79, Tryz.ntmps79
  go_wp2_with fail
  refine (unhide J _ (unhide HC) hbb hc hl hm).mono ?_
  rintro e w' ⟨rfl, hb⟩
  go_wp2_with fail
  go_ret
  exact ⟨ret_str (by rw [unhide R]), hb⟩

def insW (x : Nat) : Nat → List (List UInt8)
  | 0 => []
  | k + 1 => insW x k ++ (if x / 2 ^ k % 2 = 1 then [letter 120 k] else [])
theorem insW_len (x : Nat) : ∀ k, (insW x k).length ≤ k
  | 0 => Nat.le_refl _
  | k + 1 => by
    have := insW_len x k
    unfold insW
    split <;> simp <;> omega
theorem ins_joined (x : Nat) : ∀ k, Lib.join (dTick :: insW x k) [32] = dTick ++ insT x k
  | 0 => by simp [insW, insT, Lib.join_one]
  | k + 1 => by
    have ih := ins_joined x k
    unfold insW insT
    split
    · rw [show dTick :: (insW x k ++ [letter 120 k]) = (dTick :: insW x k) ++ [letter 120 k] from rfl, join_snoc (by simp), ih]
      simp
    · rw [List.append_nil, List.append_nil, ih]
theorem bit_cast (x k : Nat) : (x : Int) / 2 ^ k % 2 = ((x / 2 ^ k % 2 : Nat) : Int) := by push_cast; rfl

set_option maxRecDepth 100000 in
set_option maxHeartbeats 2000000 in
theorem tickBy_any (x : Nat) (hx : x < 8) (w : World) :
    Calls Tryz.prog 42 #[.int .i64 (x : Int)] w fun e w' => e = .returned (.string ⟨(tickL x).toArray⟩) ∧ Below w.heap.size w w' := by
  obtain ⟨i0, hi, hz0, hz1, hz2⟩ := info_parts Tryz.infoStr
  go_enter Tryz.func42, Tryz.ntmps42
  go_wp2_with fail
  have hb0 : Below w.heap.size w (w.alloc (.cells #[.string ⟨#[116, 105, 99, 107]⟩] 9)) := (Below.refl _ _).alloc (Nat.le_refl _) _
  have hown0 : (w.alloc (.cells #[.string ⟨#[116, 105, 99, 107]⟩] 9)).ownsRow w.heap.size 9 1 (.slice (some ⟨w.heap.size, 0, none⟩) 1 1) (dTick :: insW x 0).length (strV (dTick :: insW x 0)) := World.ownsRow_lit w _ 1 (Nat.le_refl _) (by decide) rfl
  generalize w.alloc (.cells #[.string ⟨#[116, 105, 99, 107]⟩] 9) = w1 at *
  go_loopw [3, 6] (fun v kv wr => ∃ k : Nat, k ≤ 3 ∧ kv = .int .i64 k ∧ wr.ownsRow w.heap.size 9 1 v (dTick :: insW x k).length (strV (dTick :: insW x k)) ∧ Below w.heap.size w wr) (fun _ kv _ => 3 - (intOf kv).toNat)
  case atStart => exact ⟨0, by omega, rfl, hown0, hb0⟩
  case round =>
    clear hown0 hb0
    obtain ⟨k, hk, rfl, hown, hbel⟩ := hrel
    by_cases hk3 : k < 3
    · have hki : (k : Int) < 3 := by omega
      have hge : 0 ≤ (x : Int) / 2 ^ k := Int.ediv_nonneg (by omega) (Int.pow_nonneg (by decide))
      have hle : (x : Int) / 2 ^ k ≤ 1048576 := Int.le_trans (Int.ediv_le_self _ (by omega)) (by omega)
      have hand := and_one ((x : Int) / 2 ^ k) hge hle
      have hlw := insW_len x k
      rw [bit_cast] at hand
      rcases (show x / 2 ^ k % 2 = 0 ∨ x / 2 ^ k % 2 = 1 by omega) with hb | hb
      · have R := hide (show insW x (k + 1) = insW x k by show insW x k ++ _ = _; rw [if_neg (by omega), List.append_nil])
        rw [hb] at hand
        go_wp2_with fail
        exact ⟨⟨k + 1, by omega, by go_num, by rw [unhide R]; exact hown, hbel⟩, by simp [intOf]; omega⟩
      · have R := hide (show dTick :: insW x (k + 1) = (dTick :: insW x k) ++ [letter 120 k] by show dTick :: (insW x k ++ _) = _; rw [if_pos hb]; rfl)
        rw [hb] at hand
        go_wp2_with fail
        refine (In_any k (by omega) _).mono ?_
        rintro e w' ⟨rfl, rfl⟩
        go_wp2_with (at_builtin; refine wpList_append_own _ rfl _ _ 57 rfl (w.heap.size) 9 i0 (.string .empty) 1 16 Tryz.underlying57 hi hz0 hz1 hz2 rfl (by decide) _ _ _ rfl (hown.alloc _) ⟨w'.heap.size, 0, none⟩ 1 1 [.string ⟨(letter 120 k).toArray⟩] rfl rfl ?c1 ?c2 ?c3 ?c4 ?c5 ?_)
        case c1 =>
          intro j u hj
          match j, hj with
          | 0, hj => simp at hj; subst hj; simp [Addr.add]
        case c2 => intro u hu; simp at hu; subst hu; rfl
        case c3 =>
          have hq : (insW x k).length ≤ 2 := by omega
          show (insW x k).length + 1 + 1 ≤ maxLen
          exact Nat.le_trans (Nat.add_le_add_right (Nat.add_le_add_right hq 1) 1) (by decide)
        case c4 =>
          have hlc : (dTick :: insW x k).length = (insW x k).length + 1 := rfl
          rw [hlc]; omega
        case c5 => have := hbel.size; simp; omega
        intro v' w3 hown' hgrow _
        have hb3 : Below w.heap.size w w3 := hbel.trans (((Below.refl _ w').alloc (hbel.size) _).grown hgrow (by have := hbel.size; simp; omega) (fun k hk => (hown.lt k hk).1))
        have hown2 : w3.ownsRow w.heap.size 9 1 v' (dTick :: insW x (k + 1)).length (strV (dTick :: insW x (k + 1))) := by
          rw [unhide R, strV_snoc, List.length_append]
          exact hown'
        have RR := hide (And.intro hown2 hb3)
        clear hown hown' hgrow hown2 hb3 hbel
        go_wp2_with fail
        exact ⟨⟨k + 1, by omega, by go_num, (unhide RR).1, (unhide RR).2⟩, by simp [intOf]; omega⟩
    · have hk3' : k = 3 := by omega
      subst hk3'
      have hj := ins_joined x 3
      have hlw := insW_len x 3
      have R := hide (show joinW (dTick :: insW x 3) = tickL x by unfold joinW; rw [if_neg (by simp), hj]; rfl)
      have hlen : (Lib.join (dTick :: insW x 3) [32]).length ≤ 100000 := by
        rw [hj]
        have := insT_le x 3
        simp [dTick]
        omega
      have hl20 : (dTick :: insW x 3).length ≤ 20 := by simp; omega
      clear hj hlw
      obtain ⟨a2, c2, hv', hS, hcc⟩ := own_strs hown
      rw [hv']
      clear hv' hown
      generalize dTick :: insW x 3 = ws at *
      have hn : ws.length = ws.length := rfl
      generalize hnn : ws.length = nn at hS hcc ⊢
      go_wp2_with fail
      refine (lineOf_any ws a2 nn c2 _ hS hcc hl20 hlen).mono ?_
      rintro e w4 ⟨rfl, hb4⟩
      go_wp2_with fail
      go_ret
      exact ⟨ret_str (by rw [unhide R]), bstep hbel hb4⟩

/-- The player in its box: the program's nodes and where it rests, whatever is written into the box. -/
def PlK (w : World) (b : Nat) (p : List NodeD) (r : RestD) : Prop := ∃ na nn nc f wa wn wc oa on oc, Cells w b [.slice na nn nc, .bool f, .slice wa wn wc, .slice oa on oc] 45 ∧ Kp [b] w (fun V => Nodes V na nn p) ∧ nn ≤ nc ∧ Kp [b] w (fun V => RestAt V r f wa wn oa on) ∧ wn ≤ wc
theorem PlK.on {w w' : World} {b : Nat} {p : List NodeD} {r : RestD} (h : PlK w b p r) (hb : Below w.heap.size w w') : PlK w' b p r := by
  obtain ⟨na, nn, nc, f, wa, wn, wc, oa, on, oc, h1, h2, h3, h4, h5⟩ := h
  exact ⟨na, nn, nc, f, wa, wn, wc, oa, on, oc, h1.onB hb, h2.on hb, h3, h4.on hb, h5⟩
theorem PlK.lt {w : World} {b : Nat} {p : List NodeD} {r : RestD} (h : PlK w b p r) : b < w.heap.size := by
  obtain ⟨na, nn, nc, f, wa, wn, wc, oa, on, oc, h1, _⟩ := h
  exact h1.lt
theorem kept_put {G : List Nat} {W : World} {b : Nat} (hb : b ∈ G) (v1 v2 v3 : Value) : KeptG G W (((W.setCell ⟨b, 1, none⟩ v1).setCell ⟨b, 2, none⟩ v2).setCell ⟨b, 3, none⟩ v3) :=
  ((KeptG.set (k := 1) v1 hb).trans (KeptG.set (k := 2) v2 hb)).trans (KeptG.set (k := 3) v3 hb)
theorem plk_put {w W : World} {b : Nat} {p : List NodeD} {r r2 : RestD} (h : PlK w b p r) (hb : Below w.heap.size w W) {f2 : Bool} {wa2 oa2 : Option Addr} {wn2 wc2 on2 oc2 : Nat} (hR : Kp [b] W (fun V => RestAt V r2 f2 wa2 wn2 oa2 on2)) (hwc : wn2 ≤ wc2) :
    PlK (((W.setCell ⟨b, 1, none⟩ (.bool f2)).setCell ⟨b, 2, none⟩ (.slice wa2 wn2 wc2)).setCell ⟨b, 3, none⟩ (.slice oa2 on2 oc2)) b p r2 := by
  obtain ⟨na, nn, nc, f, wa, wn, wc, oa, on, oc, h1, h2, h3, _, _⟩ := h
  have hm : b ∈ [b] := by simp
  have hk := kept_put hm (W := W) (.bool f2) (.slice wa2 wn2 wc2) (.slice oa2 on2 oc2)
  exact ⟨na, nn, nc, f2, wa2, wn2, wc2, oa2, on2, oc2, (((h1.onB hb).set 1 (.bool f2)).set 2 (.slice wa2 wn2 wc2)).set 3 (.slice oa2 on2 oc2), (h2.on hb).step hk (fun g hg => Or.inl hg), h3, hR.step hk (fun g hg => Or.inl hg), hwc⟩
theorem below_put1 {B : Nat} {w0 W : World} {b : Nat} (h : Below B w0 W) (hB : B ≤ b) (v1 v2 v3 : Value) : Below B w0 (((W.setCell ⟨b, 1, none⟩ v1).setCell ⟨b, 2, none⟩ v2).setCell ⟨b, 3, none⟩ v3) :=
  ((h.setCell (p := ⟨b, 1, none⟩) hB v1).setCell (p := ⟨b, 2, none⟩) hB v2).setCell (p := ⟨b, 3, none⟩) hB v3

set_option maxRecDepth 100000 in
set_option maxHeartbeats 2000000 in
/-- Begin, of a good program: two rows of its own. -/
theorem WBegin_own (p : List NodeD) (a : Option Addr) (n c : Nat) (w : World) (h : Nodes w a n p) (e0 : checkP p = 0) :
    Calls Tryz.prog 10 #[.slice a n c] w fun e w' => ∃ gW gO, e = .returned (.tuple #[.agg #[.bool true, .slice (some ⟨gW, 0, none⟩) n n, .slice (some ⟨gO, 0, none⟩) 3 3], .int .i64 0]) ∧ w.heap.size ≤ gW ∧ w.heap.size ≤ gO ∧ BoolRow w' gW (falsesL n) ∧ BoolRow w' gO (falsesL 3) ∧ Below w.heap.size w w' := by
  have hb0 : Below w.heap.size w (w.alloc (.cells #[.bool false, .slice none 0 0, .slice none 0 0] 35)) := (Below.refl _ _).alloc (Nat.le_refl _) _
  have hc0 := Cells.new w [.bool false, .slice none 0 0, .slice none 0 0] 35
  have hP := h.below hb0
  have HN := hide h.1
  clear h
  go_enter Tryz.func10, Tryz.ntmps10
  go_wp2_with fail
  generalize w.alloc (.cells #[.bool false, .slice none 0 0, .slice none 0 0] 35) = w1 at *
  refine (PCheck_any p _ _ _ _ hP).mono ?_
  rintro e w2 ⟨rfl, hb2⟩
  have hc2 := hc0.onB hb2
  have B2 := bstep hb0 hb2
  clear hc0 hb0 hb2 hP
  have hn14 : n ≤ 14 := by have := (pok_of e0).few; have := unhide HN; omega
  rw [e0]
  clear e0
  go_wp2_with fail
  refine (blank_any a n c _ hn14).mono ?_
  rintro e w3 ⟨gW, gO, rfl, hne, hgW, hgO, hrW, hrO, hb3⟩
  have hc3 := hc2.onB hb3
  have B3 := bstep B2 hb3
  have hlw := B2.size
  have hl2 := hc2.lt
  clear hc2 B2 hb3
  have hb4 := (Below.refl _ w3).alloc (Nat.le_refl _) (.cells #[.bool true, .slice (some ⟨gW, 0, none⟩) n n, .slice (some ⟨gO, 0, none⟩) 3 3] 35)
  have hc4 := hc3.onB hb4
  have hrW4 := hrW.on hb4
  have hrO4 := hrO.on hb4
  have B4 := bstep B3 hb4
  have z0 := hc4.cell 0
  have z1 := hc4.cell 1
  have z2 := hc4.cell 2
  have f0 := hc4.frozen 0
  have f1 := hc4.frozen 1
  have f2 := hc4.frozen 2
  have hc9 := ((hc4.set 0 (.bool true)).set 1 (.slice (some ⟨gW, 0, none⟩) n n)).set 2 (.slice (some ⟨gO, 0, none⟩) 3 3)
  have y0 := hc9.cell 0
  have y1 := hc9.cell 1
  have y2 := hc9.cell 2
  have B9 := ((B4.setCell (p := ⟨w.heap.size, 0, none⟩) (Nat.le_refl _) (.bool true)).setCell (p := ⟨w.heap.size, 1, none⟩) (Nat.le_refl _) (.slice (some ⟨gW, 0, none⟩) n n)).setCell (p := ⟨w.heap.size, 2, none⟩) (Nat.le_refl _) (.slice (some ⟨gO, 0, none⟩) 3 3)
  have hnW : gW ≠ w.heap.size := by omega
  have hnO : gO ≠ w.heap.size := by omega
  have rW9 := ((hrW4.far (k := 0) (v := .bool true) hnW).far (k := 1) (v := .slice (some ⟨gW, 0, none⟩) n n) hnW).far (k := 2) (v := .slice (some ⟨gO, 0, none⟩) 3 3) hnW
  have rO9 := ((hrO4.far (k := 0) (v := .bool true) hnO).far (k := 1) (v := .slice (some ⟨gW, 0, none⟩) n n) hnO).far (k := 2) (v := .slice (some ⟨gO, 0, none⟩) 3 3) hnO
  go_wp2_with fail
  generalize ((((w3.alloc (.cells #[.bool true, .slice (some ⟨gW, 0, none⟩) n n, .slice (some ⟨gO, 0, none⟩) 3 3] 35)).setCell ⟨w.heap.size, 0, none⟩ (.bool true)).setCell ⟨w.heap.size, 1, none⟩ (.slice (some ⟨gW, 0, none⟩) n n)).setCell ⟨w.heap.size, 2, none⟩ (.slice (some ⟨gO, 0, none⟩) 3 3)) = w9 at *
  exact bodyPost_ret (v := .tuple #[.agg #[.bool true, .slice (some ⟨gW, 0, none⟩) n n, .slice (some ⟨gO, 0, none⟩) 3 3], .int .i64 0]) (by simp [results, Tryz.results10, go_sem, y0, y1, y2]) rfl ⟨gW, gO, rfl, by omega, by omega, rW9, rO9, B9⟩

set_option maxRecDepth 100000 in
set_option maxHeartbeats 2000000 in
theorem again_any (b : Nat) (p : List NodeD) (r : RestD) (w : World) (h : PlK w b p r) (e0 : checkP p = 0) :
    Calls Tryz.prog 15 #[.pointer (some ⟨b, 0, none⟩)] w fun e w' => e = .returned (.string ⟨dOk.toArray⟩) ∧ PlK w' b p (beginR p) ∧ Below b w w' := by
  have hlt := h.lt
  have HP := hide h
  obtain ⟨na, nn, nc, f, wa, wn, wc, oa, on, oc, h1, h2, h3, _, _⟩ := h
  have x0 := h1.cell 0
  have HC := hide h1
  have hN := h2.now
  have HNN := hide (show nn = p.length from hN.1)
  clear h1 h2
  go_enter Tryz.func15, Tryz.ntmps15
  go_wp2_with fail
  refine (WBegin_own p na nn nc _ hN e0).mono ?_
  rintro e w2 ⟨gW, gO, rfl, hgW, hgO, hrW, hrO, hb2⟩
  have hc2 := (unhide HC).onB hb2
  have z1 := hc2.cell 1
  have z2 := hc2.cell 2
  have z3 := hc2.cell 3
  have y1 := hc2.frozen 1
  have y2 := hc2.frozen 2
  have y3 := hc2.frozen 3
  have yl := hc2.lt
  have hKR : Kp [b] w2 (fun V => RestAt V (beginR p) true (some ⟨gW, 0, none⟩) nn (some ⟨gO, 0, none⟩) 3) := fun V hk => by
    have e : beginR p = ⟨true, falsesL p.length, falsesL 3⟩ := by unfold beginR; rw [if_pos e0]
    rw [e, ← unhide HNN]
    have hn14 : nn ≤ 14 := by rw [unhide HNN]; exact (pok_of e0).few
    exact ⟨rfl, (hrW.kept hk (by simp; omega)).boolsN (by simp [falsesL]) hn14, (hrO.kept hk (by simp; omega)).boolsN (by simp [falsesL]) (by omega)⟩
  have HPL := plk_put (unhide HP) hb2 hKR (Nat.le_refl nn) (oc2 := 3)
  have HB := below_put1 (hb2.mono (Nat.le_of_lt hlt)) (Nat.le_refl b) (.bool true) (.slice (some ⟨gW, 0, none⟩) nn nn) (.slice (some ⟨gO, 0, none⟩) 3 3)
  clear hKR hrW hrO hc2 x0
  go_wp2_with fail
  go_ret
  exact ⟨rfl, HPL, HB⟩

set_option maxRecDepth 100000 in
set_option maxHeartbeats 2000000 in
theorem waiting_any (b : Nat) (p : List NodeD) (r : RestD) (w : World) (h : PlK w b p r) (hr : restE p r = 0) :
    Calls Tryz.prog 41 #[.pointer (some ⟨b, 0, none⟩)] w fun e w' => e = .returned (.string ⟨(joinW (waitTo r.waits p.length)).toArray⟩) ∧ Below w.heap.size w w' := by
  obtain ⟨na, nn, nc, f, wa, wn, wc, oa, on, oc, h1, _, _, h4, h5⟩ := h
  have x2 := h1.cell 2
  have hW := h4.now.waits
  have hwl : r.waits.length = p.length := (restE_len hr).2.1
  have hp14 : p.length ≤ 14 := (pok_of (restE_len hr).1).few
  have HWN := hide (show wn = p.length by rw [hW.1, hwl])
  have hwn14 : wn ≤ 14 := by rw [unhide HWN]; exact hp14
  rw [← unhide HWN]
  have hwl2 : r.waits.length = wn := hW.1.symm
  have HWL := hide hwl2
  clear h1 h4 hwl hp14 hr hwl2
  obtain ⟨i0, hi0, hz0, hz1, hz2⟩ := info_parts Tryz.infoStr
  go_enter Tryz.func41, Tryz.ntmps41
  go_wp2_with fail
  go_loopw [3, 12] (fun v kv X => ∃ k : Nat, k ≤ wn ∧ kv = .int .i64 k ∧ X.ownsRow w.heap.size 9 1 v (waitTo r.waits k).length (strV (waitTo r.waits k)) ∧ Below w.heap.size w X) (fun _ kv _ => wn - (intOf kv).toNat)
  case atStart => exact ⟨0, Nat.zero_le _, rfl, World.ownsRow_nil _ _ _ _, Below.refl _ _⟩
  case round =>
    clear x2
    obtain ⟨k, hk, rfl, hown, hbX⟩ := hrel
    rename World => X
    have hlw := (wait_len r.waits k (by omega)).1
    by_cases hkn : k < wn
    · have hki : (k : Int) < (wn : Int) := by omega
      have hkw : k < r.waits.length := by have := unhide HWL; omega
      obtain ⟨b2, off, rfl, hbb, d1⟩ := (hW.below hbX).at hkw
      have HWY := hide (wait_yes hkw)
      have HWN := hide (wait_no hkw)
      have HWW := hide hW
      generalize r.waits[k] = wk at *
      cases wk
      · have R := hide (unhide HWN rfl)
        clear HWN HWY hW
        go_wp2_with fail
        exact ⟨⟨k + 1, by omega, by go_num, by rw [unhide R]; exact hown, hbX⟩, by simp [intOf]; omega⟩
      · have R := hide (unhide HWY rfl)
        clear HWN HWY hW
        go_wp2_with fail
        refine (Tryz.strconv_Itoa_small k (by omega) _).mono ?_
        rintro e X2 ⟨rfl, rfl⟩
        rename World => X
        go_wp2_with (at_builtin; refine wpList_append_own _ rfl _ _ 57 rfl (w.heap.size) 9 i0 (.string .empty) 1 16 Tryz.underlying57 hi0 hz0 hz1 hz2 rfl (by decide) _ _ _ rfl (hown.alloc _) ⟨X.heap.size, 0, none⟩ 1 1 [.string ⟨(Lib.decDigits k).toArray⟩] rfl rfl ?c1 ?c2 ?c3 ?c4 ?c5 ?_)
        case c1 =>
          intro j u hj
          match j, hj with
          | 0, hj => simp at hj; subst hj; simp [Addr.add]
        case c2 => intro u hu; simp at hu; subst hu; rfl
        case c3 => unfold maxLen; omega
        case c4 => omega
        case c5 => have := hbX.size; simp; omega
        intro v' W3 hown' hgrow _
        have hb3 : Below w.heap.size w W3 := hbX.trans (((Below.refl _ X).alloc (hbX.size) _).grown hgrow (by have := hbX.size; simp; omega) (fun k hk => (hown.lt k hk).1))
        have hown2 : W3.ownsRow w.heap.size 9 1 v' (waitTo r.waits (k + 1)).length (strV (waitTo r.waits (k + 1))) := by
          rw [unhide R, strV_snoc, List.length_append]
          exact hown'
        have RR := hide (And.intro hown2 hb3)
        clear hown hown' hgrow hown2 hb3 hbX d1
        go_wp2_with fail
        exact ⟨⟨k + 1, by omega, by go_num, (unhide RR).1, (unhide RR).2⟩, by simp [intOf]; omega⟩
    · have hkn' : k = wn := by omega
      subst hkn'
      have hJ := join_le (waitTo r.waits k) 2 (wait_len r.waits k (by omega)).2
      have hlen : (Lib.join (waitTo r.waits k) [32]).length ≤ 100000 := by omega
      have hl20 : (waitTo r.waits k).length ≤ 20 := by omega
      obtain ⟨a2, c2', hv', hS, hcc⟩ := own_strs hown
      rw [hv']
      clear hv' hown hJ hW
      obtain ⟨ws, hws⟩ : ∃ ws, waitTo r.waits k = ws := ⟨_, rfl⟩
      rw [hws] at hS hcc hl20 hlen ⊢
      have HWS := hide hws
      clear hws
      generalize hnn : ws.length = nn' at hS hcc ⊢
      go_wp2_with fail
      refine (lineOf_any ws a2 nn' c2' _ hS hcc hl20 hlen).mono ?_
      rintro e X4 ⟨rfl, hb4⟩
      go_wp2_with fail
      go_ret
      exact ⟨ret_str (by rw [unhide HWS]), bstep hbX hb4⟩

theorem kp_less {w : World} {b : Nat} {W : World} {Q : World → Prop} (h : Kp (List.range w.heap.size) W Q) (hb : b < w.heap.size) : Kp [b] W Q := h.less (fun g hg => by
  rw [List.mem_singleton.1 hg]; exact List.mem_range.2 hb)
set_option maxRecDepth 100000 in
set_option maxHeartbeats 4000000 in
theorem ptick_any (b : Nat) (p : List NodeD) (r : RestD) (x : Nat) (w : World) (h : PlK w b p r) (hr : restE p r = 0) (hx : x < 8) :
    Calls Tryz.prog 43 #[.pointer (some ⟨b, 0, none⟩), .int .i64 (x : Int)] w fun e w' => e = .returned (.string ⟨(joinW (tickW p r x)).toArray⟩) ∧ PlK w' b p (walkR p r (x : Int)) ∧ Below b w w' := by
  have HP := hide h
  have hblt := h.lt
  obtain ⟨na, nn, nc, f, wa, wn, wc, oa, on, oc, h1, h2, h3, h4, h5⟩ := h
  have q0 := h1.cell 0
  have q1 := h1.cell 1
  have q2 := h1.cell 2
  have q3 := h1.cell 3
  have hwe := walk_at hr hx
  have HWE := hide hwe
  have HWR := hide (walk_rest hwe)
  have HC := hide h1
  have hN := h2.now
  have hRA := h4.now
  have hbd := (Below.refl w.heap.size w).drew
  have hb00 := Below.refl w.heap.size w
  have hSZ0 := (Below.refl _ w).alloc (Nat.le_refl _) (.cells #[.bool false, .slice none 0 0, .slice none 0 0] 35)
  have hSZ := hSZ0.drew
  have hZ0 := Cells.new w [.bool false, .slice none 0 0, .slice none 0 0] 35
  have hZ := hZ0.onB (Below.refl _ _).drew
  have hNd := hN.below hbd
  have hRd := hRA.below hbd
  have hNz := hN.below hSZ
  have hRz := hRA.below hSZ
  have HS : ∀ W : World, Below w.heap.size w W → Below w.heap.size w W ∧ W.cell? ⟨b, 0, none⟩ = some (.slice na nn nc) ∧ W.cell? ⟨b, 1, none⟩ = some (.bool f) ∧ W.cell? ⟨b, 2, none⟩ = some (.slice wa wn wc) ∧ W.cell? ⟨b, 3, none⟩ = some (.slice oa on oc) := fun W hW =>
    ⟨hW, (hW.cell (p := ⟨b, 0, none⟩) hblt).trans q0, (hW.cell (p := ⟨b, 1, none⟩) hblt).trans q1, (hW.cell (p := ⟨b, 2, none⟩) hblt).trans q2, (hW.cell (p := ⟨b, 3, none⟩) hblt).trans q3⟩
  clear h1 h2 h4 hN hRA hr hwe
  go_enter Tryz.func43, Tryz.ntmps43
  go_wp2_with fail
  go_region_held3 (fun W => Below w.heap.size w W ∧ W.cell? ⟨b, 0, none⟩ = some (.slice na nn nc) ∧ W.cell? ⟨b, 1, none⟩ = some (.bool f) ∧ W.cell? ⟨b, 2, none⟩ = some (.slice wa wn wc) ∧ W.cell? ⟨b, 3, none⟩ = some (.slice oa on oc))
    ((first | with_reducible exact HS _ hb00 | with_reducible exact HS _ hbd | with_reducible exact HS _ hSZ0 | with_reducible exact HS _ hSZ | with_reducible exact HS _ hSB | with_reducible exact HS _ hSD | with_reducible exact HS _ hSC | with_reducible exact HS _ hS8))
    ((first
      | (go_at_call 11; (first | refine (WStep_any p na nn nc r f wa oa wn wc on oc (x : Int) _ hNd hRd h3 h5).mono ?_ | refine (WStep_any p na nn nc r f wa oa wn wc on oc (x : Int) _ hNz hRz h3 h5).mono ?_); rintro e wB ⟨f2, wa2, wn2, wc2, oa2, on2, oc2, he, hKR, hwc2, hbB⟩; rw [unhide HWE] at he; subst he; have hSB : Below w.heap.size w wB := (by first | with_reducible exact bstep hbd hbB | with_reducible exact bstep hSZ hbB);
         (try have hcZ : Cells wB w.heap.size [.bool false, .slice none 0 0, .slice none 0 0] 35 := by with_reducible exact hZ.onB hbB); (try have k0 := hcZ.cell 0); (try have k1 := hcZ.cell 1); (try have k2 := hcZ.cell 2); (try have fz0 := hcZ.frozen 0); (try have fz1 := hcZ.frozen 1); (try have fz2 := hcZ.frozen 2); (try have hlZ := hcZ.lt);
         have hSD := bstep hSB ((Below.refl _ wB).alloc (Nat.le_refl _) (.cells #[.bool false, .slice none 0 0, .slice none 0 0] 35)); have hSC := bstep hSB ((Below.refl _ wB).alloc (Nat.le_refl _) (.cells #[.bool f2, .slice wa2 wn2 wc2, .slice oa2 on2 oc2] 35)); have hS8 := below_put hSB (Nat.le_refl w.heap.size) (.bool f2) (.slice wa2 wn2 wc2) (.slice oa2 on2 oc2))))
  all_goals go_upto_region 2 with fail
  case' refine_2.refine_3.refine_3.refine_3.refine_3.refine_3.refine_3.refine_3.refine_3.refine_3.refine_1.refine_2.refine_3.refine_3.refine_3.refine_3.refine_1.refine_2.refine_1.refine_2.refine_3.refine_3 =>
    have hcS := Cells.new wB [.bool f2, .slice wa2 wn2 wc2, .slice oa2 on2 oc2] 35
    have hAl := (Below.refl _ wB).alloc (Nat.le_refl _) (.cells #[.bool f2, .slice wa2 wn2 wc2, .slice oa2 on2 oc2] 35)
    have hK5 := kp_less (Kp.on (show Kp (List.range w.heap.size) wB _ from hKR) hAl) hblt
    have hB5 := hSC
    have hbx : wB.heap.size ≠ b := by have := hSB.size; omega
    clear hS8 hSC hSD hAl HS hSZ0 hSZ hZ0 hZ hNd hRd hNz hRz hKR hbB hSB hbd hb00 q0 q1 q2 q3
    generalize wB.alloc (.cells #[.bool f2, .slice wa2 wn2 wc2, .slice oa2 on2 oc2] 35) = W5 at *
    generalize wB.heap.size = bx at *
  case' refine_2.refine_3.refine_3.refine_3.refine_3.refine_3.refine_3.refine_3.refine_3.refine_3.refine_2.refine_1.refine_2.refine_1.refine_2.refine_3.refine_3.refine_3.refine_3.refine_1.refine_2.refine_3.refine_3 =>
    have hcS := ((hcZ.set 0 (.bool f2)).set 1 (.slice wa2 wn2 wc2)).set 2 (.slice oa2 on2 oc2)
    have hKR2 : Kp (List.range (w.heap.size + 1)) wB _ := (show Kp (List.range (w.alloc (.cells #[.bool false, .slice none 0 0, .slice none 0 0] 35)).heap.size) wB _ from hKR).less (fun g hg => by simpa using hg)
    have hm : w.heap.size ∈ List.range (w.heap.size + 1) := List.mem_range.2 (Nat.lt_succ_self _)
    have hK5 : Kp [b] _ _ := (hKR2.step (kept3m hm (.bool f2) (.slice wa2 wn2 wc2) (.slice oa2 on2 oc2)) (fun g hg => Or.inl hg)).less (fun g hg => by rw [List.mem_singleton.1 hg]; exact List.mem_range.2 (by omega))
    have hB5 := hS8
    have hbx : w.heap.size ≠ b := by omega
    clear hS8 hSC hSD HS hSZ0 hSZ hZ0 hZ hNd hRd hNz hRz hKR hKR2 hm hbB hSB hbd hb00 q0 q1 q2 q3 k0 k1 k2 fz0 fz1 fz2 hlZ hcZ
    generalize ((wB.setCell ⟨w.heap.size, 0, none⟩ (.bool f2)).setCell ⟨w.heap.size, 1, none⟩ (.slice wa2 wn2 wc2)).setCell ⟨w.heap.size, 2, none⟩ (.slice oa2 on2 oc2) = W5 at *
    generalize hws : w.heap.size = bx at hcS hbx ⊢
    clear hws
  · have s0 := hcS.cell 0
    have s1 := hcS.cell 1
    have s2 := hcS.cell 2
    have hc5 := (unhide HC).onB hB5
    have z1 := hc5.cell 1
    have z2 := hc5.cell 2
    have z3 := hc5.cell 3
    have y1 := hc5.frozen 1
    have y2 := hc5.frozen 2
    have y3 := hc5.frozen 3
    have yl := hc5.lt
    have HPL := plk_put (unhide HP) hB5 hK5 hwc2 (oc2 := oc2)
    have HB6 := below_put1 (hB5.mono (Nat.le_of_lt hblt)) (Nat.le_refl b) (.bool f2) (.slice wa2 wn2 wc2) (.slice oa2 on2 oc2)
    have hO := (hK5 _ (kept_put (W := W5) (b := b) (List.mem_singleton.2 rfl) (.bool f2) (.slice wa2 wn2 wc2) (.slice oa2 on2 oc2))).outs
    have hcS6 : Cells (((W5.setCell ⟨b, 1, none⟩ (.bool f2)).setCell ⟨b, 2, none⟩ (.slice wa2 wn2 wc2)).setCell ⟨b, 3, none⟩ (.slice oa2 on2 oc2)) bx [.bool f2, .slice wa2 wn2 wc2, .slice oa2 on2 oc2] 35 := by
      show (World.heap _)[bx]? = _
      rw [set_other hbx, set_other hbx, set_other hbx]
      exact hcS
    clear hK5 hcS
    go_upto_region 3 with fail
    clear s0 s1 s2 z1 z2 z3 y1 y2 y3 yl hc5 hB5
    generalize ((W5.setCell ⟨b, 1, none⟩ (.bool f2)).setCell ⟨b, 2, none⟩ (.slice wa2 wn2 wc2)).setCell ⟨b, 3, none⟩ (.slice oa2 on2 oc2) = W6 at *
    have hol3 : (walkR p r (x : Int)).outs.length = 3 := (restE_len (unhide HWR)).2.2
    have HTK := hide (show tickW p r x = putTo (walkR p r (x : Int)).outs 3 ++ (if walkO p r (x : Int) then [dOver] else []) from rfl)
    obtain ⟨tw, htw0⟩ : ∃ tw, tickW p r x = tw := ⟨_, rfl⟩
    obtain ⟨r2, hr2⟩ : ∃ r2, walkR p r (x : Int) = r2 := ⟨_, rfl⟩
    obtain ⟨ov, hov⟩ : ∃ ov, walkO p r (x : Int) = ov := ⟨_, rfl⟩
    rw [htw0, hr2, hov] at HTK
    rw [hr2] at HPL hO hol3
    rw [hov]
    have HTW := hide htw0
    have HR2 := hide hr2
    have hon : on2 = 3 := by rw [hO.1, hol3]
    have s2 := hcS6.cell 2
    clear htw0 hr2 hov
    obtain ⟨i0, hi0, hz0, hz1, hz2⟩ := info_parts Tryz.infoStr
    subst hon
    go_wp2_with fail
    clear s2
    go_loopw [8, 32] (fun v kv X => ∃ k : Nat, k ≤ 3 ∧ kv = .int .i64 k ∧ X.ownsRow W6.heap.size 9 1 v (putTo r2.outs k).length (strV (putTo r2.outs k)) ∧ Below W6.heap.size W6 X) (fun _ kv _ => 3 - (intOf kv).toNat)
    case atStart => exact ⟨0, Nat.zero_le _, rfl, World.ownsRow_nil _ _ _ _, Below.refl _ _⟩
    case round =>
      obtain ⟨k, hk, rfl, hown, hbX⟩ := hrel
      rename World => X
      have hlw := (put_len r2.outs k).1
      by_cases hkn : k < 3
      · have hki : (k : Int) < 3 := by omega
        have hkw : k < r2.outs.length := by omega
        obtain ⟨b2, off, rfl, hbb, d1⟩ := (hO.below hbX).at hkw
        have HWY := hide (put_yes hkw)
        have HWN := hide (put_no hkw)
        generalize r2.outs[k] = wk at *
        cases wk
        · have R := hide (unhide HWN rfl)
          clear HWN HWY hO
          go_wp2_with fail
          exact ⟨⟨k + 1, by omega, by go_num, by rw [unhide R]; exact hown, hbX⟩, by simp [intOf]; omega⟩
        · have R := hide (unhide HWY rfl)
          clear HWN HWY hO
          go_wp2_with fail
          refine (Out_any k (by omega) _).mono ?_
          rintro e X2 ⟨rfl, rfl⟩
          rename World => X
          go_wp2_with (at_builtin; refine wpList_append_own _ rfl _ _ 57 rfl (W6.heap.size) 9 i0 (.string .empty) 1 16 Tryz.underlying57 hi0 hz0 hz1 hz2 rfl (by decide) _ _ _ rfl (hown.alloc _) ⟨X.heap.size, 0, none⟩ 1 1 [.string ⟨(letter 65 k).toArray⟩] rfl rfl ?c1 ?c2 ?c3 ?c4 ?c5 ?_)
          case c1 =>
            intro j u hj
            match j, hj with
            | 0, hj => simp at hj; subst hj; simp [Addr.add]
          case c2 => intro u hu; simp at hu; subst hu; rfl
          case c3 => unfold maxLen; omega
          case c4 => omega
          case c5 => have := hbX.size; simp; omega
          intro v' W3 hown' hgrow _
          have hb3 : Below W6.heap.size W6 W3 := hbX.trans (((Below.refl _ X).alloc (hbX.size) _).grown hgrow (by have := hbX.size; simp; omega) (fun k hk => (hown.lt k hk).1))
          have hown2 : W3.ownsRow W6.heap.size 9 1 v' (putTo r2.outs (k + 1)).length (strV (putTo r2.outs (k + 1))) := by
            rw [unhide R, strV_snoc, List.length_append]
            exact hown'
          have RR := hide (And.intro hown2 hb3)
          clear hown hown' hgrow hown2 hb3 hbX d1
          go_wp2_with fail
          exact ⟨⟨k + 1, by omega, by go_num, (unhide RR).1, (unhide RR).2⟩, by simp [intOf]; omega⟩
      · have hkn' : k = 3 := by omega
        subst hkn'
        have hp4 := (put_len r2.outs 3).2
        clear hO
        cases ov
        · have htw : tw = putTo r2.outs 3 := by rw [unhide HTK]; simp
          have hJ := join_le tw 4 (by rw [htw]; exact hp4)
          rw [← htw] at hown hlw
          have hlen : (Lib.join tw [32]).length ≤ 100000 := by omega
          have hl20 : tw.length ≤ 20 := by omega
          obtain ⟨a2, c2', hv', hS, hcc⟩ := own_strs hown
          rw [hv']
          clear hv' hown hJ htw hp4 hlw
          generalize hnn : tw.length = nn' at hS hcc ⊢
          go_wp2_with fail
          refine (lineOf_any tw a2 nn' c2' _ hS hcc hl20 hlen).mono ?_
          rintro e X4 ⟨rfl, hb4⟩
          go_wp2_with fail
          go_ret
          have hb9 := bstep hbX hb4
          exact ⟨ret_str (by rw [unhide HTW]), by rw [unhide HR2]; exact HPL.on hb9, HB6.trans (hb9.mono (Nat.le_of_lt HPL.lt))⟩
        · have htw : tw = putTo r2.outs 3 ++ [dOver] := by rw [unhide HTK]; simp
          have hJ := join_le tw 4 (by
            rw [htw]
            intro y hy
            rcases List.mem_append.1 hy with h | h
            · exact hp4 y h
            · rw [List.mem_singleton.1 h]; decide)
          have htl : tw.length = (putTo r2.outs 3).length + 1 := by rw [htw]; simp
          have hlen : (Lib.join tw [32]).length ≤ 100000 := by omega
          have hl20 : tw.length ≤ 20 := by omega
          clear hJ hp4
          go_wp2_with (at_builtin; refine wpList_append_own _ rfl _ _ 57 rfl (W6.heap.size) 9 i0 (.string .empty) 1 16 Tryz.underlying57 hi0 hz0 hz1 hz2 rfl (by decide) _ _ _ rfl (hown.alloc _) ⟨X.heap.size, 0, none⟩ 1 1 [.string ⟨#[111, 118, 101, 114]⟩] rfl rfl ?c1 ?c2 ?c3 ?c4 ?c5 ?_)
          case c2 => rfl
          case c3 => unfold maxLen; omega
          case c4 => omega
          case c5 => have := hbX.size; simp; omega
          intro v' W3 hown' hgrow _
          have hb3 : Below W6.heap.size W6 W3 := hbX.trans (((Below.refl _ X).alloc (hbX.size) _).grown hgrow (by have := hbX.size; simp; omega) (fun k hk => (hown.lt k hk).1))
          have hown2 : W3.ownsRow W6.heap.size 9 1 v' tw.length (strV tw) := by
            rw [htw, strV_snoc, List.length_append]
            exact hown'
          clear hown hown' hgrow htw htl hlw
          obtain ⟨a2, c2', hv', hS, hcc⟩ := own_strs hown2
          rw [hv']
          clear hv' hown2
          generalize hnn : tw.length = nn' at hS hcc ⊢
          go_wp2_with fail
          refine (lineOf_any tw a2 nn' c2' _ hS hcc hl20 hlen).mono ?_
          rintro e X4 ⟨rfl, hb4⟩
          go_wp2_with fail
          go_ret
          have hb9 := bstep hb3 hb4
          exact ⟨ret_str (by rw [unhide HTW]), by rw [unhide HR2]; exact HPL.on hb9, HB6.trans (hb9.mono (Nat.le_of_lt HPL.lt))⟩
  · have s0 := hcS.cell 0
    have s1 := hcS.cell 1
    have s2 := hcS.cell 2
    have hc5 := (unhide HC).onB hB5
    have z1 := hc5.cell 1
    have z2 := hc5.cell 2
    have z3 := hc5.cell 3
    have y1 := hc5.frozen 1
    have y2 := hc5.frozen 2
    have y3 := hc5.frozen 3
    have yl := hc5.lt
    have HPL := plk_put (unhide HP) hB5 hK5 hwc2 (oc2 := oc2)
    have HB6 := below_put1 (hB5.mono (Nat.le_of_lt hblt)) (Nat.le_refl b) (.bool f2) (.slice wa2 wn2 wc2) (.slice oa2 on2 oc2)
    have hO := (hK5 _ (kept_put (W := W5) (b := b) (List.mem_singleton.2 rfl) (.bool f2) (.slice wa2 wn2 wc2) (.slice oa2 on2 oc2))).outs
    have hcS6 : Cells (((W5.setCell ⟨b, 1, none⟩ (.bool f2)).setCell ⟨b, 2, none⟩ (.slice wa2 wn2 wc2)).setCell ⟨b, 3, none⟩ (.slice oa2 on2 oc2)) bx [.bool f2, .slice wa2 wn2 wc2, .slice oa2 on2 oc2] 35 := by
      show (World.heap _)[bx]? = _
      rw [set_other hbx, set_other hbx, set_other hbx]
      exact hcS
    clear hK5 hcS
    go_upto_region 3 with fail
    clear s0 s1 s2 z1 z2 z3 y1 y2 y3 yl hc5 hB5
    generalize ((W5.setCell ⟨b, 1, none⟩ (.bool f2)).setCell ⟨b, 2, none⟩ (.slice wa2 wn2 wc2)).setCell ⟨b, 3, none⟩ (.slice oa2 on2 oc2) = W6 at *
    have hol3 : (walkR p r (x : Int)).outs.length = 3 := (restE_len (unhide HWR)).2.2
    have HTK := hide (show tickW p r x = putTo (walkR p r (x : Int)).outs 3 ++ (if walkO p r (x : Int) then [dOver] else []) from rfl)
    obtain ⟨tw, htw0⟩ : ∃ tw, tickW p r x = tw := ⟨_, rfl⟩
    obtain ⟨r2, hr2⟩ : ∃ r2, walkR p r (x : Int) = r2 := ⟨_, rfl⟩
    obtain ⟨ov, hov⟩ : ∃ ov, walkO p r (x : Int) = ov := ⟨_, rfl⟩
    rw [htw0, hr2, hov] at HTK
    rw [hr2] at HPL hO hol3
    rw [hov]
    have HTW := hide htw0
    have HR2 := hide hr2
    have hon : on2 = 3 := by rw [hO.1, hol3]
    have s2 := hcS6.cell 2
    clear htw0 hr2 hov
    obtain ⟨i0, hi0, hz0, hz1, hz2⟩ := info_parts Tryz.infoStr
    subst hon
    go_wp2_with fail
    clear s2
    go_loopw [8, 32] (fun v kv X => ∃ k : Nat, k ≤ 3 ∧ kv = .int .i64 k ∧ X.ownsRow W6.heap.size 9 1 v (putTo r2.outs k).length (strV (putTo r2.outs k)) ∧ Below W6.heap.size W6 X) (fun _ kv _ => 3 - (intOf kv).toNat)
    case atStart => exact ⟨0, Nat.zero_le _, rfl, World.ownsRow_nil _ _ _ _, Below.refl _ _⟩
    case round =>
      obtain ⟨k, hk, rfl, hown, hbX⟩ := hrel
      rename World => X
      have hlw := (put_len r2.outs k).1
      by_cases hkn : k < 3
      · have hki : (k : Int) < 3 := by omega
        have hkw : k < r2.outs.length := by omega
        obtain ⟨b2, off, rfl, hbb, d1⟩ := (hO.below hbX).at hkw
        have HWY := hide (put_yes hkw)
        have HWN := hide (put_no hkw)
        generalize r2.outs[k] = wk at *
        cases wk
        · have R := hide (unhide HWN rfl)
          clear HWN HWY hO
          go_wp2_with fail
          exact ⟨⟨k + 1, by omega, by go_num, by rw [unhide R]; exact hown, hbX⟩, by simp [intOf]; omega⟩
        · have R := hide (unhide HWY rfl)
          clear HWN HWY hO
          go_wp2_with fail
          refine (Out_any k (by omega) _).mono ?_
          rintro e X2 ⟨rfl, rfl⟩
          rename World => X
          go_wp2_with (at_builtin; refine wpList_append_own _ rfl _ _ 57 rfl (W6.heap.size) 9 i0 (.string .empty) 1 16 Tryz.underlying57 hi0 hz0 hz1 hz2 rfl (by decide) _ _ _ rfl (hown.alloc _) ⟨X.heap.size, 0, none⟩ 1 1 [.string ⟨(letter 65 k).toArray⟩] rfl rfl ?d1 ?d2 ?d3 ?d4 ?d5 ?_)
          case d1 =>
            intro j u hj
            match j, hj with
            | 0, hj => simp at hj; subst hj; simp [Addr.add]
          case d2 => intro u hu; simp at hu; subst hu; rfl
          case d3 => unfold maxLen; omega
          case d4 => omega
          case d5 => have := hbX.size; simp; omega
          intro v' W3 hown' hgrow _
          have hb3 : Below W6.heap.size W6 W3 := hbX.trans (((Below.refl _ X).alloc (hbX.size) _).grown hgrow (by have := hbX.size; simp; omega) (fun k hk => (hown.lt k hk).1))
          have hown2 : W3.ownsRow W6.heap.size 9 1 v' (putTo r2.outs (k + 1)).length (strV (putTo r2.outs (k + 1))) := by
            rw [unhide R, strV_snoc, List.length_append]
            exact hown'
          have RR := hide (And.intro hown2 hb3)
          clear hown hown' hgrow hown2 hb3 hbX d1
          go_wp2_with fail
          exact ⟨⟨k + 1, by omega, by go_num, (unhide RR).1, (unhide RR).2⟩, by simp [intOf]; omega⟩
      · have hkn' : k = 3 := by omega
        subst hkn'
        have hp4 := (put_len r2.outs 3).2
        clear hO
        cases ov
        · have htw : tw = putTo r2.outs 3 := by rw [unhide HTK]; simp
          have hJ := join_le tw 4 (by rw [htw]; exact hp4)
          rw [← htw] at hown hlw
          have hlen : (Lib.join tw [32]).length ≤ 100000 := by omega
          have hl20 : tw.length ≤ 20 := by omega
          obtain ⟨a2, c2', hv', hS, hcc⟩ := own_strs hown
          rw [hv']
          clear hv' hown hJ htw hp4 hlw
          generalize hnn : tw.length = nn' at hS hcc ⊢
          go_wp2_with fail
          refine (lineOf_any tw a2 nn' c2' _ hS hcc hl20 hlen).mono ?_
          rintro e X4 ⟨rfl, hb4⟩
          go_wp2_with fail
          go_ret
          have hb9 := bstep hbX hb4
          exact ⟨ret_str (by rw [unhide HTW]), by rw [unhide HR2]; exact HPL.on hb9, HB6.trans (hb9.mono (Nat.le_of_lt HPL.lt))⟩
        · have htw : tw = putTo r2.outs 3 ++ [dOver] := by rw [unhide HTK]; simp
          have hJ := join_le tw 4 (by
            rw [htw]
            intro y hy
            rcases List.mem_append.1 hy with h | h
            · exact hp4 y h
            · rw [List.mem_singleton.1 h]; decide)
          have htl : tw.length = (putTo r2.outs 3).length + 1 := by rw [htw]; simp
          have hlen : (Lib.join tw [32]).length ≤ 100000 := by omega
          have hl20 : tw.length ≤ 20 := by omega
          clear hJ hp4
          go_wp2_with (at_builtin; refine wpList_append_own _ rfl _ _ 57 rfl (W6.heap.size) 9 i0 (.string .empty) 1 16 Tryz.underlying57 hi0 hz0 hz1 hz2 rfl (by decide) _ _ _ rfl (hown.alloc _) ⟨X.heap.size, 0, none⟩ 1 1 [.string ⟨#[111, 118, 101, 114]⟩] rfl rfl ?d1 ?d2 ?d3 ?d4 ?d5 ?_)
          case d2 => rfl
          case d3 => unfold maxLen; omega
          case d4 => omega
          case d5 => have := hbX.size; simp; omega
          intro v' W3 hown' hgrow _
          have hb3 : Below W6.heap.size W6 W3 := hbX.trans (((Below.refl _ X).alloc (hbX.size) _).grown hgrow (by have := hbX.size; simp; omega) (fun k hk => (hown.lt k hk).1))
          have hown2 : W3.ownsRow W6.heap.size 9 1 v' tw.length (strV tw) := by
            rw [htw, strV_snoc, List.length_append]
            exact hown'
          clear hown hown' hgrow htw htl hlw
          obtain ⟨a2, c2', hv', hS, hcc⟩ := own_strs hown2
          rw [hv']
          clear hv' hown2
          generalize hnn : tw.length = nn' at hS hcc ⊢
          go_wp2_with fail
          refine (lineOf_any tw a2 nn' c2' _ hS hcc hl20 hlen).mono ?_
          rintro e X4 ⟨rfl, hb4⟩
          go_wp2_with fail
          go_ret
          have hb9 := bstep hb3 hb4
          exact ⟨ret_str (by rw [unhide HTW]), by rw [unhide HR2]; exact HPL.on hb9, HB6.trans (hb9.mono (Nat.le_of_lt HPL.lt))⟩

theorem tick_some {l : List UInt8} {x : Nat} (hx : x < 8) (h : tickL x = l) (hno : ∀ y, y < x → tickL y ≠ l) : insOf l = some x := by
  unfold insOf
  rw [List.find?_eq_some_iff_getElem]
  refine ⟨by simpa using h, x, by simpa using hx, by simp, fun j hj => ?_⟩
  simpa using hno j hj
theorem tick_none {l : List UInt8} (hno : ∀ y, y < 8 → tickL y ≠ l) : insOf l = none := by
  unfold insOf
  rw [List.find?_eq_none]
  intro y hy
  simpa using hno y (List.mem_range.1 hy)
theorem dig1 : Lib.decDigits 1 = [49] := dig_one 1 (by omega)

set_option maxRecDepth 100000 in
set_option maxHeartbeats 4000000 in
theorem line_any (b : Nat) (p : List NodeD) (s : List UInt8) (r : RestD) (ln : List UInt8) (w : World) (h : PlK w b p r) (hr : restE p r = 0) (hs : showL p = s) (hl : ln.length ≤ 4096) :
    Calls Tryz.prog 17 #[.pointer (some ⟨b, 0, none⟩), .string ⟨ln.toArray⟩] w fun e w' => e = .returned (.string ⟨(giveT p s r ln).toArray⟩) ∧ PlK w' b p (giveR p r ln) ∧ Below b w w' := by
  have hck : checkP p = 0 := (restE_len hr).1
  have hblt := h.lt
  by_cases c3 : ln = [114, 101, 115, 116]
  · have G := hide (give_rest (p := p) (s := s) (r := r) c3)
    subst c3
    go_enter Tryz.func17, Tryz.ntmps17
    go_wp2_with fail
    refine (waiting_any b p r _ h hr).mono ?_
    rintro e w2 ⟨rfl, hb⟩
    go_wp2_with fail
    go_ret
    exact ⟨ret_str (by rw [(unhide G).1]), by rw [(unhide G).2]; exact h.on hb, hb.mono (Nat.le_of_lt hblt)⟩
  have c3f : (ln == [114, 101, 115, 116]) = false := by simp [c3]
  by_cases c1 : ln = [115, 104, 111, 119]
  · have G := hide (give_show (p := p) (s := s) (r := r) c1)
    subst c1
    have H := h
    obtain ⟨na, nn, nc, f, wa, wn, wc, oa, on, oc, h1, h2, h3, _, _⟩ := h
    have x0 := h1.cell 0
    have hN := h2.now
    have HS := hide hs
    clear h1 h2 hs
    go_enter Tryz.func17, Tryz.ntmps17
    go_wp2_with fail
    refine (Show_any p na nn nc _ hN h3).mono ?_
    rintro e w2 ⟨rfl, hb⟩
    rw [unhide HS]
    go_wp2_with fail
    go_ret
    exact ⟨ret_str (by rw [(unhide G).1]), by rw [(unhide G).2]; exact H.on hb, hb.mono (Nat.le_of_lt hblt)⟩
  have c1f : (ln == [115, 104, 111, 119]) = false := by simp [c1]
  by_cases c2 : ln = [97, 103, 97, 105, 110]
  · have G := hide (give_again (p := p) (s := s) (r := r) c2)
    subst c2
    clear hs
    go_enter Tryz.func17, Tryz.ntmps17
    go_wp2_with fail
    refine (again_any b p r _ h hck).mono ?_
    rintro e w2 ⟨rfl, hP, hb⟩
    go_wp2_with fail
    go_ret
    exact ⟨ret_str (by rw [(unhide G).1]), by rw [(unhide G).2]; exact hP, hb⟩
  have c2f : (ln == [97, 103, 97, 105, 110]) = false := by simp [c2]
  have GT := hide (fun x (hi : insOf ln = some x) => give_tick (p := p) (s := s) (r := r) c1 c2 c3 hi)
  have GE := hide (fun (hi : insOf ln = none) => give_err (p := p) (s := s) (r := r) c1 c2 c3 hi)
  have HCK := hide hck
  clear c1 c2 c3 hs hck
  go_enter Tryz.func17, Tryz.ntmps17
  go_wp2_with fail
  go_loopw [28] (fun xv X => ∃ x : Nat, x ≤ 8 ∧ xv = .int .i64 x ∧ Hid (∀ y, y < x → tickL y ≠ ln) ∧ Below w.heap.size w X) (fun xv _ => 8 - (intOf xv).toNat)
  case atStart => exact ⟨0, by omega, rfl, hide (fun y hy => by omega), Below.refl _ _⟩
  case round =>
    obtain ⟨x, hx, rfl, HNO, hbX⟩ := hrel
    rename World => X
    by_cases h8 : x < 8
    · have hx8 : (x : Int) < 8 := by omega
      go_wp2_with fail
      refine (tickBy_any x h8 _).mono ?_
      rintro e X2 ⟨rfl, hb⟩
      have hbX2 := bstep hbX hb
      clear hbX hb
      by_cases he : tickL x = ln
      · have G := hide (unhide GT x (tick_some h8 he (unhide HNO)))
        have hP2 := h.on hbX2
        subst he
        clear c1f c2f c3f
        go_wp2_with fail
        refine (ptick_any b p r x _ hP2 hr h8).mono ?_
        rintro e X3 ⟨rfl, hP3, hb3⟩
        go_wp2_with fail
        go_ret
        exact ⟨ret_str (by rw [(unhide G).1]), by rw [(unhide G).2]; exact hP3, (hbX2.mono (Nat.le_of_lt hblt)).trans hb3⟩
      · have hef : (ln == tickL x) = false := by
          rw [beq_eq_false_iff_ne]
          exact fun e => he e.symm
        have HN2 := hide (show ∀ y, y < x + 1 → tickL y ≠ ln from fun y hy => if h : y < x then unhide HNO y h else by rw [show y = x by omega]; exact he)
        clear he
        generalize tickL x = u at *
        go_wp2_with fail
        exact ⟨⟨x + 1, by omega, by go_num, HN2, hbX2⟩, by simp [intOf]; omega⟩
    · have hx8 : x = 8 := by omega
      subst hx8
      have G := hide (unhide GE (tick_none (unhide HNO)))
      go_wp2_with fail
      refine (Tryz.strconv_Itoa_small 1 (by omega) _).mono ?_
      rintro e X2 ⟨rfl, rfl⟩
      rw [dig1]
      go_wp2_with fail
      go_ret
      exact ⟨ret_str (by rw [(unhide G).1]; rfl), by rw [(unhide G).2]; exact h.on hbX, hbX.mono (Nat.le_of_lt hblt)⟩

set_option maxRecDepth 100000 in
set_option maxHeartbeats 4000000 in
theorem Play_any (s t : List UInt8) (ht : t.length ≤ maxLen) (w : World) :
    Calls Tryz.prog 5 #[.string ⟨s.toArray⟩, .string ⟨t.toArray⟩] w fun e w' => e = .returned (.tuple #[.string ⟨(deskT s t).toArray⟩, .int .i64 (deskE s t)]) ∧ Below w.heap.size w w' := by
  unfold maxLen at ht
  go_enter Tryz.func5, Tryz.ntmps5
  go_wp2_with fail
  refine (Read_any s _).mono ?_
  rintro e w1 ⟨na, nn, nc, rfl, hN, hnc, B1⟩
  by_cases e0 : readE s = 0
  case neg =>
    have hq : (readE s != 0) = true := by simp [e0]
    have HE := hide (show deskE s t = readE s by unfold deskE; rw [if_neg e0])
    have HT := hide (show deskT s t = [] by unfold deskT; rw [unhide HE, if_neg e0])
    obtain ⟨er, her⟩ : ∃ er, readE s = er := ⟨_, rfl⟩
    rw [her] at hq HE ⊢
    clear e0 her hN
    go_wp2_with fail
    go_ret2
    rw [unhide HE, unhide HT]
    exact ⟨rfl, B1⟩
  rw [e0]
  have HRE := hide e0
  obtain ⟨hck, hsh⟩ := read_show e0
  have HCK := hide hck
  have HSH := hide hsh
  have HFW := hide (pok_of hck).few
  obtain ⟨p, hp⟩ : ∃ p, readL s = p := ⟨_, rfl⟩
  rw [hp] at hN HCK HSH HFW
  have HRL := hide hp
  have HS4 := hide (show s.length ≤ 4096 by
    rcases Nat.lt_or_ge 4096 s.length with h | h
    · exfalso
      have := unhide HRE
      unfold readE at this
      rw [if_pos h] at this
      exact absurd this (by decide)
    · exact h)
  clear e0 hck hsh hp
  by_cases hmany : 4096 < t.length ∨ 40 < t.count 10
  · have HE := hide (show deskE s t = 2 by unfold deskE; rw [unhide HRE, if_pos rfl, if_pos hmany])
    have HT := hide (show deskT s t = [] by unfold deskT; rw [unhide HE]; rfl)
    rcases (show 4096 < t.length ∨ (¬ 4096 < t.length ∧ 40 < t.count 10) by omega) with hm | ⟨hm, hm2⟩
    · have hmi : (4096 : Int) < (t.length : Int) := by omega
      clear hmany
      go_wp2_with fail
      go_ret2
      rw [unhide HE, unhide HT]
      exact ⟨rfl, B1⟩
    · have hmi : ¬ (4096 : Int) < (t.length : Int) := by omega
      have hci : (40 : Int) < ((t.count 10 : Nat) : Int) := by omega
      clear hmany
      go_wp2_with fail
      refine (Tryz.strings_Count_one ⟨t.toArray⟩ 10 _).mono ?_
      rintro e w2 ⟨rfl, rfl⟩
      rw [show Lib.countByte (⟨t.toArray⟩ : ByteArray).data.toList 10 = t.count 10 from rfl]
      go_wp2_with fail
      go_ret2
      rw [unhide HE, unhide HT]
      exact ⟨rfl, B1⟩
  have hmi : ¬ (4096 : Int) < (t.length : Int) := by omega
  have hci : ¬ (40 : Int) < ((t.count 10 : Nat) : Int) := by omega
  have HM := hide hmany
  have HT4 := hide (show t.length ≤ 4096 by omega)
  have HC40 := hide (show t.count 10 ≤ 40 by omega)
  clear hmany
  go_wp2_with fail
  refine (Tryz.strings_Count_one ⟨t.toArray⟩ 10 _).mono ?_
  rintro e w2 ⟨rfl, rfl⟩
  rename World => w1
  rw [show Lib.countByte (⟨t.toArray⟩ : ByteArray).data.toList 10 = t.count 10 from rfl]
  by_cases hend : EndsW t
  case neg =>
    have hne : t ≠ [] := fun e => hend (Or.inl e)
    have hlast : ¬ t.getLast? = some 10 := fun e => hend (Or.inr e)
    have HE := hide (show deskE s t = 1 by unfold deskE; rw [unhide HRE, if_pos rfl, if_neg (unhide HM), if_neg (show ¬ (t = [] ∨ t.getLast? = some 10) from hend)])
    have HT := hide (show deskT s t = [] by unfold deskT; rw [unhide HE]; rfl)
    have hf : (t == []) = false := by simp [hne]
    have hsx : Lib.hasSuffix (⟨t.toArray⟩ : ByteArray).data.toList (⟨#[10]⟩ : ByteArray).data.toList = false := by
      show Lib.hasSuffix t [10] = false
      rw [suffix_is t hne]
      simp [hlast]
    clear hlast hend hne
    go_wp2_with fail
    refine (Tryz.strings_HasSuffix ⟨t.toArray⟩ ⟨#[10]⟩ _ (by show t.toArray.size ≤ _; rw [List.size_toArray]; omega)).mono ?_
    rintro e w2 ⟨rfl, rfl⟩
    rw [hsx]
    go_wp2_with fail
    go_ret2
    rw [unhide HE, unhide HT]
    exact ⟨rfl, B1⟩
  have HE := hide (show deskE s t = 0 by unfold deskE; rw [unhide HRE, if_pos rfl, if_neg (unhide HM), if_pos (show t = [] ∨ t.getLast? = some 10 from hend)])
  have HT := hide (show deskT s t = runD p s t [] (beginR p) by unfold deskT; rw [unhide HE, if_pos rfl, unhide HRL])
  have HEND := hide hend
  have HWL := hide (show (runD p s t [] (beginR p)).length ≤ 163880 by
    have h1 := run_len (unhide HFW) (unhide HS4) t [] (beginR p)
    have h2 := unhide HC40
    omega)
  have hsuf : t = [] ∨ (t ≠ [] ∧ Lib.hasSuffix (⟨t.toArray⟩ : ByteArray).data.toList (⟨#[10]⟩ : ByteArray).data.toList = true) := by
    rcases hend with h | h
    · exact Or.inl h
    · have hne : t ≠ [] := by intro e; rw [e] at h; simp at h
      exact Or.inr ⟨hne, by show Lib.hasSuffix t [10] = true; rw [suffix_is t hne]; simp [h]⟩
  have HSH' := HSH
  clear hend
  rcases hsuf with h0 | ⟨h0, hsx⟩
  · have hf : (t == []) = true := by simp [h0]
    clear h0
    go_upto_region 8 with fail
    clear hf hmi hci
    have hal := (Below.refl w1.heap.size w1).alloc (Nat.le_refl _) (.cells #[.slice na nn nc, .bool false, .slice none 0 0, .slice none 0 0] 45)
    have hcB := Cells.new w1 [.slice na nn nc, .bool false, .slice none 0 0, .slice none 0 0] 45
    have hP0 : PlK (w1.alloc (.cells #[.slice na nn nc, .bool false, .slice none 0 0, .slice none 0 0] 45)) w1.heap.size p ⟨false, [], []⟩ :=
      ⟨na, nn, nc, false, none, 0, 0, none, 0, 0, hcB, fun V hV => (hN.below (old_below hal (G := [w1.heap.size]) (by simp) hV)).old, hnc, fun V _ => ⟨rfl, ⟨rfl, Nat.zero_le _, Or.inl rfl⟩, ⟨rfl, Nat.zero_le _, Or.inl rfl⟩⟩, Nat.le_refl _⟩
    clear hcB hN
    go_wp2_with fail
    generalize w1.alloc (.cells #[.slice na nn nc, .bool false, .slice none 0 0, .slice none 0 0] 45) = W2 at *
    obtain ⟨bx, hbx⟩ : ∃ bx, w1.heap.size = bx := ⟨_, rfl⟩
    rw [hbx] at hP0 hal ⊢
    refine (again_any bx p _ _ hP0 (unhide HCK)).mono ?_
    rintro e W3 ⟨rfl, hP3, hb3⟩
    have hB3 := hal.trans hb3
    obtain ⟨whole, hwh⟩ : ∃ whole, runD p s t [] (beginR p) = whole := ⟨_, rfl⟩
    have HOF0 := hide (And.intro (unhide HEND) (And.intro (begin_ok (unhide HCK)) (show ([] : List UInt8) ++ runD p s t [] (beginR p) = whole from hwh)))
    have HBX := hide hbx
    rw [hwh] at HT HWL
    clear hal hb3 hP0 hbx hwh
    have ht4 := unhide HT4
    go_wp2_with fail
    go_loopg [1, 9] t.length (fun fu tv gv V => ∃ (u out : List UInt8) (r : RestD), u.length ≤ fu ∧ u.length ≤ 4096 ∧ tv = .string ⟨u.toArray⟩ ∧ gv = .string ⟨out.toArray⟩ ∧ Hid (EndsW u ∧ restE p r = 0 ∧ out ++ runD p s u [] r = whole) ∧ PlK V bx p r ∧ Below bx w1 V)
    case atStart => exact ⟨t, [], beginR p, Nat.le_refl _, ht4, rfl, rfl, HOF0, hP3, hB3⟩
    case round =>
      clear HOF0 hP3 hB3
      obtain ⟨u, out, r, hfu, hu4, rfl, rfl, HOF, hP, hbel⟩ := hrel
      rename World => V
      have HFU := hide hfu
      clear hfu
      by_cases h0 : u = []
      · subst h0
        have hout : out = whole := by
          have := (unhide HOF).2.2
          rwa [show runD p s [] [] r = [] from rfl, List.append_nil] at this
        subst hout
        clear HOF hP
        go_wp2_with fail
        go_ret2
        rw [unhide HE, unhide HT]
        exact ⟨rfl, bstep B1 (by rw [← unhide HBX] at hbel; exact hbel)⟩
      · obtain ⟨a, bb, e, ha⟩ := first_ten u (ends_mem (unhide HOF).1 h0)
        have C := hide (show ∀ W, Calls Tryz.prog 16 #[.string ⟨u.toArray⟩, .string ⟨#[10]⟩] W fun e w' => e = .returned (.tuple #[.string ⟨a.toArray⟩, .string ⟨bb.toArray⟩, .bool true]) ∧ Below W.heap.size W w' by
          rw [e]
          exact lcut_any a bb ha (by rw [← e]; omega))
        have hol : out.length ≤ 163880 := by
          have h1 := (unhide HOF).2.2
          have h2 := congrArg List.length h1
          rw [List.length_append] at h2
          have := unhide HWL
          omega
        have HOF2 := hide (show EndsW bb ∧ out ++ (giveT p s r a ++ [10]) ++ runD p s bb [] (giveR p r a) = whole from by
          obtain ⟨h1, _, h3⟩ := unhide HOF
          rw [e] at h1 h3
          rw [run_cut p s a bb [] r ha] at h3
          exact ⟨ends_on h1, by rw [← h3]; simp⟩)
        have hr := (unhide HOF).2.1
        have HRG := hide (give_ok (unhide HCK) hr a)
        have hgl := give_len (unhide HFW) (unhide HS4) r a
        have hul : u.length = a.length + 1 + bb.length := by rw [e]; simp; omega
        have hal4 : a.length ≤ 4096 := by omega
        have hbl4 : bb.length ≤ 4096 := by omega
        have hf : (u == []) = false := by simp [h0]
        have HUL := hide hul
        clear e ha HOF h0 hul
        go_wp2_with fail
        refine (unhide C _).mono ?_
        rintro e V2 ⟨rfl, hb⟩
        have hP2 := hP.on hb
        have hbel2 := hbel.trans (hb.mono (Nat.le_of_lt hP.lt))
        clear hP hb hbel hf
        go_wp2_with fail
        refine (line_any bx p s r a _ hP2 hr (unhide HSH) hal4).mono ?_
        rintro e V3 ⟨rfl, hP3, hb3⟩
        have hbel3 := hbel2.trans hb3
        obtain ⟨g, hg⟩ : ∃ g, giveT p s r a = g := ⟨_, rfl⟩
        rw [hg] at HOF2 hgl ⊢
        have E3 := hide (show (⟨out.toArray⟩ : ByteArray) ++ (⟨g.toArray⟩ ++ ⟨[10].toArray⟩) = ⟨(out ++ (g ++ [10])).toArray⟩ by rw [str_app, str_app])
        clear hP2 hr hb3 hbel2 hg
        go_wp2_with fail
        go_roundg bb.length
        case measure => have h1 := unhide HFU; have h2 := unhide HUL; omega
        case rel => exact ⟨bb, out ++ (g ++ [10]), giveR p r a, Nat.le_refl _, hbl4, rfl, congrArg Value.string (unhide E3), hide ⟨(unhide HOF2).1, unhide HRG, (unhide HOF2).2⟩, hP3, hbel3⟩
  · have hf : (t == []) = false := by simp [h0]
    clear h0
    go_wp2_with fail
    refine (Tryz.strings_HasSuffix ⟨t.toArray⟩ ⟨#[10]⟩ _ (by show t.toArray.size ≤ _; rw [List.size_toArray]; omega)).mono ?_
    rintro e w2 ⟨rfl, rfl⟩
    rename World => w1
    rw [hsx]
    go_upto_region 8 with fail
    clear hf hsx hmi hci
    have hal := (Below.refl w1.heap.size w1).alloc (Nat.le_refl _) (.cells #[.slice na nn nc, .bool false, .slice none 0 0, .slice none 0 0] 45)
    have hcB := Cells.new w1 [.slice na nn nc, .bool false, .slice none 0 0, .slice none 0 0] 45
    have hP0 : PlK (w1.alloc (.cells #[.slice na nn nc, .bool false, .slice none 0 0, .slice none 0 0] 45)) w1.heap.size p ⟨false, [], []⟩ :=
      ⟨na, nn, nc, false, none, 0, 0, none, 0, 0, hcB, fun V hV => (hN.below (old_below hal (G := [w1.heap.size]) (by simp) hV)).old, hnc, fun V _ => ⟨rfl, ⟨rfl, Nat.zero_le _, Or.inl rfl⟩, ⟨rfl, Nat.zero_le _, Or.inl rfl⟩⟩, Nat.le_refl _⟩
    clear hcB hN
    go_wp2_with fail
    generalize w1.alloc (.cells #[.slice na nn nc, .bool false, .slice none 0 0, .slice none 0 0] 45) = W2 at *
    obtain ⟨bx, hbx⟩ : ∃ bx, w1.heap.size = bx := ⟨_, rfl⟩
    rw [hbx] at hP0 hal ⊢
    refine (again_any bx p _ _ hP0 (unhide HCK)).mono ?_
    rintro e W3 ⟨rfl, hP3, hb3⟩
    have hB3 := hal.trans hb3
    obtain ⟨whole, hwh⟩ : ∃ whole, runD p s t [] (beginR p) = whole := ⟨_, rfl⟩
    have HOF0 := hide (And.intro (unhide HEND) (And.intro (begin_ok (unhide HCK)) (show ([] : List UInt8) ++ runD p s t [] (beginR p) = whole from hwh)))
    have HBX := hide hbx
    rw [hwh] at HT HWL
    clear hal hb3 hP0 hbx hwh
    have ht4 := unhide HT4
    go_wp2_with fail
    go_loopg [1, 9] t.length (fun fu tv gv V => ∃ (u out : List UInt8) (r : RestD), u.length ≤ fu ∧ u.length ≤ 4096 ∧ tv = .string ⟨u.toArray⟩ ∧ gv = .string ⟨out.toArray⟩ ∧ Hid (EndsW u ∧ restE p r = 0 ∧ out ++ runD p s u [] r = whole) ∧ PlK V bx p r ∧ Below bx w1 V)
    case atStart => exact ⟨t, [], beginR p, Nat.le_refl _, ht4, rfl, rfl, HOF0, hP3, hB3⟩
    case round =>
      clear HOF0 hP3 hB3
      obtain ⟨u, out, r, hfu, hu4, rfl, rfl, HOF, hP, hbel⟩ := hrel
      rename World => V
      have HFU := hide hfu
      clear hfu
      by_cases h0 : u = []
      · subst h0
        have hout : out = whole := by
          have := (unhide HOF).2.2
          rwa [show runD p s [] [] r = [] from rfl, List.append_nil] at this
        subst hout
        clear HOF hP
        go_wp2_with fail
        go_ret2
        rw [unhide HE, unhide HT]
        exact ⟨rfl, bstep B1 (by rw [← unhide HBX] at hbel; exact hbel)⟩
      · obtain ⟨a, bb, e, ha⟩ := first_ten u (ends_mem (unhide HOF).1 h0)
        have C := hide (show ∀ W, Calls Tryz.prog 16 #[.string ⟨u.toArray⟩, .string ⟨#[10]⟩] W fun e w' => e = .returned (.tuple #[.string ⟨a.toArray⟩, .string ⟨bb.toArray⟩, .bool true]) ∧ Below W.heap.size W w' by
          rw [e]
          exact lcut_any a bb ha (by rw [← e]; omega))
        have hol : out.length ≤ 163880 := by
          have h1 := (unhide HOF).2.2
          have h2 := congrArg List.length h1
          rw [List.length_append] at h2
          have := unhide HWL
          omega
        have HOF2 := hide (show EndsW bb ∧ out ++ (giveT p s r a ++ [10]) ++ runD p s bb [] (giveR p r a) = whole from by
          obtain ⟨h1, _, h3⟩ := unhide HOF
          rw [e] at h1 h3
          rw [run_cut p s a bb [] r ha] at h3
          exact ⟨ends_on h1, by rw [← h3]; simp⟩)
        have hr := (unhide HOF).2.1
        have HRG := hide (give_ok (unhide HCK) hr a)
        have hgl := give_len (unhide HFW) (unhide HS4) r a
        have hul : u.length = a.length + 1 + bb.length := by rw [e]; simp; omega
        have hal4 : a.length ≤ 4096 := by omega
        have hbl4 : bb.length ≤ 4096 := by omega
        have hf : (u == []) = false := by simp [h0]
        have HUL := hide hul
        clear e ha HOF h0 hul
        go_wp2_with fail
        refine (unhide C _).mono ?_
        rintro e V2 ⟨rfl, hb⟩
        have hP2 := hP.on hb
        have hbel2 := hbel.trans (hb.mono (Nat.le_of_lt hP.lt))
        clear hP hb hbel hf
        go_wp2_with fail
        refine (line_any bx p s r a _ hP2 hr (unhide HSH) hal4).mono ?_
        rintro e V3 ⟨rfl, hP3, hb3⟩
        have hbel3 := hbel2.trans hb3
        obtain ⟨g, hg⟩ : ∃ g, giveT p s r a = g := ⟨_, rfl⟩
        rw [hg] at HOF2 hgl ⊢
        have E3 := hide (show (⟨out.toArray⟩ : ByteArray) ++ (⟨g.toArray⟩ ++ ⟨[10].toArray⟩) = ⟨(out ++ (g ++ [10])).toArray⟩ by rw [str_app, str_app])
        clear hP2 hr hb3 hbel2 hg
        go_wp2_with fail
        go_roundg bb.length
        case measure => have h1 := unhide HFU; have h2 := unhide HUL; omega
        case rel => exact ⟨bb, out ++ (g ++ [10]), giveR p r a, Nat.le_refl _, hbl4, rfl, congrArg Value.string (unhide E3), hide ⟨(unhide HOF2).1, unhide HRG, (unhide HOF2).2⟩, hP3, hbel3⟩

def deskS : List UInt8 := [114, 101, 115, 116, 10, 116, 105, 99, 107, 10, 114, 101, 115, 116, 10, 116, 105, 99, 107, 32, 120, 10, 114, 101, 115, 116, 10, 116, 105, 99, 107, 32, 121, 32, 122, 10, 116, 105, 99, 107, 32, 120, 32, 121, 32, 122, 10, 114, 101, 115, 116, 10, 97, 103, 97, 105, 110, 10, 116, 105, 99, 107, 32, 122, 32, 121, 10, 116, 105, 99, 107, 32, 120, 10]
def deskW : List UInt8 := [45, 10, 45, 10, 51, 32, 54, 10, 65, 32, 66, 10, 57, 10, 67, 32, 111, 118, 101, 114, 10, 45, 10, 45, 10, 111, 107, 10, 101, 114, 114, 111, 114, 32, 49, 10, 45, 10]
theorem desk_run : runD playD playS deskS [] (beginR playD) = deskW := by decide +kernel
theorem desk_at : deskE playS deskS = 0 ∧ deskT playS deskS = deskW := by
  have hSR := show_read play_checked (by rw [play_shown]; decide)
  rw [play_shown] at hSR
  have h1 : deskE playS deskS = 0 := by
    unfold deskE
    rw [hSR.1, if_pos rfl]
    decide +kernel
  refine ⟨h1, ?_⟩
  unfold deskT
  rw [h1, if_pos rfl, hSR.2]
  exact desk_run

set_option maxRecDepth 100000 in
set_option maxHeartbeats 4000000 in
theorem deskBegun_any (w : World) :
    Calls Tryz.prog 7 #[] w fun e w' => e = .returned (.bool true) ∧ Below w.heap.size w w' := by
  have hda := desk_at
  go_enter Tryz.func7, Tryz.ntmps7
  go_wp2_with fail
  refine (play_any _).mono ?_
  rintro e w1 ⟨g1, rfl, hc1, _, hb⟩
  have B1 := hb
  clear hb
  go_wp2_with fail
  refine (Show_any playD _ _ _ _ (hc1.nodes rfl (by decide)) (by decide)).mono ?_
  rintro e w2 ⟨rfl, hb⟩
  rw [play_checked, play_shown]
  have B2 := bstep B1 hb
  clear hb B1 hc1
  go_wp2_with fail
  refine (Play_any playS deskS (by decide) _).mono ?_
  rintro e w3 ⟨rfl, hb⟩
  rw [hda.1, hda.2]
  have B3 := bstep B2 hb
  clear hb B2 hda
  go_wp2_with fail
  go_ret
  exact ⟨rfl, B3⟩

def instN (l : List Int) (k : Nat) : Nat := (l.getD k 0).toNat
/-- The script of a list of instants. -/
def scrT (l : List Int) : Nat → List UInt8
  | 0 => []
  | k + 1 => scrT l k ++ (tickL (instN l k) ++ [10])
def wantT (p : List NodeD) (l : List Int) : Nat → List UInt8
  | 0 => []
  | k + 1 => wantT p l k ++ (joinW (tickW p (restTo p l k) (instN l k)) ++ [10])
theorem inst_at {l : List Int} (hl : inPow l 3 = true) {k : Nat} (hk : k < l.length) : instN l k < 8 ∧ l.getD k 0 = (instN l k : Int) ∧ l[k] = (instN l k : Int) := by
  have e : l.getD k 0 = l[k] := by simp [List.getD_eq_getElem?_getD, hk]
  unfold inPow at hl
  rw [List.all_eq_true] at hl
  have := hl l[k] (List.getElem_mem hk)
  simp only [wth, decide_eq_true_iff] at this
  unfold instN
  rw [e]
  omega
theorem tickL_le (x : Nat) : (tickL x).length ≤ 10 := by
  have := insT_le x 3
  unfold tickL
  rw [List.length_append]
  have h : dTick.length = 4 := rfl
  omega
theorem tickL_facts : ∀ x, x < 8 → (10 : UInt8) ∉ tickL x ∧ insOf (tickL x) = some x ∧ tickL x ≠ [115, 104, 111, 119] ∧ tickL x ≠ [97, 103, 97, 105, 110] ∧ tickL x ≠ [114, 101, 115, 116] := by decide +kernel
theorem scr_len (l : List Int) : ∀ k, (scrT l k).length ≤ 11 * k
  | 0 => by simp [scrT]
  | k + 1 => by
    have := scr_len l k
    have h := tickL_le (instN l k)
    show (scrT l k ++ (tickL (instN l k) ++ [10])).length ≤ _
    simp only [List.length_append, List.length_cons, List.length_nil]
    omega
theorem scr_count {l : List Int} (hl : inPow l 3 = true) : ∀ k, k ≤ l.length → (scrT l k).count 10 = k
  | 0, _ => by simp [scrT]
  | k + 1, hk => by
    have := scr_count hl k (by omega)
    have h := List.count_eq_zero.2 (tickL_facts _ (inst_at hl (show k < l.length by omega)).1).1
    show (scrT l k ++ (tickL (instN l k) ++ [10])).count 10 = _
    rw [List.count_append, List.count_append, this, h]
    rfl
theorem scr_ends (l : List Int) : ∀ k, EndsW (scrT l k)
  | 0 => Or.inl rfl
  | k + 1 => Or.inr (by show (scrT l k ++ (tickL (instN l k) ++ [10])).getLast? = some 10; simp)
theorem run_scr {p : List NodeD} {l : List Int} (s : List UInt8) (hl : inPow l 3 = true) : ∀ k, k ≤ l.length → ∀ u, runD p s (scrT l k ++ u) [] (restTo p l 0) = wantT p l k ++ runD p s u [] (restTo p l k)
  | 0, _, u => rfl
  | k + 1, hk, u => by
    obtain ⟨h1, h2, _⟩ := inst_at hl (show k < l.length by omega)
    obtain ⟨f1, f2, f3, f4, f5⟩ := tickL_facts _ h1
    show runD p s ((scrT l k ++ (tickL (instN l k) ++ [10])) ++ u) [] _ = (wantT p l k ++ _) ++ _
    rw [List.append_assoc, List.append_assoc, run_scr s hl k (by omega), List.append_assoc]
    congr 1
    rw [show [10] ++ u = (10 : UInt8) :: u from rfl, run_cut p s _ u [] _ f1, List.nil_append, (give_tick f3 f4 f5 f2).1, (give_tick (s := s) f3 f4 f5 f2).2]
    show _ = _ ++ runD p s u [] (walkR p (restTo p l k) (l.getD k 0))
    rw [h2]
theorem desk_ticks {p : List NodeD} {l : List Int} (hck : checkP p = 0) (hl : inPow l 3 = true) (hn : l.length ≤ 40) : deskE (showL p) (scrT l l.length) = 0 ∧ deskT (showL p) (scrT l l.length) = wantT p l l.length := by
  have h4 := show_len hck
  obtain ⟨h1, h2⟩ := show_read hck (by omega)
  have hc := scr_count hl _ (Nat.le_refl _)
  have hln := scr_len l l.length
  have e0 : deskE (showL p) (scrT l l.length) = 0 := by
    unfold deskE
    rw [h1, if_pos rfl, if_neg (by omega), if_pos (show scrT l l.length = [] ∨ (scrT l l.length).getLast? = some 10 from scr_ends l _)]
  refine ⟨e0, ?_⟩
  unfold deskT
  rw [e0, if_pos rfl, h2]
  have e1 : beginR p = restTo p l 0 := by unfold beginR; rw [if_pos hck]; rfl
  have h3 := run_scr (p := p) (showL p) hl _ (Nat.le_refl _) []
  rw [List.append_nil] at h3
  rw [e1, h3, show runD p (showL p) [] [] (restTo p l l.length) = [] from rfl, List.append_nil]
theorem want_len (p : List NodeD) (l : List Int) : ∀ k, (wantT p l k).length ≤ 22 * k
  | 0 => by simp [wantT]
  | k + 1 => by
    have := want_len p l k
    obtain ⟨h1, h2⟩ := tick_len p (restTo p l k) (instN l k)
    have h := join_le' _ 4 h2
    show (wantT p l k ++ (joinW (tickW p (restTo p l k) (instN l k)) ++ [10])).length ≤ _
    simp only [List.length_append, List.length_cons, List.length_nil]
    omega
theorem tail_snoc (ws : List (List UInt8)) (x : List UInt8) : Lib.joinTail [32] (ws ++ [x]) = (Lib.joinTail [32] ws ++ [32]) ++ x := by simp [Lib.joinTail]
theorem joined_line (ws : List (List UInt8)) : joinW ws = (if Lib.joinTail [32] ws = [] then [32, 45] else Lib.joinTail [32] ws).drop 1 := by
  cases ws with
  | nil => rfl
  | cons a t =>
    have e : Lib.joinTail [32] (a :: t) = 32 :: (a ++ Lib.joinTail [32] t) := rfl
    unfold joinW
    rw [if_neg (by simp), if_neg (by rw [e]; simp), e, Lib.join_cons]
    rfl
theorem tail_le (ws : List (List UInt8)) (h : ∀ x ∈ ws, x.length ≤ 4) : (Lib.joinTail [32] ws).length ≤ 5 * ws.length := by
  induction ws with
  | nil => simp [Lib.joinTail]
  | cons a t ih =>
    have e : Lib.joinTail [32] (a :: t) = 32 :: (a ++ Lib.joinTail [32] t) := rfl
    have := ih (fun x hx => h x (by simp [hx]))
    have := h a (by simp)
    rw [e]
    simp only [List.length_cons, List.length_append]
    omega
end Go.Proofs.YtongajonecgdpagGreatDoor
