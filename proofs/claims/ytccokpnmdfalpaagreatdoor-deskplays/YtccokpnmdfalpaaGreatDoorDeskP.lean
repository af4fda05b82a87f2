/- The desk, the program's small parts: Cut at a line feed, Join, lineOf, tickBy. -/
import Derived.Test.YtccokpnmdfalpaaGreatDoorDeskA
import Derived.Test.YtccokpnmdfalpaaGreatDoorPhrC
import Derived.Test.YtccokpnmdfalpaaGreatDoorEvalP
import Derived.Test.YtccokpnmdfalpaaGreatDoorShelf
namespace Go.Proofs.YtccokpnmdfalpaaGreatDoor
open Go.RowKit

set_option maxRecDepth 100000 in
theorem scut_any (a b : List UInt8) (ha : (10 : UInt8) ∉ a) (hl : (a ++ 10 :: b).length ≤ 100000) (w : World) :
    Calls Tryz.prog 40 #[.string ⟨(a ++ 10 :: b).toArray⟩, .string ⟨#[10]⟩] w fun e w' => e = .returned (.tuple #[.string ⟨a.toArray⟩, .string ⟨b.toArray⟩, .bool true]) ∧ Below w.heap.size w w' := by
  have hix : Lib.indexByte (⟨(a ++ 10 :: b).toArray⟩ : ByteArray).data.toList 10 = (a.length : Int) := index_at a b ha
  have ht : (⟨(a ++ 10 :: b).toArray⟩ : ByteArray).extract 0 a.length = ⟨a.toArray⟩ := by rw [str_take]; simp
  have hd : (⟨(a ++ 10 :: b).toArray⟩ : ByteArray).extract (a.length + 1) (a ++ 10 :: b).length = ⟨b.toArray⟩ := by rw [str_drop]; simp
  have hle : a.length + 1 ≤ (a ++ 10 :: b).length := by simp
  generalize a ++ 10 :: b = t at *
  have c1 : (0 : Int) ≤ (a.length : Int) := by omega
  have c2 : (a.length : Int) ≤ (t.length : Int) := by omega
  have c3 : (0 : Int) ≤ (a.length : Int) + 1 := by omega
  have c4 : (a.length : Int) + 1 ≤ (t.length : Int) := by omega
  go_enter Tryz.func40, Tryz.ntmps40
  go_wp2_with fail
  refine (Tryz.stringslite_Index_one ⟨t.toArray⟩ 10 _).mono ?_
  rintro e w' ⟨rfl, rfl⟩
  rw [hix]
  go_wp2_with fail
  go_region
  all_goals go_wp2_with fail
  all_goals go_ret3
  all_goals exact ⟨rfl, (Below.refl _ _).drew⟩
theorem lcut_any (a b : List UInt8) (ha : (10 : UInt8) ∉ a) (hl : (a ++ 10 :: b).length ≤ 100000) (w : World) :
    Calls Tryz.prog 16 #[.string ⟨(a ++ 10 :: b).toArray⟩, .string ⟨#[10]⟩] w fun e w' => e = .returned (.tuple #[.string ⟨a.toArray⟩, .string ⟨b.toArray⟩, .bool true]) ∧ Below w.heap.size w w' := by
  have C := scut_any a b ha hl
  generalize a ++ 10 :: b = t at *
  go_enter Tryz.func16, Tryz.ntmps16
  go_wp2_with fail
  refine (C _).mono ?_
  rintro e w' ⟨rfl, hb⟩
  go_wp2_with fail
  go_ret3
  exact ⟨rfl, hb⟩

theorem join_any (l : List (List UInt8)) (b c : Nat) (w : World) (hc : ∀ j (h : j < l.length), w.cell? ⟨b, j, none⟩ = some (.string ⟨l[j].toArray⟩)) (hb : b < w.heap.size) (hcap : l.length ≤ c) (hl : l.length ≤ 20) (hm : (Lib.join l [32]).length ≤ 100000) :
    Calls Tryz.prog 117 #[.slice (some ⟨b, 0, none⟩) l.length c, .string ⟨#[32]⟩] w fun e w' => e = .returned (.string ⟨(Lib.join l [32]).toArray⟩) ∧ Below w.heap.size w w' := by
  have e1 : (l.map (fun x => (⟨x.toArray⟩ : ByteArray))).map (fun x => x.data.toList) = l := by
    rw [List.map_map]
    conv => rhs; rw [← List.map_id l]
    exact List.map_congr_left (fun x _ => rfl)
  have h := Tryz.strings_Join b 0 c (l.map (fun x => (⟨x.toArray⟩ : ByteArray))) ⟨#[32]⟩ w (fun j x hx => by
    rw [List.getElem?_map] at hx
    cases hj : l[j]? with
    | none => rw [hj] at hx; cases hx
    | some y =>
      rw [hj] at hx
      injection hx with hx
      obtain ⟨hlt, hy⟩ := List.getElem?_eq_some_iff.1 hj
      rw [Nat.zero_add, hc j hlt, hy, ← hx]) hb (by rw [List.length_map]; omega) (by rw [List.length_map]; exact hcap) (by
      rw [e1]
      show (Lib.join l [32]).length ≤ _
      omega)
  rw [List.length_map, e1] at h
  exact h
set_option maxRecDepth 100000 in
theorem lineOf_any (l : List (List UInt8)) (a : Option Addr) (n c : Nat) (w : World) (h : Strs w a n l) (hc : n ≤ c) (hl : l.length ≤ 20) (hm : (Lib.join l [32]).length ≤ 100000) :
    Calls Tryz.prog 79 #[.slice a n c] w fun e w' => e = .returned (.string ⟨(joinW l).toArray⟩) ∧ Below w.heap.size w w' := by
  by_cases h0 : l = []
  · subst h0
    have hn0 : n = 0 := h.1
    subst hn0
    go_enter Tryz.func79, Tryz.ntmps79
    go_wp2_with fail
    go_ret
    exact ⟨rfl, Below.refl _ _⟩
  obtain ⟨b, rfl, hbb, hcc⟩ := h.cell h0
  have hnl : n = l.length := h.1
  subst hnl
  have hpos : 0 < l.length := List.length_pos_iff.2 h0
  have hn1 : ((l.length : Int) == 0) = false := beq_eq_false_iff_ne.2 (by omega)
  have R := hide (show joinW l = Lib.join l [32] by unfold joinW; rw [if_neg h0])
  have J := hide (fun W => join_any l b c W)
  have HC := hide hcc
  clear hcc h
  go_enter Tryz.func79, Tryz.ntmps79
  go_wp2_with fail
  refine (unhide J _ (unhide HC) hbb hc hl hm).mono ?_
  rintro e w' ⟨rfl, hb⟩
  go_wp2_with fail
  go_ret
  exact ⟨ret_str (by rw [unhide R]), hb⟩

def insW (x : Nat) : Nat → List (List UInt8)
  | 0 => []
  | k + 1 => insW x k ++ (if x / 2 ^ k % 2 = 1 then [letter 120 k] else [])
theorem insW_len (x : Nat) : ∀ k, (insW x k).length ≤ k
  | 0 => Nat.le_refl _
  | k + 1 => by
    have := insW_len x k
    unfold insW
    split <;> simp <;> omega
theorem ins_joined (x : Nat) : ∀ k, Lib.join (dTick :: insW x k) [32] = dTick ++ insT x k
  | 0 => by simp [insW, insT, Lib.join_one]
  | k + 1 => by
    have ih := ins_joined x k
    unfold insW insT
    split
    · rw [show dTick :: (insW x k ++ [letter 120 k]) = (dTick :: insW x k) ++ [letter 120 k] from rfl, join_snoc (by simp), ih]
      simp
    · rw [List.append_nil, List.append_nil, ih]
theorem bit_cast (x k : Nat) : (x : Int) / 2 ^ k % 2 = ((x / 2 ^ k % 2 : Nat) : Int) := by push_cast; rfl

set_option maxRecDepth 100000 in
set_option maxHeartbeats 2000000 in
theorem tickBy_any (x : Nat) (hx : x < 8) (w : World) :
    Calls Tryz.prog 42 #[.int .i64 (x : Int)] w fun e w' => e = .returned (.string ⟨(tickL x).toArray⟩) ∧ Below w.heap.size w w' := by
  obtain ⟨i0, hi, hz0, hz1, hz2⟩ := info_parts Tryz.infoStr
  go_enter Tryz.func42, Tryz.ntmps42
  go_wp2_with fail
  have hb0 : Below w.heap.size w (w.alloc (.cells #[.string ⟨#[116, 105, 99, 107]⟩] 9)) := (Below.refl _ _).alloc (Nat.le_refl _) _
  have hown0 : (w.alloc (.cells #[.string ⟨#[116, 105, 99, 107]⟩] 9)).ownsRow w.heap.size 9 1 (.slice (some ⟨w.heap.size, 0, none⟩) 1 1) (dTick :: insW x 0).length (strV (dTick :: insW x 0)) := World.ownsRow_lit w _ 1 (Nat.le_refl _) (by decide) rfl
  generalize w.alloc (.cells #[.string ⟨#[116, 105, 99, 107]⟩] 9) = w1 at *
  go_loopw [3, 6] (fun v kv wr => ∃ k : Nat, k ≤ 3 ∧ kv = .int .i64 k ∧ wr.ownsRow w.heap.size 9 1 v (dTick :: insW x k).length (strV (dTick :: insW x k)) ∧ Below w.heap.size w wr) (fun _ kv _ => 3 - (intOf kv).toNat)
  case atStart => exact ⟨0, by omega, rfl, hown0, hb0⟩
  case round =>
    clear hown0 hb0
    obtain ⟨k, hk, rfl, hown, hbel⟩ := hrel
    by_cases hk3 : k < 3
    · have hki : (k : Int) < 3 := by omega
      have hge : 0 ≤ (x : Int) / 2 ^ k := Int.ediv_nonneg (by omega) (Int.pow_nonneg (by decide))
      have hle : (x : Int) / 2 ^ k ≤ 1048576 := Int.le_trans (Int.ediv_le_self _ (by omega)) (by omega)
      have hand := and_one ((x : Int) / 2 ^ k) hge hle
      have hlw := insW_len x k
      rw [bit_cast] at hand
      rcases (show x / 2 ^ k % 2 = 0 ∨ x / 2 ^ k % 2 = 1 by omega) with hb | hb
      · have R := hide (show insW x (k + 1) = insW x k by show insW x k ++ _ = _; rw [if_neg (by omega), List.append_nil])
        rw [hb] at hand
        go_wp2_with fail
        exact ⟨⟨k + 1, by omega, by go_num, by rw [unhide R]; exact hown, hbel⟩, by simp [intOf]; omega⟩
      · have R := hide (show dTick :: insW x (k + 1) = (dTick :: insW x k) ++ [letter 120 k] by show dTick :: (insW x k ++ _) = _; rw [if_pos hb]; rfl)
        rw [hb] at hand
        go_wp2_with fail
        refine (In_any k (by omega) _).mono ?_
        rintro e w' ⟨rfl, rfl⟩
        go_wp2_with (at_builtin; refine wpList_append_own _ rfl _ _ 57 rfl (w.heap.size) 9 i0 (.string .empty) 1 16 Tryz.underlying57 hi hz0 hz1 hz2 rfl (by decide) _ _ _ rfl (hown.alloc _) ⟨w'.heap.size, 0, none⟩ 1 1 [.string ⟨(letter 120 k).toArray⟩] rfl rfl ?c1 ?c2 ?c3 ?c4 ?c5 ?_)
        case c1 =>
          intro j u hj
          match j, hj with
          | 0, hj => simp at hj; subst hj; simp [Addr.add]
        case c2 => intro u hu; simp at hu; subst hu; rfl
        case c3 =>
          have hq : (insW x k).length ≤ 2 := by omega
          show (insW x k).length + 1 + 1 ≤ maxLen
          exact Nat.le_trans (Nat.add_le_add_right (Nat.add_le_add_right hq 1) 1) (by decide)
        case c4 =>
          have hlc : (dTick :: insW x k).length = (insW x k).length + 1 := rfl
          rw [hlc]; omega
        case c5 => have := hbel.size; simp; omega
        intro v' w3 hown' hgrow _
        have hb3 : Below w.heap.size w w3 := hbel.trans (((Below.refl _ w').alloc (hbel.size) _).grown hgrow (by have := hbel.size; simp; omega) (fun k hk => (hown.lt k hk).1))
        have hown2 : w3.ownsRow w.heap.size 9 1 v' (dTick :: insW x (k + 1)).length (strV (dTick :: insW x (k + 1))) := by
          rw [unhide R, strV_snoc, List.length_append]
          exact hown'
        have RR := hide (And.intro hown2 hb3)
        clear hown hown' hgrow hown2 hb3 hbel
        go_wp2_with fail
        exact ⟨⟨k + 1, by omega, by go_num, (unhide RR).1, (unhide RR).2⟩, by simp [intOf]; omega⟩
    · have hk3' : k = 3 := by omega
      subst hk3'
      have hj := ins_joined x 3
      have hlw := insW_len x 3
      have R := hide (show joinW (dTick :: insW x 3) = tickL x by unfold joinW; rw [if_neg (by simp), hj]; rfl)
      have hlen : (Lib.join (dTick :: insW x 3) [32]).length ≤ 100000 := by
        rw [hj]
        have := insT_le x 3
        simp [dTick]
        omega
      have hl20 : (dTick :: insW x 3).length ≤ 20 := by simp; omega
      clear hj hlw
      obtain ⟨a2, c2, hv', hS, hcc⟩ := own_strs hown
      rw [hv']
      clear hv' hown
      generalize dTick :: insW x 3 = ws at *
      have hn : ws.length = ws.length := rfl
      generalize hnn : ws.length = nn at hS hcc ⊢
      go_wp2_with fail
      refine (lineOf_any ws a2 nn c2 _ hS hcc hl20 hlen).mono ?_
      rintro e w4 ⟨rfl, hb4⟩
      go_wp2_with fail
      go_ret
      exact ⟨ret_str (by rw [unhide R]), bstep hbel hb4⟩
end Go.Proofs.YtccokpnmdfalpaaGreatDoor
