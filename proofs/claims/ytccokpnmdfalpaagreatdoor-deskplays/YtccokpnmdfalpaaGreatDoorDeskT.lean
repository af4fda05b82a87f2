/- The desk, the program: Play. -/
import Derived.Test.YtccokpnmdfalpaaGreatDoorDeskS
import Derived.Deep.LoopGhost
namespace Go.Proofs.YtccokpnmdfalpaaGreatDoor
open Go.RowKit

set_option maxRecDepth 100000 in
set_option maxHeartbeats 4000000 in
theorem Play_any (s t : List UInt8) (ht : t.length ≤ maxLen) (w : World) :
    Calls Tryz.prog 5 #[.string ⟨s.toArray⟩, .string ⟨t.toArray⟩] w fun e w' => e = .returned (.tuple #[.string ⟨(deskT s t).toArray⟩, .int .i64 (deskE s t)]) ∧ Below w.heap.size w w' := by
  unfold maxLen at ht
  go_enter Tryz.func5, Tryz.ntmps5
  go_wp2_with fail
  refine (Read_any s _).mono ?_
  rintro e w1 ⟨na, nn, nc, rfl, hN, hnc, B1⟩
  by_cases e0 : readE s = 0
  case neg =>
    have hq : (readE s != 0) = true := by simp [e0]
    have HE := hide (show deskE s t = readE s by unfold deskE; rw [if_neg e0])
    have HT := hide (show deskT s t = [] by unfold deskT; rw [unhide HE, if_neg e0])
    obtain ⟨er, her⟩ : ∃ er, readE s = er := ⟨_, rfl⟩
    rw [her] at hq HE ⊢
    clear e0 her hN
    go_wp2_with fail
    go_ret2
    rw [unhide HE, unhide HT]
    exact ⟨rfl, B1⟩
  rw [e0]
  have HRE := hide e0
  obtain ⟨hck, hsh⟩ := read_show e0
  have HCK := hide hck
  have HSH := hide hsh
  have HFW := hide (pok_of hck).few
  obtain ⟨p, hp⟩ : ∃ p, readL s = p := ⟨_, rfl⟩
  rw [hp] at hN HCK HSH HFW
  have HRL := hide hp
  have HS4 := hide (show s.length ≤ 4096 by
    rcases Nat.lt_or_ge 4096 s.length with h | h
    · exfalso
      have := unhide HRE
      unfold readE at this
      rw [if_pos h] at this
      exact absurd this (by decide)
    · exact h)
  clear e0 hck hsh hp
  by_cases hmany : 4096 < t.length ∨ 40 < t.count 10
  · have HE := hide (show deskE s t = 2 by unfold deskE; rw [unhide HRE, if_pos rfl, if_pos hmany])
    have HT := hide (show deskT s t = [] by unfold deskT; rw [unhide HE]; rfl)
    rcases (show 4096 < t.length ∨ (¬ 4096 < t.length ∧ 40 < t.count 10) by omega) with hm | ⟨hm, hm2⟩
    · have hmi : (4096 : Int) < (t.length : Int) := by omega
      clear hmany
      go_wp2_with fail
      go_ret2
      rw [unhide HE, unhide HT]
      exact ⟨rfl, B1⟩
    · have hmi : ¬ (4096 : Int) < (t.length : Int) := by omega
      have hci : (40 : Int) < ((t.count 10 : Nat) : Int) := by omega
      clear hmany
      go_wp2_with fail
      refine (Tryz.strings_Count_one ⟨t.toArray⟩ 10 _).mono ?_
      rintro e w2 ⟨rfl, rfl⟩
      rw [show Lib.countByte (⟨t.toArray⟩ : ByteArray).data.toList 10 = t.count 10 from rfl]
      go_wp2_with fail
      go_ret2
      rw [unhide HE, unhide HT]
      exact ⟨rfl, B1⟩
  have hmi : ¬ (4096 : Int) < (t.length : Int) := by omega
  have hci : ¬ (40 : Int) < ((t.count 10 : Nat) : Int) := by omega
  have HM := hide hmany
  have HT4 := hide (show t.length ≤ 4096 by omega)
  have HC40 := hide (show t.count 10 ≤ 40 by omega)
  clear hmany
  go_wp2_with fail
  refine (Tryz.strings_Count_one ⟨t.toArray⟩ 10 _).mono ?_
  rintro e w2 ⟨rfl, rfl⟩
  rename World => w1
  rw [show Lib.countByte (⟨t.toArray⟩ : ByteArray).data.toList 10 = t.count 10 from rfl]
  by_cases hend : EndsW t
  case neg =>
    have hne : t ≠ [] := fun e => hend (Or.inl e)
    have hlast : ¬ t.getLast? = some 10 := fun e => hend (Or.inr e)
    have HE := hide (show deskE s t = 1 by unfold deskE; rw [unhide HRE, if_pos rfl, if_neg (unhide HM), if_neg (show ¬ (t = [] ∨ t.getLast? = some 10) from hend)])
    have HT := hide (show deskT s t = [] by unfold deskT; rw [unhide HE]; rfl)
    have hf : (t == []) = false := by simp [hne]
    have hsx : Lib.hasSuffix (⟨t.toArray⟩ : ByteArray).data.toList (⟨#[10]⟩ : ByteArray).data.toList = false := by
      show Lib.hasSuffix t [10] = false
      rw [suffix_is t hne]
      simp [hlast]
    clear hlast hend hne
    go_wp2_with fail
    refine (Tryz.strings_HasSuffix ⟨t.toArray⟩ ⟨#[10]⟩ _ (by show t.toArray.size ≤ _; rw [List.size_toArray]; omega)).mono ?_
    rintro e w2 ⟨rfl, rfl⟩
    rw [hsx]
    go_wp2_with fail
    go_ret2
    rw [unhide HE, unhide HT]
    exact ⟨rfl, B1⟩
  have HE := hide (show deskE s t = 0 by unfold deskE; rw [unhide HRE, if_pos rfl, if_neg (unhide HM), if_pos (show t = [] ∨ t.getLast? = some 10 from hend)])
  have HT := hide (show deskT s t = runD p s t [] (beginR p) by unfold deskT; rw [unhide HE, if_pos rfl, unhide HRL])
  have HEND := hide hend
  have HWL := hide (show (runD p s t [] (beginR p)).length ≤ 163880 by
    have h1 := run_len (unhide HFW) (unhide HS4) t [] (beginR p)
    have h2 := unhide HC40
    omega)
  have hsuf : t = [] ∨ (t ≠ [] ∧ Lib.hasSuffix (⟨t.toArray⟩ : ByteArray).data.toList (⟨#[10]⟩ : ByteArray).data.toList = true) := by
    rcases hend with h | h
    · exact Or.inl h
    · have hne : t ≠ [] := by intro e; rw [e] at h; simp at h
      exact Or.inr ⟨hne, by show Lib.hasSuffix t [10] = true; rw [suffix_is t hne]; simp [h]⟩
  have HSH' := HSH
  clear hend
  rcases hsuf with h0 | ⟨h0, hsx⟩
  · have hf : (t == []) = true := by simp [h0]
    clear h0
    go_upto_region 8 with fail
    clear hf hmi hci
    have hal := (Below.refl w1.heap.size w1).alloc (Nat.le_refl _) (.cells #[.slice na nn nc, .bool false, .slice none 0 0, .slice none 0 0] 45)
    have hcB := Cells.new w1 [.slice na nn nc, .bool false, .slice none 0 0, .slice none 0 0] 45
    have hP0 : PlK (w1.alloc (.cells #[.slice na nn nc, .bool false, .slice none 0 0, .slice none 0 0] 45)) w1.heap.size p ⟨false, [], []⟩ :=
      ⟨na, nn, nc, false, none, 0, 0, none, 0, 0, hcB, fun V hV => (hN.below (old_below hal (G := [w1.heap.size]) (by simp) hV)).old, hnc, fun V _ => ⟨rfl, ⟨rfl, Nat.zero_le _, Or.inl rfl⟩, ⟨rfl, Nat.zero_le _, Or.inl rfl⟩⟩, Nat.le_refl _⟩
    clear hcB hN
    go_wp2_with fail
    generalize w1.alloc (.cells #[.slice na nn nc, .bool false, .slice none 0 0, .slice none 0 0] 45) = W2 at *
    obtain ⟨bx, hbx⟩ : ∃ bx, w1.heap.size = bx := ⟨_, rfl⟩
    rw [hbx] at hP0 hal ⊢
    refine (again_any bx p _ _ hP0 (unhide HCK)).mono ?_
    rintro e W3 ⟨rfl, hP3, hb3⟩
    have hB3 := hal.trans hb3
    obtain ⟨whole, hwh⟩ : ∃ whole, runD p s t [] (beginR p) = whole := ⟨_, rfl⟩
    have HOF0 := hide (And.intro (unhide HEND) (And.intro (begin_ok (unhide HCK)) (show ([] : List UInt8) ++ runD p s t [] (beginR p) = whole from hwh)))
    have HBX := hide hbx
    rw [hwh] at HT HWL
    clear hal hb3 hP0 hbx hwh
    have ht4 := unhide HT4
    go_wp2_with fail
    go_loopg [1, 9] t.length (fun fu tv gv V => ∃ (u out : List UInt8) (r : RestD), u.length ≤ fu ∧ u.length ≤ 4096 ∧ tv = .string ⟨u.toArray⟩ ∧ gv = .string ⟨out.toArray⟩ ∧ Hid (EndsW u ∧ restE p r = 0 ∧ out ++ runD p s u [] r = whole) ∧ PlK V bx p r ∧ Below bx w1 V)
    case atStart => exact ⟨t, [], beginR p, Nat.le_refl _, ht4, rfl, rfl, HOF0, hP3, hB3⟩
    case round =>
      clear HOF0 hP3 hB3
      obtain ⟨u, out, r, hfu, hu4, rfl, rfl, HOF, hP, hbel⟩ := hrel
      rename World => V
      have HFU := hide hfu
      clear hfu
      by_cases h0 : u = []
      · subst h0
        have hout : out = whole := by
          have := (unhide HOF).2.2
          rwa [show runD p s [] [] r = [] from rfl, List.append_nil] at this
        subst hout
        clear HOF hP
        go_wp2_with fail
        go_ret2
        rw [unhide HE, unhide HT]
        exact ⟨rfl, bstep B1 (by rw [← unhide HBX] at hbel; exact hbel)⟩
      · obtain ⟨a, bb, e, ha⟩ := first_ten u (ends_mem (unhide HOF).1 h0)
        have C := hide (show ∀ W, Calls Tryz.prog 16 #[.string ⟨u.toArray⟩, .string ⟨#[10]⟩] W fun e w' => e = .returned (.tuple #[.string ⟨a.toArray⟩, .string ⟨bb.toArray⟩, .bool true]) ∧ Below W.heap.size W w' by
          rw [e]
          exact lcut_any a bb ha (by rw [← e]; omega))
        have hol : out.length ≤ 163880 := by
          have h1 := (unhide HOF).2.2
          have h2 := congrArg List.length h1
          rw [List.length_append] at h2
          have := unhide HWL
          omega
        have HOF2 := hide (show EndsW bb ∧ out ++ (giveT p s r a ++ [10]) ++ runD p s bb [] (giveR p r a) = whole from by
          obtain ⟨h1, _, h3⟩ := unhide HOF
          rw [e] at h1 h3
          rw [run_cut p s a bb [] r ha] at h3
          exact ⟨ends_on h1, by rw [← h3]; simp⟩)
        have hr := (unhide HOF).2.1
        have HRG := hide (give_ok (unhide HCK) hr a)
        have hgl := give_len (unhide HFW) (unhide HS4) r a
        have hul : u.length = a.length + 1 + bb.length := by rw [e]; simp; omega
        have hal4 : a.length ≤ 4096 := by omega
        have hbl4 : bb.length ≤ 4096 := by omega
        have hf : (u == []) = false := by simp [h0]
        have HUL := hide hul
        clear e ha HOF h0 hul
        go_wp2_with fail
        refine (unhide C _).mono ?_
        rintro e V2 ⟨rfl, hb⟩
        have hP2 := hP.on hb
        have hbel2 := hbel.trans (hb.mono (Nat.le_of_lt hP.lt))
        clear hP hb hbel hf
        go_wp2_with fail
        refine (line_any bx p s r a _ hP2 hr (unhide HSH) hal4).mono ?_
        rintro e V3 ⟨rfl, hP3, hb3⟩
        have hbel3 := hbel2.trans hb3
        obtain ⟨g, hg⟩ : ∃ g, giveT p s r a = g := ⟨_, rfl⟩
        rw [hg] at HOF2 hgl ⊢
        have E3 := hide (show (⟨out.toArray⟩ : ByteArray) ++ (⟨g.toArray⟩ ++ ⟨[10].toArray⟩) = ⟨(out ++ (g ++ [10])).toArray⟩ by rw [str_app, str_app])
        clear hP2 hr hb3 hbel2 hg
        go_wp2_with fail
        go_roundg bb.length
        case measure => have h1 := unhide HFU; have h2 := unhide HUL; omega
        case rel => exact ⟨bb, out ++ (g ++ [10]), giveR p r a, Nat.le_refl _, hbl4, rfl, congrArg Value.string (unhide E3), hide ⟨(unhide HOF2).1, unhide HRG, (unhide HOF2).2⟩, hP3, hbel3⟩
  · have hf : (t == []) = false := by simp [h0]
    clear h0
    go_wp2_with fail
    refine (Tryz.strings_HasSuffix ⟨t.toArray⟩ ⟨#[10]⟩ _ (by show t.toArray.size ≤ _; rw [List.size_toArray]; omega)).mono ?_
    rintro e w2 ⟨rfl, rfl⟩
    rename World => w1
    rw [hsx]
    go_upto_region 8 with fail
    clear hf hsx hmi hci
    have hal := (Below.refl w1.heap.size w1).alloc (Nat.le_refl _) (.cells #[.slice na nn nc, .bool false, .slice none 0 0, .slice none 0 0] 45)
    have hcB := Cells.new w1 [.slice na nn nc, .bool false, .slice none 0 0, .slice none 0 0] 45
    have hP0 : PlK (w1.alloc (.cells #[.slice na nn nc, .bool false, .slice none 0 0, .slice none 0 0] 45)) w1.heap.size p ⟨false, [], []⟩ :=
      ⟨na, nn, nc, false, none, 0, 0, none, 0, 0, hcB, fun V hV => (hN.below (old_below hal (G := [w1.heap.size]) (by simp) hV)).old, hnc, fun V _ => ⟨rfl, ⟨rfl, Nat.zero_le _, Or.inl rfl⟩, ⟨rfl, Nat.zero_le _, Or.inl rfl⟩⟩, Nat.le_refl _⟩
    clear hcB hN
    go_wp2_with fail
    generalize w1.alloc (.cells #[.slice na nn nc, .bool false, .slice none 0 0, .slice none 0 0] 45) = W2 at *
    obtain ⟨bx, hbx⟩ : ∃ bx, w1.heap.size = bx := ⟨_, rfl⟩
    rw [hbx] at hP0 hal ⊢
    refine (again_any bx p _ _ hP0 (unhide HCK)).mono ?_
    rintro e W3 ⟨rfl, hP3, hb3⟩
    have hB3 := hal.trans hb3
    obtain ⟨whole, hwh⟩ : ∃ whole, runD p s t [] (beginR p) = whole := ⟨_, rfl⟩
    have HOF0 := hide (And.intro (unhide HEND) (And.intro (begin_ok (unhide HCK)) (show ([] : List UInt8) ++ runD p s t [] (beginR p) = whole from hwh)))
    have HBX := hide hbx
    rw [hwh] at HT HWL
    clear hal hb3 hP0 hbx hwh
    have ht4 := unhide HT4
    go_wp2_with fail
    go_loopg [1, 9] t.length (fun fu tv gv V => ∃ (u out : List UInt8) (r : RestD), u.length ≤ fu ∧ u.length ≤ 4096 ∧ tv = .string ⟨u.toArray⟩ ∧ gv = .string ⟨out.toArray⟩ ∧ Hid (EndsW u ∧ restE p r = 0 ∧ out ++ runD p s u [] r = whole) ∧ PlK V bx p r ∧ Below bx w1 V)
    case atStart => exact ⟨t, [], beginR p, Nat.le_refl _, ht4, rfl, rfl, HOF0, hP3, hB3⟩
    case round =>
      clear HOF0 hP3 hB3
      obtain ⟨u, out, r, hfu, hu4, rfl, rfl, HOF, hP, hbel⟩ := hrel
      rename World => V
      have HFU := hide hfu
      clear hfu
      by_cases h0 : u = []
      · subst h0
        have hout : out = whole := by
          have := (unhide HOF).2.2
          rwa [show runD p s [] [] r = [] from rfl, List.append_nil] at this
        subst hout
        clear HOF hP
        go_wp2_with fail
        go_ret2
        rw [unhide HE, unhide HT]
        exact ⟨rfl, bstep B1 (by rw [← unhide HBX] at hbel; exact hbel)⟩
      · obtain ⟨a, bb, e, ha⟩ := first_ten u (ends_mem (unhide HOF).1 h0)
        have C := hide (show ∀ W, Calls Tryz.prog 16 #[.string ⟨u.toArray⟩, .string ⟨#[10]⟩] W fun e w' => e = .returned (.tuple #[.string ⟨a.toArray⟩, .string ⟨bb.toArray⟩, .bool true]) ∧ Below W.heap.size W w' by
          rw [e]
          exact lcut_any a bb ha (by rw [← e]; omega))
        have hol : out.length ≤ 163880 := by
          have h1 := (unhide HOF).2.2
          have h2 := congrArg List.length h1
          rw [List.length_append] at h2
          have := unhide HWL
          omega
        have HOF2 := hide (show EndsW bb ∧ out ++ (giveT p s r a ++ [10]) ++ runD p s bb [] (giveR p r a) = whole from by
          obtain ⟨h1, _, h3⟩ := unhide HOF
          rw [e] at h1 h3
          rw [run_cut p s a bb [] r ha] at h3
          exact ⟨ends_on h1, by rw [← h3]; simp⟩)
        have hr := (unhide HOF).2.1
        have HRG := hide (give_ok (unhide HCK) hr a)
        have hgl := give_len (unhide HFW) (unhide HS4) r a
        have hul : u.length = a.length + 1 + bb.length := by rw [e]; simp; omega
        have hal4 : a.length ≤ 4096 := by omega
        have hbl4 : bb.length ≤ 4096 := by omega
        have hf : (u == []) = false := by simp [h0]
        have HUL := hide hul
        clear e ha HOF h0 hul
        go_wp2_with fail
        refine (unhide C _).mono ?_
        rintro e V2 ⟨rfl, hb⟩
        have hP2 := hP.on hb
        have hbel2 := hbel.trans (hb.mono (Nat.le_of_lt hP.lt))
        clear hP hb hbel hf
        go_wp2_with fail
        refine (line_any bx p s r a _ hP2 hr (unhide HSH) hal4).mono ?_
        rintro e V3 ⟨rfl, hP3, hb3⟩
        have hbel3 := hbel2.trans hb3
        obtain ⟨g, hg⟩ : ∃ g, giveT p s r a = g := ⟨_, rfl⟩
        rw [hg] at HOF2 hgl ⊢
        have E3 := hide (show (⟨out.toArray⟩ : ByteArray) ++ (⟨g.toArray⟩ ++ ⟨[10].toArray⟩) = ⟨(out ++ (g ++ [10])).toArray⟩ by rw [str_app, str_app])
        clear hP2 hr hb3 hbel2 hg
        go_wp2_with fail
        go_roundg bb.length
        case measure => have h1 := unhide HFU; have h2 := unhide HUL; omega
        case rel => exact ⟨bb, out ++ (g ++ [10]), giveR p r a, Nat.le_refl _, hbl4, rfl, congrArg Value.string (unhide E3), hide ⟨(unhide HOF2).1, unhide HRG, (unhide HOF2).2⟩, hP3, hbel3⟩
end Go.Proofs.YtccokpnmdfalpaaGreatDoor
