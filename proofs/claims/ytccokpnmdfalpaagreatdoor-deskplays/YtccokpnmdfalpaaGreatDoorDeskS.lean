/- The desk, the program: line, Play. -/
import Derived.Test.YtccokpnmdfalpaaGreatDoorDeskR
import Derived.Test.YtccokpnmdfalpaaGreatDoorShowP
import Derived.Test.YtccokpnmdfalpaaGreatDoorTextS
namespace Go.Proofs.YtccokpnmdfalpaaGreatDoor
open Go.RowKit

theorem tick_some {l : List UInt8} {x : Nat} (hx : x < 8) (h : tickL x = l) (hno : ∀ y, y < x → tickL y ≠ l) : insOf l = some x := by
  unfold insOf
  rw [List.find?_eq_some_iff_getElem]
  refine ⟨by simpa using h, x, by simpa using hx, by simp, fun j hj => ?_⟩
  simpa using hno j hj
theorem tick_none {l : List UInt8} (hno : ∀ y, y < 8 → tickL y ≠ l) : insOf l = none := by
  unfold insOf
  rw [List.find?_eq_none]
  intro y hy
  simpa using hno y (List.mem_range.1 hy)
theorem dig1 : Lib.decDigits 1 = [49] := dig_one 1 (by omega)

set_option maxRecDepth 100000 in
set_option maxHeartbeats 4000000 in
theorem line_any (b : Nat) (p : List NodeD) (s : List UInt8) (r : RestD) (ln : List UInt8) (w : World) (h : PlK w b p r) (hr : restE p r = 0) (hs : showL p = s) (hl : ln.length ≤ 4096) :
    Calls Tryz.prog 17 #[.pointer (some ⟨b, 0, none⟩), .string ⟨ln.toArray⟩] w fun e w' => e = .returned (.string ⟨(giveT p s r ln).toArray⟩) ∧ PlK w' b p (giveR p r ln) ∧ Below b w w' := by
  have hck : checkP p = 0 := (restE_len hr).1
  have hblt := h.lt
  by_cases c3 : ln = [114, 101, 115, 116]
  · have G := hide (give_rest (p := p) (s := s) (r := r) c3)
    subst c3
    go_enter Tryz.func17, Tryz.ntmps17
    go_wp2_with fail
    refine (waiting_any b p r _ h hr).mono ?_
    rintro e w2 ⟨rfl, hb⟩
    go_wp2_with fail
    go_ret
    exact ⟨ret_str (by rw [(unhide G).1]), by rw [(unhide G).2]; exact h.on hb, hb.mono (Nat.le_of_lt hblt)⟩
  have c3f : (ln == [114, 101, 115, 116]) = false := by simp [c3]
  by_cases c1 : ln = [115, 104, 111, 119]
  · have G := hide (give_show (p := p) (s := s) (r := r) c1)
    subst c1
    have H := h
    obtain ⟨na, nn, nc, f, wa, wn, wc, oa, on, oc, h1, h2, h3, _, _⟩ := h
    have x0 := h1.cell 0
    have hN := h2.now
    have HS := hide hs
    clear h1 h2 hs
    go_enter Tryz.func17, Tryz.ntmps17
    go_wp2_with fail
    refine (Show_any p na nn nc _ hN h3).mono ?_
    rintro e w2 ⟨rfl, hb⟩
    rw [unhide HS]
    go_wp2_with fail
    go_ret
    exact ⟨ret_str (by rw [(unhide G).1]), by rw [(unhide G).2]; exact H.on hb, hb.mono (Nat.le_of_lt hblt)⟩
  have c1f : (ln == [115, 104, 111, 119]) = false := by simp [c1]
  by_cases c2 : ln = [97, 103, 97, 105, 110]
  · have G := hide (give_again (p := p) (s := s) (r := r) c2)
    subst c2
    clear hs
    go_enter Tryz.func17, Tryz.ntmps17
    go_wp2_with fail
    refine (again_any b p r _ h hck).mono ?_
    rintro e w2 ⟨rfl, hP, hb⟩
    go_wp2_with fail
    go_ret
    exact ⟨ret_str (by rw [(unhide G).1]), by rw [(unhide G).2]; exact hP, hb⟩
  have c2f : (ln == [97, 103, 97, 105, 110]) = false := by simp [c2]
  have GT := hide (fun x (hi : insOf ln = some x) => give_tick (p := p) (s := s) (r := r) c1 c2 c3 hi)
  have GE := hide (fun (hi : insOf ln = none) => give_err (p := p) (s := s) (r := r) c1 c2 c3 hi)
  have HCK := hide hck
  clear c1 c2 c3 hs hck
  go_enter Tryz.func17, Tryz.ntmps17
  go_wp2_with fail
  go_loopw [28] (fun xv X => ∃ x : Nat, x ≤ 8 ∧ xv = .int .i64 x ∧ Hid (∀ y, y < x → tickL y ≠ ln) ∧ Below w.heap.size w X) (fun xv _ => 8 - (intOf xv).toNat)
  case atStart => exact ⟨0, by omega, rfl, hide (fun y hy => by omega), Below.refl _ _⟩
  case round =>
    obtain ⟨x, hx, rfl, HNO, hbX⟩ := hrel
    rename World => X
    by_cases h8 : x < 8
    · have hx8 : (x : Int) < 8 := by omega
      go_wp2_with fail
      refine (tickBy_any x h8 _).mono ?_
      rintro e X2 ⟨rfl, hb⟩
      have hbX2 := bstep hbX hb
      clear hbX hb
      by_cases he : tickL x = ln
      · have G := hide (unhide GT x (tick_some h8 he (unhide HNO)))
        have hP2 := h.on hbX2
        subst he
        clear c1f c2f c3f
        go_wp2_with fail
        refine (ptick_any b p r x _ hP2 hr h8).mono ?_
        rintro e X3 ⟨rfl, hP3, hb3⟩
        go_wp2_with fail
        go_ret
        exact ⟨ret_str (by rw [(unhide G).1]), by rw [(unhide G).2]; exact hP3, (hbX2.mono (Nat.le_of_lt hblt)).trans hb3⟩
      · have hef : (ln == tickL x) = false := by
          rw [beq_eq_false_iff_ne]
          exact fun e => he e.symm
        have HN2 := hide (show ∀ y, y < x + 1 → tickL y ≠ ln from fun y hy => if h : y < x then unhide HNO y h else by rw [show y = x by omega]; exact he)
        clear he
        generalize tickL x = u at *
        go_wp2_with fail
        exact ⟨⟨x + 1, by omega, by go_num, HN2, hbX2⟩, by simp [intOf]; omega⟩
    · have hx8 : x = 8 := by omega
      subst hx8
      have G := hide (unhide GE (tick_none (unhide HNO)))
      go_wp2_with fail
      refine (Tryz.strconv_Itoa_small 1 (by omega) _).mono ?_
      rintro e X2 ⟨rfl, rfl⟩
      rw [dig1]
      go_wp2_with fail
      go_ret
      exact ⟨ret_str (by rw [(unhide G).1]; rfl), by rw [(unhide G).2]; exact h.on hbX, hbX.mono (Nat.le_of_lt hblt)⟩
end Go.Proofs.YtccokpnmdfalpaaGreatDoor
