/- The desk, the program's player: again, tick, waiting. -/
import Derived.Test.YtccokpnmdfalpaaGreatDoorDeskP
import Derived.Test.YtccokpnmdfalpaaGreatDoorWalkT
import Derived.Test.YtccokpnmdfalpaaGreatDoorPhrC
import Derived.Deep.RegionHeld3
namespace Go.Proofs.YtccokpnmdfalpaaGreatDoor
open Go.RowKit

/-- The player in its box: the program's nodes and where it rests, whatever is written into the box. -/
def PlK (w : World) (b : Nat) (p : List NodeD) (r : RestD) : Prop := ∃ na nn nc f wa wn wc oa on oc, Cells w b [.slice na nn nc, .bool f, .slice wa wn wc, .slice oa on oc] 45 ∧ Kp [b] w (fun V => Nodes V na nn p) ∧ nn ≤ nc ∧ Kp [b] w (fun V => RestAt V r f wa wn oa on) ∧ wn ≤ wc
theorem PlK.on {w w' : World} {b : Nat} {p : List NodeD} {r : RestD} (h : PlK w b p r) (hb : Below w.heap.size w w') : PlK w' b p r := by
  obtain ⟨na, nn, nc, f, wa, wn, wc, oa, on, oc, h1, h2, h3, h4, h5⟩ := h
  exact ⟨na, nn, nc, f, wa, wn, wc, oa, on, oc, h1.onB hb, h2.on hb, h3, h4.on hb, h5⟩
theorem PlK.lt {w : World} {b : Nat} {p : List NodeD} {r : RestD} (h : PlK w b p r) : b < w.heap.size := by
  obtain ⟨na, nn, nc, f, wa, wn, wc, oa, on, oc, h1, _⟩ := h
  exact h1.lt
theorem kept_put {G : List Nat} {W : World} {b : Nat} (hb : b ∈ G) (v1 v2 v3 : Value) : KeptG G W (((W.setCell ⟨b, 1, none⟩ v1).setCell ⟨b, 2, none⟩ v2).setCell ⟨b, 3, none⟩ v3) :=
  ((KeptG.set (k := 1) v1 hb).trans (KeptG.set (k := 2) v2 hb)).trans (KeptG.set (k := 3) v3 hb)
theorem plk_put {w W : World} {b : Nat} {p : List NodeD} {r r2 : RestD} (h : PlK w b p r) (hb : Below w.heap.size w W) {f2 : Bool} {wa2 oa2 : Option Addr} {wn2 wc2 on2 oc2 : Nat} (hR : Kp [b] W (fun V => RestAt V r2 f2 wa2 wn2 oa2 on2)) (hwc : wn2 ≤ wc2) :
    PlK (((W.setCell ⟨b, 1, none⟩ (.bool f2)).setCell ⟨b, 2, none⟩ (.slice wa2 wn2 wc2)).setCell ⟨b, 3, none⟩ (.slice oa2 on2 oc2)) b p r2 := by
  obtain ⟨na, nn, nc, f, wa, wn, wc, oa, on, oc, h1, h2, h3, _, _⟩ := h
  have hm : b ∈ [b] := by simp
  have hk := kept_put hm (W := W) (.bool f2) (.slice wa2 wn2 wc2) (.slice oa2 on2 oc2)
  exact ⟨na, nn, nc, f2, wa2, wn2, wc2, oa2, on2, oc2, (((h1.onB hb).set 1 (.bool f2)).set 2 (.slice wa2 wn2 wc2)).set 3 (.slice oa2 on2 oc2), (h2.on hb).step hk (fun g hg => Or.inl hg), h3, hR.step hk (fun g hg => Or.inl hg), hwc⟩
theorem below_put1 {B : Nat} {w0 W : World} {b : Nat} (h : Below B w0 W) (hB : B ≤ b) (v1 v2 v3 : Value) : Below B w0 (((W.setCell ⟨b, 1, none⟩ v1).setCell ⟨b, 2, none⟩ v2).setCell ⟨b, 3, none⟩ v3) :=
  ((h.setCell (p := ⟨b, 1, none⟩) hB v1).setCell (p := ⟨b, 2, none⟩) hB v2).setCell (p := ⟨b, 3, none⟩) hB v3

set_option maxRecDepth 100000 in
set_option maxHeartbeats 2000000 in
/-- Begin, of a good program: two rows of its own. -/
theorem WBegin_own (p : List NodeD) (a : Option Addr) (n c : Nat) (w : World) (h : Nodes w a n p) (e0 : checkP p = 0) :
    Calls Tryz.prog 10 #[.slice a n c] w fun e w' => ∃ gW gO, e = .returned (.tuple #[.agg #[.bool true, .slice (some ⟨gW, 0, none⟩) n n, .slice (some ⟨gO, 0, none⟩) 3 3], .int .i64 0]) ∧ w.heap.size ≤ gW ∧ w.heap.size ≤ gO ∧ BoolRow w' gW (falsesL n) ∧ BoolRow w' gO (falsesL 3) ∧ Below w.heap.size w w' := by
  have hb0 : Below w.heap.size w (w.alloc (.cells #[.bool false, .slice none 0 0, .slice none 0 0] 35)) := (Below.refl _ _).alloc (Nat.le_refl _) _
  have hc0 := Cells.new w [.bool false, .slice none 0 0, .slice none 0 0] 35
  have hP := h.below hb0
  have HN := hide h.1
  clear h
  go_enter Tryz.func10, Tryz.ntmps10
  go_wp2_with fail
  generalize w.alloc (.cells #[.bool false, .slice none 0 0, .slice none 0 0] 35) = w1 at *
  refine (PCheck_any p _ _ _ _ hP).mono ?_
  rintro e w2 ⟨rfl, hb2⟩
  have hc2 := hc0.onB hb2
  have B2 := bstep hb0 hb2
  clear hc0 hb0 hb2 hP
  have hn14 : n ≤ 14 := by have := (pok_of e0).few; have := unhide HN; omega
  rw [e0]
  clear e0
  go_wp2_with fail
  refine (blank_any a n c _ hn14).mono ?_
  rintro e w3 ⟨gW, gO, rfl, hne, hgW, hgO, hrW, hrO, hb3⟩
  have hc3 := hc2.onB hb3
  have B3 := bstep B2 hb3
  have hlw := B2.size
  have hl2 := hc2.lt
  clear hc2 B2 hb3
  have hb4 := (Below.refl _ w3).alloc (Nat.le_refl _) (.cells #[.bool true, .slice (some ⟨gW, 0, none⟩) n n, .slice (some ⟨gO, 0, none⟩) 3 3] 35)
  have hc4 := hc3.onB hb4
  have hrW4 := hrW.on hb4
  have hrO4 := hrO.on hb4
  have B4 := bstep B3 hb4
  have z0 := hc4.cell 0
  have z1 := hc4.cell 1
  have z2 := hc4.cell 2
  have f0 := hc4.frozen 0
  have f1 := hc4.frozen 1
  have f2 := hc4.frozen 2
  have hc9 := ((hc4.set 0 (.bool true)).set 1 (.slice (some ⟨gW, 0, none⟩) n n)).set 2 (.slice (some ⟨gO, 0, none⟩) 3 3)
  have y0 := hc9.cell 0
  have y1 := hc9.cell 1
  have y2 := hc9.cell 2
  have B9 := ((B4.setCell (p := ⟨w.heap.size, 0, none⟩) (Nat.le_refl _) (.bool true)).setCell (p := ⟨w.heap.size, 1, none⟩) (Nat.le_refl _) (.slice (some ⟨gW, 0, none⟩) n n)).setCell (p := ⟨w.heap.size, 2, none⟩) (Nat.le_refl _) (.slice (some ⟨gO, 0, none⟩) 3 3)
  have hnW : gW ≠ w.heap.size := by omega
  have hnO : gO ≠ w.heap.size := by omega
  have rW9 := ((hrW4.far (k := 0) (v := .bool true) hnW).far (k := 1) (v := .slice (some ⟨gW, 0, none⟩) n n) hnW).far (k := 2) (v := .slice (some ⟨gO, 0, none⟩) 3 3) hnW
  have rO9 := ((hrO4.far (k := 0) (v := .bool true) hnO).far (k := 1) (v := .slice (some ⟨gW, 0, none⟩) n n) hnO).far (k := 2) (v := .slice (some ⟨gO, 0, none⟩) 3 3) hnO
  go_wp2_with fail
  generalize ((((w3.alloc (.cells #[.bool true, .slice (some ⟨gW, 0, none⟩) n n, .slice (some ⟨gO, 0, none⟩) 3 3] 35)).setCell ⟨w.heap.size, 0, none⟩ (.bool true)).setCell ⟨w.heap.size, 1, none⟩ (.slice (some ⟨gW, 0, none⟩) n n)).setCell ⟨w.heap.size, 2, none⟩ (.slice (some ⟨gO, 0, none⟩) 3 3)) = w9 at *
  exact bodyPost_ret (v := .tuple #[.agg #[.bool true, .slice (some ⟨gW, 0, none⟩) n n, .slice (some ⟨gO, 0, none⟩) 3 3], .int .i64 0]) (by simp [results, Tryz.results10, go_sem, y0, y1, y2]) rfl ⟨gW, gO, rfl, by omega, by omega, rW9, rO9, B9⟩

set_option maxRecDepth 100000 in
set_option maxHeartbeats 2000000 in
theorem again_any (b : Nat) (p : List NodeD) (r : RestD) (w : World) (h : PlK w b p r) (e0 : checkP p = 0) :
    Calls Tryz.prog 15 #[.pointer (some ⟨b, 0, none⟩)] w fun e w' => e = .returned (.string ⟨dOk.toArray⟩) ∧ PlK w' b p (beginR p) ∧ Below b w w' := by
  have hlt := h.lt
  have HP := hide h
  obtain ⟨na, nn, nc, f, wa, wn, wc, oa, on, oc, h1, h2, h3, _, _⟩ := h
  have x0 := h1.cell 0
  have HC := hide h1
  have hN := h2.now
  have HNN := hide (show nn = p.length from hN.1)
  clear h1 h2
  go_enter Tryz.func15, Tryz.ntmps15
  go_wp2_with fail
  refine (WBegin_own p na nn nc _ hN e0).mono ?_
  rintro e w2 ⟨gW, gO, rfl, hgW, hgO, hrW, hrO, hb2⟩
  have hc2 := (unhide HC).onB hb2
  have z1 := hc2.cell 1
  have z2 := hc2.cell 2
  have z3 := hc2.cell 3
  have y1 := hc2.frozen 1
  have y2 := hc2.frozen 2
  have y3 := hc2.frozen 3
  have yl := hc2.lt
  have hKR : Kp [b] w2 (fun V => RestAt V (beginR p) true (some ⟨gW, 0, none⟩) nn (some ⟨gO, 0, none⟩) 3) := fun V hk => by
    have e : beginR p = ⟨true, falsesL p.length, falsesL 3⟩ := by unfold beginR; rw [if_pos e0]
    rw [e, ← unhide HNN]
    have hn14 : nn ≤ 14 := by rw [unhide HNN]; exact (pok_of e0).few
    exact ⟨rfl, (hrW.kept hk (by simp; omega)).boolsN (by simp [falsesL]) hn14, (hrO.kept hk (by simp; omega)).boolsN (by simp [falsesL]) (by omega)⟩
  have HPL := plk_put (unhide HP) hb2 hKR (Nat.le_refl nn) (oc2 := 3)
  have HB := below_put1 (hb2.mono (Nat.le_of_lt hlt)) (Nat.le_refl b) (.bool true) (.slice (some ⟨gW, 0, none⟩) nn nn) (.slice (some ⟨gO, 0, none⟩) 3 3)
  clear hKR hrW hrO hc2 x0
  go_wp2_with fail
  go_ret
  exact ⟨rfl, HPL, HB⟩
end Go.Proofs.YtccokpnmdfalpaaGreatDoor
