/- The laws' play and progBegun. -/
import Derived.Test.YtongajonecgdpaeProgP
import Derived.Test.YtongajonecgdpaeEvalP
namespace Go.Proofs.Ytongajonecgdpae
open Go.RowKit

def nodeVs : List NodeD → List Value
  | [] => []
  | x :: xs => .int .i64 x.kind :: .int .i64 x.sig :: nodeVs xs
theorem nodeVs_at : ∀ (p : List NodeD) (i : Nat) (hi : i < p.length), (nodeVs p)[i * 2]? = some (.int .i64 p[i].kind) ∧ (nodeVs p)[i * 2 + 1]? = some (.int .i64 p[i].sig)
  | [], i, hi => by simp at hi
  | x :: xs, 0, _ => by simp [nodeVs]
  | x :: xs, i + 1, hi => by
    have h := nodeVs_at xs i (by simpa using hi)
    rw [show (i + 1) * 2 = i * 2 + 1 + 1 by omega]
    simpa [nodeVs] using h
theorem Cells.nodes {w : World} {g n : Nat} {p : List NodeD} {T : TypeId} (h : Cells w g (nodeVs p) T) (hn : n = p.length) (hm : n ≤ 14) : Nodes w (some ⟨g, 0, none⟩) n p := by
  refine ⟨hn, by unfold maxLen; omega, Or.inr ⟨g, 0, rfl, h.lt, fun i hi => ?_⟩⟩
  rw [Nat.zero_add, h.cell, h.cell]
  exact nodeVs_at p i hi
theorem Nodes.mid {w : World} {b off n : Nat} {p : List NodeD} (h : Nodes w (some ⟨b, off, Option.none⟩) n p) {k m : Nat} (hk : k + m ≤ n) : Nodes w (some ⟨b, off + k * 2, Option.none⟩) m ((p.drop k).take m) := by
  obtain ⟨h1, h2, h3⟩ := h
  have hlen : ((p.drop k).take m).length = m := by rw [List.length_take, List.length_drop]; omega
  refine ⟨hlen.symm, by omega, ?_⟩
  rcases h3 with h3 | ⟨b', off', ha, hlt, hc⟩
  · exact Or.inl (by rw [h3]; simp)
  · simp at ha
    obtain ⟨rfl, rfl⟩ := ha
    refine Or.inr ⟨b, off + k * 2, rfl, hlt, fun i hi => ?_⟩
    have hi' : k + i < p.length := by omega
    have := hc (k + i) hi'
    rw [List.getElem_take, List.getElem_drop]
    rw [show off + k * 2 + i * 2 = off + (k + i) * 2 by omega]
    exact this
def playD : List NodeD := [⟨5, 0⟩, ⟨6, 0⟩, ⟨5, 0⟩, ⟨4, 0⟩, ⟨3, 0⟩, ⟨5, 0⟩, ⟨1, 0⟩, ⟨3, 1⟩, ⟨5, 0⟩, ⟨1, 0⟩, ⟨8, 0⟩, ⟨3, 2⟩, ⟨2, 0⟩]
def playX : List NodeD := [⟨5, 0⟩, ⟨6, 0⟩, ⟨5, 0⟩, ⟨4, 0⟩, ⟨3, 3⟩, ⟨5, 0⟩, ⟨1, 0⟩, ⟨3, 1⟩, ⟨5, 0⟩, ⟨1, 0⟩, ⟨8, 0⟩, ⟨3, 2⟩, ⟨2, 0⟩]
def PlayRet (w w' : World) (e : Ending) : Prop := ∃ g, e = .returned (.slice (some ⟨g, 0, none⟩) 13 13) ∧ Cells w' g (nodeVs playD) 80 ∧ w.heap.size ≤ g ∧ Below w.heap.size w w'
set_option maxHeartbeats 1000000 in
theorem play_any (w : World) : Calls Try.prog 51 #[] w fun e w' => PlayRet w w' e := by
  have hb := (Below.refl _ w).alloc (Nat.le_refl _) (.cells (nodeVs playD).toArray 80)
  have hc := Cells.new w (nodeVs playD) 80
  go_enter Try.func51, Try.ntmps51
  go_wp2_with fail
  go_ret
  exact ⟨_, rfl, hc, Nat.le_refl _, hb⟩
theorem play_len : playD.length = 13 := rfl
theorem play_check : checkP playD = 0 := by decide +kernel
theorem play_x : checkP playX = 3 := by decide +kernel
theorem play_12 : checkP ((playD.drop 0).take 12) = 1 := by decide +kernel
theorem play_mid : checkP ((playD.drop 2).take 3) = 0 ∧ waitsV ((playD.drop 2).take 3) = [false, true, false] := by decide +kernel
theorem play_nil : checkP [] = 1 := by decide +kernel
theorem play_p1 {e : Ending} (h : PartsRet playD 1 e) : e = .returned (.tuple #[.int .i64 2, .int .i64 5, .int .i64 8, .int .i64 0]) := by
  unfold PartsRet at h
  have h1 : partA playD 1 = 2 := by decide +kernel
  have h2 : partB playD 1 = 5 := by decide +kernel
  have h3 : partC playD 1 = 8 := by decide +kernel
  have h4 : partsE playD 1 = 0 := by decide +kernel
  rw [h1, h2, h3, h4] at h
  exact h
theorem play_p13 {e : Ending} (h : PartsRet playD 13 e) : e = .returned (.tuple #[.int .i64 0, .int .i64 0, .int .i64 0, .int .i64 3]) := by
  unfold PartsRet at h
  have h1 : partA playD 13 = 0 := by decide +kernel
  have h2 : partB playD 13 = 0 := by decide +kernel
  have h3 : partC playD 13 = 0 := by decide +kernel
  have h4 : partsE playD 13 = 3 := by decide +kernel
  rw [h1, h2, h3, h4] at h
  exact h
theorem play_w {w w' : World} {e : Ending} (h : WaitsRet ((playD.drop 2).take 3) w w' e) : ∃ a n c, e = .returned (.tuple #[.slice a n c, .int .i64 0]) ∧ Bools w' a n [false, true, false] ∧ Below w.heap.size w w' := by
  obtain ⟨a, n, c, he, hB, hb⟩ := h
  rw [play_mid.1] at he hB
  rw [if_pos rfl, play_mid.2] at hB
  exact ⟨a, n, c, he, hB, hb⟩

set_option maxRecDepth 100000 in
set_option maxHeartbeats 4000000 in
theorem progBegun_any (w : World) : Calls Try.prog 22 #[] w fun e w' => e = .returned (.bool true) ∧ Below w.heap.size w w' := by
  go_enter Try.func22, Try.ntmps22
  go_wp2_with fail
  refine (play_any _).mono ?_
  rintro e w1 ⟨g1, rfl, hc1, hg1, b1⟩
  go_wp2_with fail
  refine (PParts_any playD _ _ _ 1 _ (hc1.nodes play_len.symm (by omega)) (by omega)).mono ?_
  rintro e w2 ⟨hr, hb⟩
  obtain rfl := play_p1 hr
  have B := bstep b1 hb
  clear hr hb b1 hc1 hg1
  go_wp2_with fail
  refine (play_any _).mono ?_
  rintro e w3 ⟨g3, rfl, hc3, hg3, b3⟩
  have B3 := bstep B b3
  clear B b3
  have hm := (hc3.nodes (n := 13) play_len.symm (by omega)).mid (k := 2) (m := 3) (by omega)
  go_wp2_with fail
  refine (PWaits_any _ _ _ _ _ hm).mono ?_
  rintro e w4 hr
  obtain ⟨la, ln, lc, rfl, hL, hb⟩ := play_w hr
  have B4 := bstep B3 hb
  clear B3 hb hr hc3 hg3 hm
  go_wp2_with fail
  refine (play_any _).mono ?_
  rintro e w5 ⟨g5, rfl, hc5, hg5, b5⟩
  have B5 := bstep B4 b5
  have hL5 := hL.below b5
  clear B4 b5 hL
  go_wp2_with fail
  refine (PParts_any playD _ _ _ 13 _ (hc5.nodes play_len.symm (by omega)) (by omega)).mono ?_
  rintro e w6 ⟨hr, hb⟩
  obtain rfl := play_p13 hr
  have B6 := bstep B5 hb
  have hL6 := hL5.below hb
  clear hr hb B5 hL5 hc5 hg5
  go_wp2_with fail
  refine (play_any _).mono ?_
  rintro e w7 ⟨g7, rfl, hc7, hg7, b7⟩
  have B7 := bstep B6 b7
  have hlw := B6.size
  have x9 := hc7.cell 9
  have f9 := hc7.frozen 9
  have hlt7 := hc7.lt
  have hcX : Cells (w7.setCell ⟨g7, 9, none⟩ (.int .i64 3)) g7 (nodeVs playX) 80 := hc7.set 9 (.int .i64 3)
  have BX := B7.setCell (p := ⟨g7, 9, none⟩) (by show w.heap.size ≤ g7; omega) (.int .i64 3)
  have hLX := hL6.below (b7.setCell (p := ⟨g7, 9, none⟩) hg7 (.int .i64 3))
  have hNX := hcX.nodes (n := 13) rfl (by omega)
  clear B6 b7 hL6 B7 hcX hc7
  go_wp2_with fail
  generalize w7.setCell ⟨g7, 9, none⟩ (.int .i64 3) = w8 at *
  refine (play_any _).mono ?_
  rintro e w9 ⟨g9, rfl, hc9, hg9, b9⟩
  have B9 := bstep BX b9
  have hL9 := hLX.below b9
  have hN9 := hNX.below b9
  clear b9 BX hLX hNX hg9 x9 f9 hlt7 hg7 hlw
  go_wp2_with fail
  refine (PCheck_any playD _ _ _ _ (hc9.nodes play_len.symm (by omega))).mono ?_
  rintro e w10 ⟨rfl, hb⟩
  rw [play_check]
  have B10 := bstep B9 hb
  have hL10 := hL9.below hb
  have hN10 := hN9.below hb
  clear B9 hb hL9 hN9 hc9
  go_wp2_with fail
  refine (play_any _).mono ?_
  rintro e w11 ⟨g11, rfl, hc11, hg11, b11⟩
  have B11 := bstep B10 b11
  have hL11 := hL10.below b11
  have hN11 := hN10.below b11
  clear b11 B10 hL10 hN10 hg11
  have hm2 := (hc11.nodes (n := 13) play_len.symm (by omega)).mid (k := 0) (m := 12) (by omega)
  go_wp2_with fail
  refine (PCheck_any _ _ _ _ _ hm2).mono ?_
  rintro e w12 ⟨rfl, hb⟩
  rw [play_12]
  have B12 := bstep B11 hb
  have hL12 := hL11.below hb
  have hN12 := hN11.below hb
  clear B11 hb hL11 hN11 hc11 hm2
  go_wp2_with fail
  refine (PCheck_any [] none 0 0 _ ⟨rfl, Nat.zero_le _, Or.inl rfl⟩).mono ?_
  rintro e w13 ⟨rfl, hb⟩
  rw [play_nil]
  have B13 := bstep B12 hb
  have hL13 := hL12.below hb
  have hN13 := hN12.below hb
  clear B12 hb hL12 hN12
  go_wp2_with fail
  refine (PCheck_any playX _ _ _ _ hN13).mono ?_
  rintro e w14 ⟨rfl, hb⟩
  rw [play_x]
  have B14 := bstep B13 hb
  have hL14 := hL13.below hb
  clear B13 hb hL13 hN13
  have hbS := (Below.refl _ w14).alloc (Nat.le_refl _) (.cells #[.bool false, .bool true, .bool false] 4)
  have hS := Bools.new' w14 #[.bool false, .bool true, .bool false] 4 w14.heap.size 3 [false, true, false] rfl rfl rfl (by decide)
  have hL15 := hL14.below hbS
  have B15 := bstep B14 hbS
  clear hL14 B14 hbS
  go_wp2_with fail
  generalize w14.alloc (.cells #[.bool false, .bool true, .bool false] 4) = w15 at *
  refine (SameBools_any _ _ _ _ _ _ _ _ _ hL15 hS).mono ?_
  rintro e w16 ⟨rfl, hb⟩
  have B16 := bstep B15 hb
  clear B15 hb
  rw [show decide ([false, true, false] = [false, true, false]) = true from rfl]
  go_wp2_with fail
  go_ret
  exact ⟨rfl, B16⟩
end Go.Proofs.Ytongajonecgdpae
