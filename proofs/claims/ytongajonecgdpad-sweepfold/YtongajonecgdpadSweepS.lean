/- The program's sweep.fold. -/
import Derived.Test.YtongajonecgdpadSweepR
namespace Go.Proofs.Ytongajonecgdpad
open Go.RowKit

set_option maxHeartbeats 1000000 in
theorem open_any (n : Nat) (hn : n ≤ 20) (w : World) :
    Calls Try.prog 25 #[.int .i64 (n : Int)] w fun e w' => ∃ a c, e = .returned (.slice a n c) ∧ Ints w' a n (openV n) ∧ Below w.heap.size w w' := by
  have hal := (Below.refl _ w).alloc (Nat.le_refl _) (.cells #[.int .i64 2] 3)
  have hI := Ints.new w #[.int .i64 2] 3 1 [2] rfl rfl (lt_maxLen _ (by decide))
  go_enter Try.func25, Try.ntmps25
  go_wp2_with fail
  refine (Repeat_any n hn _ _ _ hI).mono ?_
  rintro e w1 ⟨a, c, rfl, h1, _, hb⟩
  go_wp2_with fail
  go_ret
  exact ⟨_, _, rfl, h1, bstep hal hb⟩

theorem ret_gate {k n : Int} {a : Option Addr} {m c : Nat} {k' n' : Int} (h1 : k = k') (h2 : n = n') : Ending.returned (.agg #[.int .i64 k, .int .i64 n, .slice a m c]) = .returned (.agg #[.int .i64 k', .int .i64 n', .slice a m c]) := by rw [h1, h2]
theorem held_g {w0 W : World} {b B : Nat} {u0 u1 u2 : Value} (hb : b < B) (h0 : w0.cell? ⟨b, 0, none⟩ = some u0) (h1 : w0.cell? ⟨b, 1, none⟩ = some u1) (h2 : w0.cell? ⟨b, 2, none⟩ = some u2) (h : Below B w0 W) :
    Below B w0 W ∧ W.cell? ⟨b, 0, none⟩ = some u0 ∧ W.cell? ⟨b, 1, none⟩ = some u1 ∧ W.cell? ⟨b, 2, none⟩ = some u2 :=
  ⟨h, (h.cell (p := ⟨b, 0, none⟩) hb).trans h0, (h.cell (p := ⟨b, 1, none⟩) hb).trans h1, (h.cell (p := ⟨b, 2, none⟩) hb).trans h2⟩

set_option maxRecDepth 100000 in
set_option maxHeartbeats 2000000 in
theorem fold_any (g : GateD) (aa : Option Addr) (an ac : Nat) (v : Int) (w : World) (hA : Ints w aa an g.args) (hfew : an ≤ 100) :
    Calls Try.prog 27 #[.agg #[.int .i64 g.kind, .int .i64 g.n, .slice aa an ac], .int .i64 v] w fun e w' => ∃ aa' an' ac', e = .returned (.agg #[.int .i64 (foldG v g).kind, .int .i64 (foldG v g).n, .slice aa' an' ac']) ∧ Ints w' aa' an' (foldG v g).args ∧ Fresh w.heap.size aa' an' ∧ Below w.heap.size w w' := by
  have hb0 : Below w.heap.size w (w.alloc (.cells #[.int .i64 g.kind, .int .i64 g.n, .slice aa an ac] 47)) := (Below.refl _ _).alloc (Nat.le_refl _) _
  have hg0 := GBox.new w g.kind g.n aa an ac 47
  have hb1 := (Below.refl _ (w.alloc (.cells #[.int .i64 g.kind, .int .i64 g.n, .slice aa an ac] 47))).alloc (Nat.le_refl _) (.cells #[.int .i64 0, .int .i64 0, .slice none 0 0] 47)
  have hc1 := Cells.new (w.alloc (.cells #[.int .i64 g.kind, .int .i64 g.n, .slice aa an ac] 47)) [.int .i64 0, .int .i64 0, .slice none 0 0] 47
  have hsz : (w.alloc (.cells #[.int .i64 g.kind, .int .i64 g.n, .slice aa an ac] 47)).heap.size = w.heap.size + 1 := by simp
  rw [hsz] at hc1
  have hg1 := hg0.below' hb1 hg0.1
  have hA1 := (hA.below hb0).below hb1
  have B1 := bstep hb0 hb1
  clear hg0 hb0 hb1 hsz hA
  obtain ⟨x0, x1, x2, x3⟩ := hg1
  by_cases e0 : v = 0
  · have HG := hide (show foldG v g = ⟨0, 0, []⟩ by unfold foldG; rw [if_pos e0])
    rw [unhide HG]
    clear HG
    subst e0
    clear x1 x2 x3 hc1 hA1
    go_enter Try.func27, Try.ntmps27
    go_wp2_with fail
    exact bodyPost_ret (v := .agg #[.int .i64 0, .int .i64 0, .slice none 0 0]) (by simp [results, Try.results27, go_sem]) rfl ⟨_, _, _, rfl, Ints.none _, Or.inl rfl, B1⟩
  by_cases e1 : v = 1
  · have HG := hide (show foldG v g = ⟨1, 0, []⟩ by unfold foldG; rw [if_neg e0, if_pos e1])
    rw [unhide HG]
    clear HG
    subst e1
    have B2 : Below w.heap.size w ((w.alloc (.cells #[.int .i64 g.kind, .int .i64 g.n, .slice aa an ac] 47)).alloc (.cells #[.int .i64 1, .int .i64 0, .slice none 0 0] 47)) := ((Below.refl _ _).alloc (Nat.le_refl _) _).alloc (by simp) _
    clear x1 x2 x3 hc1 hA1
    go_enter Try.func27, Try.ntmps27
    go_wp2_with fail
    exact bodyPost_ret (v := .agg #[.int .i64 1, .int .i64 0, .slice none 0 0]) (by simp [results, Try.results27, go_sem]) rfl ⟨_, _, _, rfl, Ints.none _, Or.inl rfl, B2⟩
  have HG := hide (show foldG v g = g by unfold foldG; rw [if_neg e0, if_neg e1])
  rw [unhide HG]
  clear HG
  have q0 : (v == 0) = false := by simp [e0]
  have q1 : (v == 1) = false := by simp [e1]
  have hlt1 := hc1.lt
  go_enter Try.func27, Try.ntmps27
  go_wp2_with fail
  generalize hw1 : (w.alloc (.cells #[.int .i64 g.kind, .int .i64 g.n, .slice aa an ac] 47)).alloc (.cells #[.int .i64 0, .int .i64 0, .slice none 0 0] 47) = w1 at *
  clear hw1
  have hbd := (Below.refl w1.heap.size w1).drew
  go_region_held3 (fun W => Below (w.heap.size + 1) w1 W ∧ W.cell? ⟨w.heap.size, 0, none⟩ = some (.int .i64 g.kind) ∧ W.cell? ⟨w.heap.size, 1, none⟩ = some (.int .i64 g.n) ∧ W.cell? ⟨w.heap.size, 2, none⟩ = some (.slice aa an ac))
    ((first | exact held_g (Nat.lt_succ_self _) x1 x2 x3 (Below.refl _ _).drew | exact held_g (Nat.lt_succ_self _) x1 x2 x3 (hSB.mono (Nat.le_of_lt hlt1)) | exact held_g (Nat.lt_succ_self _) x1 x2 x3 ((((hSB.mono (Nat.le_of_lt hlt1)).setCell (Nat.le_refl _) _).setCell (Nat.le_refl _) _).setCell (Nat.le_refl _) _)))
    ((first
      | (go_at_call 29; refine (CloneI_any g.args aa an ac _ (hA1.below hbd) hfew).mono ?_; rintro e wB ⟨aB, cB, rfl, hIB, hFB, hNB, hbB⟩; have hSB := bstep hbd hbB; have hcB := hc1.below hSB hlt1; have z0 := hcB.cell 0; have z1 := hcB.cell 1; have z2 := hcB.cell 2; have f0 := hcB.frozen 0; have f1 := hcB.frozen 1; have f2 := hcB.frozen 2)))
  have hc5 := ((hcB.set 0 (.int .i64 g.kind)).set 1 (.int .i64 g.n)).set 2 (.slice aB an cB)
  have y0 := hc5.cell 0
  have y1 := hc5.cell 1
  have y2 := hc5.cell 2
  have hF5 := hFB.down (b' := w.heap.size) (Nat.le_trans B1.size hbd.size)
  have hs1 := B1.size
  have hI5 : Ints (((wB.setCell ⟨w.heap.size + 1, 0, none⟩ (.int .i64 g.kind)).setCell ⟨w.heap.size + 1, 1, none⟩ (.int .i64 g.n)).setCell ⟨w.heap.size + 1, 2, none⟩ (.slice aB an cB)) aB an g.args := by
    obtain ⟨h1, h2, h3⟩ := hIB
    refine ⟨h1, h2, ?_⟩
    rcases h3 with h3 | ⟨b, off, ha, hl, hc⟩
    · exact Or.inl h3
    · rcases hFB with hF | ⟨b', off', ha', hB⟩
      · left; exact List.length_eq_zero_iff.1 (by omega)
      · rw [ha] at ha'
        injection ha' with ha'
        injection ha' with e1 e2 _
        subst e1
        have hbne : b ≠ w.heap.size + 1 := by have h9 : w1.heap.size ≤ b := hB; omega
        refine Or.inr ⟨b, off, ha, by simpa using hl, fun i hi => ?_⟩
        rw [World.cell?_of_block (a := ⟨b, off + i, none⟩) ((Below.heap_setCell _ _ _ _ hbne).trans ((Below.heap_setCell _ _ _ _ hbne).trans (Below.heap_setCell _ _ _ _ hbne)))]
        exact hc i hi
  have B5 := (((bstep B1 hSB).setCell (p := ⟨w.heap.size + 1, 0, none⟩) (Nat.le_succ _) (.int .i64 g.kind)).setCell (p := ⟨w.heap.size + 1, 1, none⟩) (Nat.le_succ _) (.int .i64 g.n)).setCell (p := ⟨w.heap.size + 1, 2, none⟩) (Nat.le_succ _) (.slice aB an cB)
  clear hcB hIB hFB hbB hSB z0 z1 z2 f0 f1 f2
  go_wp2_with fail
  exact bodyPost_ret (v := .agg #[.int .i64 g.kind, .int .i64 g.n, .slice aB an cB]) (by simp [results, Try.results27, go_sem, y0, y1, y2]) rfl ⟨_, _, _, rfl, hI5, hF5, B5⟩
end Go.Proofs.Ytongajonecgdpad
