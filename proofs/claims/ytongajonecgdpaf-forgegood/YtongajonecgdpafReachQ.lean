/- The program's walker: move. -/
import Derived.Test.YtongajonecgdpafReachP
namespace Go.Proofs.Ytongajonecgdpaf
open Go.RowKit Go.Maps

theorem Entered.after {w w1 w' : World} {B b m : Nat} {k : NC} {rl : Nat} {sts ws : List (List Int)} {x y : List Int} {e : Ending} (hb : Below w.heap.size w w1) (hB : B ≤ w.heap.size) (h : Entered w1 w' B b m k rl sts ws x y e) : Entered w w' B b m k rl sts ws x y e := by
  rcases h with ⟨h1, h2, h3⟩ | ⟨h1, h2, h3, h4⟩ | ⟨h1, h2, h3, h4, h5⟩
  · exact Or.inl ⟨h1, h2, bstep hb h3⟩
  · exact Or.inr (Or.inl ⟨h1, h2, h3, bstep hb h4⟩)
  · exact Or.inr (Or.inr ⟨h1, h2, h3, h4, (hb.mono hB).trans h5⟩)
/-- What move does. -/
def Moved (w w' : World) (d : NetD) (B b m : Nat) (k : NC) (rl : Nat) (sts ws : List (List Int)) (st : List Int) (x : Nat) (y : List Int) (e : Ending) : Prop :=
  (doE d st (bitsV x k.i) ≠ 0 ∧ e = .returned (.int .i64 (doE d st (bitsV x k.i))) ∧ Below w.heap.size w w') ∨ (doE d st (bitsV x k.i) = 0 ∧ Entered w w' B b m k rl sts ws (doNext d st (bitsV x k.i)) y e)

theorem heldw_of {w0 W : World} {b : Nat} {p : Addr} {u v : Value} (hb : b < w0.heap.size) (hc : w0.cell? ⟨b, 0, none⟩ = some u) (hp : p.block < w0.heap.size) (hv : w0.cell? p = some v) (h : Below w0.heap.size w0 W) :
    Below w0.heap.size w0 W ∧ W.cell? ⟨b, 0, none⟩ = some u ∧ W.cell? p = some v := ⟨h, (h.cell (p := ⟨b, 0, none⟩) hb).trans hc, (h.cell hp).trans hv⟩

theorem wrap_small (z : Int) (h0 : 0 ≤ z) (h : z ≤ 100) : IntKind.i64.wrap z = z := by rw [IntKind.wrap_i64]; omega
theorem len_facts (n : Nat) (h : n ≤ 100) : (0 : Int) ≤ (n : Int) ∧ (n : Int) < (n : Int) + 1 ∧ (n : Int) ≤ 100 ∧ IntKind.i64.wrap (n : Int) = (n : Int) := ⟨by omega, by omega, by omega, wrap_small _ (by omega) (by omega)⟩
theorem num_facts (x : Nat) (h : x ≤ 8) : (0 : Int) ≤ (x : Int) ∧ (x : Int) ≤ 1048576 := ⟨by omega, by omega⟩

set_option maxRecDepth 100000 in
set_option maxHeartbeats 4000000 in
theorem move_any (d : NetD) (B b m : Nat) (k : NC) (rl : Nat) (pv : Value) (sts ws : List (List Int)) (w : World) (h : Wk w B b m k rl pv sts ws) (hN : NetAt w d (k.i : Int) k.ga k.gn k.ra k.rn k.oa k.on) (hrl : rl ≤ 20) (hrd : d.regs.length = rl) (hlen : sts.length ≤ 64) (hi3 : k.i ≤ 3)
    (st : List Int) (sa : Option Addr) (sn sc : Nat) (hS : Ints w sa sn st) (l : List Int) (hl100 : l.length ≤ 100) (x : Nat) (hx : x ≤ 8) (ya : Option Addr) (yc : Nat) (hY : OffG w [pv.ownBlock, some b, some m] ya (l.length + 1) (l ++ [(x : Int)])) (hyz : ya ≠ none) :
    Calls Try.prog 128 #[.pointer (some ⟨b, 0, none⟩), .slice sa sn sc, .slice ya (l.length + 1) yc] w fun e w' => Moved w w' d B b m k rl sts ws st x (l ++ [(x : Int)]) e := by
  have HW := hide h
  have hBw : B ≤ w.heap.size := by have := h.hb; have := h.cell.1; omega
  obtain ⟨hbl, c0, c1, c2, c3, c4, c5⟩ := h.cell
  have HY := hide hY
  have hlt : l.length < (l ++ [(x : Int)]).length := by simp
  obtain ⟨yb, yo, rfl, hyb, cy⟩ := hY.1.at hlt
  have hlast : (l ++ [(x : Int)])[l.length] = (x : Int) := by simp
  rw [hlast] at cy
  clear hlt hlast hY h hyz
  have hi20 : k.i ≤ 20 := by omega
  obtain ⟨hl0, hl1, hl2, hl3⟩ := len_facts l.length hl100
  obtain ⟨hx0, hx1⟩ := num_facts x hx
  go_enter Try.func128, Try.ntmps128
  go_wp2_with fail
  go_region_held3 (fun W => Below w.heap.size w W ∧ W.cell? ⟨b, 0, none⟩ = some (.int .i64 (k.i : Int)) ∧ W.cell? ⟨yb, yo + l.length, none⟩ = some (.int .i64 (x : Int)))
    ((first | exact heldw_of hbl c0 hyb cy (Below.refl _ _).drew | exact heldw_of hbl c0 hyb cy hSB))
    ((first
      | (go_at_call 60; refine (Of_any (x : Int) k.i _ hx0 hx1 hi20).mono ?_; rintro e wB ⟨aB, nB, cB, rfl, hIB, hbB⟩; have hSB := bstep ((Below.refl w.heap.size w).drew) hbB)))
  have hW1 := (unhide HW).below hSB
  have hN1 := hN.below hSB
  have hS1 := hS.below hSB
  obtain ⟨hbl1, f0, f1, f2, f3, f4, f5⟩ := hW1.cell
  clear c0 c1 c2 c3 c4 c5 hbB
  go_wp2_with fail
  refine (DoF_any d _ _ _ _ _ _ _ _ _ _ _ hN1 st (bitsV x k.i) _ _ _ _ _ _ hS1 hIB).mono ?_
  rintro e wD ⟨uo, un, uc, na, nn, nc, rfl, hIO, hIN, hFO, hFN, hbD⟩
  have hSD := bstep hSB hbD
  have hWD := hW1.below hbD
  by_cases e0 : doE d st (bitsV x k.i) = 0
  · have HE := hide e0
    have hNX := OffG.fresh hIN hFN (G := [pv.ownBlock, some b, some m]) (fun j hj => hW1.lt j hj)
    have hYD := (unhide HY).kept (Kept.of_below hSD _) (fun _ _ h => h)
    have hst := doNext_st e0
    rw [hrd] at hst
    rw [unhide HE]
    clear e0 f0 f1 f2 f3 f4 f5 hIO hIN hFO hFN hbD hIB
    go_wp2_with fail
    refine (enter_any B b m k rl pv sts ws _ hWD hrl hlen _ _ hst _ _ _ _ _ _ hNX hYD (fun h => by simp at h)).mono ?_
    intro e w9 hE
    have hE' := hE.after hSD hBw
    rcases hE with ⟨_, rfl, _⟩ | ⟨_, _, rfl, _⟩ | ⟨_, _, rfl, _, _⟩
    · go_wp2_with fail
      go_ret
      exact Or.inr ⟨unhide HE, hE'⟩
    · go_wp2_with fail
      go_ret
      exact Or.inr ⟨unhide HE, hE'⟩
    · go_wp2_with fail
      go_ret
      exact Or.inr ⟨unhide HE, hE'⟩
  · have hne : (doE d st (bitsV x k.i) != 0) = true := by simp [e0]
    have HE := hide e0
    clear e0 f0 f1 f2 f3 f4 f5 hIO hIN hFO hFN hbD hIB
    go_wp2_with fail
    go_ret
    exact Or.inl ⟨unhide HE, rfl, hSD⟩
end Go.Proofs.Ytongajonecgdpaf
