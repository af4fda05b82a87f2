/- The walk of ProgTrue. -/
import Derived.Test.YtongajonecgdpaeProgL
import Derived.Test.YtongajonecgdpaeFrameP
namespace Go.Proofs.Ytongajonecgdpae
open Go.RowKit
open Go.ChangeShapes Go.WideShapes Go.ChangeAt

def chosen (c : Int) (n : Nat) : Nat := ((if c < 0 then -(c + 1) else c) % (n : Int)).toNat
theorem chosen_lt (c : Int) (n : Nat) (h : 0 < n) : chosen c n < n := by
  unfold chosen
  have h1 := Int.emod_nonneg (if c < 0 then -(c + 1) else c) (b := (n : Int)) (by omega)
  have h2 := Int.emod_lt_of_pos (if c < 0 then -(c + 1) else c) (b := (n : Int)) (by omega)
  omega

set_option maxHeartbeats 400000 in
theorem choose_any (c : Int) (n : Nat) (w : World) (h : 0 < n) (hn : n ≤ 200) (hc : (Lit.int .i64 c).wf = true) :
    Calls Try.prog 15 #[.int .i64 c, .int .i64 (n : Int)] w fun e w' => e = .returned (.int .i64 (chosen c n : Nat)) ∧ w' = w := by
  have hb := bounds_i64 hc
  have hz : ¬ (n : Int) = 0 := by omega
  have hnn : (0 : Int) < (n : Int) := by omega
  by_cases e : c < 0
  · have HQ : Hid (((chosen c n : Nat) : Int) = -(c + 1).tmod (n : Int)) := by
      unfold Hid chosen
      rw [if_pos e, Int.toNat_of_nonneg (Int.emod_nonneg _ (by omega)), ← Int.tmod_eq_emod_of_nonneg (by omega), Int.neg_tmod]
    go_enter Try.func15, Try.ntmps15
    go_wp2
    go_ret
    exact ⟨ret_int HQ.out.symm, rfl⟩
  · have HQ : Hid (((chosen c n : Nat) : Int) = c % (n : Int)) := by
      unfold Hid chosen
      rw [if_neg e, Int.toNat_of_nonneg (Int.emod_nonneg _ (by omega))]
    go_enter Try.func15, Try.ntmps15
    go_wp2
    go_ret
    exact ⟨ret_int HQ.out.symm, rfl⟩
theorem parts_fine {p : List NodeD} (hok : POk p) {k : Nat} (hk : k < p.length) : partsE p (k : Int) = 0 := by
  unfold partsE; rw [if_pos (of_pok hok), if_pos ⟨by omega, by omega⟩]
theorem part_end {p : List NodeD} (hok : POk p) {a : Option Addr} {n c : Nat} (hc : n ≤ c) {k : Nat} (hk : k < p.length) {w : World} (h : Nodes w a n p) :
    Calls Try.prog 17 #[.slice a n c, .int .i64 (k : Int)] w fun e w' => ∃ x y : Int, e = .returned (.tuple #[.int .i64 x, .int .i64 y, .int .i64 (endP p k : Nat), .int .i64 0]) ∧ Below w.heap.size w w' := by
  refine (PParts_any p _ _ _ (k : Int) _ h hc).mono ?_
  rintro e w' ⟨hr, b⟩
  have hE := parts_fine hok hk
  unfold PartsRet at hr
  refine ⟨partA p (k : Int), partB p (k : Int), ?_, b⟩
  rw [hr, hE]
  unfold partC
  rw [if_pos hE, Int.toNat_natCast]
set_option maxRecDepth 100000 in
set_option maxHeartbeats 4000000 in
theorem ProgTrue_any (p : List NodeD) (a : Option Addr) (n c : Nat) (k : Int) (w : World) (h : Nodes w a n p) (hc : n ≤ c) (hk : (Lit.int .i64 k).wf = true) :
    Calls Try.prog 7 #[.slice a n c, .int .i64 k] w fun e w' => e = .returned (.bool true) ∧ Below w.heap.size w w' := by
  have HN := hide h.1
  go_enter Try.func7, Try.ntmps7
  go_wp2_with fail
  refine (PCheck_any p _ _ _ _ h).mono ?_
  rintro e w1 ⟨rfl, b1⟩
  by_cases e0 : checkP p = 0
  case neg =>
    have hq : (checkP p != 0) = true := by simp [e0]
    clear e0
    generalize checkP p = ck at *
    go_wp2_with fail
    refine (progBegun_any _).mono ?_
    rintro e w2 ⟨rfl, b2⟩
    have B2 := bstep b1 b2
    go_wp2_with fail
    go_ret
    exact ⟨rfl, B2⟩
  rw [e0]
  have hok := pok_of e0
  have hpos : 0 < n := by have := ok_some (o := 0) hok.form; have := unhide HN; omega
  have hn14 : n ≤ 14 := by have := hok.few; have := unhide HN; omega
  have hn1 : ¬ (n : Int) = 0 := by omega
  have HC := hide e0
  clear e0
  have HOK := hide hok
  clear hok
  go_wp2_with fail
  refine (choose_any k n _ hpos (by omega) hk).mono ?_
  rintro e w2 ⟨rfl, rfl⟩
  have hi := chosen_lt k n hpos
  generalize chosen k n = i at *
  have hip : i < p.length := by have := unhide HN; omega
  have hE := parts_fine (unhide HOK) hip
  have hgt := end_gt hip
  have hle := end_le (unhide HOK).form hip
  rw [← unhide HN] at hle
  have hh := h.below b1
  go_wp2_with fail
  refine (PParts_any p _ _ _ (i : Int) _ hh hc).mono ?_
  rintro e w3 ⟨hr, b3⟩
  unfold PartsRet at hr
  rw [hE] at hr
  have h3 := hh.below b3
  have B3 := bstep b1 b3
  clear b1 b3 hh
  obtain ⟨b, off, rfl, hbb, c1, c2⟩ := h3.at hip
  have hmid := h3.mid (k := i) (m := endP p i - i) (by omega)
  have HPO := hide (part_ok (unhide HC) hip)
  cases hp : hasP p[i].kind
  · obtain ⟨r1, r2, r3⟩ := parts_leaf hE hip hp
    rw [r1, r2, r3] at hr
    subst hr
    rw [end_leaf hip hp] at hmid HPO hle
    rw [show i + 1 - i = 1 by omega] at hmid HPO
    have hii : (i : Int) + 1 ≤ (n : Int) := by omega
    have hm := hmid
    clear c1 c2 r1 r2 r3 hp hgt
    go_wp2_with fail
    refine (PCheck_any _ _ _ _ _ hm).mono ?_
    rintro e w4 ⟨rfl, b4⟩
    rw [unhide HPO]
    have B4 := bstep B3 b4
    clear b4 B3
    go_wp2_with fail
    refine (progBegun_any _).mono ?_
    rintro e w5 ⟨rfl, b5⟩
    have B5 := bstep B4 b5
    go_wp2_with fail
    go_ret
    exact ⟨rfl, B5⟩
  · obtain ⟨r1, r2, r3⟩ := parts_node hE hip hp
    rw [r1, r2, r3] at hr
    subst hr
    obtain ⟨t1, t2⟩ := end_two (unhide HOK).form hip hp
    have hn2 := end_node hip hp
    have g1 := end_gt t1
    have g2 := end_gt t2
    have P1 := fun (W : World) => part_end (a := some ⟨b, off, none⟩) (w := W) (unhide HOK) hc t1
    have P2 := fun (W : World) => part_end (a := some ⟨b, off, none⟩) (w := W) (unhide HOK) hc t2
    rw [← hn2] at g2 P2
    rw [show ((i + 1 : Nat) : Int) = (i : Int) + 1 by omega] at P1
    have HP1 := hide P1
    have HP2 := hide P2
    clear c1 c2 r1 r2 r3 hp P1 P2 hn2 t1 t2
    generalize endP p (i + 1) = m at *
    generalize endP p i = q at *
    have hm := hmid
    have x1 : (i : Int) < (q : Int) := by omega
    have x2 : (q : Int) ≤ (n : Int) := by omega
    have x3 : (i : Int) + 1 < (m : Int) := by omega
    have x4 : (m : Int) < (q : Int) := by omega
    have x5 : ¬ ((i : Int) + 1 = 0) := by omega
    go_wp2_with fail
    refine (PCheck_any _ _ _ _ _ hm).mono ?_
    rintro e w4 ⟨rfl, b4⟩
    rw [unhide HPO]
    have B4 := bstep B3 b4
    have h4 := h3.below b4
    clear b4 B3 h3 hm hmid
    go_wp2_with fail
    refine (unhide HP1 _ h4).mono ?_
    rintro e w5 ⟨u1, u2, rfl, b5⟩
    have B5 := bstep B4 b5
    have h5 := h4.below b5
    clear b5 B4 h4
    go_wp2_with fail
    refine (unhide HP2 _ h5).mono ?_
    rintro e w6 ⟨v1, v2, rfl, b6⟩
    have B6 := bstep B5 b6
    clear b6 B5 h5
    go_wp2_with fail
    refine (progBegun_any _).mono ?_
    rintro e w7 ⟨rfl, b7⟩
    have B7 := bstep B6 b7
    go_wp2_with fail
    go_ret
    exact ⟨rfl, B7⟩
end Go.Proofs.Ytongajonecgdpae
