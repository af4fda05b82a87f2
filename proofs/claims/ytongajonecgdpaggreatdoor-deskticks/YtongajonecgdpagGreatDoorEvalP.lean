/- The program's rows: row.Pick and row.Of. -/
import Derived.Test.YtongajonecgdpagGreatDoorEvalM
import Derived.Laws.BitsLemmas
import Derived.Deep.RegionHeld3
import Derived.Deep.DrawnRows
import Derived.Test.YtongajonecgdpagGreatDoorNetO
namespace Go.Proofs.YtongajonecgdpagGreatDoor
open Go.RowKit

theorem IntRow.fresh {w : World} {g n : Nat} {xs : List Int} {base : Nat} (_h : IntRow w g xs) (hg : base ≤ g) : Fresh base (some ⟨g, 0, none⟩) n := Or.inr ⟨g, 0, rfl, hg⟩

set_option maxHeartbeats 1000000 in
theorem Pick_any (v l : List Int) (va la : Option Addr) (vn vc ln lc : Nat) (w : World) (hv : Ints w va vn v) (hl : Ints w la ln l) (hln : ln ≤ 200) (hin : ∀ k (hk : k < l.length), 0 ≤ l[k] ∧ l[k] < v.length) :
    Calls Tryz.prog 100 #[.slice va vn vc, .slice la ln lc] w fun e w' => ∃ a n c, e = .returned (.slice a n c) ∧ Ints w' a n (pickV v l) ∧ Fresh w.heap.size a n ∧ Below w.heap.size w w' := by
  have HLL : Hid (l.length = ln) := hl.1.symm
  have hll : ln ≤ l.length := by have := HLL.out; omega
  have hll2 : l.length ≤ ln := by have := HLL.out; omega
  have HVN := hide hv.1
  have HIN := hide hin
  clear hin
  obtain ⟨i0, hi, hz0, hz1, hz2⟩ := info_parts Tryz.infoInt
  go_enter Tryz.func100, Tryz.ntmps100
  go_wp2_with (at_make; refine wpList_make_full _ rfl _ _ 28 rfl w.heap.size 3 i0 (.int .i64 0) 1 Tryz.underlying28 hi hz0 hz1 .i64 .i64 (ln : Int) (ln : Int) ln rfl rfl rfl rfl ?c1 ?c2 ?c3 ?_)
  case c1 => rw [hz2]; omega
  case c2 => unfold maxLen; omega
  case c3 => exact Nat.le_refl _
  intro w2 hown hgrow
  have hb2 : Below w.heap.size w w2 := (Below.refl _ _).grown hgrow (Nat.le_refl _) (fun k hk => by simp at hk)
  have hrow0 := made_introw hown
  clear hown hgrow hi hz0 hz1 hz2
  go_wp2_with fail
  go_loopw [13] (fun i wr => ∃ k : Nat, k ≤ ln ∧ i = .int .i64 k ∧ IntRow wr w.heap.size (partTo 0 (pickV v l) k) ∧ Below w.heap.size w wr) (fun i _ => ln - (intOf i).toNat)
  case atStart => exact ⟨0, Nat.zero_le _, rfl, by rw [partTo_zero, pickV_len, HLL.out]; exact hrow0, hb2⟩
  case round =>
    clear hrow0 hb2
    obtain ⟨k, hk, rfl, hrow, hbel⟩ := hrel
    by_cases hlt : k < ln
    · have hltl : k < l.length := by omega
      have hki : (k : Int) < (ln : Int) := by omega
      obtain ⟨b, off, rfl, hbb, c1⟩ := (hl.below hbel).at hltl
      obtain ⟨hp, hq⟩ := (unhide HIN) k hltl
      obtain ⟨m, hm⟩ := Int.eq_ofNat_of_zero_le hp
      have hml : m < v.length := by omega
      have hmi : (m : Int) < (vn : Int) := by have := unhide HVN; omega
      obtain ⟨b2, off2, rfl, hbb2, c2⟩ := (hv.below hbel).at hml
      have hpk : k < (pickV v l).length := by rw [pickV_len]; exact hltl
      have hpl : k < (partTo 0 (pickV v l) k).length := by rw [partTo_len _ _ _ (by omega)]; exact hpk
      obtain ⟨z, d1⟩ : ∃ z, wr.cell? ⟨w.heap.size, k, none⟩ = some (.int .i64 z) := ⟨_, hrow.cell k hpl⟩
      have d2 := hrow.frozen k
      have hrow2 := hrow.set k v[m]
      have hset := partTo_set 0 (pickV v l) k hpk
      have hval : (pickV v l)[k] = v[m] := by simp [pickV, hm, List.getD_eq_getElem?_getD, hml]
      rw [hval] at hset
      rw [hset] at hrow2
      have hbel2 : Below w.heap.size w (wr.setCell ⟨w.heap.size, k, none⟩ (.int .i64 v[m])) := hbel.setCell (Nat.le_refl _) _
      rw [hm] at c1
      clear hset hpl hpk hrow hval hp hq hm
      go_wp2_with fail
      exact ⟨⟨k + 1, by omega, by go_num, hrow2, hbel2⟩, by simp [intOf]; omega⟩
    · have hkn : k = (pickV v l).length := by rw [pickV_len]; omega
      rw [hkn, partTo_full] at hrow
      have hI : Ints _ (some ⟨w.heap.size, 0, none⟩) ln (pickV v l) := hrow.ints ln (by rw [pickV_len]; omega) (by rw [pickV_len]; unfold maxLen; omega)
      have hF := hrow.fresh (n := ln) (Nat.le_refl _)
      clear hkn hrow
      go_wp2_with fail
      go_ret
      exact ⟨_, _, _, rfl, hI, hF, hbel⟩

set_option maxHeartbeats 1000000 in
theorem Nexts_any (rs : List (Bool × Int)) (ra : Option Addr) (rn rc : Nat) (w : World) (h : Regs w ra rn rs) (hn : rn * 8 ≤ 281474976710656) :
    Calls Tryz.prog 101 #[.slice ra rn rc] w fun e w' => ∃ a c, e = .returned (.slice a rn c) ∧ Ints w' a rn (rs.map (·.2)) ∧ a ≠ none ∧ Fresh w.heap.size a rn ∧ Below w.heap.size w w' := by
  have HLL : Hid (rs.length = rn) := h.1.symm
  have HML : Hid ((rs.map (·.2)).length = rn) := by unfold Hid; rw [List.length_map]; exact HLL.out
  obtain ⟨i0, hi, hz0, hz1, hz2⟩ := info_parts Tryz.infoInt
  go_enter Tryz.func101, Tryz.ntmps101
  go_wp2_with (at_make; refine wpList_make_full _ rfl _ _ 28 rfl w.heap.size 3 i0 (.int .i64 0) 1 Tryz.underlying28 hi hz0 hz1 .i64 .i64 (rn : Int) (rn : Int) rn rfl rfl rfl rfl ?c1 ?c2 ?c3 ?_)
  case c1 => rw [hz2]; omega
  case c2 => unfold maxLen; omega
  case c3 => exact Nat.le_refl _
  intro w2 hown hgrow
  have hb2 : Below w.heap.size w w2 := (Below.refl _ _).grown hgrow (Nat.le_refl _) (fun k hk => by simp at hk)
  have hrow0 := made_introw hown
  clear hown hgrow hi hz0 hz1 hz2
  go_wp2_with fail
  go_loopw [11] (fun i wr => ∃ k : Nat, k ≤ rn ∧ i = .int .i64 k ∧ IntRow wr w.heap.size (partTo 0 (rs.map (·.2)) k) ∧ Below w.heap.size w wr) (fun i _ => rn - (intOf i).toNat)
  case atStart => exact ⟨0, Nat.zero_le _, rfl, by rw [partTo_zero, HML.out]; exact hrow0, hb2⟩
  case round =>
    clear hrow0 hb2
    obtain ⟨k, hk, rfl, hrow, hbel⟩ := hrel
    by_cases hlt : k < rn
    · have hltl : k < rs.length := by have := HLL.out; omega
      have hki : (k : Int) < (rn : Int) := by omega
      obtain ⟨b, off, rfl, hbb, c1, c2⟩ := (h.below hbel).at hltl
      have hpk : k < (rs.map (·.2)).length := by rw [HML.out]; exact hlt
      have hpl : k < (partTo 0 (rs.map (·.2)) k).length := by rw [partTo_len _ _ _ (by omega)]; exact hpk
      obtain ⟨z, d1⟩ : ∃ z, wr.cell? ⟨w.heap.size, k, none⟩ = some (.int .i64 z) := ⟨_, hrow.cell k hpl⟩
      have d2 := hrow.frozen k
      have hvl := hrow.lt
      have hrow2 := hrow.set k rs[k].2
      have hset := partTo_set 0 (rs.map (·.2)) k hpk
      have hval : (rs.map (·.2))[k] = rs[k].2 := by simp
      rw [hval] at hset
      rw [hset] at hrow2
      have hbel2 : Below w.heap.size w (wr.setCell ⟨w.heap.size, k, none⟩ (.int .i64 rs[k].2)) := hbel.setCell (Nat.le_refl _) _
      clear hset hpl hpk hrow hval
      go_wp2_with fail
      exact ⟨⟨k + 1, by omega, by go_num, hrow2.below ((Below.refl _ _).alloc (Nat.le_refl _) _) hrow2.lt, hbel2.alloc hbel2.size _⟩, by simp [intOf]; omega⟩
    · have hkn : k = (rs.map (·.2)).length := by rw [HML.out]; omega
      rw [hkn, partTo_full] at hrow
      have hI : Ints _ (some ⟨w.heap.size, 0, none⟩) rn (rs.map (·.2)) := hrow.ints rn HML.out.symm (by rw [HML.out]; unfold maxLen; omega)
      have hF := hrow.fresh (n := rn) (Nat.le_refl _)
      clear hkn hrow
      go_wp2_with fail
      go_ret
      exact ⟨_, _, rfl, hI, by simp, hF, hbel⟩

theorem wraps_i64 (n : Int) (h₀ : 0 ≤ n) (h₁ : n < 2 ^ 62) : IntKind.i64.wrap n = n := by
  have e : (2 : Int) ^ 62 = 4611686018427387904 := by decide
  rw [e] at h₁
  rw [IntKind.wrap_i64]; omega
theorem and_one (x : Int) (h₀ : 0 ≤ x) (h₁ : x ≤ 1048576) : bits .and .i64 x 1 = x % 2 := by
  have e : (2 : Int) ^ 62 = 4611686018427387904 := by decide
  have := bits_mask .i64 62 (by decide) wraps_i64 1 (by decide) x h₀ (by rw [e]; omega)
  simpa using this
theorem bit01 (x : Int) (k : Nat) : x / 2 ^ k % 2 = 0 ∨ x / 2 ^ k % 2 = 1 := by omega
set_option maxHeartbeats 1000000 in
theorem Of_any (x : Int) (n : Nat) (w : World) (hx : 0 ≤ x) (hx2 : x ≤ 1048576) (hn : n ≤ 20) :
    Calls Tryz.prog 71 #[.int .i64 x, .int .i64 n] w fun e w' => ∃ a n' c, e = .returned (.slice a n' c) ∧ Ints w' a n' (bitsV x n) ∧ Below w.heap.size w w' := by
  obtain ⟨i0, hi, hz0, hz1, hz2⟩ := info_parts Tryz.infoInt
  go_enter Tryz.func71, Tryz.ntmps71
  go_wp2_with (at_make; refine wpList_make_full _ rfl _ _ 28 rfl w.heap.size 3 i0 (.int .i64 0) 1 Tryz.underlying28 hi hz0 hz1 .i64 .i64 (n : Int) (n : Int) n rfl rfl rfl rfl ?c1 ?c2 ?c3 ?_)
  case c1 => rw [hz2]; omega
  case c2 => unfold maxLen; omega
  case c3 => exact Nat.le_refl _
  intro w2 hown hgrow
  have hb2 : Below w.heap.size w w2 := (Below.refl _ _).grown hgrow (Nat.le_refl _) (fun k hk => by simp at hk)
  have hrow0 := made_introw hown
  clear hown hgrow hi hz0 hz1 hz2
  go_wp2_with fail
  go_loopw [11] (fun i wr => ∃ k : Nat, k ≤ n ∧ i = .int .i64 k ∧ IntRow wr w.heap.size (partTo 0 (bitsV x n) k) ∧ Below w.heap.size w wr) (fun i _ => n - (intOf i).toNat)
  case atStart => exact ⟨0, Nat.zero_le _, rfl, by rw [partTo_zero, bitsV_len]; exact hrow0, hb2⟩
  case round =>
    clear hrow0 hb2
    obtain ⟨k, hk, rfl, hrow, hbel⟩ := hrel
    by_cases hlt : k < n
    · have hki : (k : Int) < (n : Int) := by omega
      have hpk : k < (bitsV x n).length := by rw [bitsV_len]; exact hlt
      have hpl : k < (partTo 0 (bitsV x n) k).length := by rw [partTo_len _ _ _ (by omega)]; exact hpk
      obtain ⟨z, d1⟩ : ∃ z, wr.cell? ⟨w.heap.size, k, none⟩ = some (.int .i64 z) := ⟨_, hrow.cell k hpl⟩
      have d2 := hrow.frozen k
      have hrow1 := hrow.set k 0
      have hlen1 : ((partTo 0 (bitsV x n) k).set k 0).length = (partTo 0 (bitsV x n) k).length := by simp
      obtain ⟨z2, e1⟩ : ∃ z, (wr.setCell ⟨w.heap.size, k, none⟩ (.int .i64 0)).cell? ⟨w.heap.size, k, none⟩ = some (.int .i64 z) := ⟨_, hrow1.cell k (by rw [hlen1]; exact hpl)⟩
      have e2 := hrow1.frozen k
      have hrow2 := hrow1.set k 1
      rw [List.set_set] at hrow2
      have hset := partTo_set 0 (bitsV x n) k hpk
      have hval : (bitsV x n)[k] = x / 2 ^ k % 2 := by simp [bitsV]
      rw [hval] at hset
      have hb1 : Below w.heap.size w (wr.setCell ⟨w.heap.size, k, none⟩ (.int .i64 0)) := hbel.setCell (Nat.le_refl _) _
      have hb2 : Below w.heap.size w ((wr.setCell ⟨w.heap.size, k, none⟩ (.int .i64 0)).setCell ⟨w.heap.size, k, none⟩ (.int .i64 1)) := hb1.setCell (Nat.le_refl _) _
      have hge : 0 ≤ x / 2 ^ k := Int.ediv_nonneg hx (Int.pow_nonneg (by decide))
      have hle : x / 2 ^ k ≤ 1048576 := Int.le_trans (Int.ediv_le_self _ hx) hx2
      have hand := and_one (x / 2 ^ k) hge hle
      rcases bit01 x k with hb | hb
      · rw [hb] at hset hand
        rw [hset] at hrow1
        clear hset hpl hpk hrow hval hb hrow2 hb2 hlen1
        go_wp2_with fail
        exact ⟨⟨k + 1, by omega, by go_num, hrow1, hb1⟩, by simp [intOf]; omega⟩
      · rw [hb] at hset hand
        rw [hset] at hrow2
        clear hset hpl hpk hrow hval hb hlen1
        go_wp2_with fail
        exact ⟨⟨k + 1, by omega, by go_num, hrow2, hb2⟩, by simp [intOf]; omega⟩
    · have hkn : k = (bitsV x n).length := by rw [bitsV_len]; omega
      rw [hkn, partTo_full] at hrow
      have hI : Ints _ (some ⟨w.heap.size, 0, none⟩) n (bitsV x n) := hrow.ints n (by rw [bitsV_len]) (by rw [bitsV_len]; unfold maxLen; omega)
      clear hkn hrow
      go_wp2_with fail
      go_ret
      exact ⟨_, _, _, rfl, hI, hbel⟩

def argWorth (kind : Int) (xs : List Int) : Int := if kind = 4 then tellV 0 1 xs else if kind = 5 then tellV 1 0 xs else if kind = 6 then not1 (xs.getD 0 2) else 2

set_option maxHeartbeats 1000000 in
theorem ofArgs_any (kind : Int) (xs : List Int) (a : Option Addr) (n c : Nat) (w : World) (h : Ints w a n xs) (hv : vals xs = true) (hk : kind = 4 ∨ kind = 5 ∨ kind = 6) (h1 : kind = 6 → xs.length = 1) :
    Calls Tryz.prog 162 #[.int .i64 kind, .slice a n c] w fun e w' => e = .returned (.int .i64 (argWorth kind xs)) ∧ Below w.heap.size w w' := by
  rcases hk with rfl | rfl | rfl
  · have HW : Hid (argWorth 4 xs = allV xs) := by simp [Hid, argWorth, allV, hv]
    clear h1 hv
    go_enter Tryz.func162, Tryz.ntmps162
    go_wp2_with fail
    refine (All_any _ _ _ _ _ h).mono ?_
    rintro e w1 ⟨rfl, hb⟩
    go_wp2_with fail
    go_ret
    exact ⟨ret_int HW.out.symm, hb⟩
  · have HW : Hid (argWorth 5 xs = anyV xs) := by simp [Hid, argWorth, anyV, hv]
    clear h1 hv
    go_enter Tryz.func162, Tryz.ntmps162
    go_wp2_with fail
    refine (Any_any _ _ _ _ _ h).mono ?_
    rintro e w1 ⟨rfl, hb⟩
    go_wp2_with fail
    go_ret
    exact ⟨ret_int HW.out.symm, hb⟩
  · have h0l : 0 < xs.length := by rw [h1 rfl]; decide
    have hn : n = 1 := by rw [h.1]; exact h1 rfl
    subst hn
    have HW : Hid (argWorth 6 xs = notV xs[0]) := by
      have hval : val xs[0] = true := by
        have := hv; unfold vals at this; rw [List.all_eq_true] at this; exact this _ (List.getElem_mem h0l)
      simp [Hid, argWorth, notV, hval, List.getD_eq_getElem?_getD, h0l]
    obtain ⟨b3, o3, rfl, hb3, c3⟩ := h.at h0l
    simp only [Nat.add_zero] at c3
    clear h1 hv h
    go_enter Tryz.func162, Tryz.ntmps162
    go_wp2_with fail
    refine (Not_any _ _).mono ?_
    rintro e w1 ⟨rfl, hb⟩
    go_wp2_with fail
    go_ret
    exact ⟨ret_int HW.out.symm, hb⟩

/-- The holder's two cells, in a box. -/
def HBox (w : World) (b : Nat) (ra ia : Option Addr) (rn rc inn ic : Nat) : Prop :=
  b < w.heap.size ∧ w.cell? ⟨b, 0, none⟩ = some (.slice ra rn rc) ∧ w.cell? ⟨b, 1, none⟩ = some (.slice ia inn ic)
theorem HBox.below' {B : Nat} {w w' : World} {b : Nat} {ra ia : Option Addr} {rn rc inn ic : Nat} (h : HBox w b ra ia rn rc inn ic) (hb : Below B w w') (hB : b < B) : HBox w' b ra ia rn rc inn ic := by
  obtain ⟨h0, h1, h2⟩ := h
  refine ⟨Nat.lt_of_lt_of_le h0 hb.size, ?_, ?_⟩
  · rw [hb.cell (p := ⟨b, 0, none⟩) hB]; exact h1
  · rw [hb.cell (p := ⟨b, 1, none⟩) hB]; exact h2
theorem HBox.below {w w' : World} {b : Nat} {ra ia : Option Addr} {rn rc inn ic : Nat} (h : HBox w b ra ia rn rc inn ic) (hb : Below w.heap.size w w') : HBox w' b ra ia rn rc inn ic := h.below' hb h.1
theorem HBox.new (w : World) (ra ia : Option Addr) (rn rc inn ic : Nat) (T : TypeId) : HBox (w.alloc (.cells #[.slice ra rn rc, .slice ia inn ic] T)) w.heap.size ra ia rn rc inn ic := by
  refine ⟨by simp, ?_, ?_⟩ <;> rw [World.cell?_alloc_new] <;> rfl

theorem argsV_vals (g : GateD) {v : List Int} (hv : vals v = true) : vals (argsV g v) = true := by
  rw [vals_true]
  intro x hx
  obtain ⟨y, _, rfl⟩ := List.mem_map.1 hx
  exact getD_val hv _
theorem pick_args {g : GateD} {v : List Int} {rn inn vn : Nat} (h : Right g rn inn vn) (hl : v.length = vn) : pickV v g.args = argsV g v := by
  unfold pickV argsV
  apply List.map_congr_left
  intro x hx
  have := (h.args x hx).2
  rw [List.getD_eq_getElem?_getD, List.getD_eq_getElem?_getD, List.getElem?_eq_getElem (by omega)]
  rfl
theorem worth_args {g : GateD} (regs ins v : List Int) (h : g.kind = 4 ∨ g.kind = 5 ∨ g.kind = 6) : worthV g regs ins v = argWorth g.kind (argsV g v) := by
  unfold worthV argWorth
  rcases h with h | h | h <;> rw [h] <;> simp [argsV]
theorem held_gate {w0 W : World} {b : Nat} {kind n : Int} {aa : Option Addr} {an ac : Nat} (hx : GBox w0 b kind n aa an ac) (h : Below w0.heap.size w0 W) :
    Below w0.heap.size w0 W ∧ W.cell? ⟨b, 0, none⟩ = some (.int .i64 kind) ∧ W.cell? ⟨b, 1, none⟩ = some (.int .i64 n) ∧ W.cell? ⟨b, 2, none⟩ = some (.slice aa an ac) := by
  obtain ⟨_, x1, x2, x3⟩ := hx.below' h hx.1
  exact ⟨h, x1, x2, x3⟩

set_option maxHeartbeats 1000000 in
theorem value_any (g : GateD) (aa : Option Addr) (an ac : Nat) (regs ins v : List Int) (ra ia va : Option Addr) (rn rc inn ic vn vc : Nat) (w : World)
    (hA : Ints w aa an g.args) (hr : Ints w ra rn regs) (hi : Ints w ia inn ins) (hv : Ints w va vn v) (hok : Right g rn inn vn) (hvv : vals v = true) :
    Calls Tryz.prog 148 #[.agg #[.slice ra rn rc, .slice ia inn ic], .agg #[.int .i64 g.kind, .int .i64 g.n, .slice aa an ac], .slice va vn vc] w fun e w' => e = .returned (.int .i64 (worthV g regs ins v)) ∧ Below w.heap.size w w' := by
  have hb1 : Below w.heap.size w (w.alloc (.cells #[.slice ra rn rc, .slice ia inn ic] 158)) := (Below.refl _ _).alloc (Nat.le_refl _) _
  have hx1 := HBox.new w ra ia rn rc inn ic 158
  have hb2 := (Below.refl _ (w.alloc (.cells #[.slice ra rn rc, .slice ia inn ic] 158))).alloc (Nat.le_refl _) (.cells #[.int .i64 g.kind, .int .i64 g.n, .slice aa an ac] 126)
  have hg2 := GBox.new (w.alloc (.cells #[.slice ra rn rc, .slice ia inn ic] 158)) g.kind g.n aa an ac 126
  have hsz : (w.alloc (.cells #[.slice ra rn rc, .slice ia inn ic] 158)).heap.size = w.heap.size + 1 := by simp
  rw [hsz] at hg2
  have hx2 := hx1.below hb2
  have B := bstep hb1 hb2
  clear hsz
  clear hx1 hb1 hb2
  have hA2 := hA.below B
  have hr2 := hr.below B
  have hi2 := hi.below B
  have hv2 := hv.below B
  have HA1 := hide hA.1
  have HR1 := hide hr.1
  have HI1 := hide hi.1
  have HV1 := hide hv.1
  clear hA hr hi hv
  have hk06 := hok.kind
  have hkk : g.kind = 0 ∨ g.kind = 1 ∨ g.kind = 2 ∨ g.kind = 3 ∨ (g.kind = 4 ∨ g.kind = 5 ∨ g.kind = 6) := by omega
  clear hk06
  have HOK := hide hok
  clear hok
  rcases hkk with hkk | hkk | hkk | hkk | hkk
  · have HW : Hid (worthV g regs ins v = 0) := by unfold Hid worthV; rw [hkk]; rfl
    obtain ⟨x0, x1, x2⟩ := hx2
    obtain ⟨y0, y1, y2, y3⟩ := hg2
    have q0 : (g.kind == 0) = true := by simp only [beq_iff_eq]; omega
    clear hkk
    go_enter Tryz.func148, Tryz.ntmps148
    go_wp2_with fail
    go_ret
    exact ⟨ret_int HW.out.symm, B⟩
  · have HW : Hid (worthV g regs ins v = 1) := by unfold Hid worthV; rw [hkk]; rfl
    obtain ⟨x0, x1, x2⟩ := hx2
    obtain ⟨y0, y1, y2, y3⟩ := hg2
    have q0 : (g.kind == 0) = false := by simp only [beq_eq_false_iff_ne, ne_eq]; omega
    have q1 : (g.kind == 1) = true := by simp only [beq_iff_eq]; omega
    clear hkk
    go_enter Tryz.func148, Tryz.ntmps148
    go_wp2_with fail
    go_ret
    exact ⟨ret_int HW.out.symm, B⟩
  · have hR := (unhide HOK).inp hkk
    obtain ⟨m, hm⟩ := Int.eq_ofNat_of_zero_le hR.1
    have hml : m < ins.length := by have h1 := hR.2; rw [hm] at h1; have h2 := unhide HI1; simp at h1; omega
    have hmi : (m : Int) < (inn : Int) := by have h1 := unhide HI1; omega
    obtain ⟨bi, oi, rfl, hbi, ci⟩ := hi2.at hml
    have HW : Hid (worthV g regs ins v = ins[m]) := by
      unfold Hid worthV
      rw [if_neg (by omega), if_pos hkk]
      rw [hm]; simp [List.getD_eq_getElem?_getD, hml]
    obtain ⟨x0, x1, x2⟩ := hx2
    obtain ⟨y0, y1, y2, y3⟩ := hg2
    rw [hm] at x0 x1 x2 y0 y1 y2 y3 ci B hbi ⊢
    rw [hkk] at x0 x1 x2 y0 y1 y2 y3 ci B hbi ⊢
    clear hm hR hkk
    go_enter Tryz.func148, Tryz.ntmps148
    go_wp2_with fail
    go_ret
    exact ⟨ret_int HW.out.symm, B⟩
  · have hR := (unhide HOK).reg hkk
    obtain ⟨m, hm⟩ := Int.eq_ofNat_of_zero_le hR.1
    have hml : m < regs.length := by have h1 := hR.2; rw [hm] at h1; have h2 := unhide HR1; simp at h1; omega
    have hmi : (m : Int) < (rn : Int) := by have h1 := unhide HR1; omega
    obtain ⟨bi, oi, rfl, hbi, ci⟩ := hr2.at hml
    have HW : Hid (worthV g regs ins v = regs[m]) := by
      unfold Hid worthV
      rw [if_neg (by omega), if_neg (by omega), if_pos hkk]
      rw [hm]; simp [List.getD_eq_getElem?_getD, hml]
    obtain ⟨x0, x1, x2⟩ := hx2
    obtain ⟨y0, y1, y2, y3⟩ := hg2
    rw [hm] at x0 x1 x2 y0 y1 y2 y3 ci B hbi ⊢
    rw [hkk] at x0 x1 x2 y0 y1 y2 y3 ci B hbi ⊢
    clear hm hR hkk
    go_enter Tryz.func148, Tryz.ntmps148
    go_wp2_with fail
    go_ret
    exact ⟨ret_int HW.out.symm, B⟩
  · have HW := hide (worth_args regs ins v hkk)
    have HP := hide (pick_args (unhide HOK) (by have := unhide HV1; omega : v.length = vn))
    have HVA := hide (argsV_vals g hvv)
    have HK := hide hkk
    have HIN := hide (show ∀ k (hk : k < g.args.length), 0 ≤ g.args[k] ∧ g.args[k] < v.length by
      intro k hk
      have h1 := (unhide HOK).args g.args[k] (List.getElem_mem hk)
      have h2 := unhide HV1
      omega)
    have hfew : an ≤ 200 := by have h1 := (unhide HOK).few; have h2 := unhide HA1; omega
    have hone : Hid (g.kind = 6 → (argsV g v).length = 1) := by intro h6; have := (unhide HOK).one h6; simp [argsV, this]
    have q0 : (g.kind == 0) = false := by simp only [beq_eq_false_iff_ne, ne_eq]; omega
    have q1 : (g.kind == 1) = false := by simp only [beq_eq_false_iff_ne, ne_eq]; omega
    have q2 : (g.kind == 2) = false := by simp only [beq_eq_false_iff_ne, ne_eq]; omega
    have q3 : (g.kind == 3) = false := by simp only [beq_eq_false_iff_ne, ne_eq]; omega
    have hg0 := hg2
    obtain ⟨x0, x1, x2⟩ := hx2
    obtain ⟨y0, y1, y2, y3⟩ := hg2
    clear hkk
    go_enter Tryz.func148, Tryz.ntmps148
    go_wp2_with fail
    generalize hw2 : (w.alloc (.cells #[.slice ra rn rc, .slice ia inn ic] 158)).alloc (.cells #[.int .i64 g.kind, .int .i64 g.n, .slice aa an ac] 126) = w2 at *
    clear hw2 x1 x2 y1 y2 y3
    go_region_held3 (fun W => Below w2.heap.size w2 W ∧ W.cell? ⟨w.heap.size + 1, 0, none⟩ = some (.int .i64 g.kind) ∧ W.cell? ⟨w.heap.size + 1, 1, none⟩ = some (.int .i64 g.n) ∧ W.cell? ⟨w.heap.size + 1, 2, none⟩ = some (.slice aa an ac))
      ((first | exact held_gate hg0 (Below.refl _ _).drew | exact held_gate hg0 (bstep (And.left (by assumption)) hbA) | exact held_gate hg0 (bstep (And.left (by assumption)) hbB)))
      ((first
        | (go_at_call 100; refine (Pick_any v g.args va aa vn vc an ac _ (hv2.below (And.left (by assumption))) (hA2.below (And.left (by assumption))) hfew (unhide HIN)).mono ?_; rintro e wA ⟨aA, nA, cA, rfl, hIA, hFA, hbA⟩; rw [unhide HP] at hIA)
        | (go_at_call 162; refine (ofArgs_any g.kind (argsV g v) aA nA cA _ hIA (unhide HVA) (unhide HK) (unhide hone)).mono ?_; rintro e wB ⟨rfl, hbB⟩)))
    all_goals (go_wp2_with fail; go_ret)
    all_goals exact ⟨ret_int (unhide HW).symm, bstep B (And.left (by assumption))⟩

/-- One pass over the gates, behind k of them: something was settled, or all is as it was and those solve. -/
def Pass (d : NetD) (regs ins x0 : List Int) (k : Nat) (b : Bool) (x : List Int) : Prop :=
  opens x ≤ opens x0 ∧ (b = true → opens x < opens x0) ∧ (b = false → x = x0 ∧ ∀ j (_ : j < k) (hj : j < d.gates.length), worthV d.gates[j] regs ins x = x.getD j 2)
theorem Pass.start (d : NetD) (regs ins x : List Int) : Pass d regs ins x 0 false x := ⟨Nat.le_refl _, fun h => by simp at h, fun _ => ⟨rfl, fun j hj => by omega⟩⟩
theorem Pass.stay {d : NetD} {regs ins x0 x : List Int} {k : Nat} {b : Bool} (h : Pass d regs ins x0 k b x) (hk : k < d.gates.length) (hw : worthV d.gates[k] regs ins x = x.getD k 2) : Pass d regs ins x0 (k + 1) b x := by
  refine ⟨h.1, h.2.1, fun hb => ⟨(h.2.2 hb).1, fun j hj hj' => ?_⟩⟩
  by_cases e : j = k
  · subst e; exact hw
  · exact (h.2.2 hb).2 j (by omega) hj'
theorem opens_set {x : List Int} {k : Nat} (hk : k < x.length) (h2 : x.getD k 2 = 2) {y : Int} (hy : y ≠ 2) : opens (x.set k y) < opens x := by
  have hle : Le x (x.set k y) := by
    intro j
    by_cases e : k = j
    · subst e; exact Or.inl h2
    · right; simp only [List.getD_eq_getElem?_getD, List.getElem?_set, if_neg e]
  rcases Nat.lt_or_ge (opens (x.set k y)) (opens x) with h | h
  · exact h
  · have := opens_same (by simp) hle h
    have h3 : (x.set k y).getD k 2 = y := by simp [List.getD_eq_getElem?_getD, hk]
    rw [this, h2] at h3
    exact absurd h3.symm hy
theorem Pass.more {d : NetD} {regs ins x0 x : List Int} {k : Nat} {b : Bool} (h : Pass d regs ins x0 k b x) (hk : k < x.length) (h2 : x.getD k 2 = 2) {y : Int} (hy : y ≠ 2) : Pass d regs ins x0 (k + 1) true (x.set k y) := by
  have h3 := opens_set hk h2 hy
  refine ⟨by have := h.1; omega, fun _ => by have := h.1; omega, fun hb => by simp at hb⟩
theorem Pass.fix {d : NetD} {regs ins x0 x : List Int} {k : Nat} (h : Pass d regs ins x0 k false x) (hk : d.gates.length ≤ k) (hl : x.length = d.gates.length) : roundV d regs ins x = x := by
  apply List.ext_getElem (by rw [roundV_len, hl])
  intro i h1 h3
  have hi : i < d.gates.length := by rw [hl] at h3; exact h3
  have := (h.2.2 rfl).2 i (by omega) hi
  simp only [roundV, List.getElem_map]
  rw [this, List.getD_eq_getElem?_getD, List.getElem?_eq_getElem h3]; rfl
theorem Way.stays {d : NetD} {regs ins x : List Int} (h : Way d regs ins x) {k : Nat} (hk : k < d.gates.length) (hne : x.getD k 2 ≠ 2) : worthV d.gates[k] regs ins x = x.getD k 2 := by
  have := h.up k
  rw [roundV_at d regs ins x k hk] at this
  rcases this with h1 | h1
  · exact absurd h1 hne
  · exact h1.symm
theorem set_same {x : List Int} {k : Nat} (hk : k < x.length) {y : Int} (h : x.getD k 2 = y) : x.set k y = x := by
  apply List.ext_getElem (by simp)
  intro i h1 h2
  rw [List.getElem_set]
  by_cases e : k = i
  · subst e; rw [if_pos rfl, ← h, List.getD_eq_getElem?_getD, List.getElem?_eq_getElem hk]; rfl
  · rw [if_neg e]
theorem vals_set {x : List Int} {k : Nat} {y : Int} (h : vals x = true) (hy : y = 0 ∨ y = 1 ∨ y = 2) : vals (x.set k y) = true := by
  rw [vals_true] at h ⊢
  intro z hz
  rcases List.mem_or_eq_of_mem_set hz with h1 | h1
  · exact h z h1
  · rw [h1]; exact hy

set_option maxRecDepth 100000 in
set_option maxHeartbeats 2000000 in
theorem settle_any (d : NetD) (ga : Option Addr) (gn gc : Nat) (w : World) (hG : Gates w ga gn d.gates) (regs ins : List Int) (qa ia : Option Addr) (qn qc inn ic : Nat) (hr : Ints w qa qn regs) (hi : Ints w ia inn ins) (hok : stepE d regs ins = 0) :
    Calls Tryz.prog 127 #[.agg #[.slice qa qn qc, .slice ia inn ic], .slice ga gn gc] w fun e w' => ∃ a n c v, e = .returned (.slice a n c) ∧ Ints w' a n v ∧ Least d regs ins v ∧ vals v = true ∧ Below w.heap.size w w' := by
  have hb0 : Below w.heap.size w (w.alloc (.cells #[.slice qa qn qc, .slice ia inn ic] 158)) := (Below.refl _ _).alloc (Nat.le_refl _) _
  have hbox := HBox.new w qa ia qn qc inn ic 158
  obtain ⟨hck, hrl, hil, hvr, hvi⟩ := stepE_ok hok
  have HG : Hid (d.gates.length = gn) := hG.1.symm
  have hgn : gn ≤ 200 := by have := (counts_gates (check_ok hck).1).2.1; have := HG.out; omega
  have hgl : gn ≤ d.gates.length := by have := HG.out; omega
  have hgl2 : d.gates.length ≤ gn := by have := HG.out; omega
  have HRT : Hid (∀ k (hk : k < d.gates.length), Right d.gates[k] qn inn gn) := by
    intro k hk
    have := right_of hck k hk
    have e1 : d.regs.length = qn := by have := hr.1; omega
    have e2 : d.ins.toNat = inn := by have := hi.1; omega
    rw [e1, e2, HG.out] at this
    exact this
  have HVR := hide hvr
  have HVI := hide hvi
  obtain ⟨i0, hi0, hz0, hz1, hz2⟩ := info_parts Tryz.infoInt
  clear hok hck hrl hil hvr hvi
  go_enter Tryz.func127, Tryz.ntmps127
  go_wp2_with (at_make; refine wpList_make_full _ rfl _ _ 28 rfl w.heap.size 3 i0 (.int .i64 0) 1 Tryz.underlying28 hi0 hz0 hz1 .i64 .i64 (gn : Int) (gn : Int) gn rfl rfl rfl rfl ?c1 ?c2 ?c3 ?_)
  case c1 => rw [hz2]; omega
  case c2 => unfold maxLen; omega
  case c3 => simp
  intro w2 hown hgrow
  have hb2 : Below (w.alloc (.cells #[.slice qa qn qc, .slice ia inn ic] 158)).heap.size (w.alloc (.cells #[.slice qa qn qc, .slice ia inn ic] 158)) w2 := (Below.refl _ _).grown hgrow (Nat.le_refl _) (fun k hk => by simp at hk)
  have hrow0 := made_introw hown
  have bb : Below w.heap.size w w2 := bstep hb0 hb2
  have hbx := hbox.below hb2
  clear hown hgrow hb0 hb2 hbox hi0 hz0 hz1 hz2
  go_wp2_with fail
  go_loopw [15] (fun i wr => ∃ k : Nat, k ≤ gn ∧ i = .int .i64 k ∧ IntRow wr (w.heap.size + 1) (partTo 0 (List.replicate gn 2) k) ∧ Below w.heap.size w wr ∧ HBox wr w.heap.size qa ia qn qc inn ic) (fun i _ => gn - (intOf i).toNat)
  case atStart => exact ⟨0, Nat.zero_le _, rfl, by rw [partTo_zero, List.length_replicate]; exact hrow0, bb, hbx⟩
  case round =>
    clear hrow0 bb hbx
    obtain ⟨k, hk, rfl, hrow, hbel, hbx⟩ := hrel
    by_cases hlt : k < gn
    · have hki : (k : Int) < (gn : Int) := by omega
      have hpl : k < (partTo 0 (List.replicate gn 2) k).length := by rw [partTo_len _ _ _ (by simp; omega)]; simpa using hlt
      obtain ⟨z, c1⟩ : ∃ z, wr.cell? ⟨w.heap.size + 1, k, none⟩ = some (.int .i64 z) := ⟨_, hrow.cell k hpl⟩
      have c2 := hrow.frozen k
      have hrow2 := hrow.set k 2
      have hset := partTo_set 0 (List.replicate gn 2) k (by simpa using hlt)
      rw [List.getElem_replicate] at hset
      rw [hset] at hrow2
      have hbel2 : Below w.heap.size w (wr.setCell ⟨w.heap.size + 1, k, none⟩ (.int .i64 2)) := hbel.setCell (by simp) _
      have hbx2 := hbx.below' (B := w.heap.size + 1) ((Below.refl _ wr).setCell (p := ⟨w.heap.size + 1, k, none⟩) (Nat.le_refl _) (.int .i64 2)) (Nat.lt_succ_self _)
      clear hset hpl hrow
      go_wp2_with fail
      exact ⟨⟨k + 1, by omega, by go_num, hrow2, hbel2, hbx2⟩, by simp [intOf]; omega⟩
    have hkn : k = gn := by omega
    have hfull : partTo 0 (List.replicate gn 2) k = List.replicate gn 2 := by
      have := partTo_full 0 (List.replicate gn 2)
      rw [List.length_replicate] at this
      rw [hkn]; exact this
    rw [hfull] at hrow
    have HW0 := hide (Way.start d regs ins)
    clear hfull
    go_wp2_with fail
    go_loopg [7] (2 * gn + 1) (fun m c wr => ∃ b x, c = .bool b ∧ (2 * opens x + (if b then 1 else 0) ≤ m ∧ Way d regs ins x ∧ vals x = true ∧ (b = false → roundV d regs ins x = x)) ∧ IntRow wr (w.heap.size + 1) x ∧ Below w.heap.size w wr ∧ HBox wr w.heap.size qa ia qn qc inn ic)
    case atStart =>
      exact ⟨true, _, rfl, ⟨by have := opens_le_length (List.replicate gn 2); simp at this ⊢; omega, by have := unhide HW0; rw [HG.out] at this; exact this, vals_open _, fun h => by simp at h⟩, hrow, hbel, hbx⟩
    case round =>
      clear hrow hbel hbx HW0 hkn
      obtain ⟨b, x, rfl, ⟨hop, hway, hvx, hfix⟩, hrow, hbel, hbx⟩ := hrel
      have hxl : x.length = gn := by rw [hway.len]; exact HG.out
      have HXL := hide hxl
      cases b
      · have HL := hide (hway.least (hfix rfl))
        have hV : Ints _ (some ⟨w.heap.size + 1, 0, none⟩) gn x := hrow.ints gn (unhide HXL).symm (by have := unhide HXL; unfold maxLen; omega)
        have HVX := hide hvx
        clear hop hway hvx hfix hxl
        go_wp2_with fail
        go_ret
        exact ⟨_, _, _, x, rfl, hV, unhide HL, unhide HVX, hbel⟩
      · have HOP := hide hop
        have HP0 := hide (Pass.start d regs ins x)
        have HWY := hide hway
        have HVX := hide hvx
        clear hop hway hvx hxl hfix
        go_wp2_with fail
        go_loopw [7, 25] (fun c i wq => ∃ (k : Nat) (b : Bool) (y : List Int), k ≤ gn ∧ c = .bool b ∧ i = .int .i64 k ∧ (Way d regs ins y ∧ vals y = true ∧ Pass d regs ins x k b y) ∧ IntRow wq (w.heap.size + 1) y ∧ Below w.heap.size w wq ∧ HBox wq w.heap.size qa ia qn qc inn ic) (fun _ i _ => gn - (intOf i).toNat)
        case atStart => exact ⟨0, false, x, Nat.zero_le _, rfl, rfl, ⟨unhide HWY, unhide HVX, unhide HP0⟩, hrow, hbel, hbx⟩
        case round =>
          clear hrow hbel hbx HWY HVX HP0 HXL
          obtain ⟨k, b, y, hk, rfl, rfl, ⟨hway, hvy, hps⟩, hrow, hbel, hbx⟩ := hrel
          have hyl : y.length = gn := by rw [hway.len]; exact HG.out
          by_cases hlt : k < gn
          · have hltg : k < d.gates.length := by omega
            have hlty : k < y.length := by omega
            have hki : (k : Int) < (gn : Int) := by omega
            obtain ⟨bG, off, aa, an, ac, rfl, hbb, c1, c2, c3, hI⟩ := (hG.below hbel).at' hltg
            have d1 := hrow.cell k hlty
            have d2 := hrow.frozen k
            have hvl := hrow.lt
            have hbx0 := hbx
            obtain ⟨x0, x1, x2⟩ := hbx
            have hyk : y.getD k 2 = y[k] := by simp [List.getD_eq_getElem?_getD, hlty]
            by_cases e2 : y[k] = 2
            · have hy2 : y.getD k 2 = 2 := by rw [hyk]; exact e2
              have HWY := hide hway
              have HVY := hide hvy
              have HWS := hide (hway.set k hltg)
              have HVS := hide (vals_set (k := k) hvy (worthV_val d.gates[k] (unhide HVR) (unhide HVI) hvy))
              have HY2 := hide hy2
              have HPS := hide hps
              have HST := hide (show worthV d.gates[k] regs ins y = 2 → y.set k (worthV d.gates[k] regs ins y) = y from fun h => by rw [h]; exact set_same hlty hy2)
              have hal := (Below.refl _ wr).alloc (Nat.le_refl _) (.cells #[.int .i64 d.gates[k].kind, .int .i64 d.gates[k].n, .slice aa an ac] 126)
              have bbA := bstep hbel hal
              have rowA := hrow.below hal hvl
              have hbxA := hbx0.below hal
              have hI2 := hI.below hal
              have hV : Ints _ (some ⟨w.heap.size + 1, 0, none⟩) gn y := rowA.ints gn hyl.symm (by rw [hyl]; unfold maxLen; omega)
              clear hyk hy2 hway hvy hps hal
              go_wp2_with fail
              refine (value_any d.gates[k] aa an ac regs ins y qa ia (some ⟨w.heap.size + 1, 0, none⟩) qn qc inn ic gn gn _ hI2 (hr.below bbA) (hi.below bbA) hV (HRT.out k hltg) (unhide HVY)).mono ?_
              rintro e w4 ⟨rfl, hb4⟩
              have row4 := rowA.below hb4 rowA.lt
              have bb4 := bstep bbA hb4
              have hbx4 := hbxA.below hb4
              have f1 := row4.cell k hlty
              have f2 := row4.frozen k
              have row5 := row4.set k (worthV d.gates[k] regs ins y)
              have bb5 : Below w.heap.size w (w4.setCell ⟨w.heap.size + 1, k, none⟩ (.int .i64 (worthV d.gates[k] regs ins y))) := bb4.setCell (by simp) _
              have hbx5 := hbx4.below' (B := w.heap.size + 1) ((Below.refl _ w4).setCell (p := ⟨w.heap.size + 1, k, none⟩) (Nat.le_refl _) (.int .i64 (worthV d.gates[k] regs ins y))) (Nat.lt_succ_self _)
              have f3 : (w4.setCell ⟨w.heap.size + 1, k, none⟩ (.int .i64 (worthV d.gates[k] regs ins y))).cell? ⟨w.heap.size + 1, k, none⟩ = some (.int .i64 (worthV d.gates[k] regs ins y)) := by
                have := row5.cell k (by simpa using hlty)
                simpa using this
              have R := And.intro row5 (And.intro bb5 hbx5)
              clear row4 bb4 hbx4 row5 bb5 hbx5 hb4 rowA hbxA hV hI2 hrow hbel hbx0 x1 x2 c1 c2 c3 d1 d2 bbA hI
              cases b
              · by_cases e3 : worthV d.gates[k] regs ins y = 2
                · have hne : (worthV d.gates[k] regs ins y != 2) = false := by simp [e3]
                  have HP := hide (show Pass d regs ins x (k + 1) false (y.set k (worthV d.gates[k] regs ins y)) by rw [unhide HST e3]; exact (unhide HPS).stay hltg (by rw [e3]; exact (unhide HY2).symm))
                  clear e3
                  go_wp2_with fail
                  exact ⟨⟨k + 1, false, _, by omega, rfl, by go_num, ⟨unhide HWS, unhide HVS, unhide HP⟩, R.1, R.2.1, R.2.2⟩, by simp [intOf]; omega⟩
                · have hne : (worthV d.gates[k] regs ins y != 2) = true := by simp [e3]
                  have HP := hide ((unhide HPS).more hlty (unhide HY2) e3)
                  clear e3
                  go_wp2_with fail
                  exact ⟨⟨k + 1, true, _, by omega, rfl, by go_num, ⟨unhide HWS, unhide HVS, unhide HP⟩, R.1, R.2.1, R.2.2⟩, by simp [intOf]; omega⟩
              · have HP := hide (show Pass d regs ins x (k + 1) true (y.set k (worthV d.gates[k] regs ins y)) by
                  by_cases e3 : worthV d.gates[k] regs ins y = 2
                  · rw [unhide HST e3]; exact (unhide HPS).stay hltg (by rw [e3]; exact (unhide HY2).symm)
                  · exact (unhide HPS).more hlty (unhide HY2) e3)
                go_wp2_with fail
                exact ⟨⟨k + 1, true, _, by omega, rfl, by go_num, ⟨unhide HWS, unhide HVS, unhide HP⟩, R.1, R.2.1, R.2.2⟩, by simp [intOf]; omega⟩
            · have hq : (y[k] == 2) = false := by simp [e2]
              have HP := hide (hps.stay hltg (hway.stays hltg (by rw [hyk]; exact e2)))
              have HWY := hide hway
              have HVY := hide hvy
              have hal := (Below.refl _ wr).alloc (Nat.le_refl _) (.cells #[.int .i64 d.gates[k].kind, .int .i64 d.gates[k].n, .slice aa an ac] 126)
              have R := And.intro (hrow.below hal hvl) (And.intro (bstep hbel hal) (hbx0.below hal))
              clear e2 hyk hway hvy hps hal
              go_wp2_with fail
              exact ⟨⟨k + 1, b, y, by omega, rfl, by go_num, ⟨unhide HWY, unhide HVY, unhide HP⟩, R.1, R.2.1, R.2.2⟩, by simp [intOf]; omega⟩
          · have hkg : d.gates.length ≤ k := by omega
            cases b
            · have HF := hide (hps.fix hkg (by rw [hyl]; exact HG.out.symm))
              have HWY := hide hway
              have HVY := hide hvy
              have HLE := hide hps.1
              clear hway hvy hps hyl
              go_wp2_with fail
              go_roundg (2 * opens y)
              case measure => have h1 := unhide HOP; have h2 := unhide HLE; simp at h1; omega
              case rel => exact ⟨false, y, rfl, ⟨by simp, unhide HWY, unhide HVY, fun _ => unhide HF⟩, hrow, hbel, hbx⟩
            · have HLT := hide (hps.2.1 rfl)
              have HWY := hide hway
              have HVY := hide hvy
              clear hway hvy hps hyl
              go_wp2_with fail
              go_roundg (2 * opens y + 1)
              case measure => have h1 := unhide HOP; have h2 := unhide HLT; simp at h1; omega
              case rel => exact ⟨true, y, rfl, ⟨by simp, unhide HWY, unhide HVY, fun h => by simp at h⟩, hrow, hbel, hbx⟩

/-- A whole block of a call's own. -/
def Cells (w : World) (g : Nat) (vs : List Value) (T : TypeId) : Prop := w.heap[g]? = some (.cells vs.toArray T (0, 0))
theorem Cells.cell {w : World} {g : Nat} {vs : List Value} {T : TypeId} (h : Cells w g vs T) (k : Nat) : w.cell? ⟨g, k, none⟩ = vs[k]? := by
  rw [cell_of_row w g k _ _ _ h]
  simp
theorem Cells.frozen {w : World} {g : Nat} {vs : List Value} {T : TypeId} (h : Cells w g vs T) (k : Nat) : w.frozen? ⟨g, k, none⟩ = false := frozen_of_row w g k _ _ h
theorem Cells.set {w : World} {g : Nat} {vs : List Value} {T : TypeId} (h : Cells w g vs T) (k : Nat) (x : Value) : Cells (w.setCell ⟨g, k, none⟩ x) g (vs.set k x) T := by
  unfold Cells
  rw [Go.heap_setCell_same w g k _ _ _ h]
  congr 2
  simp
theorem Cells.lt {w : World} {g : Nat} {vs : List Value} {T : TypeId} (h : Cells w g vs T) : g < w.heap.size := (Array.getElem?_eq_some_iff.1 h).1
theorem Cells.below {B : Nat} {w w' : World} {g : Nat} {vs : List Value} {T : TypeId} (h : Cells w g vs T) (hb : Below B w w') (hg : g < B) : Cells w' g vs T := by
  unfold Cells; rw [hb.block g hg]; exact h
theorem Cells.new (w : World) (vs : List Value) (T : TypeId) : Cells (w.alloc (.cells vs.toArray T)) w.heap.size vs T := (MapKept.heap_alloc w _).1

/-- What hold.Of hands out: the two lists, or nothing. -/
def holdV (e : Int) (qa ia : Option Addr) (qn qc inn ic : Nat) : Value := if e = 0 then .agg #[.slice qa qn qc, .slice ia inn ic] else .agg #[.slice none 0 0, .slice none 0 0]
theorem ret_hold {h h' : Value} {e e' : Int} (h1 : h = h') (h2 : e = e') : Ending.returned (.tuple #[h, .int .i64 e]) = .returned (.tuple #[h', .int .i64 e']) := by rw [h1, h2]
theorem holdV_no {e : Int} (h : e ≠ 0) (qa ia : Option Addr) (qn qc inn ic : Nat) : holdV e qa ia qn qc inn ic = .agg #[.slice none 0 0, .slice none 0 0] := by unfold holdV; rw [if_neg h]
theorem holdV_ok {e : Int} (h : e = 0) (qa ia : Option Addr) (qn qc inn ic : Nat) : holdV e qa ia qn qc inn ic = .agg #[.slice qa qn qc, .slice ia inn ic] := by unfold holdV; rw [if_pos h]

set_option maxHeartbeats 1000000 in
theorem hold_any (d : NetD) (ins0 : Int) (ga ra oa : Option Addr) (gn gc rn rc on oc : Nat) (w : World) (h : NetAt w d ins0 ga gn ra rn oa on) (regs ins : List Int) (qa ia : Option Addr) (qn qc inn ic : Nat) (hr : Ints w qa qn regs) (hi : Ints w ia inn ins) :
    Calls Tryz.prog 126 #[.agg #[.int .i64 ins0, .slice ga gn gc, .slice ra rn rc, .slice oa on oc], .slice qa qn qc, .slice ia inn ic] w fun e w' => e = .returned (.tuple #[holdV (stepE d regs ins) qa ia qn qc inn ic, .int .i64 (stepE d regs ins)]) ∧ Below w.heap.size w w' := by
  have hb0 : Below w.heap.size w (w.alloc (.cells #[.int .i64 ins0, .slice ga gn gc, .slice ra rn rc, .slice oa on oc] 70)) := (Below.refl _ _).alloc (Nat.le_refl _) _
  have hbox : Boxed (w.alloc (.cells #[.int .i64 ins0, .slice ga gn gc, .slice ra rn rc, .slice oa on oc] 70)) w.heap.size ins0 ga gn gc ra rn rc oa on oc := Boxed.new _ _ _ _ _ _ _ _ _ _ _ _
  have hN := h.below hb0
  have hr0 := hr.below hb0
  have hi0 := hi.below hb0
  have hb1 := (Below.refl _ (w.alloc (.cells #[.int .i64 ins0, .slice ga gn gc, .slice ra rn rc, .slice oa on oc] 70))).alloc (Nat.le_refl _) (.cells #[.slice none 0 0, .slice none 0 0] 158)
  have hbx1 := Cells.new (w.alloc (.cells #[.int .i64 ins0, .slice ga gn gc, .slice ra rn rc, .slice oa on oc] 70)) [.slice none 0 0, .slice none 0 0] 158
  have hsz : (w.alloc (.cells #[.int .i64 ins0, .slice ga gn gc, .slice ra rn rc, .slice oa on oc] 70)).heap.size = w.heap.size + 1 := by simp
  rw [hsz] at hbx1
  have hN2 := hN.below hb1
  have hr2 := hr0.below hb1
  have hi2 := hi0.below hb1
  have hx2 := hbox.below hb1
  have B0 := bstep hb0 hb1
  have HG : Hid (d.gates.length = gn) := h.gates.1.symm
  have HR : Hid (d.regs.length = rn) := h.regs.1.symm
  have HI : Hid (d.ins = ins0) := h.ins.symm
  have hqn := hr.1
  have hin := hi.1
  clear hb0 hb1 hN hr0 hi0 hbox hsz
  by_cases e0 : checkE d = 0
  case neg =>
    have HQ : Hid (stepE d regs ins = checkE d) := by simp [Hid, stepE, e0]
    have HV := hide (holdV_no (show stepE d regs ins ≠ 0 by rw [HQ.out]; exact e0) qa ia qn qc inn ic)
    have hne : (checkE d != 0) = true := by simp [e0]
    clear e0 h hr hi hqn hin
    go_enter Tryz.func126, Tryz.ntmps126
    go_wp2_with fail
    refine (Check_any d _ _ _ _ _ _ _ _ _ _ _ hN2).mono ?_
    rintro e w1 ⟨rfl, hb⟩
    have B1 := bstep B0 hb
    have hr1 := hr2.below hb
    have hi1 := hi2.below hb
    have hx1 := hx2.below hb
    have hh1 := hbx1.below hb hbx1.lt
    clear hb B0 hN2 hx2 hr2 hi2 hbx1
    have y1 := hh1.cell 0
    have y2 := hh1.cell 1
    have f1 := hh1.frozen 0
    have f2 := (hh1.set 0 (.slice none 0 0)).frozen 1
    have hh9 := (hh1.set 0 (.slice none 0 0)).set 1 (.slice none 0 0)
    have y3 : ((w1.setCell ⟨w.heap.size + 1, 0, none⟩ (.slice none 0 0)).setCell ⟨w.heap.size + 1, 1, none⟩ (.slice none 0 0)).cell? ⟨w.heap.size + 1, 0, none⟩ = some (.slice none 0 0) := hh9.cell 0
    have y4 : ((w1.setCell ⟨w.heap.size + 1, 0, none⟩ (.slice none 0 0)).setCell ⟨w.heap.size + 1, 1, none⟩ (.slice none 0 0)).cell? ⟨w.heap.size + 1, 1, none⟩ = some (.slice none 0 0) := hh9.cell 1
    have y5 := (hh1.set 0 (.slice none 0 0)).cell 1
    have B9 := (B1.setCell (p := ⟨w.heap.size + 1, 0, none⟩) (Nat.le_succ _) (.slice none 0 0)).setCell (p := ⟨w.heap.size + 1, 1, none⟩) (Nat.le_succ _) (.slice none 0 0)
    clear hh9
    go_wp2_with fail
    exact bodyPost_ret (v := .tuple #[.agg #[.slice none 0 0, .slice none 0 0], .int .i64 (checkE d)]) (by simp [results, Tryz.results126, go_sem, y3, y4]) rfl ⟨ret_hold (unhide HV).symm HQ.out.symm, B9⟩
  have HE : Hid (checkE d = 0) := e0
  by_cases e1 : qn = rn
  case neg =>
    have HQ : Hid (stepE d regs ins = 1) := by
      unfold Hid stepE
      rw [if_pos e0, if_neg (fun hh => e1 (by have := hh.1; have := HR.out; omega))]
    have HV := hide (holdV_no (show stepE d regs ins ≠ 0 by rw [HQ.out]; decide) qa ia qn qc inn ic)
    have hne : ((qn : Int) != (rn : Int)) = true := by simp only [bne_iff_ne, ne_eq]; omega
    clear e0 e1 h hr hi hqn hin
    go_enter Tryz.func126, Tryz.ntmps126
    go_wp2_with fail
    refine (Check_any d _ _ _ _ _ _ _ _ _ _ _ hN2).mono ?_
    rintro e w1 ⟨rfl, hb⟩
    have B1 := bstep B0 hb
    have hr1 := hr2.below hb
    have hi1 := hi2.below hb
    have hx1 := hx2.below hb
    have hh1 := hbx1.below hb hbx1.lt
    clear hb B0 hN2 hx2 hr2 hi2 hbx1
    rw [HE.out]
    obtain ⟨x0, x1, x2, x3, x4⟩ := hx1
    have y1 := hh1.cell 0
    have y2 := hh1.cell 1
    have f1 := hh1.frozen 0
    have f2 := (hh1.set 0 (.slice none 0 0)).frozen 1
    have hh9 := (hh1.set 0 (.slice none 0 0)).set 1 (.slice none 0 0)
    have y3 : ((w1.setCell ⟨w.heap.size + 1, 0, none⟩ (.slice none 0 0)).setCell ⟨w.heap.size + 1, 1, none⟩ (.slice none 0 0)).cell? ⟨w.heap.size + 1, 0, none⟩ = some (.slice none 0 0) := hh9.cell 0
    have y4 : ((w1.setCell ⟨w.heap.size + 1, 0, none⟩ (.slice none 0 0)).setCell ⟨w.heap.size + 1, 1, none⟩ (.slice none 0 0)).cell? ⟨w.heap.size + 1, 1, none⟩ = some (.slice none 0 0) := hh9.cell 1
    have y5 := (hh1.set 0 (.slice none 0 0)).cell 1
    have B9 := (B1.setCell (p := ⟨w.heap.size + 1, 0, none⟩) (Nat.le_succ _) (.slice none 0 0)).setCell (p := ⟨w.heap.size + 1, 1, none⟩) (Nat.le_succ _) (.slice none 0 0)
    clear hh9
    go_wp2_with fail
    exact bodyPost_ret (v := .tuple #[.agg #[.slice none 0 0, .slice none 0 0], .int .i64 1]) (by simp [results, Tryz.results126, go_sem, y3, y4]) rfl ⟨ret_hold (unhide HV).symm HQ.out.symm, B9⟩
  have hne1 : ((qn : Int) != (rn : Int)) = false := by simp only [bne_eq_false_iff_eq]; omega
  by_cases e2 : (inn : Int) = ins0
  case neg =>
    have HQ : Hid (stepE d regs ins = 1) := by
      unfold Hid stepE
      rw [if_pos e0, if_neg (fun hh => e2 (by have := hh.2; have := HI.out; omega))]
    have HV := hide (holdV_no (show stepE d regs ins ≠ 0 by rw [HQ.out]; decide) qa ia qn qc inn ic)
    have hne : ((inn : Int) != ins0) = true := by simp only [bne_iff_ne, ne_eq]; omega
    clear e0 e1 e2 h hr hi hqn hin
    go_enter Tryz.func126, Tryz.ntmps126
    go_wp2_with fail
    refine (Check_any d _ _ _ _ _ _ _ _ _ _ _ hN2).mono ?_
    rintro e w1 ⟨rfl, hb⟩
    have B1 := bstep B0 hb
    have hr1 := hr2.below hb
    have hi1 := hi2.below hb
    have hx1 := hx2.below hb
    have hh1 := hbx1.below hb hbx1.lt
    clear hb B0 hN2 hx2 hr2 hi2 hbx1
    rw [HE.out]
    obtain ⟨x0, x1, x2, x3, x4⟩ := hx1
    have y1 := hh1.cell 0
    have y2 := hh1.cell 1
    have f1 := hh1.frozen 0
    have f2 := (hh1.set 0 (.slice none 0 0)).frozen 1
    have hh9 := (hh1.set 0 (.slice none 0 0)).set 1 (.slice none 0 0)
    have y3 : ((w1.setCell ⟨w.heap.size + 1, 0, none⟩ (.slice none 0 0)).setCell ⟨w.heap.size + 1, 1, none⟩ (.slice none 0 0)).cell? ⟨w.heap.size + 1, 0, none⟩ = some (.slice none 0 0) := hh9.cell 0
    have y4 : ((w1.setCell ⟨w.heap.size + 1, 0, none⟩ (.slice none 0 0)).setCell ⟨w.heap.size + 1, 1, none⟩ (.slice none 0 0)).cell? ⟨w.heap.size + 1, 1, none⟩ = some (.slice none 0 0) := hh9.cell 1
    have y5 := (hh1.set 0 (.slice none 0 0)).cell 1
    have B9 := (B1.setCell (p := ⟨w.heap.size + 1, 0, none⟩) (Nat.le_succ _) (.slice none 0 0)).setCell (p := ⟨w.heap.size + 1, 1, none⟩) (Nat.le_succ _) (.slice none 0 0)
    clear hh9
    go_wp2_with fail
    exact bodyPost_ret (v := .tuple #[.agg #[.slice none 0 0, .slice none 0 0], .int .i64 1]) (by simp [results, Tryz.results126, go_sem, y3, y4]) rfl ⟨ret_hold (unhide HV).symm HQ.out.symm, B9⟩
  have hne2 : ((inn : Int) != ins0) = false := by simp only [bne_eq_false_iff_eq]; omega
  have HQ : Hid (stepE d regs ins = if vals regs && vals ins then 0 else 3) := by
    unfold Hid stepE
    rw [if_pos e0, if_pos ⟨by have := HR.out; omega, by have := HI.out; omega⟩]
  clear e0 e1 e2 h hr hi hqn hin
  go_enter Tryz.func126, Tryz.ntmps126
  go_wp2_with fail
  refine (Check_any d _ _ _ _ _ _ _ _ _ _ _ hN2).mono ?_
  rintro e w1 ⟨rfl, hb⟩
  have B1 := bstep B0 hb
  have hr1 := hr2.below hb
  have hi1 := hi2.below hb
  have hx1 := hx2.below hb
  have hh1 := hbx1.below hb hbx1.lt
  clear hb B0 hN2 hx2 hr2 hi2 hbx1
  rw [HE.out]
  obtain ⟨x0, x1, x2, x3, x4⟩ := hx1
  have y1 := hh1.cell 0
  have y2 := hh1.cell 1
  go_wp2_with fail
  refine (check_any _ _ _ _ _ hr1).mono ?_
  rintro e w2 ⟨rfl, hb2⟩
  have B2 := bstep B1 hb2
  have hi2 := hi1.below hb2
  have hh2 := hh1.below hb2 hh1.lt
  clear hb2 hr1 hi1 hh1 x1 x2 x3 x4 y1 y2 B1
  cases ev : vals regs
  · have HT : Hid (stepE d regs ins = 3) := by rw [HQ.out, ev]; rfl
    have HV := hide (holdV_no (show stepE d regs ins ≠ 0 by rw [HT.out]; decide) qa ia qn qc inn ic)
    have HK : Hid (ckE regs = 3) := by unfold Hid ckE; rw [ev]; rfl
    rw [HK.out]
    clear ev
    have y1 := hh2.cell 0
    have y2 := hh2.cell 1
    have f1 := hh2.frozen 0
    have f2 := (hh2.set 0 (.slice none 0 0)).frozen 1
    have hh9 := (hh2.set 0 (.slice none 0 0)).set 1 (.slice none 0 0)
    have y3 : ((w2.setCell ⟨w.heap.size + 1, 0, none⟩ (.slice none 0 0)).setCell ⟨w.heap.size + 1, 1, none⟩ (.slice none 0 0)).cell? ⟨w.heap.size + 1, 0, none⟩ = some (.slice none 0 0) := hh9.cell 0
    have y4 : ((w2.setCell ⟨w.heap.size + 1, 0, none⟩ (.slice none 0 0)).setCell ⟨w.heap.size + 1, 1, none⟩ (.slice none 0 0)).cell? ⟨w.heap.size + 1, 1, none⟩ = some (.slice none 0 0) := hh9.cell 1
    have y5 := (hh2.set 0 (.slice none 0 0)).cell 1
    have B9 := (B2.setCell (p := ⟨w.heap.size + 1, 0, none⟩) (Nat.le_succ _) (.slice none 0 0)).setCell (p := ⟨w.heap.size + 1, 1, none⟩) (Nat.le_succ _) (.slice none 0 0)
    clear hh9
    go_wp2_with fail
    exact bodyPost_ret (v := .tuple #[.agg #[.slice none 0 0, .slice none 0 0], .int .i64 3]) (by simp [results, Tryz.results126, go_sem, y3, y4]) rfl ⟨ret_hold (unhide HV).symm HT.out.symm, B9⟩
  · have HVR : Hid (vals regs = true) := ev
    have HK : Hid (ckE regs = 0) := by unfold Hid ckE; rw [ev]; rfl
    rw [HK.out]
    clear ev
    have HT : Hid (stepE d regs ins = ckE ins) := by rw [HQ.out, HVR.out]; unfold ckE; cases vals ins <;> rfl
    have y1 := hh2.cell 0
    have y2 := hh2.cell 1
    go_wp2_with fail
    refine (check_any _ _ _ _ _ hi2).mono ?_
    rintro e w3 ⟨rfl, hb3⟩
    have B3 := bstep B2 hb3
    have hh3 := hh2.below hb3 hh2.lt
    clear hb3 hi2 hh2 y1 y2 B2
    by_cases e9 : ckE ins = 0
    · have HV := hide (holdV_ok (show stepE d regs ins = 0 by rw [HT.out]; exact e9) qa ia qn qc inn ic)
      have HT0 := hide (show stepE d regs ins = 0 by rw [HT.out]; exact e9)
      rw [e9]
      clear e9
      have y1 := hh3.cell 0
      have y2 := hh3.cell 1
      have f1 := hh3.frozen 0
      have f2 := (hh3.set 0 (.slice qa qn qc)).frozen 1
      have hh9 := (hh3.set 0 (.slice qa qn qc)).set 1 (.slice ia inn ic)
      have y3 : ((w3.setCell ⟨w.heap.size + 1, 0, none⟩ (.slice qa qn qc)).setCell ⟨w.heap.size + 1, 1, none⟩ (.slice ia inn ic)).cell? ⟨w.heap.size + 1, 0, none⟩ = some (.slice qa qn qc) := hh9.cell 0
      have y4 : ((w3.setCell ⟨w.heap.size + 1, 0, none⟩ (.slice qa qn qc)).setCell ⟨w.heap.size + 1, 1, none⟩ (.slice ia inn ic)).cell? ⟨w.heap.size + 1, 1, none⟩ = some (.slice ia inn ic) := hh9.cell 1
      have y5 := (hh3.set 0 (.slice qa qn qc)).cell 1
      have B9 := (B3.setCell (p := ⟨w.heap.size + 1, 0, none⟩) (Nat.le_succ _) (.slice qa qn qc)).setCell (p := ⟨w.heap.size + 1, 1, none⟩) (Nat.le_succ _) (.slice ia inn ic)
      clear hh9
      go_wp2_with fail
      exact bodyPost_ret (v := .tuple #[.agg #[.slice qa qn qc, .slice ia inn ic], .int .i64 0]) (by simp [results, Tryz.results126, go_sem, y3, y4]) rfl ⟨ret_hold (unhide HV).symm (unhide HT0).symm, B9⟩
    · have HV := hide (holdV_no (show stepE d regs ins ≠ 0 by rw [HT.out]; exact e9) qa ia qn qc inn ic)
      have hne : (ckE ins != 0) = true := by simp [e9]
      clear e9
      have y1 := hh3.cell 0
      have y2 := hh3.cell 1
      have f1 := hh3.frozen 0
      have f2 := (hh3.set 0 (.slice none 0 0)).frozen 1
      have hh9 := (hh3.set 0 (.slice none 0 0)).set 1 (.slice none 0 0)
      have y3 : ((w3.setCell ⟨w.heap.size + 1, 0, none⟩ (.slice none 0 0)).setCell ⟨w.heap.size + 1, 1, none⟩ (.slice none 0 0)).cell? ⟨w.heap.size + 1, 0, none⟩ = some (.slice none 0 0) := hh9.cell 0
      have y4 : ((w3.setCell ⟨w.heap.size + 1, 0, none⟩ (.slice none 0 0)).setCell ⟨w.heap.size + 1, 1, none⟩ (.slice none 0 0)).cell? ⟨w.heap.size + 1, 1, none⟩ = some (.slice none 0 0) := hh9.cell 1
      have y5 := (hh3.set 0 (.slice none 0 0)).cell 1
      have B9 := (B3.setCell (p := ⟨w.heap.size + 1, 0, none⟩) (Nat.le_succ _) (.slice none 0 0)).setCell (p := ⟨w.heap.size + 1, 1, none⟩) (Nat.le_succ _) (.slice none 0 0)
      clear hh9
      go_wp2_with fail
      exact bodyPost_ret (v := .tuple #[.agg #[.slice none 0 0, .slice none 0 0], .int .i64 (ckE ins)]) (by simp [results, Tryz.results126, go_sem, y3, y4]) rfl ⟨ret_hold (unhide HV).symm HT.out.symm, B9⟩

set_option maxHeartbeats 1000000 in
theorem Step_any (d : NetD) (ins0 : Int) (ga ra oa : Option Addr) (gn gc rn rc on oc : Nat) (w : World) (h : NetAt w d ins0 ga gn ra rn oa on) (regs ins : List Int) (qa ia : Option Addr) (qn qc inn ic : Nat) (hr : Ints w qa qn regs) (hi : Ints w ia inn ins) :
    Calls Tryz.prog 98 #[.agg #[.int .i64 ins0, .slice ga gn gc, .slice ra rn rc, .slice oa on oc], .slice qa qn qc, .slice ia inn ic] w fun e w' => ∃ a n c v, e = .returned (.tuple #[.slice a n c, .int .i64 (stepE d regs ins)]) ∧ Ints w' a n v ∧ StepAns d regs ins v ∧ Below w.heap.size w w' := by
  have hb0 : Below w.heap.size w (w.alloc (.cells #[.int .i64 ins0, .slice ga gn gc, .slice ra rn rc, .slice oa on oc] 70)) := (Below.refl _ _).alloc (Nat.le_refl _) _
  have hbox : Boxed (w.alloc (.cells #[.int .i64 ins0, .slice ga gn gc, .slice ra rn rc, .slice oa on oc] 70)) w.heap.size ins0 ga gn gc ra rn rc oa on oc := Boxed.new _ _ _ _ _ _ _ _ _ _ _ _
  have hN := h.below hb0
  have hr0 := hr.below hb0
  have hi0 := hi.below hb0
  clear h hr hi
  go_enter Tryz.func98, Tryz.ntmps98
  go_wp2_with fail
  refine (hold_any d _ _ _ _ _ _ _ _ _ _ _ hN regs ins _ _ _ _ _ _ hr0 hi0).mono ?_
  rintro e w1 ⟨rfl, hb⟩
  have B1 := bstep hb0 hb
  have hN1 := hN.below hb
  have hr1 := hr0.below hb
  have hi1 := hi0.below hb
  have hx1 := hbox.below hb
  clear hb hb0 hN hbox hr0 hi0
  by_cases e0 : stepE d regs ins = 0
  · have HE : Hid (stepE d regs ins = 0) := e0
    rw [holdV_ok e0, HE.out]
    clear e0
    have hal := (Below.refl _ w1).alloc (Nat.le_refl _) (.cells #[.slice qa qn qc, .slice ia inn ic] 158)
    have B2 := bstep B1 hal
    have hG2 := hN1.gates.below hal
    have hr2 := hr1.below hal
    have hi2 := hi1.below hal
    have hx2 := hx1.below hal
    clear hal B1 hN1 hr1 hi1 hx1
    obtain ⟨x0, x1, x2, x3, x4⟩ := hx2
    go_wp2_with fail
    refine (settle_any d _ _ _ _ hG2 regs ins _ _ _ _ _ _ hr2 hi2 HE.out).mono ?_
    rintro e w2 ⟨a2, n2, c2, v2, rfl, hI2, hL2, hv2, hb2⟩
    go_wp2_with fail
    go_ret2
    exact ⟨a2, n2, c2, v2, ret_sl HE.out.symm, hI2, ⟨fun _ => ⟨hL2, hv2⟩, fun hh => absurd HE.out hh⟩, bstep B2 hb2⟩
  · have hne : (stepE d regs ins != 0) = true := by simp [e0]
    have HE := hide e0
    rw [holdV_no e0]
    clear e0
    have hal := (Below.refl _ w1).alloc (Nat.le_refl _) (.cells #[.slice none 0 0, .slice none 0 0] 158)
    have B2 := bstep B1 hal
    go_wp2_with fail
    go_ret2
    exact ⟨none, 0, 0, [], rfl, Ints.none _, ⟨fun hh => absurd hh (unhide HE), fun _ => rfl⟩, B2⟩

def iterV (d : NetD) (regs ins : List Int) : Nat → List Int
  | 0 => List.replicate d.gates.length 2
  | k + 1 => roundV d regs ins (iterV d regs ins k)
theorem iter_way (d : NetD) (regs ins : List Int) : ∀ k, Way d regs ins (iterV d regs ins k)
  | 0 => Way.start d regs ins
  | k + 1 => (iter_way d regs ins k).round
end Go.Proofs.YtongajonecgdpagGreatDoor
