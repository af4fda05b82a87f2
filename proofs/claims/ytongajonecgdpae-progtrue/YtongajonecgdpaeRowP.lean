/- The program's rows: row.Pick and row.Of. -/
import Derived.Test.YtongajonecgdpaeRowM
import Derived.Laws.BitsLemmas
namespace Go.Proofs.Ytongajonecgdpae
open Go.RowKit

theorem IntRow.fresh {w : World} {g n : Nat} {xs : List Int} {base : Nat} (_h : IntRow w g xs) (hg : base ≤ g) : Fresh base (some ⟨g, 0, none⟩) n := Or.inr ⟨g, 0, rfl, hg⟩

set_option maxHeartbeats 1000000 in
theorem Pick_any (v l : List Int) (va la : Option Addr) (vn vc ln lc : Nat) (w : World) (hv : Ints w va vn v) (hl : Ints w la ln l) (hln : ln ≤ 200) (hin : ∀ k (hk : k < l.length), 0 ≤ l[k] ∧ l[k] < v.length) :
    Calls Try.prog 74 #[.slice va vn vc, .slice la ln lc] w fun e w' => ∃ a n c, e = .returned (.slice a n c) ∧ Ints w' a n (pickV v l) ∧ Fresh w.heap.size a n ∧ Below w.heap.size w w' := by
  have HLL : Hid (l.length = ln) := hl.1.symm
  have hll : ln ≤ l.length := by have := HLL.out; omega
  have hll2 : l.length ≤ ln := by have := HLL.out; omega
  have HVN := hide hv.1
  have HIN := hide hin
  clear hin
  obtain ⟨i0, hi, hz0, hz1, hz2⟩ := info_parts Try.infoInt
  go_enter Try.func74, Try.ntmps74
  go_wp2_with (at_make; refine wpList_make_full _ rfl _ _ 24 rfl w.heap.size 3 i0 (.int .i64 0) 1 Try.underlying24 hi hz0 hz1 .i64 .i64 (ln : Int) (ln : Int) ln rfl rfl rfl rfl ?c1 ?c2 ?c3 ?_)
  case c1 => rw [hz2]; omega
  case c2 => unfold maxLen; omega
  case c3 => exact Nat.le_refl _
  intro w2 hown hgrow
  have hb2 : Below w.heap.size w w2 := (Below.refl _ _).grown hgrow (Nat.le_refl _) (fun k hk => by simp at hk)
  have hrow0 := made_introw hown
  clear hown hgrow hi hz0 hz1 hz2
  go_wp2_with fail
  go_loopw [13] (fun i wr => ∃ k : Nat, k ≤ ln ∧ i = .int .i64 k ∧ IntRow wr w.heap.size (partTo 0 (pickV v l) k) ∧ Below w.heap.size w wr) (fun i _ => ln - (intOf i).toNat)
  case atStart => exact ⟨0, Nat.zero_le _, rfl, by rw [partTo_zero, pickV_len, HLL.out]; exact hrow0, hb2⟩
  case round =>
    clear hrow0 hb2
    obtain ⟨k, hk, rfl, hrow, hbel⟩ := hrel
    by_cases hlt : k < ln
    · have hltl : k < l.length := by omega
      have hki : (k : Int) < (ln : Int) := by omega
      obtain ⟨b, off, rfl, hbb, c1⟩ := (hl.below hbel).at hltl
      obtain ⟨hp, hq⟩ := (unhide HIN) k hltl
      obtain ⟨m, hm⟩ := Int.eq_ofNat_of_zero_le hp
      have hml : m < v.length := by omega
      have hmi : (m : Int) < (vn : Int) := by have := unhide HVN; omega
      obtain ⟨b2, off2, rfl, hbb2, c2⟩ := (hv.below hbel).at hml
      have hpk : k < (pickV v l).length := by rw [pickV_len]; exact hltl
      have hpl : k < (partTo 0 (pickV v l) k).length := by rw [partTo_len _ _ _ (by omega)]; exact hpk
      obtain ⟨z, d1⟩ : ∃ z, wr.cell? ⟨w.heap.size, k, none⟩ = some (.int .i64 z) := ⟨_, hrow.cell k hpl⟩
      have d2 := hrow.frozen k
      have hrow2 := hrow.set k v[m]
      have hset := partTo_set 0 (pickV v l) k hpk
      have hval : (pickV v l)[k] = v[m] := by simp [pickV, hm, List.getD_eq_getElem?_getD, hml]
      rw [hval] at hset
      rw [hset] at hrow2
      have hbel2 : Below w.heap.size w (wr.setCell ⟨w.heap.size, k, none⟩ (.int .i64 v[m])) := hbel.setCell (Nat.le_refl _) _
      rw [hm] at c1
      clear hset hpl hpk hrow hval hp hq hm
      go_wp2_with fail
      exact ⟨⟨k + 1, by omega, by go_num, hrow2, hbel2⟩, by simp [intOf]; omega⟩
    · have hkn : k = (pickV v l).length := by rw [pickV_len]; omega
      rw [hkn, partTo_full] at hrow
      have hI : Ints _ (some ⟨w.heap.size, 0, none⟩) ln (pickV v l) := hrow.ints ln (by rw [pickV_len]; omega) (by rw [pickV_len]; unfold maxLen; omega)
      have hF := hrow.fresh (n := ln) (Nat.le_refl _)
      clear hkn hrow
      go_wp2_with fail
      go_ret
      exact ⟨_, _, _, rfl, hI, hF, hbel⟩

set_option maxHeartbeats 1000000 in
theorem Nexts_any (rs : List (Bool × Int)) (ra : Option Addr) (rn rc : Nat) (w : World) (h : Regs w ra rn rs) (hn : rn * 8 ≤ 281474976710656) :
    Calls Try.prog 64 #[.slice ra rn rc] w fun e w' => ∃ a c, e = .returned (.slice a rn c) ∧ Ints w' a rn (rs.map (·.2)) ∧ a ≠ none ∧ Fresh w.heap.size a rn ∧ Below w.heap.size w w' := by
  have HLL : Hid (rs.length = rn) := h.1.symm
  have HML : Hid ((rs.map (·.2)).length = rn) := by unfold Hid; rw [List.length_map]; exact HLL.out
  obtain ⟨i0, hi, hz0, hz1, hz2⟩ := info_parts Try.infoInt
  go_enter Try.func64, Try.ntmps64
  go_wp2_with (at_make; refine wpList_make_full _ rfl _ _ 24 rfl w.heap.size 3 i0 (.int .i64 0) 1 Try.underlying24 hi hz0 hz1 .i64 .i64 (rn : Int) (rn : Int) rn rfl rfl rfl rfl ?c1 ?c2 ?c3 ?_)
  case c1 => rw [hz2]; omega
  case c2 => unfold maxLen; omega
  case c3 => exact Nat.le_refl _
  intro w2 hown hgrow
  have hb2 : Below w.heap.size w w2 := (Below.refl _ _).grown hgrow (Nat.le_refl _) (fun k hk => by simp at hk)
  have hrow0 := made_introw hown
  clear hown hgrow hi hz0 hz1 hz2
  go_wp2_with fail
  go_loopw [11] (fun i wr => ∃ k : Nat, k ≤ rn ∧ i = .int .i64 k ∧ IntRow wr w.heap.size (partTo 0 (rs.map (·.2)) k) ∧ Below w.heap.size w wr) (fun i _ => rn - (intOf i).toNat)
  case atStart => exact ⟨0, Nat.zero_le _, rfl, by rw [partTo_zero, HML.out]; exact hrow0, hb2⟩
  case round =>
    clear hrow0 hb2
    obtain ⟨k, hk, rfl, hrow, hbel⟩ := hrel
    by_cases hlt : k < rn
    · have hltl : k < rs.length := by have := HLL.out; omega
      have hki : (k : Int) < (rn : Int) := by omega
      obtain ⟨b, off, rfl, hbb, c1, c2⟩ := (h.below hbel).at hltl
      have hpk : k < (rs.map (·.2)).length := by rw [HML.out]; exact hlt
      have hpl : k < (partTo 0 (rs.map (·.2)) k).length := by rw [partTo_len _ _ _ (by omega)]; exact hpk
      obtain ⟨z, d1⟩ : ∃ z, wr.cell? ⟨w.heap.size, k, none⟩ = some (.int .i64 z) := ⟨_, hrow.cell k hpl⟩
      have d2 := hrow.frozen k
      have hvl := hrow.lt
      have hrow2 := hrow.set k rs[k].2
      have hset := partTo_set 0 (rs.map (·.2)) k hpk
      have hval : (rs.map (·.2))[k] = rs[k].2 := by simp
      rw [hval] at hset
      rw [hset] at hrow2
      have hbel2 : Below w.heap.size w (wr.setCell ⟨w.heap.size, k, none⟩ (.int .i64 rs[k].2)) := hbel.setCell (Nat.le_refl _) _
      clear hset hpl hpk hrow hval
      go_wp2_with fail
      exact ⟨⟨k + 1, by omega, by go_num, hrow2.below ((Below.refl _ _).alloc (Nat.le_refl _) _) hrow2.lt, hbel2.alloc hbel2.size _⟩, by simp [intOf]; omega⟩
    · have hkn : k = (rs.map (·.2)).length := by rw [HML.out]; omega
      rw [hkn, partTo_full] at hrow
      have hI : Ints _ (some ⟨w.heap.size, 0, none⟩) rn (rs.map (·.2)) := hrow.ints rn HML.out.symm (by rw [HML.out]; unfold maxLen; omega)
      have hF := hrow.fresh (n := rn) (Nat.le_refl _)
      clear hkn hrow
      go_wp2_with fail
      go_ret
      exact ⟨_, _, rfl, hI, by simp, hF, hbel⟩

theorem wraps_i64 (n : Int) (h₀ : 0 ≤ n) (h₁ : n < 2 ^ 62) : IntKind.i64.wrap n = n := by
  have e : (2 : Int) ^ 62 = 4611686018427387904 := by decide
  rw [e] at h₁
  rw [IntKind.wrap_i64]; omega
theorem and_one (x : Int) (h₀ : 0 ≤ x) (h₁ : x ≤ 1048576) : bits .and .i64 x 1 = x % 2 := by
  have e : (2 : Int) ^ 62 = 4611686018427387904 := by decide
  have := bits_mask .i64 62 (by decide) wraps_i64 1 (by decide) x h₀ (by rw [e]; omega)
  simpa using this
theorem bit01 (x : Int) (k : Nat) : x / 2 ^ k % 2 = 0 ∨ x / 2 ^ k % 2 = 1 := by omega
theorem bits_lt (x : Int) (k : Nat) : 0 ≤ x / 2 ^ k % 2 ∧ x / 2 ^ k % 2 < 2 := ⟨Int.emod_nonneg _ (by decide), Int.emod_lt_of_pos _ (by decide)⟩
set_option maxHeartbeats 1000000 in
theorem Of_any (x : Int) (n : Nat) (w : World) (hx : 0 ≤ x) (hx2 : x ≤ 1048576) (hn : n ≤ 20) :
    Calls Try.prog 43 #[.int .i64 x, .int .i64 n] w fun e w' => ∃ a n' c, e = .returned (.slice a n' c) ∧ Ints w' a n' (bitsV x n) ∧ Below w.heap.size w w' := by
  obtain ⟨i0, hi, hz0, hz1, hz2⟩ := info_parts Try.infoInt
  go_enter Try.func43, Try.ntmps43
  go_wp2_with (at_make; refine wpList_make_full _ rfl _ _ 24 rfl w.heap.size 3 i0 (.int .i64 0) 1 Try.underlying24 hi hz0 hz1 .i64 .i64 (n : Int) (n : Int) n rfl rfl rfl rfl ?c1 ?c2 ?c3 ?_)
  case c1 => rw [hz2]; omega
  case c2 => unfold maxLen; omega
  case c3 => exact Nat.le_refl _
  intro w2 hown hgrow
  have hb2 : Below w.heap.size w w2 := (Below.refl _ _).grown hgrow (Nat.le_refl _) (fun k hk => by simp at hk)
  have hrow0 := made_introw hown
  clear hown hgrow hi hz0 hz1 hz2
  go_wp2_with fail
  go_loopw [11] (fun i wr => ∃ k : Nat, k ≤ n ∧ i = .int .i64 k ∧ IntRow wr w.heap.size (partTo 0 (bitsV x n) k) ∧ Below w.heap.size w wr) (fun i _ => n - (intOf i).toNat)
  case atStart => exact ⟨0, Nat.zero_le _, rfl, by rw [partTo_zero, bitsV_len]; exact hrow0, hb2⟩
  case round =>
    clear hrow0 hb2
    obtain ⟨k, hk, rfl, hrow, hbel⟩ := hrel
    by_cases hlt : k < n
    · have hki : (k : Int) < (n : Int) := by omega
      have hpk : k < (bitsV x n).length := by rw [bitsV_len]; exact hlt
      have hpl : k < (partTo 0 (bitsV x n) k).length := by rw [partTo_len _ _ _ (by omega)]; exact hpk
      obtain ⟨z, d1⟩ : ∃ z, wr.cell? ⟨w.heap.size, k, none⟩ = some (.int .i64 z) := ⟨_, hrow.cell k hpl⟩
      have d2 := hrow.frozen k
      have hrow1 := hrow.set k 0
      have hlen1 : ((partTo 0 (bitsV x n) k).set k 0).length = (partTo 0 (bitsV x n) k).length := by simp
      obtain ⟨z2, e1⟩ : ∃ z, (wr.setCell ⟨w.heap.size, k, none⟩ (.int .i64 0)).cell? ⟨w.heap.size, k, none⟩ = some (.int .i64 z) := ⟨_, hrow1.cell k (by rw [hlen1]; exact hpl)⟩
      have e2 := hrow1.frozen k
      have hrow2 := hrow1.set k 1
      rw [List.set_set] at hrow2
      have hset := partTo_set 0 (bitsV x n) k hpk
      have hval : (bitsV x n)[k] = x / 2 ^ k % 2 := by simp [bitsV]
      rw [hval] at hset
      have hb1 : Below w.heap.size w (wr.setCell ⟨w.heap.size, k, none⟩ (.int .i64 0)) := hbel.setCell (Nat.le_refl _) _
      have hb2 : Below w.heap.size w ((wr.setCell ⟨w.heap.size, k, none⟩ (.int .i64 0)).setCell ⟨w.heap.size, k, none⟩ (.int .i64 1)) := hb1.setCell (Nat.le_refl _) _
      have hge : 0 ≤ x / 2 ^ k := Int.ediv_nonneg hx (Int.pow_nonneg (by decide))
      have hle : x / 2 ^ k ≤ 1048576 := Int.le_trans (Int.ediv_le_self _ hx) hx2
      have hand := and_one (x / 2 ^ k) hge hle
      rcases bit01 x k with hb | hb
      · rw [hb] at hset hand
        rw [hset] at hrow1
        clear hset hpl hpk hrow hval hb hrow2 hb2 hlen1
        go_wp2_with fail
        exact ⟨⟨k + 1, by omega, by go_num, hrow1, hb1⟩, by simp [intOf]; omega⟩
      · rw [hb] at hset hand
        rw [hset] at hrow2
        clear hset hpl hpk hrow hval hb hlen1
        go_wp2_with fail
        exact ⟨⟨k + 1, by omega, by go_num, hrow2, hb2⟩, by simp [intOf]; omega⟩
    · have hkn : k = (bitsV x n).length := by rw [bitsV_len]; omega
      rw [hkn, partTo_full] at hrow
      have hI : Ints _ (some ⟨w.heap.size, 0, none⟩) n (bitsV x n) := hrow.ints n (by rw [bitsV_len]) (by rw [bitsV_len]; unfold maxLen; omega)
      clear hkn hrow
      go_wp2_with fail
      go_ret
      exact ⟨_, _, _, rfl, hI, hbel⟩
end Go.Proofs.Ytongajonecgdpae
