/- The program's words: picked, all, any; a gate's word. -/
import Derived.Test.YtfeceelibjdaoaePackN
namespace Go.Proofs.Ytfeceelibjdaoae
open Go.RowKit

def wordsV (xs : List Int) : List Value := xs.map (fun x => Value.int .u64 x)
theorem wcell {w : World} {g : Nat} {xs : List Int} {T : TypeId} (h : Cells w g (wordsV xs) T) (k : Nat) (hk : k < xs.length) : w.cell? ⟨g, k, none⟩ = some (.int .u64 xs[k]) := by
  rw [h.cell k]; simp [wordsV, hk]
theorem wset {w : World} {g : Nat} {xs : List Int} {T : TypeId} (h : Cells w g (wordsV xs) T) (k : Nat) (y : Int) : Cells (w.setCell ⟨g, k, none⟩ (.int .u64 y)) g (wordsV (xs.set k y)) T := by
  have := h.set k (.int .u64 y)
  unfold wordsV at this ⊢
  rw [List.map_set]; exact this
theorem Cells.words {w : World} {g n : Nat} {xs : List Int} {T : TypeId} (h : Cells w g (wordsV xs) T) (hn : n = xs.length) (hm : xs.length ≤ maxLen) : Words w (some ⟨g, 0, none⟩) n xs :=
  ⟨hn, hm, Or.inr ⟨g, 0, rfl, h.lt, fun i hi => by rw [Nat.zero_add, wcell h i hi]⟩⟩
theorem Try.infoU : (Try.prog.info? 39).map (fun i => (i.zero, i.size, i.bytes)) = some (some (.int .u64 0), 1, 8) := by kernel_rfl
theorem made_words {w : World} {base g n : Nat} (h : w.ownsRow base 39 1 (.slice (some ⟨g, 0, none⟩) n n) n (madeCells #[Value.int .u64 0] n).toList) : Cells w g (wordsV (List.replicate n 0)) 39 := by
  rcases h.2 with ⟨h1, _⟩ | ⟨g', cap, cur, hv, _, hh, _, _, hs, ht⟩
  · simp at h1
  · simp only [Value.slice.injEq, Option.some.injEq, Addr.mk.injEq, and_true, true_and] at hv
    obtain ⟨rfl, rfl⟩ := hv
    rw [toList_madeCells_one, List.take_of_length_le (by simp [hs])] at ht
    unfold Cells
    rw [hh]
    congr 2
    apply Array.ext'
    rw [ht]; simp [wordsV]

set_option maxHeartbeats 1000000 in
theorem PickW_any (v l : List Int) (va la : Option Addr) (vn vc ln lc : Nat) (w : World) (hv : Words w va vn v) (hl : Ints w la ln l) (hln : ln ≤ 200) (hin : ∀ k (hk : k < l.length), 0 ≤ l[k] ∧ l[k] < v.length) :
    Calls Try.prog 30 #[.slice va vn vc, .slice la ln lc] w fun e w' => ∃ a c, e = .returned (.slice a ln c) ∧ Words w' a ln (pickV v l) ∧ Fresh w.heap.size a ln ∧ Below w.heap.size w w' := by
  have HLL : Hid (l.length = ln) := hl.1.symm
  have HVN := hide hv.1
  have HIN := hide hin
  clear hin
  obtain ⟨i0, hi, hz0, hz1, hz2⟩ := info_parts Try.infoU
  go_enter Try.func30, Try.ntmps30
  go_wp2_with (at_make; refine wpList_make_full _ rfl _ _ 27 rfl w.heap.size 39 i0 (.int .u64 0) 1 Try.underlying27 hi hz0 hz1 .i64 .i64 (ln : Int) (ln : Int) ln rfl rfl rfl rfl ?c1 ?c2 ?c3 ?_)
  case c1 => rw [hz2]; omega
  case c2 => unfold maxLen; omega
  case c3 => exact Nat.le_refl _
  intro w2 hown hgrow
  have hb2 : Below w.heap.size w w2 := (Below.refl _ _).grown hgrow (Nat.le_refl _) (fun k hk => by simp at hk)
  have hrow0 := made_words hown
  clear hown hgrow hi hz0 hz1 hz2
  go_wp2_with fail
  go_loopw [13] (fun i wr => ∃ k : Nat, k ≤ ln ∧ i = .int .i64 k ∧ Cells wr w.heap.size (wordsV (partTo 0 (pickV v l) k)) 39 ∧ Below w.heap.size w wr) (fun i _ => ln - (intOf i).toNat)
  case atStart => exact ⟨0, Nat.zero_le _, rfl, by rw [partTo_zero, pickV_len, HLL.out]; exact hrow0, hb2⟩
  case round =>
    clear hrow0 hb2
    obtain ⟨k, hk, rfl, hrow, hbel⟩ := hrel
    by_cases hlt : k < ln
    · have hltl : k < l.length := by have := HLL.out; omega
      have hki : (k : Int) < (ln : Int) := by omega
      obtain ⟨b, off, rfl, hbb, c1⟩ := (hl.below hbel).at hltl
      obtain ⟨hp, hq⟩ := (unhide HIN) k hltl
      obtain ⟨m, hm⟩ := Int.eq_ofNat_of_zero_le hp
      have hml : m < v.length := by omega
      have hmi : (m : Int) < (vn : Int) := by have := unhide HVN; omega
      obtain ⟨b2, off2, rfl, hbb2, c2⟩ := (hv.below hbel).at hml
      have hpk : k < (pickV v l).length := by rw [pickV_len]; exact hltl
      have hpl : k < (partTo 0 (pickV v l) k).length := by rw [partTo_len _ _ _ (by omega)]; exact hpk
      obtain ⟨z, d1⟩ : ∃ z, wr.cell? ⟨w.heap.size, k, none⟩ = some (.int .u64 z) := ⟨_, wcell hrow k hpl⟩
      have d2 := hrow.frozen k
      have hrow2 := wset hrow k v[m]
      have hset := partTo_set 0 (pickV v l) k hpk
      have hval : (pickV v l)[k] = v[m] := by simp [pickV, hm, List.getD_eq_getElem?_getD, hml]
      rw [hval] at hset
      rw [hset] at hrow2
      have hbel2 : Below w.heap.size w (wr.setCell ⟨w.heap.size, k, none⟩ (.int .u64 v[m])) := hbel.setCell (Nat.le_refl _) _
      rw [hm] at c1
      clear hset hpl hpk hrow hval hp hq hm
      go_wp2_with fail
      exact ⟨⟨k + 1, by omega, by go_num, hrow2, hbel2⟩, by simp [intOf]; omega⟩
    · have hkn : k = (pickV v l).length := by rw [pickV_len]; have := HLL.out; omega
      rw [hkn, partTo_full] at hrow
      have hI := hrow.words (n := ln) (by rw [pickV_len]; exact HLL.out.symm) (by rw [pickV_len, HLL.out]; unfold maxLen; omega)
      clear hkn hrow
      go_wp2_with fail
      go_ret
      exact ⟨_, _, rfl, hI, Or.inr ⟨_, 0, rfl, Nat.le_refl _⟩, hbel⟩

theorem ret_word {a b : Int} (h : a = b) : Ending.returned (.int .u64 a) = .returned (.int .u64 b) := by rw [h]
def andTo (xs : List Int) (k : Nat) : Int := andW (xs.take k)
def orTo (xs : List Int) (k : Nat) : Int := orW (xs.take k)
theorem andTo_succ (xs : List Int) (k : Nat) (h : k < xs.length) : andTo xs (k + 1) = bits .and .u64 (andTo xs k) xs[k] := by
  unfold andTo; rw [List.take_succ_eq_append_getElem h, andW_snoc]
theorem orTo_succ (xs : List Int) (k : Nat) (h : k < xs.length) : orTo xs (k + 1) = bits .or .u64 (orTo xs k) xs[k] := by
  unfold orTo; rw [List.take_succ_eq_append_getElem h, orW_snoc]
theorem val_word {a b : Int} (h : a = b) : Value.int .u64 a = .int .u64 b := by rw [h]

set_option maxHeartbeats 1000000 in
theorem ofAll_any (xs : List Int) (a : Option Addr) (n c : Nat) (w : World) (h : Words w a n xs) (hn : n ≤ 200) :
    Calls Try.prog 44 #[.slice a n c] w fun e w' => e = .returned (.int .u64 (andW xs)) ∧ w' = w := by
  have HLL : Hid (xs.length = n) := h.1.symm
  have H0 := hide (show andTo xs 0 = 18446744073709551615 from fullW_is)
  go_enter Try.func44, Try.ntmps44
  go_wp2_with fail
  go_loopw [3, 8] (fun t i wr => ∃ k : Nat, k ≤ n ∧ t = .int .u64 (andTo xs k) ∧ i = .int .i64 k ∧ wr = w) (fun _ i _ => n - (intOf i).toNat)
  case atStart => exact ⟨0, Nat.zero_le _, val_word (unhide H0).symm, rfl, rfl⟩
  case round =>
    obtain ⟨k, hk, rfl, rfl, rfl⟩ := hrel
    by_cases hlt : k < n
    · have hltl : k < xs.length := by have := HLL.out; omega
      have hki : (k : Int) < (n : Int) := by omega
      obtain ⟨b, off, rfl, hbb, c1⟩ := h.at hltl
      have HS := hide (andTo_succ xs k hltl)
      go_wp2_with fail
      exact ⟨⟨k + 1, by omega, val_word (unhide HS).symm, by go_num, by first | rfl | trivial⟩, by simp [intOf]; omega⟩
    · have HT := hide (show andTo xs k = andW xs by unfold andTo; rw [List.take_of_length_le (by have := HLL.out; omega)])
      go_wp2_with fail
      go_ret
      exact ⟨ret_word (unhide HT), rfl⟩

set_option maxHeartbeats 1000000 in
theorem ofAny_any (xs : List Int) (a : Option Addr) (n c : Nat) (w : World) (h : Words w a n xs) (hn : n ≤ 200) :
    Calls Try.prog 45 #[.slice a n c] w fun e w' => e = .returned (.int .u64 (orW xs)) ∧ w' = w := by
  have HLL : Hid (xs.length = n) := h.1.symm
  go_enter Try.func45, Try.ntmps45
  go_wp2_with fail
  go_loopw [3, 8] (fun t i wr => ∃ k : Nat, k ≤ n ∧ t = .int .u64 (orTo xs k) ∧ i = .int .i64 k ∧ wr = w) (fun _ i _ => n - (intOf i).toNat)
  case atStart => exact ⟨0, Nat.zero_le _, rfl, rfl, rfl⟩
  case round =>
    obtain ⟨k, hk, rfl, rfl, rfl⟩ := hrel
    by_cases hlt : k < n
    · have hltl : k < xs.length := by have := HLL.out; omega
      have hki : (k : Int) < (n : Int) := by omega
      obtain ⟨b, off, rfl, hbb, c1⟩ := h.at hltl
      have HS := hide (orTo_succ xs k hltl)
      go_wp2_with fail
      exact ⟨⟨k + 1, by omega, val_word (unhide HS).symm, by go_num, by first | rfl | trivial⟩, by simp [intOf]; omega⟩
    · have HT := hide (show orTo xs k = orW xs by unfold orTo; rw [List.take_of_length_le (by have := HLL.out; omega)])
      go_wp2_with fail
      go_ret
      exact ⟨ret_word (unhide HT), rfl⟩
end Go.Proofs.Ytfeceelibjdaoae
