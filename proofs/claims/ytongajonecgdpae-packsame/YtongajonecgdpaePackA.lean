/- Words ([]uint64) in memory; SameWords of two that are the same; a lane. -/
import Derived.Test.YtongajonecgdpaeTickD
import Derived.Test.YtongajonecgdpaeRowP
namespace Go.Proofs.Ytongajonecgdpae
open Go.RowKit

def Words (w : World) (a : Option Addr) (n : Nat) (xs : List Int) : Prop :=
  n = xs.length ∧ xs.length ≤ maxLen ∧ (xs = [] ∨ ∃ b off, a = some ⟨b, off, none⟩ ∧ b < w.heap.size ∧ ∀ i (hi : i < xs.length), w.cell? ⟨b, off + i, none⟩ = some (.int .u64 xs[i]))
theorem Words.below {w w' : World} {a : Option Addr} {n : Nat} {xs : List Int} (h : Words w a n xs) (hb : Below w.heap.size w w') : Words w' a n xs := by
  obtain ⟨h1, h2, h3⟩ := h
  refine ⟨h1, h2, ?_⟩
  rcases h3 with h3 | ⟨b, off, ha, hlt, hc⟩
  · exact Or.inl h3
  · exact Or.inr ⟨b, off, ha, Nat.lt_of_lt_of_le hlt hb.size, fun i hi => by rw [hb.cell (p := ⟨b, off + i, none⟩) hlt]; exact hc i hi⟩
theorem Words.none (w : World) : Words w Option.none 0 [] := ⟨rfl, Nat.zero_le _, Or.inl rfl⟩
theorem Words.at {w : World} {a : Option Addr} {n : Nat} {xs : List Int} (h : Words w a n xs) {k : Nat} (hk : k < xs.length) :
    ∃ b off, a = some ⟨b, off, Option.none⟩ ∧ b < w.heap.size ∧ w.cell? ⟨b, off + k, Option.none⟩ = some (.int .u64 xs[k]) := by
  obtain ⟨h1, h2, h3⟩ := h
  rcases h3 with h3 | ⟨b, off, ha, hlt, hc⟩
  · rw [h3] at hk; simp at hk
  · exact ⟨b, off, ha, hlt, hc k hk⟩

set_option maxHeartbeats 1000000 in
theorem SameWords_any (xs : List Int) (a b : Option Addr) (n c c' : Nat) (w : World) (hx : Words w a n xs) (hy : Words w b n xs) :
    Calls Try.prog 12 #[.slice a n c, .slice b n c'] w fun e w' => e = .returned (.bool true) ∧ Below w.heap.size w w' := by
  have HN := hide hx.1
  have hm : n ≤ maxLen := by rw [hx.1]; exact hx.2.1
  unfold maxLen at hm
  go_enter Try.func12, Try.ntmps12
  go_wp2_with fail
  go_loopw [5] (fun i wr => ∃ k : Nat, k ≤ n ∧ i = .int .i64 k ∧ Below w.heap.size w wr) (fun i _ => n - (intOf i).toNat)
  case atStart => exact ⟨0, Nat.zero_le _, rfl, Below.refl _ _⟩
  case round =>
    obtain ⟨k, hk, rfl, hbel⟩ := hrel
    by_cases hlt : k < n
    · have hki : (k : Int) < (n : Int) := by omega
      have hkx : k < xs.length := by have := unhide HN; omega
      obtain ⟨b1, o1, rfl, hb1, c1⟩ := (hx.below hbel).at hkx
      obtain ⟨b2, o2, rfl, hb2, c2⟩ := (hy.below hbel).at hkx
      go_wp2_with fail
      go_region_held3 (fun W => W.cell? ⟨b1, o1 + k, none⟩ = some (.int .u64 xs[k]) ∧ W.cell? ⟨b2, o2 + k, none⟩ = some (.int .u64 xs[k]))
        ((exact ⟨c1, c2⟩))
        (fail)
      all_goals (have R := hide (show Below w.heap.size w wr.drew from hbel.drew))
      all_goals clear c1 c2
      all_goals go_wp2_with fail
      all_goals exact ⟨⟨k + 1, by omega, by go_num, unhide R⟩, by simp [intOf]; omega⟩
    · go_wp2_with fail
      go_ret
      exact ⟨rfl, hbel⟩

/-- Bit k of each word. -/
def laneV (xs : List Int) (k : Nat) : List Int := xs.map (fun x => x / 2 ^ k % 2)
theorem laneV_len (xs : List Int) (k : Nat) : (laneV xs k).length = xs.length := by simp [laneV]
theorem wraps_u64' (n : Int) (h₀ : 0 ≤ n) (h₁ : n < 2 ^ 64) : IntKind.u64.wrap n = n := by
  have e : (2 : Int) ^ 64 = 18446744073709551616 := by decide
  rw [e] at h₁
  rw [IntKind.wrap_u64]; omega
theorem and_one_u (x : Int) (h₀ : 0 ≤ x) (h₁ : x < 18446744073709551616) : bits .and .u64 x 1 = x % 2 := by
  have e : (2 : Int) ^ 64 = 18446744073709551616 := by decide
  have := bits_mask .u64 64 (by decide) wraps_u64' 1 (by decide) x h₀ (by rw [e]; exact h₁)
  simpa using this

set_option maxRecDepth 100000 in
set_option maxHeartbeats 1000000 in
theorem lane_any (xs : List Int) (k : Nat) (a : Option Addr) (n c : Nat) (w : World) (hx : Words w a n xs) (hk : k < 64) (hn : n ≤ 20) (hw : ∀ x ∈ xs, 0 ≤ x ∧ x < 18446744073709551616) :
    Calls Try.prog 35 #[.slice a n c, .int .i64 k] w fun e w' => ∃ a' n' c', e = .returned (.slice a' n' c') ∧ Ints w' a' n' (laneV xs k) ∧ Below w.heap.size w w' := by
  have HN := hide hx.1
  have HW := hide hw
  clear hw
  obtain ⟨i0, hi, hz0, hz1, hz2⟩ := info_parts Try.infoInt
  have hk0 : ¬ (k : Int) < 0 := by omega
  have hk64 : (k : Int) < 64 := by omega
  go_enter Try.func35, Try.ntmps35
  go_wp2_with fail
  go_loopw [5, 6] (fun v' i wr => ∃ j : Nat, j ≤ n ∧ i = .int .i64 j ∧ wr.ownsRow w.heap.size 3 1 v' j (intsV ((laneV xs k).take j)) ∧ Below w.heap.size w wr) (fun _ i _ => n - (intOf i).toNat)
  case atStart => exact ⟨0, Nat.zero_le _, rfl, World.ownsRow_nil _ _ _ _, Below.refl _ _⟩
  case round =>
    obtain ⟨j, hj, rfl, hown, hbel⟩ := hrel
    by_cases hlt : j < n
    · have hji : (j : Int) < (n : Int) := by omega
      have hjx : j < xs.length := by have := unhide HN; omega
      obtain ⟨b1, o1, rfl, hb1, c1⟩ := (hx.below hbel).at hjx
      have hxj := (unhide HW) xs[j] (List.getElem_mem hjx)
      have HT := hide (show intsV ((laneV xs k).take (j + 1)) = intsV ((laneV xs k).take j) ++ [.int .i64 (xs[j] / 2 ^ k % 2)] by
        rw [intsV_succ _ _ (by rw [laneV_len]; exact hjx)]
        simp [laneV])
      have hge : 0 ≤ xs[j] / 2 ^ k := Int.ediv_nonneg hxj.1 (Int.pow_nonneg (by decide))
      have hle : xs[j] / 2 ^ k < 18446744073709551616 := Int.lt_of_le_of_lt (Int.ediv_le_self _ hxj.1) hxj.2
      have hand := and_one_u (xs[j] / 2 ^ k) hge hle
      go_wp2_with (at_builtin; refine wpList_append_own _ rfl _ _ 24 rfl (w.heap.size) 3 i0 (.int .i64 0) 1 8 Try.underlying24 hi hz0 hz1 hz2 rfl (by decide) _ _ _ rfl (hown.alloc _) ⟨wr.heap.size, 0, none⟩ 1 1 [.int .i64 (xs[j] / 2 ^ k % 2)] rfl rfl ?c1 ?c2 ?c3 ?c4 ?c5 ?_)
      case c1 =>
        intro j u hj
        match j, hj with
        | 0, hj => simp at hj; subst hj; simp [Addr.add]
      case c2 => intro u hu; simp at hu; subst hu; rfl
      case c3 => unfold maxLen; omega
      case c4 => omega
      case c5 => have := hbel.size; simp; omega
      intro v' w3 hown' hgrow _
      have hown2 := hown'
      rw [← unhide HT] at hown2
      have hb3 : Below w.heap.size w w3 := hbel.trans (((Below.refl _ wr).alloc (hbel.size) _).grown hgrow (by have := hbel.size; simp; omega) (fun k hk => (hown.lt k hk).1))
      have R := hide (And.intro hown2 hb3)
      clear hown hown' hgrow hown2 hb3
      go_wp2_with fail
      exact ⟨⟨j + 1, by omega, by go_num, (unhide R).1, (unhide R).2⟩, by simp [intOf]; omega⟩
    · have hjn : j = n := by omega
      rw [List.take_of_length_le (by rw [laneV_len]; have := unhide HN; omega)] at hown
      obtain ⟨a2, c2, hv', hI⟩ := own_ints hown (by unfold maxLen; omega)
      rw [hv']
      clear hv' hown
      go_wp2_with fail
      go_ret
      exact ⟨_, _, _, rfl, hI, hbel⟩
end Go.Proofs.Ytongajonecgdpae
