/- What the small readers of lists of whole numbers answer (tern.isOneOf, linchpinref.within, linchpinref.count, linchpinref.Values), for every list that is read. -/
import Derived.Test.YtongajonecgdpaeRows
import Derived.WalkKit
import Derived.WalkSpells
import Derived.WalkLawsBesides
namespace Go.Proofs.Ytongajonecgdpae
open Go.RowKit

/-- A slice of ints as the walk meets it: nothing in it, or a row of cells. -/
def Ints (w : World) (a : Option Addr) (n : Nat) (xs : List Int) : Prop :=
  n = xs.length ∧ xs.length ≤ maxLen ∧ (xs = [] ∨ ∃ b off, a = some ⟨b, off, none⟩ ∧ b < w.heap.size ∧ ∀ i (hi : i < xs.length), w.cell? ⟨b, off + i, none⟩ = some (.int .i64 xs[i]))

theorem ret_int {k : IntKind} {a b : Int} (h : a = b) : Ending.returned (.int k a) = .returned (.int k b) := by rw [h]
theorem ret_bool {a b : Bool} (h : a = b) : Ending.returned (.bool a) = .returned (.bool b) := by rw [h]

def has (v : Int) (xs : List Int) : Bool := xs.any (fun x => v == x)

theorem take_snoc (xs : List Int) (k : Nat) (h : k < xs.length) : xs.take (k + 1) = xs.take k ++ [xs[k]] := by
  rw [List.take_succ_eq_append_getElem h]

theorem has_snoc (v : Int) (xs : List Int) (y : Int) : has v (xs ++ [y]) = (has v xs || v == y) := by simp [has]
theorem has_of (v : Int) (xs : List Int) (k : Nat) (h : k < xs.length) (e : v = xs[k]) : has v xs = true := by
  simp only [has, List.any_eq_true]
  exact ⟨xs[k], by simp, by simp [e]⟩

set_option maxHeartbeats 400000 in
theorem isOneOf_any (v : Int) (xs : List Int) (a : Option Addr) (n cap : Nat) (w : World) (h : Ints w a n xs) :
    Calls Try.prog 112 #[.int .i64 v, .slice a n cap] w fun e w' => e = .returned (.bool (has v xs)) ∧ w' = w := by
  obtain ⟨rfl, hm, h⟩ := h
  unfold maxLen at hm
  go_enter Try.func112, Try.ntmps112
  go_wp2
  go_loop [9] (fun i => ∃ k : Nat, k ≤ xs.length ∧ i = .int .i64 k ∧ has v (xs.take k) = false) (fun i => xs.length - (intOf i).toNat)
  case atStart => exact ⟨0, Nat.zero_le _, rfl, rfl⟩
  case round =>
    obtain ⟨k, hk, rfl, hno⟩ := hrel
    by_cases hlt : k < xs.length
    · rcases h with h | ⟨b, off, rfl, hb, hc⟩
      · rw [h] at hlt; simp at hlt
      · have hcell := hc k hlt
        have HS : Hid (has v (xs.take (k + 1)) = (has v (xs.take k) || v == xs[k])) := by rw [take_snoc xs k hlt, has_snoc]; exact rfl
        have HN : Hid (has v (xs.take k) = false) := hno
        clear hc hno
        by_cases e : v = xs[k]
        · have hd : Hid (has v xs = true) := has_of v xs k hlt e
          have he : (v == xs[k]) = true := by simp [e]
          clear e
          go_wp2
          go_ret
          exact ⟨ret_bool hd.out.symm, rfl⟩
        · have he : (v == xs[k]) = false := by simp [e]
          clear e
          go_wp2
          exact ⟨⟨k + 1, by omega, by go_num, by rw [HS.out, HN.out, he]; rfl⟩, by simp [intOf]; omega⟩
    · have hf : Hid (has v xs = false) := by rw [List.take_of_length_le (by omega)] at hno; exact hno
      clear hno
      go_wp2
      go_ret
      exact ⟨ret_bool hf.out.symm, rfl⟩

set_option maxHeartbeats 400000 in
theorem within_any (n lo hi : Int) (w : World) :
    Calls Try.prog 47 #[.int .i64 n, .int .i64 lo, .int .i64 hi] w fun e w' => e = .returned (.bool (decide (lo ≤ n ∧ n ≤ hi))) ∧ w' = w := by
  by_cases h1 : lo ≤ n
  · by_cases h2 : n ≤ hi
    · go_enter Try.func47, Try.ntmps47
      go_wp2
      go_ret
      exact ⟨ret_bool (by simp [h1, h2]), rfl⟩
    · go_enter Try.func47, Try.ntmps47
      go_wp2
      go_ret
      exact ⟨ret_bool (by simp [h2]), rfl⟩
  · go_enter Try.func47, Try.ntmps47
    go_wp2
    go_ret
    exact ⟨ret_bool (by simp; omega), rfl⟩

theorem Ints.below {w w' : World} {a : Option Addr} {n : Nat} {xs : List Int} (h : Ints w a n xs) (hb : Below w.heap.size w w') : Ints w' a n xs := by
  obtain ⟨h1, h2, h3⟩ := h
  refine ⟨h1, h2, ?_⟩
  rcases h3 with h3 | ⟨b, off, ha, hlt, hc⟩
  · exact Or.inl h3
  · exact Or.inr ⟨b, off, ha, Nat.lt_of_lt_of_le hlt hb.size, fun i hi => by rw [hb.cell (p := ⟨b, off + i, none⟩) hlt]; exact hc i hi⟩

theorem Ints.below' {B : Nat} {w w' : World} {a : Option Addr} {n : Nat} {xs : List Int} (h : Ints w a n xs) (hb : Below B w w') (hB : w.heap.size ≤ B) : Ints w' a n xs := h.below (hb.mono hB)

theorem Ints.none (w : World) : Ints w Option.none 0 [] := ⟨rfl, Nat.zero_le _, Or.inl rfl⟩

theorem cell_new (w : World) (C : Array Value) (T : TypeId) (i : Nat) (h : i < C.size) : (w.alloc (.cells C T)).cell? ⟨w.heap.size, 0 + i, none⟩ = some C[i] := by
  rw [World.cell?_alloc_new]; simp [h]

theorem Ints.new (w : World) (C : Array Value) (T : TypeId) (n : Nat) (xs : List Int) (hC : C = (xs.map (fun x => Value.int .i64 x)).toArray) (hn : n = xs.length) (hm : xs.length ≤ maxLen) :
    Ints (w.alloc (.cells C T)) (some ⟨w.heap.size, 0, Option.none⟩) n xs := by
  refine ⟨hn, hm, Or.inr ⟨w.heap.size, 0, rfl, by simp, fun i hi => ?_⟩⟩
  subst hC
  rw [cell_new _ _ _ i (by simpa using hi)]
  simp

theorem Ints.new' (w : World) (C : Array Value) (T : TypeId) (g n : Nat) (xs : List Int) (hg : g = w.heap.size) (hC : C = (xs.map (fun x => Value.int .i64 x)).toArray) (hn : n = xs.length) (hm : xs.length ≤ maxLen) :
    Ints (w.alloc (.cells C T)) (some ⟨g, 0, Option.none⟩) n xs := by
  subst hg; exact Ints.new w C T n xs hC hn hm

def val (x : Int) : Bool := decide (0 ≤ x ∧ x ≤ 2)
def vals (xs : List Int) : Bool := xs.all val
theorem vals_snoc (xs : List Int) (y : Int) : vals (xs ++ [y]) = (vals xs && val y) := by simp [vals]
theorem vals_no (xs : List Int) (k : Nat) (h : k < xs.length) (e : val xs[k] = false) : vals xs = false := by
  simp only [vals, List.all_eq_false]
  exact ⟨xs[k], by simp, by simp [e]⟩
theorem has012 (x : Int) : has x [0, 1, 2] = val x := by
  simp only [has, val, List.any_cons, List.any_nil, Bool.or_false]
  rw [Bool.eq_iff_iff]; simp; omega

set_option maxHeartbeats 400000 in
theorem values_any (xs : List Int) (a : Option Addr) (n cap : Nat) (w : World) (h : Ints w a n xs) :
    Calls Try.prog 95 #[.slice a n cap] w fun e w' => e = .returned (.bool (vals xs)) ∧ w' = w := by
  obtain ⟨rfl, hm, h⟩ := h
  unfold maxLen at hm
  go_enter Try.func95, Try.ntmps95
  go_wp2
  go_loop [3] (fun i => ∃ k : Nat, k ≤ xs.length ∧ i = .int .i64 k ∧ vals (xs.take k) = true) (fun i => xs.length - (intOf i).toNat)
  case atStart => exact ⟨0, Nat.zero_le _, rfl, rfl⟩
  case round =>
    obtain ⟨k, hk, rfl, hno⟩ := hrel
    by_cases hlt : k < xs.length
    · rcases h with h | ⟨b, off, rfl, hb, hc⟩
      · rw [h] at hlt; simp at hlt
      · have hcell := hc k hlt
        have HS : Hid (vals (xs.take (k + 1)) = (vals (xs.take k) && val xs[k])) := by rw [take_snoc xs k hlt, vals_snoc]; exact rfl
        have HN : Hid (vals (xs.take k) = true) := hno
        clear hc hno
        cases e : val xs[k]
        · have hd : Hid (vals xs = false) := vals_no xs k hlt e
          have he : decide (0 ≤ xs[k] ∧ xs[k] ≤ 2) = false := e
          clear e
          go_wp2_with (go_at_call 47; refine (within_any _ _ _ _).mono ?_; rintro e w' ⟨rfl, rfl⟩; rw [he])
          go_ret
          exact ⟨ret_bool hd.out.symm, rfl⟩
        · have he : decide (0 ≤ xs[k] ∧ xs[k] ≤ 2) = true := e
          have e' : Hid (val xs[k] = true) := e
          clear e
          go_wp2_with (go_at_call 47; refine (within_any _ _ _ _).mono ?_; rintro e w' ⟨rfl, rfl⟩; rw [he])
          exact ⟨⟨k + 1, by omega, by go_num, by rw [HS.out, HN.out, e'.out]; rfl⟩, by simp [intOf]; omega⟩
    · have hf : Hid (vals xs = true) := by rw [List.take_of_length_le (by omega)] at hno; exact hno
      clear hno
      go_wp2
      go_ret
      exact ⟨ret_bool hf.out.symm, rfl⟩

def cnt (v : Int) (xs : List Int) : Nat := (xs.filter (fun x => x == v)).length
theorem cnt_snoc (v : Int) (xs : List Int) (y : Int) : cnt v (xs ++ [y]) = cnt v xs + if y == v then 1 else 0 := by
  simp only [cnt, List.filter_append, List.length_append]
  cases e : y == v <;> simp [e]
theorem cnt_le (v : Int) (xs : List Int) : cnt v xs ≤ xs.length := List.length_filter_le _ _
theorem cnt_pos (v : Int) (xs : List Int) : decide (0 < (cnt v xs : Int)) = has v xs := by
  rw [Bool.eq_iff_iff, decide_eq_true_iff]
  simp only [cnt, has, List.any_eq_true, beq_iff_eq]
  constructor
  · intro h
    have h' : 0 < (xs.filter (fun x => x == v)).length := by omega
    obtain ⟨y, hy⟩ := List.exists_mem_of_length_pos h'
    rw [List.mem_filter] at hy
    exact ⟨y, hy.1, by simpa using (beq_iff_eq.1 hy.2).symm⟩
  · rintro ⟨y, hy, e⟩
    have : y ∈ xs.filter (fun x => x == v) := List.mem_filter.2 ⟨hy, by simp [e]⟩
    have := List.length_pos_of_mem this
    omega

set_option maxHeartbeats 400000 in
theorem count_any (v : Int) (xs : List Int) (a : Option Addr) (n cap : Nat) (w : World) (h : Ints w a n xs) :
    Calls Try.prog 68 #[.slice a n cap, .int .i64 v] w fun e w' => e = .returned (.int .i64 (cnt v xs)) ∧ w' = w := by
  obtain ⟨rfl, hm, h⟩ := h
  unfold maxLen at hm
  go_enter Try.func68, Try.ntmps68
  go_wp2
  go_loop [5, 6] (fun c i => ∃ k : Nat, k ≤ xs.length ∧ i = .int .i64 k ∧ c = .int .i64 (cnt v (xs.take k))) (fun _ i => xs.length - (intOf i).toNat)
  case atStart => exact ⟨0, Nat.zero_le _, rfl, rfl⟩
  case round =>
    obtain ⟨k, hk, rfl, rfl⟩ := hrel
    have hle := cnt_le v (xs.take k)
    have hle2 : (xs.take k).length ≤ k := List.length_take_le _ _
    by_cases hlt : k < xs.length
    · rcases h with h | ⟨b, off, rfl, hb, hc⟩
      · rw [h] at hlt; simp at hlt
      · have hcell := hc k hlt
        have HS : Hid (cnt v (xs.take (k + 1)) = cnt v (xs.take k) + if xs[k] == v then 1 else 0) := by rw [take_snoc xs k hlt, cnt_snoc]; exact rfl
        clear hc
        cases e : xs[k] == v
        · have he : Hid ((xs[k] == v) = false) := e
          go_wp2
          exact ⟨⟨k + 1, by omega, by go_num, by rw [HS.out, he.out]; rfl⟩, by simp [intOf]; omega⟩
        · have he : Hid ((xs[k] == v) = true) := e
          go_wp2
          exact ⟨⟨k + 1, by omega, by go_num, by rw [HS.out, he.out]; rfl⟩, by simp [intOf]; omega⟩
    · have hf : Hid (xs.take k = xs) := List.take_of_length_le (by omega)
      go_wp2
      go_ret
      exact ⟨ret_int (by rw [hf.out]), rfl⟩
end Go.Proofs.Ytongajonecgdpae
