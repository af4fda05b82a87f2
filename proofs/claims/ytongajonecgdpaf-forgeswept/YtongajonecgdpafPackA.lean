/- Words ([]uint64) in memory; SameWords of two that are the same; a lane. -/
import Derived.Test.YtongajonecgdpafTickB
import Derived.Test.YtongajonecgdpafEvalP
import Derived.Test.YtongajonecgdpafSweepM
import Derived.Test.YtongajonecgdpafLevelA
namespace Go.Proofs.Ytongajonecgdpaf
open Go.RowKit

def Words (w : World) (a : Option Addr) (n : Nat) (xs : List Int) : Prop :=
  n = xs.length ∧ xs.length ≤ maxLen ∧ (xs = [] ∨ ∃ b off, a = some ⟨b, off, none⟩ ∧ b < w.heap.size ∧ ∀ i (hi : i < xs.length), w.cell? ⟨b, off + i, none⟩ = some (.int .u64 xs[i]))
theorem Words.below {w w' : World} {a : Option Addr} {n : Nat} {xs : List Int} (h : Words w a n xs) (hb : Below w.heap.size w w') : Words w' a n xs := by
  obtain ⟨h1, h2, h3⟩ := h
  refine ⟨h1, h2, ?_⟩
  rcases h3 with h3 | ⟨b, off, ha, hlt, hc⟩
  · exact Or.inl h3
  · exact Or.inr ⟨b, off, ha, Nat.lt_of_lt_of_le hlt hb.size, fun i hi => by rw [hb.cell (p := ⟨b, off + i, none⟩) hlt]; exact hc i hi⟩
theorem Words.none (w : World) : Words w Option.none 0 [] := ⟨rfl, Nat.zero_le _, Or.inl rfl⟩
theorem Words.at {w : World} {a : Option Addr} {n : Nat} {xs : List Int} (h : Words w a n xs) {k : Nat} (hk : k < xs.length) :
    ∃ b off, a = some ⟨b, off, Option.none⟩ ∧ b < w.heap.size ∧ w.cell? ⟨b, off + k, Option.none⟩ = some (.int .u64 xs[k]) := by
  obtain ⟨h1, h2, h3⟩ := h
  rcases h3 with h3 | ⟨b, off, ha, hlt, hc⟩
  · rw [h3] at hk; simp at hk
  · exact ⟨b, off, ha, hlt, hc k hk⟩

/-- Bit k of each word. -/
def laneV (xs : List Int) (k : Nat) : List Int := xs.map (fun x => x / 2 ^ k % 2)
theorem laneV_len (xs : List Int) (k : Nat) : (laneV xs k).length = xs.length := by simp [laneV]
theorem wraps_u64' (n : Int) (h₀ : 0 ≤ n) (h₁ : n < 2 ^ 64) : IntKind.u64.wrap n = n := by
  have e : (2 : Int) ^ 64 = 18446744073709551616 := by decide
  rw [e] at h₁
  rw [IntKind.wrap_u64]; omega
theorem and_one_u (x : Int) (h₀ : 0 ≤ x) (h₁ : x < 18446744073709551616) : bits .and .u64 x 1 = x % 2 := by
  have e : (2 : Int) ^ 64 = 18446744073709551616 := by decide
  have := bits_mask .u64 64 (by decide) wraps_u64' 1 (by decide) x h₀ (by rw [e]; exact h₁)
  simpa using this

/-- Place i of the first k lanes, as a word. -/
def wordTo (f : Nat → List Int) (i : Nat) : Nat → Int
  | 0 => 0
  | k + 1 => wordTo f i k + (f k).getD i 0 * 2 ^ k
theorem wordTo_lt {f : Nat → List Int} {i : Nat} (h : ∀ k, (f k).getD i 0 = 0 ∨ (f k).getD i 0 = 1) : ∀ k, 0 ≤ wordTo f i k ∧ wordTo f i k < 2 ^ k
  | 0 => ⟨Int.le_refl _, by show (0 : Int) < 2 ^ 0; decide⟩
  | k + 1 => by
    have ih := wordTo_lt h k
    have hp : (0 : Int) < 2 ^ k := Int.pow_pos (by decide)
    have he : (2 : Int) ^ (k + 1) = 2 ^ k * 2 := Int.pow_succ 2 k
    unfold wordTo
    rw [he]
    rcases h k with h1 | h1 <;> rw [h1] <;> omega
/-- Bit k of the word is what lane k has. -/
theorem bit_word {f : Nat → List Int} {i : Nat} (h : ∀ k, (f k).getD i 0 = 0 ∨ (f k).getD i 0 = 1) : ∀ n k, k < n → wordTo f i n / 2 ^ k % 2 = (f k).getD i 0
  | 0, k, hk => absurd hk (by omega)
  | n + 1, k, hk => by
    have hl := wordTo_lt h n
    have hp : (0 : Int) < 2 ^ k := Int.pow_pos (by decide)
    unfold wordTo
    by_cases e : k = n
    · subst e
      rw [Int.add_mul_ediv_right _ _ (by omega), Int.ediv_eq_zero_of_lt hl.1 hl.2, Int.zero_add]
      rcases h k with h1 | h1 <;> rw [h1] <;> rfl
    · have hkn : k < n := by omega
      have e1 : (f n).getD i 0 * 2 ^ n = ((f n).getD i 0 * 2 ^ (n - k - 1) * 2) * 2 ^ k := by
        rw [Int.mul_assoc, Int.mul_assoc, ← Int.pow_succ', ← Int.pow_add]
        congr 2
        omega
      rw [e1, Int.add_mul_ediv_right _ _ (by omega), Int.add_mul_emod_self_right]
      exact bit_word h n k hkn
/-- A lane laid over those below it. -/
theorem or_word {x b : Int} {k : Nat} (hk : k < 64) (h0 : 0 ≤ x) (h1 : x < 2 ^ k) (hb : b = 0 ∨ b = 1) : bits .or .u64 x (b * 2 ^ k) = x + b * 2 ^ k := by
  have e64 : (2 : Int) ^ 64 = 18446744073709551616 := by decide
  have hp : (0 : Int) < 2 ^ k := Int.pow_pos (by decide)
  have hlt : (2 : Nat) ^ k < 2 ^ 64 := Nat.pow_lt_pow_right (by decide) hk
  have hlt' : (2 : Int) ^ k < 2 ^ 64 := by exact_mod_cast hlt
  have hb2 : 0 ≤ b * 2 ^ k ∧ b * 2 ^ k < 2 ^ 64 := by rcases hb with rfl | rfl <;> omega
  have hx2 : x < 2 ^ 64 := by omega
  obtain ⟨a, ha⟩ := Int.eq_ofNat_of_zero_le h0
  obtain ⟨c, hc⟩ := Int.eq_ofNat_of_zero_le hb2.1
  have n1 := (bits_nat .u64 64 (by decide) wraps_u64' a c (by have : (a : Int) < 2 ^ 64 := by rw [← ha]; exact hx2
                                                              exact_mod_cast this) (by have : (c : Int) < 2 ^ 64 := by rw [← hc]; exact hb2.2
                                                                                       exact_mod_cast this)).2
  have n2 := (bits_nat .u64 64 (by decide) wraps_u64' c a (by have : (c : Int) < 2 ^ 64 := by rw [← hc]; exact hb2.2
                                                              exact_mod_cast this) (by have : (a : Int) < 2 ^ 64 := by rw [← ha]; exact hx2
                                                                                       exact_mod_cast this)).2
  have hm : b * 2 ^ k % 2 ^ k = 0 := Int.mul_emod_left b (2 ^ k)
  have n3 := bits_join .u64 64 (by decide) wraps_u64' k (b * 2 ^ k) x hb2.1 hm hb2.2 h0 h1 hx2
  rw [ha, hc] at n3 ⊢
  rw [n1, Nat.or_comm, ← n2, n3]
  omega
/-- A lane of words has No and Yes alone. -/
theorem lane_vals (xs : List Int) (k : Nat) : ∀ y ∈ laneV xs k, y = 0 ∨ y = 1 := by
  intro y hy
  obtain ⟨x, _, rfl⟩ := List.mem_map.1 hy
  have := Int.emod_nonneg (x / 2 ^ k) (show (2 : Int) ≠ 0 by decide)
  have := Int.emod_lt_of_pos (x / 2 ^ k) (show (0 : Int) < 2 by decide)
  omega
theorem lane_ok (xs : List Int) (k : Nat) : vals (laneV xs k) = true := by
  rw [vals_true]; intro y hy; have := lane_vals xs k y hy; omega
/-- Where there is an order each lane is settled. -/
theorem lane_do {d : NetD} (h : orderE d = 0) {regs ins : List Int} (hr : regs.length = d.regs.length) (hi : (ins.length : Int) = d.ins) (k : Nat) : doE d (laneV regs k) (laneV ins k) = 0 := by
  obtain ⟨hc, ho⟩ := orderE_ok h
  have hs : stepE d (laneV regs k) (laneV ins k) = 0 := by
    unfold stepE
    rw [if_pos hc, if_pos ⟨by rw [laneV_len]; exact hr, by rw [laneV_len]; exact hi⟩, lane_ok, lane_ok]; rfl
  have hcl := lfp_closed hc ho hs (fun x hx => by have := lane_vals regs k x hx; omega) (fun x hx => by have := lane_vals ins k x hx; omega)
  have hop : opens (lfp d (laneV regs k) (laneV ins k)) = 0 := by
    unfold opens
    rw [List.length_eq_zero_iff, List.filter_eq_nil_iff]
    intro x hx
    obtain ⟨j, hj, rfl⟩ := List.getElem_of_mem hx
    have hl := (lfp_least d (laneV regs k) (laneV ins k)).len
    have := hcl j (by omega)
    have hget : (lfp d (laneV regs k) (laneV ins k)).getD j 2 = (lfp d (laneV regs k) (laneV ins k))[j] := by simp [List.getD_eq_getElem?_getD, hj]
    rw [hget] at this
    simpa using this
  unfold doE
  rw [if_pos hs, if_pos hop]

def isW (x : Int) : Prop := 0 ≤ x ∧ x < 2 ^ 64
def bit (x : Int) (k : Nat) : Int := x / 2 ^ k % 2
theorem nbit (n k : Nat) : bit (n : Int) k = if n.testBit k then 1 else 0 := by
  have h : bit (n : Int) k = ((n / 2 ^ k % 2 : Nat) : Int) := by unfold bit; simp
  rw [h, Nat.testBit_eq_decide_div_mod_eq]
  have hlt := Nat.mod_lt (n / 2 ^ k) (show 0 < 2 by decide)
  generalize n / 2 ^ k % 2 = b at *
  have hb : b = 0 ∨ b = 1 := by omega
  rcases hb with rfl | rfl <;> rfl
theorem isW_nat {x : Int} (h : isW x) : ∃ a : Nat, x = a ∧ a < 2 ^ 64 := by
  obtain ⟨a, ha⟩ := Int.eq_ofNat_of_zero_le h.1
  refine ⟨a, ha, ?_⟩
  have := h.2
  rw [ha] at this
  exact_mod_cast this
theorem isW_of {a : Nat} (h : a < 2 ^ 64) : isW (a : Int) := ⟨Int.natCast_nonneg a, by exact_mod_cast h⟩
theorem bit01' (x : Int) (k : Nat) : bit x k = 0 ∨ bit x k = 1 := bit01 x k
def andB (x y : Int) : Int := if x = 1 ∧ y = 1 then 1 else 0
def orB (x y : Int) : Int := if x = 1 ∨ y = 1 then 1 else 0
theorem and_bit {x y : Int} (hx : isW x) (hy : isW y) : isW (bits .and .u64 x y) ∧ ∀ k, bit (bits .and .u64 x y) k = andB (bit x k) (bit y k) := by
  obtain ⟨a, rfl, ha⟩ := isW_nat hx
  obtain ⟨b, rfl, hb⟩ := isW_nat hy
  rw [(bits_nat .u64 64 (by decide) wraps_u64' a b ha hb).1]
  refine ⟨isW_of (Nat.lt_of_le_of_lt Nat.and_le_left ha), fun k => ?_⟩
  rw [nbit, nbit, nbit, Nat.testBit_and]
  unfold andB
  cases a.testBit k <;> cases b.testBit k <;> rfl
theorem or_bit {x y : Int} (hx : isW x) (hy : isW y) : isW (bits .or .u64 x y) ∧ ∀ k, bit (bits .or .u64 x y) k = orB (bit x k) (bit y k) := by
  obtain ⟨a, rfl, ha⟩ := isW_nat hx
  obtain ⟨b, rfl, hb⟩ := isW_nat hy
  rw [(bits_nat .u64 64 (by decide) wraps_u64' a b ha hb).2]
  refine ⟨isW_of (Nat.or_lt_two_pow ha hb), fun k => ?_⟩
  rw [nbit, nbit, nbit, Nat.testBit_or]
  unfold orB
  cases a.testBit k <;> cases b.testBit k <;> rfl
/-- All bits. -/
def fullW : Int := 2 ^ 64 - 1
theorem fullW_is : fullW = 18446744073709551615 := by decide
theorem full_bit : isW fullW ∧ ∀ k, k < 64 → bit fullW k = 1 := by
  have h : fullW = ((2 ^ 64 - 1 : Nat) : Int) := by decide
  rw [h]
  refine ⟨isW_of (by decide), fun k hk => ?_⟩
  rw [nbit, Nat.testBit_two_pow_sub_one]
  simp [hk]
theorem zero_bit : isW 0 ∧ ∀ k, bit 0 k = 0 := ⟨⟨Int.le_refl _, by decide⟩, fun k => by unfold bit; simp⟩
def notW (x : Int) : Int := fullW - x
theorem not_bit {x : Int} (hx : isW x) : isW (notW x) ∧ ∀ k, k < 64 → bit (notW x) k = 1 - bit x k := by
  obtain ⟨a, rfl, ha⟩ := isW_nat hx
  have h : notW (a : Int) = ((2 ^ 64 - (a + 1) : Nat) : Int) := by
    unfold notW fullW
    omega
  rw [h]
  refine ⟨isW_of (by omega), fun k hk => ?_⟩
  rw [nbit, nbit, Nat.testBit_two_pow_sub_succ ha]
  cases a.testBit k <;> simp [hk]
def andW (xs : List Int) : Int := xs.foldl (fun a x => bits .and .u64 a x) fullW
def orW (xs : List Int) : Int := xs.foldl (fun a x => bits .or .u64 a x) 0
theorem andW_snoc (xs : List Int) (x : Int) : andW (xs ++ [x]) = bits .and .u64 (andW xs) x := by simp [andW]
theorem orW_snoc (xs : List Int) (x : Int) : orW (xs ++ [x]) = bits .or .u64 (orW xs) x := by simp [orW]
theorem andW_bit (xs : List Int) (h : ∀ x ∈ xs, isW x) : isW (andW xs) ∧ ∀ k, k < 64 → bit (andW xs) k = if has 0 (xs.map (bit · k)) then 0 else 1 := by
  rw [← List.reverse_reverse xs] at h ⊢
  generalize xs.reverse = ys at h ⊢
  induction ys with
  | nil => exact ⟨full_bit.1, fun k hk => by rw [show andW ([] : List Int).reverse = fullW from rfl, full_bit.2 k hk]; rfl⟩
  | cons y ys ih =>
    rw [List.reverse_cons] at h ⊢
    have ih' := ih (fun x hx => h x (List.mem_append_left _ hx))
    have hy := h y (by simp)
    rw [andW_snoc]
    obtain ⟨h1, h2⟩ := and_bit ih'.1 hy
    refine ⟨h1, fun k hk => ?_⟩
    rw [h2 k, ih'.2 k hk, List.map_append, List.map_cons, List.map_nil, has_snoc]
    unfold andB
    rcases bit01' y k with e | e <;> rw [e] <;> cases has 0 (ys.reverse.map (bit · k)) <;> rfl
theorem orW_bit (xs : List Int) (h : ∀ x ∈ xs, isW x) : isW (orW xs) ∧ ∀ k, bit (orW xs) k = if has 1 (xs.map (bit · k)) then 1 else 0 := by
  rw [← List.reverse_reverse xs] at h ⊢
  generalize xs.reverse = ys at h ⊢
  induction ys with
  | nil => exact ⟨zero_bit.1, fun k => by rw [show orW ([] : List Int).reverse = 0 from rfl, zero_bit.2 k]; rfl⟩
  | cons y ys ih =>
    rw [List.reverse_cons] at h ⊢
    have ih' := ih (fun x hx => h x (List.mem_append_left _ hx))
    have hy := h y (by simp)
    rw [orW_snoc]
    obtain ⟨h1, h2⟩ := or_bit ih'.1 hy
    refine ⟨h1, fun k => ?_⟩
    rw [h2 k, ih'.2 k, List.map_append, List.map_cons, List.map_nil, has_snoc]
    unfold orB
    rcases bit01' y k with e | e <;> rw [e] <;> cases has 1 (ys.reverse.map (bit · k)) <;> rfl

/-- A gate's word. -/
def wordV (g : GateD) (held ins ws : List Int) : Int :=
  if g.kind = 1 then fullW else if g.kind = 2 then ins.getD g.n.toNat 0 else if g.kind = 3 then held.getD g.n.toNat 0 else
  if g.kind = 4 then andW (pickV ws g.args) else if g.kind = 5 then orW (pickV ws g.args) else if g.kind = 6 then notW (ws.getD (g.args.getD 0 0).toNat 0) else 0
theorem getD_isW {xs : List Int} (h : ∀ x ∈ xs, isW x) (k : Nat) : isW (xs.getD k 0) := by
  by_cases hk : k < xs.length
  · rw [show xs.getD k 0 = xs[k] by simp [List.getD_eq_getElem?_getD, hk]]; exact h _ (List.getElem_mem hk)
  · rw [show xs.getD k 0 = 0 by simp [List.getD_eq_getElem?_getD, List.getElem?_eq_none (show xs.length ≤ k by omega)]]; exact zero_bit.1
theorem pick_isW {ws l : List Int} (h : ∀ x ∈ ws, isW x) : ∀ x ∈ pickV ws l, isW x := by
  intro x hx
  obtain ⟨y, _, rfl⟩ := List.mem_map.1 hx
  exact getD_isW h _
theorem lane_at (xs : List Int) (k j : Nat) (h : j < xs.length) (z : Int) : (laneV xs k).getD j z = bit (xs.getD j 0) k := by
  simp [laneV, bit, List.getD_eq_getElem?_getD, h]
theorem lane_bit (xs : List Int) (k : Nat) : laneV xs k = xs.map (bit · k) := rfl
theorem not_two {xs : List Int} (k : Nat) : has 2 (xs.map (bit · k)) = false := by
  unfold has
  rw [List.any_eq_false]
  intro x hx
  obtain ⟨y, _, rfl⟩ := List.mem_map.1 hx
  rcases bit01' y k with e | e <;> rw [e] <;> decide
theorem worthV_isW {g : GateD} {held ins ws : List Int} (h1 : ∀ x ∈ held, isW x) (h2 : ∀ x ∈ ins, isW x) (h3 : ∀ x ∈ ws, isW x) : isW (wordV g held ins ws) := by
  unfold wordV
  repeat' split
  · exact full_bit.1
  · exact getD_isW h2 _
  · exact getD_isW h1 _
  · exact (andW_bit _ (pick_isW h3)).1
  · exact (orW_bit _ (pick_isW h3)).1
  · exact (not_bit (getD_isW h3 _)).1
  · exact zero_bit.1
/-- Bit k of a gate's word is its value in lane k. -/
theorem word_bit {g : GateD} {held ins ws : List Int} {rn inn gn : Nat} (hR : Right g rn inn gn) (hr : held.length = rn) (hi : ins.length = inn) (hw : ws.length = gn) (h3 : ∀ x ∈ ws, isW x) (k : Nat) (hk : k < 64) :
    bit (wordV g held ins ws) k = worthV g (laneV held k) (laneV ins k) (laneV ws k) := by
  have hargs : (pickV ws g.args).map (bit · k) = g.args.map (fun x => (laneV ws k).getD x.toNat 2) := by
    unfold pickV
    rw [List.map_map]
    apply List.map_congr_left
    intro x hx
    have := (hR.args x hx).2
    rw [lane_at ws k x.toNat (by omega)]
    rfl
  have hkind := hR.kind
  unfold wordV worthV
  by_cases e1 : g.kind = 1
  · rw [if_pos e1, if_pos e1]; exact full_bit.2 k hk
  rw [if_neg e1, if_neg e1]
  by_cases e2 : g.kind = 2
  · rw [if_pos e2, if_pos e2, lane_at ins k _ (by have := (hR.inp e2).2; omega)]
  rw [if_neg e2, if_neg e2]
  by_cases e3 : g.kind = 3
  · rw [if_pos e3, if_pos e3, lane_at held k _ (by have := (hR.reg e3).2; omega)]
  rw [if_neg e3, if_neg e3]
  by_cases e4 : g.kind = 4
  · rw [if_pos e4, if_pos e4, (andW_bit _ (pick_isW h3)).2 k hk]
    unfold tellV
    rw [← hargs, not_two k]
    rfl
  rw [if_neg e4, if_neg e4]
  by_cases e5 : g.kind = 5
  · rw [if_pos e5, if_pos e5, (orW_bit _ (pick_isW h3)).2 k]
    unfold tellV
    rw [← hargs, not_two k]
    rfl
  rw [if_neg e5, if_neg e5]
  by_cases e6 : g.kind = 6
  · have h1 := hR.one e6
    have hx := (hR.args (g.args.getD 0 0) (by rw [List.getD_eq_getElem?_getD, List.getElem?_eq_getElem (by omega)]; exact List.getElem_mem _)).2
    rw [if_pos e6, if_pos e6, (not_bit (getD_isW h3 _)).2 k hk]
    have h2 : (g.args.map (fun x => (laneV ws k).getD x.toNat 2)).getD 0 2 = bit (ws.getD (g.args.getD 0 0).toNat 0) k := by
      rw [← lane_at ws k _ (by omega) 2]
      simp [List.getD_eq_getElem?_getD, show 0 < g.args.length by omega]
    rw [h2]
    unfold not1
    rcases bit01' (ws.getD (g.args.getD 0 0).toNat 0) k with e | e <;> rw [e] <;> rfl
  · rw [if_neg e6, if_neg e6]; exact zero_bit.2 k
theorem lane_set (xs : List Int) (j : Nat) (y : Int) (k : Nat) : laneV (xs.set j y) k = (laneV xs k).set j (bit y k) := by
  unfold laneV bit; rw [List.map_set]
/-- So far the words are what is settled, lane by lane. -/
def WSofar (d : NetD) (r i x : List Int) (m : Nat) : Prop := ∀ k, k < 64 → Sofar d (laneV r k) (laneV i k) (laneV x k) m
theorem WSofar.next {d : NetD} {r i x : List Int} {m : Nat} (hc : checkE d = 0) (hr : r.length = d.regs.length) (hi : i.length = d.ins.toNat) (hm : m < (ordTo d d.gates.length).length) (h : WSofar d r i x m) (hx : x.length = d.gates.length) (hw : ∀ y ∈ x, isW y) {j : Nat} (hj : (ordTo d d.gates.length)[m] = j) (hjl : j < d.gates.length) :
    WSofar d r i (x.set j (wordV d.gates[j] r i x)) (m + 1) := by
  intro k hk
  have := Sofar.next hm (h k hk) (by rw [laneV_len]; exact hx)
  have hg : d.gates.getD j ⟨0, 0, []⟩ = d.gates[j] := by simp [List.getD_eq_getElem?_getD, hjl]
  rw [hj, hg] at this
  rw [lane_set, word_bit (right_of hc j hjl) hr hi hx hw k hk]
  exact this
theorem WSofar.full {d : NetD} {r i x : List Int} (ho : hasOrd d = true) (h : WSofar d r i x (ordTo d d.gates.length).length) (hx : x.length = d.gates.length) : ∀ k, k < 64 → laneV x k = lfp d (laneV r k) (laneV i k) :=
  fun k hk => Sofar.full ho (h k hk) (by rw [laneV_len]; exact hx)

theorem word_mod {f : Nat → List Int} {i : Nat} {x : Int} (n : Nat) (h : ∀ k, k < n → bit x k = (f k).getD i 0) : x % 2 ^ n = wordTo f i n := by
  induction n with
  | zero => simp [wordTo, Int.emod_one]
  | succ n ih =>
    have ih' := ih (fun k hk => h k (by omega))
    have h2 := h n (by omega)
    unfold wordTo
    rw [← ih', ← h2]
    unfold bit
    rw [Int.pow_succ]
    have hp : (0 : Int) < 2 ^ n := Int.pow_pos (by decide)
    rw [Int.emod_def x (2 ^ n * 2), ← Int.ediv_ediv_of_nonneg (Int.le_of_lt hp)]
    have e1 := Int.emod_add_mul_ediv x (2 ^ n)
    have e2 := Int.emod_add_mul_ediv (x / 2 ^ n) 2
    generalize x / 2 ^ n / 2 = q at *
    generalize x / 2 ^ n % 2 = b at *
    generalize x % 2 ^ n = c at *
    have e3 : x / 2 ^ n = b + 2 * q := e2.symm
    rw [e3, Int.mul_add] at e1
    have e4 : (2 : Int) ^ n * (2 * q) = 2 ^ n * 2 * q := by rw [Int.mul_assoc]
    have e5 : (2 : Int) ^ n * b = b * 2 ^ n := Int.mul_comm _ _
    omega
theorem word_is {f : Nat → List Int} {i : Nat} {x : Int} (hx : isW x) (h : ∀ k, k < 64 → bit x k = (f k).getD i 0) : x = wordTo f i 64 := by
  rw [← word_mod 64 h, Int.emod_eq_of_lt hx.1 hx.2]
/-- The words of outs and registers, an instant on. -/
def laneOuts (d : NetD) (r i : List Int) (k : Nat) : List Int := doOuts d (laneV r k) (laneV i k)
def laneNext (d : NetD) (r i : List Int) (k : Nat) : List Int := doNext d (laneV r k) (laneV i k)
def packOuts (d : NetD) (r i : List Int) : List Int := (List.range d.outs.length).map (fun j => wordTo (laneOuts d r i) j 64)
def packNext (d : NetD) (r i : List Int) : List Int := (List.range d.regs.length).map (fun j => wordTo (laneNext d r i) j 64)
theorem pick_words {d : NetD} {x l : List Int} {f : Nat → List Int} (hx : x.length = d.gates.length) (hw : ∀ y ∈ x, isW y) (hin : ∀ y ∈ l, 0 ≤ y ∧ y < d.gates.length) (hf : ∀ k, k < 64 → f k = pickV (laneV x k) l) :
    pickV x l = (List.range l.length).map (fun j => wordTo f j 64) := by
  apply List.ext_getElem (by simp [pickV])
  intro j h1 h2
  have hj : j < l.length := by simpa [pickV] using h1
  have hlj := hin l[j] (List.getElem_mem hj)
  have e1 : (pickV x l)[j] = x.getD l[j].toNat 0 := by simp [pickV]
  rw [e1, List.getElem_map, List.getElem_range]
  refine word_is (getD_isW hw _) (fun k hk => ?_)
  rw [hf k hk]
  have e2 : (pickV (laneV x k) l).getD j 0 = (laneV x k).getD l[j].toNat 0 := by simp [pickV, List.getD_eq_getElem?_getD, hj]
  rw [e2, lane_at x k _ (by omega)]
theorem pack_outs {d : NetD} {r i x : List Int} (ho : orderE d = 0) (hr : r.length = d.regs.length) (hi : (i.length : Int) = d.ins) (hx : x.length = d.gates.length) (hw : ∀ y ∈ x, isW y) (h : ∀ k, k < 64 → laneV x k = lfp d (laneV r k) (laneV i k)) : pickV x d.outs = packOuts d r i := by
  refine pick_words hx hw (ok_of (orderE_ok ho).1).out (fun k hk => ?_)
  unfold laneOuts doOuts
  rw [if_pos (lane_do ho hr hi k), h k hk]
theorem pack_next {d : NetD} {r i x : List Int} (ho : orderE d = 0) (hr : r.length = d.regs.length) (hi : (i.length : Int) = d.ins) (hx : x.length = d.gates.length) (hw : ∀ y ∈ x, isW y) (h : ∀ k, k < 64 → laneV x k = lfp d (laneV r k) (laneV i k)) : pickV x (nextsV d) = packNext d r i := by
  have := pick_words (f := laneNext d r i) hx hw (l := nextsV d) (fun y hy => by obtain ⟨p, hp, rfl⟩ := List.mem_map.1 hy; exact (ok_of (orderE_ok ho).1).nexts p hp) (fun k hk => by
    unfold laneNext doNext
    rw [if_pos (lane_do ho hr hi k), h k hk])
  rw [this, nextsV_len]
  rfl
end Go.Proofs.Ytongajonecgdpaf
