/- The statement PackSame: bit k of all words is what run k tells alone. -/
import Derived.Test.YtongajonecgdpafPackV
import Derived.Test.YtongajonecgdpafTickP
import Derived.Test.YtongajonecgdpafFrame
namespace Go.Proofs.Ytongajonecgdpaf
open Go.RowKit

open Go.ChangeShapes Go.WideShapes Go.ChangeAt
/-- Which of n things a number speaks of. -/
def chosen (c : Int) (n : Nat) : Nat := ((if c < 0 then -(c + 1) else c) % (n : Int)).toNat
theorem chosen_lt (c : Int) (n : Nat) (h : 0 < n) : chosen c n < n := by
  unfold chosen
  have h1 := Int.emod_nonneg (if c < 0 then -(c + 1) else c) (b := (n : Int)) (by omega)
  have h2 := Int.emod_lt_of_pos (if c < 0 then -(c + 1) else c) (b := (n : Int)) (by omega)
  omega

set_option maxHeartbeats 400000 in
theorem choose_any (c : Int) (n : Nat) (w : World) (h : 0 < n) (hn : n ≤ 200) (hc : (Lit.int .i64 c).wf = true) :
    Calls Try.prog 14 #[.int .i64 c, .int .i64 (n : Int)] w fun e w' => e = .returned (.int .i64 (chosen c n : Nat)) ∧ w' = w := by
  have hb := bounds_i64 hc
  have hz : ¬ (n : Int) = 0 := by omega
  have hnn : (0 : Int) < (n : Int) := by omega
  by_cases e : c < 0
  · have HQ : Hid (((chosen c n : Nat) : Int) = -(c + 1).tmod (n : Int)) := by
      unfold Hid chosen
      rw [if_pos e, Int.toNat_of_nonneg (Int.emod_nonneg _ (by omega)), ← Int.tmod_eq_emod_of_nonneg (by omega), Int.neg_tmod]
    go_enter Try.func14, Try.ntmps14
    go_wp2
    go_ret
    exact ⟨ret_int HQ.out.symm, rfl⟩
  · have HQ : Hid (((chosen c n : Nat) : Int) = c % (n : Int)) := by
      unfold Hid chosen
      rw [if_neg e, Int.toNat_of_nonneg (Int.emod_nonneg _ (by omega))]
    go_enter Try.func14, Try.ntmps14
    go_wp2
    go_ret
    exact ⟨ret_int HQ.out.symm, rfl⟩
/-- The number whose bits these are. -/
def numL : List Int → Int
  | [] => 0
  | x :: xs => 2 * numL xs + x
theorem numL_lt : ∀ xs : List Int, (∀ x ∈ xs, x = 0 ∨ x = 1) → 0 ≤ numL xs ∧ numL xs < 2 ^ xs.length
  | [], _ => ⟨Int.le_refl _, by show (0 : Int) < 2 ^ 0; decide⟩
  | x :: xs, h => by
    have ih := numL_lt xs (fun y hy => h y (List.mem_cons_of_mem _ hy))
    have hx := h x (by simp)
    have e : (2 : Int) ^ (x :: xs).length = 2 ^ xs.length * 2 := by rw [List.length_cons, Int.pow_succ]
    rw [e]
    show 0 ≤ 2 * numL xs + x ∧ 2 * numL xs + x < _
    omega
theorem bits_num : ∀ xs : List Int, (∀ x ∈ xs, x = 0 ∨ x = 1) → bitsV (numL xs) xs.length = xs
  | [], _ => rfl
  | x :: xs, h => by
    have ih := bits_num xs (fun y hy => h y (List.mem_cons_of_mem _ hy))
    have hx := h x (by simp)
    apply List.ext_getElem (by simp [bitsV])
    intro i h1 h2
    have e0 : (bitsV (numL (x :: xs)) (x :: xs).length)[i] = (2 * numL xs + x) / 2 ^ i % 2 := by simp [bitsV, numL]
    rw [e0]
    cases i with
    | zero => simp; omega
    | succ i =>
      have hi : i < xs.length := by simpa using h2
      have e1 : (2 * numL xs + x) / 2 ^ (i + 1) = numL xs / 2 ^ i := by
        rw [Int.pow_succ', ← Int.ediv_ediv_of_nonneg (by decide)]
        congr 1
        omega
      rw [e1]
      have e2 : (bitsV (numL xs) xs.length)[i]'(by rw [bitsV_len]; exact hi) = numL xs / 2 ^ i % 2 := by simp [bitsV]
      rw [← e2]
      simp only [ih, List.getElem_cons_succ]
/-- Run b of the words, as numbers of inputs. -/
def laneIns (l : List (List Int)) (b : Nat) : List Int := l.map (fun r => numL (laneV r b))
theorem lane_alike (d : NetD) {b : Nat} (hb : b < 64) : laneV (alikeV (begins d)) b = begins d := by
  unfold laneV alikeV
  rw [List.map_map]
  conv => rhs; rw [← List.map_id (begins d)]
  apply List.map_congr_left
  intro x hx
  obtain ⟨r, _, rfl⟩ := List.mem_map.1 hx
  have h1 := full_bit.2 b hb
  unfold bit at h1
  cases r.1
  · simp
  · simpa using h1
theorem lane_words {f : Nat → List Int} {n b : Nat} (hb : b < 64) (h01 : ∀ j k, (f k).getD j 0 = 0 ∨ (f k).getD j 0 = 1) (hl : (f b).length = n) : laneV ((List.range n).map (fun j => wordTo f j 64)) b = f b := by
  apply List.ext_getElem (by simp [laneV, hl])
  intro j h1 h2
  have e : (laneV ((List.range n).map (fun j => wordTo f j 64)) b)[j] = wordTo f j 64 / 2 ^ b % 2 := by simp [laneV]
  rw [e, bit_word (h01 j) 64 b hb]
  simp [List.getD_eq_getElem?_getD, h2]
theorem lane_next {d : NetD} {r i : List Int} {b : Nat} (hb : b < 64) (ho : orderE d = 0) (hr : r.length = d.regs.length) (hi : (i.length : Int) = d.ins) : laneV (packNext d r i) b = doNext d (laneV r b) (laneV i b) :=
  lane_words hb (next01 d r i) (by unfold laneNext doNext; rw [if_pos (lane_do ho hr hi b), pickV_len, nextsV_len])
theorem lane_outs {d : NetD} {r i : List Int} {b : Nat} (hb : b < 64) (ho : orderE d = 0) (hr : r.length = d.regs.length) (hi : (i.length : Int) = d.ins) : laneV (packOuts d r i) b = doOuts d (laneV r b) (laneV i b) :=
  lane_words hb (out01 d r i) (by unfold laneOuts doOuts; rw [if_pos (lane_do ho hr hi b), pickV_len])
theorem laneIns_at (l : List (List Int)) (b k : Nat) (hk : k < l.length) : (laneIns l b).getD k 0 = numL (laneV l[k] b) := by
  simp [laneIns, List.getD_eq_getElem?_getD, hk]
theorem lane_bits {d : NetD} {l : List (List Int)} (hr : rowsOk d l l.length = true) (b k : Nat) (hk : k < l.length) : bitsV ((laneIns l b).getD k 0) d.ins.toNat = laneV l[k] b := by
  rw [laneIns_at l b k hk]
  have h1 := rowsOk_at hr k hk
  have h2 : d.ins.toNat = (laneV l[k] b).length := by rw [laneV_len]; omega
  rw [h2]
  exact bits_num _ (lane_vals _ _)
theorem lane_state {d : NetD} {l : List (List Int)} (ho : orderE d = 0) (hr : rowsOk d l l.length = true) {b : Nat} (hb : b < 64) : ∀ k, k ≤ l.length → stateAt d (laneIns l b) k = laneV (packAt d l k) b
  | 0, _ => (lane_alike d hb).symm
  | k + 1, h => by
    have hk : k < l.length := by omega
    show doNext d (stateAt d (laneIns l b) k) (bitsV ((laneIns l b).getD k 0) d.ins.toNat) = laneV (packNext d (packAt d l k) (l.getD k [])) b
    rw [lane_state ho hr hb k (by omega), lane_bits hr b k hk]
    have hg : l.getD k [] = l[k] := by simp [List.getD_eq_getElem?_getD, hk]
    rw [hg, lane_next hb ho (packAt_len d l k) (rowsOk_at hr k hk)]
theorem lane_err {d : NetD} {l : List (List Int)} (ho : orderE d = 0) (hr : rowsOk d l l.length = true) {b : Nat} (hb : b < 64) : ∀ k, k ≤ l.length → errTo d (laneIns l b) k = 0
  | 0, _ => rfl
  | k + 1, h => by
    have hk : k < l.length := by omega
    show (if errTo d (laneIns l b) k = 0 then errAt d (laneIns l b) k else errTo d (laneIns l b) k) = 0
    rw [if_pos (lane_err ho hr hb k (by omega))]
    unfold errAt
    rw [lane_state ho hr hb k (by omega), lane_bits hr b k hk]
    exact lane_do ho (packAt_len d l k) (rowsOk_at hr k hk) b
theorem prun_parts {d : NetD} {l : List (List Int)} (h : prunE d l = 0) : orderE d = 0 ∧ l.length ≤ 60 ∧ rowsOk d l l.length = true := by
  unfold prunE at h
  by_cases e : orderE d = 0
  · rw [if_pos e] at h
    by_cases h6 : 60 < l.length
    · rw [if_pos h6] at h; simp at h
    · rw [if_neg h6] at h
      cases hr : rowsOk d l l.length
      · rw [hr] at h; simp at h
      · exact ⟨e, by omega, rfl⟩
  · rw [if_neg e] at h; exact absurd h e
theorem lane_run {d : NetD} {l : List (List Int)} (h : prunE d l = 0) {b : Nat} (hb : b < 64) : runE d (laneIns l b) = 0 ∧ runRows d (laneIns l b) = (packRows d l l.length).map (fun r => laneV r b) := by
  obtain ⟨ho, hl, hr⟩ := prun_parts h
  have hc := (orderE_ok ho).1
  have hlen : (laneIns l b).length = l.length := by simp [laneIns]
  have ht : timesE (laneIns l b) d.ins.toNat = 0 := by
    unfold timesE
    rw [if_neg (by omega), if_pos]
    unfold inPow
    rw [List.all_eq_true]
    intro x hx
    obtain ⟨r, hr', rfl⟩ := List.mem_map.1 hx
    obtain ⟨k, hk, rfl⟩ := List.getElem_of_mem hr'
    have h1 := numL_lt _ (lane_vals l[k] b)
    have h2 := rowsOk_at hr k hk
    rw [laneV_len, show l[k].length = d.ins.toNat by omega] at h1
    simp only [wth, decide_eq_true_iff]
    omega
  have he : runE d (laneIns l b) = 0 := by
    unfold runE
    rw [if_pos hc, if_pos ht, hlen]
    exact lane_err ho hr hb _ (Nat.le_refl _)
  refine ⟨he, ?_⟩
  unfold runRows
  rw [if_pos he, hlen]
  unfold rowsTo packRows
  rw [List.map_map]
  apply List.map_congr_left
  intro k hk
  have hk' := List.mem_range.1 hk
  unfold outAt
  rw [lane_state ho hr hb k (by omega), lane_bits hr b k hk']
  show _ = laneV (packRow d l k) b
  unfold packRow
  rw [show l.getD k [] = l[k] by simp [List.getD_eq_getElem?_getD, hk'], lane_outs hb ho (packAt_len d l k) (rowsOk_at hr k hk')]
theorem outs01 (d : NetD) (r i : List Int) : ∀ x ∈ packOuts d r i, isW x := by
  intro x hx
  obtain ⟨j, _, rfl⟩ := List.mem_map.1 hx
  exact wordTo_lt (f := laneOuts d r i) (i := j) (fun k => out01 d r i j k) 64
theorem numL_drop (xs : List Int) (j : Nat) (h : j < xs.length) : numL (xs.drop j) = 2 * numL (xs.drop (j + 1)) + xs[j] := by
  rw [List.drop_eq_getElem_cons h]; rfl

theorem Try.infoI2 : (Try.prog.info? 3).map (fun i => (i.zero, i.size, i.bytes)) = some (some (.int .i64 0), 1, 8) := by kernel_rfl
theorem lane_get (xs : List Int) (b j : Nat) (h : j < xs.length) (h' : j < (laneV xs b).length) : (laneV xs b)[j] = xs[j] / 2 ^ b % 2 := by simp [laneV]
theorem num_small {xs : List Int} {n : Nat} (h : ∀ x ∈ xs, x = 0 ∨ x = 1) (hl : xs.length ≤ n) (hn : n ≤ 3) : 0 ≤ numL xs ∧ numL xs ≤ 8 := by
  have h1 := numL_lt xs h
  have h2 : (2 : Int) ^ xs.length ≤ 8 := by
    have : xs.length = 0 ∨ xs.length = 1 ∨ xs.length = 2 ∨ xs.length = 3 := by omega
    rcases this with e | e | e | e <;> rw [e] <;> decide
  omega
theorem drop01 {xs : List Int} {b j : Nat} : ∀ x ∈ (laneV xs b).drop j, x = 0 ∨ x = 1 := fun x hx => lane_vals xs b x (List.mem_of_mem_drop hx)

end Go.Proofs.Ytongajonecgdpaf
