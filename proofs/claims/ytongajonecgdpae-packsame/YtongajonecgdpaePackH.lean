/- The statement PackSame: bit k of all words is what run k tells alone. -/
import Derived.Test.YtongajonecgdpaePackV
import Derived.Test.YtongajonecgdpaeTickP
import Derived.Test.YtongajonecgdpaeFrame
namespace Go.Proofs.Ytongajonecgdpae
open Go.RowKit

open Go.ChangeShapes Go.WideShapes Go.ChangeAt
/-- Which of n things a number speaks of. -/
def chosen (c : Int) (n : Nat) : Nat := ((if c < 0 then -(c + 1) else c) % (n : Int)).toNat
theorem chosen_lt (c : Int) (n : Nat) (h : 0 < n) : chosen c n < n := by
  unfold chosen
  have h1 := Int.emod_nonneg (if c < 0 then -(c + 1) else c) (b := (n : Int)) (by omega)
  have h2 := Int.emod_lt_of_pos (if c < 0 then -(c + 1) else c) (b := (n : Int)) (by omega)
  omega

set_option maxHeartbeats 400000 in
theorem choose_any (c : Int) (n : Nat) (w : World) (h : 0 < n) (hn : n ≤ 200) (hc : (Lit.int .i64 c).wf = true) :
    Calls Try.prog 15 #[.int .i64 c, .int .i64 (n : Int)] w fun e w' => e = .returned (.int .i64 (chosen c n : Nat)) ∧ w' = w := by
  have hb := bounds_i64 hc
  have hz : ¬ (n : Int) = 0 := by omega
  have hnn : (0 : Int) < (n : Int) := by omega
  by_cases e : c < 0
  · have HQ : Hid (((chosen c n : Nat) : Int) = -(c + 1).tmod (n : Int)) := by
      unfold Hid chosen
      rw [if_pos e, Int.toNat_of_nonneg (Int.emod_nonneg _ (by omega)), ← Int.tmod_eq_emod_of_nonneg (by omega), Int.neg_tmod]
    go_enter Try.func15, Try.ntmps15
    go_wp2
    go_ret
    exact ⟨ret_int HQ.out.symm, rfl⟩
  · have HQ : Hid (((chosen c n : Nat) : Int) = c % (n : Int)) := by
      unfold Hid chosen
      rw [if_neg e, Int.toNat_of_nonneg (Int.emod_nonneg _ (by omega))]
    go_enter Try.func15, Try.ntmps15
    go_wp2
    go_ret
    exact ⟨ret_int HQ.out.symm, rfl⟩
/-- The number whose bits these are. -/
def numL : List Int → Int
  | [] => 0
  | x :: xs => 2 * numL xs + x
theorem numL_lt : ∀ xs : List Int, (∀ x ∈ xs, x = 0 ∨ x = 1) → 0 ≤ numL xs ∧ numL xs < 2 ^ xs.length
  | [], _ => ⟨Int.le_refl _, by show (0 : Int) < 2 ^ 0; decide⟩
  | x :: xs, h => by
    have ih := numL_lt xs (fun y hy => h y (List.mem_cons_of_mem _ hy))
    have hx := h x (by simp)
    have e : (2 : Int) ^ (x :: xs).length = 2 ^ xs.length * 2 := by rw [List.length_cons, Int.pow_succ]
    rw [e]
    show 0 ≤ 2 * numL xs + x ∧ 2 * numL xs + x < _
    omega
theorem bits_num : ∀ xs : List Int, (∀ x ∈ xs, x = 0 ∨ x = 1) → bitsV (numL xs) xs.length = xs
  | [], _ => rfl
  | x :: xs, h => by
    have ih := bits_num xs (fun y hy => h y (List.mem_cons_of_mem _ hy))
    have hx := h x (by simp)
    apply List.ext_getElem (by simp [bitsV])
    intro i h1 h2
    have e0 : (bitsV (numL (x :: xs)) (x :: xs).length)[i] = (2 * numL xs + x) / 2 ^ i % 2 := by simp [bitsV, numL]
    rw [e0]
    cases i with
    | zero => simp; omega
    | succ i =>
      have hi : i < xs.length := by simpa using h2
      have e1 : (2 * numL xs + x) / 2 ^ (i + 1) = numL xs / 2 ^ i := by
        rw [Int.pow_succ', ← Int.ediv_ediv_of_nonneg (by decide)]
        congr 1
        omega
      rw [e1]
      have e2 : (bitsV (numL xs) xs.length)[i]'(by rw [bitsV_len]; exact hi) = numL xs / 2 ^ i % 2 := by simp [bitsV]
      rw [← e2]
      simp only [ih, List.getElem_cons_succ]
/-- Run b of the words, as numbers of inputs. -/
def laneIns (l : List (List Int)) (b : Nat) : List Int := l.map (fun r => numL (laneV r b))
theorem lane_alike (d : NetD) {b : Nat} (hb : b < 64) : laneV (alikeV (begins d)) b = begins d := by
  unfold laneV alikeV
  rw [List.map_map]
  conv => rhs; rw [← List.map_id (begins d)]
  apply List.map_congr_left
  intro x hx
  obtain ⟨r, _, rfl⟩ := List.mem_map.1 hx
  have h1 := full_bit.2 b hb
  unfold bit at h1
  cases r.1
  · simp
  · simpa using h1
theorem lane_words {f : Nat → List Int} {n b : Nat} (hb : b < 64) (h01 : ∀ j k, (f k).getD j 0 = 0 ∨ (f k).getD j 0 = 1) (hl : (f b).length = n) : laneV ((List.range n).map (fun j => wordTo f j 64)) b = f b := by
  apply List.ext_getElem (by simp [laneV, hl])
  intro j h1 h2
  have e : (laneV ((List.range n).map (fun j => wordTo f j 64)) b)[j] = wordTo f j 64 / 2 ^ b % 2 := by simp [laneV]
  rw [e, bit_word (h01 j) 64 b hb]
  simp [List.getD_eq_getElem?_getD, h2]
theorem lane_next {d : NetD} {r i : List Int} {b : Nat} (hb : b < 64) (ho : orderE d = 0) (hr : r.length = d.regs.length) (hi : (i.length : Int) = d.ins) : laneV (packNext d r i) b = doNext d (laneV r b) (laneV i b) :=
  lane_words hb (next01 d r i) (by unfold laneNext doNext; rw [if_pos (lane_do ho hr hi b), pickV_len, nextsV_len])
theorem lane_outs {d : NetD} {r i : List Int} {b : Nat} (hb : b < 64) (ho : orderE d = 0) (hr : r.length = d.regs.length) (hi : (i.length : Int) = d.ins) : laneV (packOuts d r i) b = doOuts d (laneV r b) (laneV i b) :=
  lane_words hb (out01 d r i) (by unfold laneOuts doOuts; rw [if_pos (lane_do ho hr hi b), pickV_len])
theorem laneIns_at (l : List (List Int)) (b k : Nat) (hk : k < l.length) : (laneIns l b).getD k 0 = numL (laneV l[k] b) := by
  simp [laneIns, List.getD_eq_getElem?_getD, hk]
theorem lane_bits {d : NetD} {l : List (List Int)} (hr : rowsOk d l l.length = true) (b k : Nat) (hk : k < l.length) : bitsV ((laneIns l b).getD k 0) d.ins.toNat = laneV l[k] b := by
  rw [laneIns_at l b k hk]
  have h1 := rowsOk_at hr k hk
  have h2 : d.ins.toNat = (laneV l[k] b).length := by rw [laneV_len]; omega
  rw [h2]
  exact bits_num _ (lane_vals _ _)
theorem lane_state {d : NetD} {l : List (List Int)} (ho : orderE d = 0) (hr : rowsOk d l l.length = true) {b : Nat} (hb : b < 64) : ∀ k, k ≤ l.length → stateAt d (laneIns l b) k = laneV (packAt d l k) b
  | 0, _ => (lane_alike d hb).symm
  | k + 1, h => by
    have hk : k < l.length := by omega
    show doNext d (stateAt d (laneIns l b) k) (bitsV ((laneIns l b).getD k 0) d.ins.toNat) = laneV (packNext d (packAt d l k) (l.getD k [])) b
    rw [lane_state ho hr hb k (by omega), lane_bits hr b k hk]
    have hg : l.getD k [] = l[k] := by simp [List.getD_eq_getElem?_getD, hk]
    rw [hg, lane_next hb ho (packAt_len d l k) (rowsOk_at hr k hk)]
theorem lane_err {d : NetD} {l : List (List Int)} (ho : orderE d = 0) (hr : rowsOk d l l.length = true) {b : Nat} (hb : b < 64) : ∀ k, k ≤ l.length → errTo d (laneIns l b) k = 0
  | 0, _ => rfl
  | k + 1, h => by
    have hk : k < l.length := by omega
    show (if errTo d (laneIns l b) k = 0 then errAt d (laneIns l b) k else errTo d (laneIns l b) k) = 0
    rw [if_pos (lane_err ho hr hb k (by omega))]
    unfold errAt
    rw [lane_state ho hr hb k (by omega), lane_bits hr b k hk]
    exact lane_do ho (packAt_len d l k) (rowsOk_at hr k hk) b
theorem prun_parts {d : NetD} {l : List (List Int)} (h : prunE d l = 0) : orderE d = 0 ∧ l.length ≤ 60 ∧ rowsOk d l l.length = true := by
  unfold prunE at h
  by_cases e : orderE d = 0
  · rw [if_pos e] at h
    by_cases h6 : 60 < l.length
    · rw [if_pos h6] at h; simp at h
    · rw [if_neg h6] at h
      cases hr : rowsOk d l l.length
      · rw [hr] at h; simp at h
      · exact ⟨e, by omega, rfl⟩
  · rw [if_neg e] at h; exact absurd h e
theorem lane_run {d : NetD} {l : List (List Int)} (h : prunE d l = 0) {b : Nat} (hb : b < 64) : runE d (laneIns l b) = 0 ∧ runRows d (laneIns l b) = (packRows d l l.length).map (fun r => laneV r b) := by
  obtain ⟨ho, hl, hr⟩ := prun_parts h
  have hc := (orderE_ok ho).1
  have hlen : (laneIns l b).length = l.length := by simp [laneIns]
  have ht : timesE (laneIns l b) d.ins.toNat = 0 := by
    unfold timesE
    rw [if_neg (by omega), if_pos]
    unfold inPow
    rw [List.all_eq_true]
    intro x hx
    obtain ⟨r, hr', rfl⟩ := List.mem_map.1 hx
    obtain ⟨k, hk, rfl⟩ := List.getElem_of_mem hr'
    have h1 := numL_lt _ (lane_vals l[k] b)
    have h2 := rowsOk_at hr k hk
    rw [laneV_len, show l[k].length = d.ins.toNat by omega] at h1
    simp only [wth, decide_eq_true_iff]
    omega
  have he : runE d (laneIns l b) = 0 := by
    unfold runE
    rw [if_pos hc, if_pos ht, hlen]
    exact lane_err ho hr hb _ (Nat.le_refl _)
  refine ⟨he, ?_⟩
  unfold runRows
  rw [if_pos he, hlen]
  unfold rowsTo packRows
  rw [List.map_map]
  apply List.map_congr_left
  intro k hk
  have hk' := List.mem_range.1 hk
  unfold outAt
  rw [lane_state ho hr hb k (by omega), lane_bits hr b k hk']
  show _ = laneV (packRow d l k) b
  unfold packRow
  rw [show l.getD k [] = l[k] by simp [List.getD_eq_getElem?_getD, hk'], lane_outs hb ho (packAt_len d l k) (rowsOk_at hr k hk')]
theorem outs01 (d : NetD) (r i : List Int) : ∀ x ∈ packOuts d r i, isW x := by
  intro x hx
  obtain ⟨j, _, rfl⟩ := List.mem_map.1 hx
  exact wordTo_lt (f := laneOuts d r i) (i := j) (fun k => out01 d r i j k) 64
theorem numL_drop (xs : List Int) (j : Nat) (h : j < xs.length) : numL (xs.drop j) = 2 * numL (xs.drop (j + 1)) + xs[j] := by
  rw [List.drop_eq_getElem_cons h]; rfl

theorem Try.infoI2 : (Try.prog.info? 3).map (fun i => (i.zero, i.size, i.bytes)) = some (some (.int .i64 0), 1, 8) := by kernel_rfl
theorem lane_get (xs : List Int) (b j : Nat) (h : j < xs.length) (h' : j < (laneV xs b).length) : (laneV xs b)[j] = xs[j] / 2 ^ b % 2 := by simp [laneV]
theorem num_small {xs : List Int} {n : Nat} (h : ∀ x ∈ xs, x = 0 ∨ x = 1) (hl : xs.length ≤ n) (hn : n ≤ 3) : 0 ≤ numL xs ∧ numL xs ≤ 8 := by
  have h1 := numL_lt xs h
  have h2 : (2 : Int) ^ xs.length ≤ 8 := by
    have : xs.length = 0 ∨ xs.length = 1 ∨ xs.length = 2 ∨ xs.length = 3 := by omega
    rcases this with e | e | e | e <;> rw [e] <;> decide
  omega
theorem drop01 {xs : List Int} {b j : Nat} : ∀ x ∈ (laneV xs b).drop j, x = 0 ∨ x = 1 := fun x hx => lane_vals xs b x (List.mem_of_mem_drop hx)

set_option maxRecDepth 100000 in
set_option maxHeartbeats 2000000 in
theorem PackSame_any (d : NetD) (ins0 : Int) (ga ra oa : Option Addr) (gn gc rn rc on oc : Nat) (w : World) (h : NetAt w d ins0 ga gn ra rn oa on) (l : List (List Int)) (la : Option Addr) (ln lc : Nat) (hl : WRows w la ln l) (hwl : ∀ r ∈ l, ∀ x ∈ r, isW x) (kk : Int) (hkk : (Lit.int .i64 kk).wf = true) :
    Calls Try.prog 5 #[.agg #[.int .i64 ins0, .slice ga gn gc, .slice ra rn rc, .slice oa on oc], .slice la ln lc, .int .i64 kk] w fun e w' => e = .returned (.bool true) ∧ Below w.heap.size w w' := by
  have hb0 : Below w.heap.size w (w.alloc (.cells #[.int .i64 ins0, .slice ga gn gc, .slice ra rn rc, .slice oa on oc] 26)) := (Below.refl _ _).alloc (Nat.le_refl _) _
  have hbox : Boxed (w.alloc (.cells #[.int .i64 ins0, .slice ga gn gc, .slice ra rn rc, .slice oa on oc] 26)) w.heap.size ins0 ga gn gc ra rn rc oa on oc := Boxed.new _ _ _ _ _ _ _ _ _ _ _ _
  have hN := h.below hb0
  have hl0 := hl.below hb0
  have HWL := hide hwl
  have HLL := hide hl.1
  have HKK := hide hkk
  clear h hl hwl hkk
  obtain ⟨i0, hi, hz0, hz1, hz2⟩ := info_parts Try.infoI2
  go_enter Try.func5, Try.ntmps5
  go_wp2_with fail
  refine (PRun_any d _ _ _ _ _ _ _ _ _ _ _ hN l _ _ _ hl0 (unhide HWL)).mono ?_
  rintro e w1 ⟨a1, n1, c1, rfl, hA1, hb⟩
  have B1 := bstep hb0 hb
  have hN1 := hN.below hb
  have hl1 := hl0.below hb
  have hx1 := hbox.below hb
  clear hb hb0 hN hbox hl0
  by_cases e0 : prunE d l = 0
  case neg =>
    obtain ⟨E, hE⟩ : ∃ E, prunE d l = E := ⟨_, rfl⟩
    rw [hE] at e0
    rw [hE]
    have hq : (E != 0) = true := by simp only [bne_iff_ne, ne_eq]; exact e0
    clear e0 hE hx1
    go_wp2_with fail
    refine (packBegun_any _).mono ?_
    rintro e w3 ⟨rfl, hb⟩
    have B3 := bstep B1 hb
    go_wp2_with fail
    go_ret
    exact ⟨rfl, B3⟩
  rw [e0]
  have HPE := hide e0
  obtain ⟨ho, hl60, hro⟩ := prun_parts e0
  have HRO := hide hro
  have hln : ln ≤ 60 := by have := unhide HLL; omega
  have hins3 := (ok_of (orderE_ok ho).1).ins
  have HPL := hide (show prunL d l = packRows d l l.length by unfold prunL; rw [if_pos e0])
  have HIN := hide (show d.ins.toNat ≤ 3 by omega)
  clear e0 ho hl60 hro hins3
  go_wp2_with fail
  refine (choose_any kk 64 _ (by decide) (by decide) (unhide HKK)).mono ?_
  rintro e w2 ⟨rfl, rfl⟩
  have hb64 := chosen_lt kk 64 (by decide)
  generalize chosen kk 64 = bt at *
  have hbi : (bt : Int) < 64 := by omega
  have hbn : ¬ (bt : Int) < 0 := by omega
  have HRUN := hide (lane_run (unhide HPE) hb64)
  go_wp2_with fail
  go_loopw [10, 11] (fun v i wr => ∃ k : Nat, k ≤ ln ∧ i = .int .i64 k ∧ wr.ownsRow w2.heap.size 3 1 v k (intsV ((laneIns l bt).take k)) ∧ Below w2.heap.size w2 wr) (fun _ i _ => ln - (intOf i).toNat)
  case atStart => exact ⟨0, Nat.zero_le _, rfl, World.ownsRow_nil _ _ _ _, Below.refl _ _⟩
  case round =>
    obtain ⟨k, hk, rfl, hown, hbel⟩ := hrel
    by_cases hlt : k < ln
    · have hki : (k : Int) < (ln : Int) := by omega
      have hkl : k < l.length := by have := unhide HLL; omega
      obtain ⟨b, off, a', n', c', rfl, hbb, cA, hW⟩ := (hl1.below hbel).at hkl
      have HN' := hide hW.1
      have hn3 : n' ≤ 3 := by have h1 := unhide HN'; have h2 := rowsOk_at (unhide HRO) k hkl; have h3 := unhide HIN; omega
      have HT := hide (show intsV ((laneIns l bt).take (k + 1)) = intsV ((laneIns l bt).take k) ++ [.int .i64 (numL (laneV l[k] bt))] by
        rw [intsV_succ _ _ (by simp [laneIns]; exact hkl)]
        simp [laneIns])
      have HWK := hide (unhide HWL l[k] (List.getElem_mem hkl))
      obtain ⟨w3, rfl⟩ : ∃ w3, w3 = wr := ⟨_, rfl⟩
      go_wp2_with fail
      go_loopw [12, 13] (fun x i wr => ∃ j : Nat, j ≤ n' ∧ x = .int .i64 (numL ((laneV l[k] bt).drop j)) ∧ i = .int .i64 ((j : Int) - 1) ∧ wr = w3) (fun _ i _ => (intOf i + 1).toNat)
      case atStart => exact ⟨n', Nat.le_refl _, by rw [List.drop_of_length_le (by rw [laneV_len]; have := unhide HN'; omega)]; rfl, by first | rfl | go_num, by first | rfl | trivial⟩
      case round =>
        obtain ⟨j, hj, rfl, rfl, rfl⟩ := hrel
        cases j with
        | zero =>
          rw [show (((0 : Nat) : Int) - 1) = -1 from rfl, List.drop_zero]
          go_wp2_with (at_builtin; refine wpList_append_own _ rfl _ _ 24 rfl (w2.heap.size) 3 i0 (.int .i64 0) 1 8 Try.underlying24 hi hz0 hz1 hz2 rfl (by decide) _ _ _ rfl (hown.alloc _) ⟨wr.heap.size, 0, none⟩ 1 1 [.int .i64 (numL (laneV l[k] bt))] rfl rfl ?c1 ?c2 ?c3 ?c4 ?c5 ?_)
          case c1 =>
            intro j u hj
            match j, hj with
            | 0, hj => simp at hj; subst hj; simp [Addr.add]
          case c2 => intro u hu; simp at hu; subst hu; rfl
          case c3 => unfold maxLen; omega
          case c4 => omega
          case c5 => have := hbel.size; simp; omega
          intro v' w4 hown' hgrow _
          have hown2 := hown'
          rw [← unhide HT] at hown2
          have hb4 : Below w2.heap.size w2 w4 := hbel.trans (((Below.refl _ wr).alloc (hbel.size) _).grown hgrow (by have := hbel.size; simp; omega) (fun k hk => (hown.lt k hk).1))
          have R := hide (And.intro hown2 hb4)
          clear hown hown' hgrow hown2 hb4 hbel cA hW
          go_wp2_with fail
          exact ⟨⟨k + 1, by omega, by go_num, (unhide R).1, (unhide R).2⟩, by simp [intOf]; omega⟩
        | succ j =>
          rw [show (((j + 1 : Nat) : Int) - 1) = (j : Int) by omega]
          have hji : (j : Int) < (n' : Int) := by omega
          have hj0 : (0 : Int) ≤ (j : Int) := by omega
          have hjl : j < l[k].length := by have := unhide HN'; omega
          obtain ⟨b2, o2, rfl, hb2, cW⟩ := hW.at hjl
          have hxj := isW_num (unhide HWK l[k][j] (List.getElem_mem hjl))
          have hge : 0 ≤ l[k][j] / 2 ^ bt := Int.ediv_nonneg hxj.1 (Int.pow_nonneg (by decide))
          have hle : l[k][j] / 2 ^ bt < 18446744073709551616 := Int.lt_of_le_of_lt (Int.ediv_le_self _ hxj.1) hxj.2
          have hand := and_one_u (l[k][j] / 2 ^ bt) hge hle
          have hb1 := bits_lt l[k][j] bt
          have hsm := num_small (n := 3) (drop01 (xs := l[k]) (b := bt) (j := j + 1)) (by rw [List.length_drop, laneV_len]; have := unhide HN'; omega) (Nat.le_refl _)
          have HD := hide (show numL ((laneV l[k] bt).drop j) = 2 * numL ((laneV l[k] bt).drop (j + 1)) + l[k][j] / 2 ^ bt % 2 by
            rw [numL_drop _ _ (by rw [laneV_len]; exact hjl), lane_get _ _ _ hjl])
          generalize numL ((laneV l[k] bt).drop (j + 1)) = nx at *
          clear hxj hge hle
          go_wp2_with fail
          exact ⟨⟨j, by omega, by rw [unhide HD], by first | rfl | go_num, by first | rfl | trivial⟩, by first | (simp [intOf]; done) | (simp [intOf]; omega)⟩
    · rw [List.take_of_length_le (by simp [laneIns]; have := unhide HLL; omega)] at hown
      obtain ⟨qa, qc, hv', hQ⟩ := own_ints hown (by unfold maxLen; omega)
      rw [hv']
      obtain ⟨x0, x1, x2, x3, x4⟩ := hx1.below hbel
      clear hown hv'
      go_wp2_with fail
      clear x0 x1 x2 x3 x4
      refine (Run_any d _ _ _ _ _ _ _ _ _ _ _ (hN1.below hbel) (laneIns l bt) _ _ _ hQ).mono ?_
      rintro e w4 ⟨rb, rbn, rbc, sb, sm, sk, rfl, hRB, _, _, hb⟩
      rw [(unhide HRUN).1]
      rw [(unhide HRUN).2] at hRB
      have hA4 := (hA1.below hbel).below hb
      rw [unhide HPL] at hA4
      have B4 := bstep (bstep B1 hbel) hb
      have hn1 : n1 = rbn := by rw [hA4.1, hRB.1, List.length_map]
      subst hn1
      have HNL := hide hA4.1
      have hn60 : n1 ≤ 60 := by have h1 := unhide HNL; have h2 := unhide HLL; simp [packRows] at h1; omega
      have hnn : ((n1 : Int) != (n1 : Int)) = false := by simp
      clear hb hbel hQ hA1 hN1 hl1 hx1 B1
      go_wp2_with fail
      go_loopw [17] (fun i wr => ∃ k : Nat, k ≤ n1 ∧ i = .int .i64 k ∧ Below w4.heap.size w4 wr) (fun i _ => n1 - (intOf i).toNat)
      case atStart => exact ⟨0, Nat.zero_le _, rfl, Below.refl _ _⟩
      case round =>
        obtain ⟨t, ht, rfl, hbel⟩ := hrel
        by_cases htl : t < n1
        · have hti : (t : Int) < (n1 : Int) := by omega
          have htp : t < (packRows d l l.length).length := by have := unhide HNL; omega
          obtain ⟨b, off, a', n', c', rfl, hbb, cA, hW⟩ := (hA4.below hbel).at htp
          obtain ⟨b', off', ra', rn', rc', rfl, hbb', cB, hI⟩ := (hRB.below hbel).at (k := t) (by rw [List.length_map]; exact htp)
          have hrow : ((packRows d l l.length).map (fun r => laneV r bt))[t]'(by rw [List.length_map]; exact htp) = laneV (packRows d l l.length)[t] bt := by simp
          rw [hrow] at hI
          have HWR := hide (show ∀ x ∈ (packRows d l l.length)[t], isW x by
            have : (packRows d l l.length)[t] = packRow d l t := by simp [packRows]
            rw [this]
            exact outs01 d _ _)
          generalize (packRows d l l.length)[t] = ws at *
          have hnr : n' = rn' := by rw [hW.1, hI.1, laneV_len]
          subst hnr
          have hnn' : ((n' : Int) != (n' : Int)) = false := by simp
          have hn63 : n' ≤ maxLen := by rw [hW.1]; exact hW.2.1
          unfold maxLen at hn63
          have HNW := hide hW.1
          obtain ⟨w5, rfl⟩ : ∃ w5, w5 = wr := ⟨_, rfl⟩
          clear hrow
          go_wp2_with fail
          go_region_held3 (fun W => W.cell? ⟨b, off + t, none⟩ = some (.slice a' n' c') ∧ W.cell? ⟨b', off' + t, none⟩ = some (.slice ra' n' rc'))
            ((exact ⟨cA, cB⟩))
            (fail)
          all_goals go_wp2_with fail
          all_goals
            go_loopw [18] (fun i wz => ∃ j : Nat, j ≤ n' ∧ i = .int .i64 j ∧ Below w5.heap.size w5 wz) (fun i _ => n' - (intOf i).toNat)
            case atStart => exact ⟨0, Nat.zero_le _, rfl, (Below.refl _ _).drew⟩
            case round =>
              obtain ⟨j, hj, rfl, hbz⟩ := hrel
              have cA' := (hbz.cell (p := ⟨b, off + t, none⟩) hbb).trans cA
              have cB' := (hbz.cell (p := ⟨b', off' + t, none⟩) hbb').trans cB
              by_cases hjt : j < n'
              · have hji : (j : Int) < (n' : Int) := by omega
                have hjw : j < ws.length := by have := unhide HNW; omega
                obtain ⟨b2, o2, rfl, hb2, cW⟩ := (hW.below hbz).at hjw
                obtain ⟨b3, o3, rfl, hb3, cI⟩ := (hI.below hbz).at (k := j) (by rw [laneV_len]; exact hjw)
                rw [lane_get ws bt j hjw] at cI
                have hxj := isW_num (unhide HWR ws[j] (List.getElem_mem hjw))
                have hge : 0 ≤ ws[j] / 2 ^ bt := Int.ediv_nonneg hxj.1 (Int.pow_nonneg (by decide))
                have hle : ws[j] / 2 ^ bt < 18446744073709551616 := Int.lt_of_le_of_lt (Int.ediv_le_self _ hxj.1) hxj.2
                have hand := and_one_u (ws[j] / 2 ^ bt) hge hle
                have hb1 := bits_lt ws[j] bt
                have hvv : (IntKind.i64.wrap (ws[j] / 2 ^ bt % 2) != ws[j] / 2 ^ bt % 2) = false := by
                  rw [wraps_i64 _ hb1.1 (by have e : (2 : Int) ^ 62 = 4611686018427387904 := by decide
                                            have := hb1.2
                                            omega)]
                  simp
                have R := hide hbz.drew
                clear hxj hge hle hbz
                go_wp2_with fail
                go_region_held3 (fun W => W.cell? ⟨b, off + t, none⟩ = some (.slice (some ⟨b2, o2, none⟩) n' c') ∧ W.cell? ⟨b', off' + t, none⟩ = some (.slice (some ⟨b3, o3, none⟩) n' rc') ∧ W.cell? ⟨b2, o2 + j, none⟩ = some (.int .u64 ws[j]) ∧ W.cell? ⟨b3, o3 + j, none⟩ = some (.int .i64 (ws[j] / 2 ^ bt % 2)))
                  ((exact ⟨cA', cB', cW, cI⟩))
                  (fail)
                all_goals clear cA' cB' cW cI hand
                all_goals go_wp2_with fail
                all_goals exact ⟨⟨j + 1, by omega, by go_num, unhide R⟩, by simp [intOf]; omega⟩
              · have R := hide (bstep hbel hbz)
                clear hbz
                go_wp2_with fail
                exact ⟨⟨t + 1, by omega, by go_num, unhide R⟩, by simp [intOf]; omega⟩
        · go_wp2_with fail
          refine (packBegun_any _).mono ?_
          rintro e w6 ⟨rfl, hb⟩
          have B6 := bstep (bstep B4 hbel) hb
          clear hb hbel
          go_wp2_with fail
          go_ret
          exact ⟨rfl, B6⟩
end Go.Proofs.Ytongajonecgdpae
