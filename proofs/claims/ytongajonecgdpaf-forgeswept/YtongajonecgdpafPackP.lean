/- The program's words: picked, all, any; a gate's word. -/
import Derived.Test.YtongajonecgdpafPackA
import Derived.Test.YtongajonecgdpafNetO
namespace Go.Proofs.Ytongajonecgdpaf
open Go.RowKit

def wordsV (xs : List Int) : List Value := xs.map (fun x => Value.int .u64 x)
theorem wcell {w : World} {g : Nat} {xs : List Int} {T : TypeId} (h : Cells w g (wordsV xs) T) (k : Nat) (hk : k < xs.length) : w.cell? ⟨g, k, none⟩ = some (.int .u64 xs[k]) := by
  rw [h.cell k]; simp [wordsV, hk]
theorem wset {w : World} {g : Nat} {xs : List Int} {T : TypeId} (h : Cells w g (wordsV xs) T) (k : Nat) (y : Int) : Cells (w.setCell ⟨g, k, none⟩ (.int .u64 y)) g (wordsV (xs.set k y)) T := by
  have := h.set k (.int .u64 y)
  unfold wordsV at this ⊢
  rw [List.map_set]; exact this
theorem Cells.words {w : World} {g n : Nat} {xs : List Int} {T : TypeId} (h : Cells w g (wordsV xs) T) (hn : n = xs.length) (hm : xs.length ≤ maxLen) : Words w (some ⟨g, 0, none⟩) n xs :=
  ⟨hn, hm, Or.inr ⟨g, 0, rfl, h.lt, fun i hi => by rw [Nat.zero_add, wcell h i hi]⟩⟩
theorem Try.infoU : (Try.prog.info? 63).map (fun i => (i.zero, i.size, i.bytes)) = some (some (.int .u64 0), 1, 8) := by kernel_rfl
theorem made_words {w : World} {base g n : Nat} (h : w.ownsRow base 63 1 (.slice (some ⟨g, 0, none⟩) n n) n (madeCells #[Value.int .u64 0] n).toList) : Cells w g (wordsV (List.replicate n 0)) 63 := by
  rcases h.2 with ⟨h1, _⟩ | ⟨g', cap, cur, hv, _, hh, _, _, hs, ht⟩
  · simp at h1
  · simp only [Value.slice.injEq, Option.some.injEq, Addr.mk.injEq, and_true, true_and] at hv
    obtain ⟨rfl, rfl⟩ := hv
    rw [toList_madeCells_one, List.take_of_length_le (by simp [hs])] at ht
    unfold Cells
    rw [hh]
    congr 2
    apply Array.ext'
    rw [ht]; simp [wordsV]

set_option maxHeartbeats 1000000 in
theorem PickW_any (v l : List Int) (va la : Option Addr) (vn vc ln lc : Nat) (w : World) (hv : Words w va vn v) (hl : Ints w la ln l) (hln : ln ≤ 200) (hin : ∀ k (hk : k < l.length), 0 ≤ l[k] ∧ l[k] < v.length) :
    Calls Try.prog 110 #[.slice va vn vc, .slice la ln lc] w fun e w' => ∃ a c, e = .returned (.slice a ln c) ∧ Words w' a ln (pickV v l) ∧ Fresh w.heap.size a ln ∧ Below w.heap.size w w' := by
  have HLL : Hid (l.length = ln) := hl.1.symm
  have HVN := hide hv.1
  have HIN := hide hin
  clear hin
  obtain ⟨i0, hi, hz0, hz1, hz2⟩ := info_parts Try.infoU
  go_enter Try.func110, Try.ntmps110
  go_wp2_with (at_make; refine wpList_make_full _ rfl _ _ 62 rfl w.heap.size 63 i0 (.int .u64 0) 1 Try.underlying62 hi hz0 hz1 .i64 .i64 (ln : Int) (ln : Int) ln rfl rfl rfl rfl ?c1 ?c2 ?c3 ?_)
  case c1 => rw [hz2]; omega
  case c2 => unfold maxLen; omega
  case c3 => exact Nat.le_refl _
  intro w2 hown hgrow
  have hb2 : Below w.heap.size w w2 := (Below.refl _ _).grown hgrow (Nat.le_refl _) (fun k hk => by simp at hk)
  have hrow0 := made_words hown
  clear hown hgrow hi hz0 hz1 hz2
  go_wp2_with fail
  go_loopw [13] (fun i wr => ∃ k : Nat, k ≤ ln ∧ i = .int .i64 k ∧ Cells wr w.heap.size (wordsV (partTo 0 (pickV v l) k)) 63 ∧ Below w.heap.size w wr) (fun i _ => ln - (intOf i).toNat)
  case atStart => exact ⟨0, Nat.zero_le _, rfl, by rw [partTo_zero, pickV_len, HLL.out]; exact hrow0, hb2⟩
  case round =>
    clear hrow0 hb2
    obtain ⟨k, hk, rfl, hrow, hbel⟩ := hrel
    by_cases hlt : k < ln
    · have hltl : k < l.length := by have := HLL.out; omega
      have hki : (k : Int) < (ln : Int) := by omega
      obtain ⟨b, off, rfl, hbb, c1⟩ := (hl.below hbel).at hltl
      obtain ⟨hp, hq⟩ := (unhide HIN) k hltl
      obtain ⟨m, hm⟩ := Int.eq_ofNat_of_zero_le hp
      have hml : m < v.length := by omega
      have hmi : (m : Int) < (vn : Int) := by have := unhide HVN; omega
      obtain ⟨b2, off2, rfl, hbb2, c2⟩ := (hv.below hbel).at hml
      have hpk : k < (pickV v l).length := by rw [pickV_len]; exact hltl
      have hpl : k < (partTo 0 (pickV v l) k).length := by rw [partTo_len _ _ _ (by omega)]; exact hpk
      obtain ⟨z, d1⟩ : ∃ z, wr.cell? ⟨w.heap.size, k, none⟩ = some (.int .u64 z) := ⟨_, wcell hrow k hpl⟩
      have d2 := hrow.frozen k
      have hrow2 := wset hrow k v[m]
      have hset := partTo_set 0 (pickV v l) k hpk
      have hval : (pickV v l)[k] = v[m] := by simp [pickV, hm, List.getD_eq_getElem?_getD, hml]
      rw [hval] at hset
      rw [hset] at hrow2
      have hbel2 : Below w.heap.size w (wr.setCell ⟨w.heap.size, k, none⟩ (.int .u64 v[m])) := hbel.setCell (Nat.le_refl _) _
      rw [hm] at c1
      clear hset hpl hpk hrow hval hp hq hm
      go_wp2_with fail
      exact ⟨⟨k + 1, by omega, by go_num, hrow2, hbel2⟩, by simp [intOf]; omega⟩
    · have hkn : k = (pickV v l).length := by rw [pickV_len]; have := HLL.out; omega
      rw [hkn, partTo_full] at hrow
      have hI := hrow.words (n := ln) (by rw [pickV_len]; exact HLL.out.symm) (by rw [pickV_len, HLL.out]; unfold maxLen; omega)
      clear hkn hrow
      go_wp2_with fail
      go_ret
      exact ⟨_, _, rfl, hI, Or.inr ⟨_, 0, rfl, Nat.le_refl _⟩, hbel⟩

theorem ret_word {a b : Int} (h : a = b) : Ending.returned (.int .u64 a) = .returned (.int .u64 b) := by rw [h]
def andTo (xs : List Int) (k : Nat) : Int := andW (xs.take k)
def orTo (xs : List Int) (k : Nat) : Int := orW (xs.take k)
theorem andTo_succ (xs : List Int) (k : Nat) (h : k < xs.length) : andTo xs (k + 1) = bits .and .u64 (andTo xs k) xs[k] := by
  unfold andTo; rw [List.take_succ_eq_append_getElem h, andW_snoc]
theorem orTo_succ (xs : List Int) (k : Nat) (h : k < xs.length) : orTo xs (k + 1) = bits .or .u64 (orTo xs k) xs[k] := by
  unfold orTo; rw [List.take_succ_eq_append_getElem h, orW_snoc]
theorem val_word {a b : Int} (h : a = b) : Value.int .u64 a = .int .u64 b := by rw [h]

set_option maxHeartbeats 1000000 in
theorem ofAll_any (xs : List Int) (a : Option Addr) (n c : Nat) (w : World) (h : Words w a n xs) (hn : n ≤ 200) :
    Calls Try.prog 134 #[.slice a n c] w fun e w' => e = .returned (.int .u64 (andW xs)) ∧ w' = w := by
  have HLL : Hid (xs.length = n) := h.1.symm
  have H0 := hide (show andTo xs 0 = 18446744073709551615 from fullW_is)
  go_enter Try.func134, Try.ntmps134
  go_wp2_with fail
  go_loopw [3, 8] (fun t i wr => ∃ k : Nat, k ≤ n ∧ t = .int .u64 (andTo xs k) ∧ i = .int .i64 k ∧ wr = w) (fun _ i _ => n - (intOf i).toNat)
  case atStart => exact ⟨0, Nat.zero_le _, val_word (unhide H0).symm, rfl, rfl⟩
  case round =>
    obtain ⟨k, hk, rfl, rfl, rfl⟩ := hrel
    by_cases hlt : k < n
    · have hltl : k < xs.length := by have := HLL.out; omega
      have hki : (k : Int) < (n : Int) := by omega
      obtain ⟨b, off, rfl, hbb, c1⟩ := h.at hltl
      have HS := hide (andTo_succ xs k hltl)
      go_wp2_with fail
      exact ⟨⟨k + 1, by omega, val_word (unhide HS).symm, by go_num, by first | rfl | trivial⟩, by simp [intOf]; omega⟩
    · have HT := hide (show andTo xs k = andW xs by unfold andTo; rw [List.take_of_length_le (by have := HLL.out; omega)])
      go_wp2_with fail
      go_ret
      exact ⟨ret_word (unhide HT), rfl⟩

set_option maxHeartbeats 1000000 in
theorem ofAny_any (xs : List Int) (a : Option Addr) (n c : Nat) (w : World) (h : Words w a n xs) (hn : n ≤ 200) :
    Calls Try.prog 135 #[.slice a n c] w fun e w' => e = .returned (.int .u64 (orW xs)) ∧ w' = w := by
  have HLL : Hid (xs.length = n) := h.1.symm
  go_enter Try.func135, Try.ntmps135
  go_wp2_with fail
  go_loopw [3, 8] (fun t i wr => ∃ k : Nat, k ≤ n ∧ t = .int .u64 (orTo xs k) ∧ i = .int .i64 k ∧ wr = w) (fun _ i _ => n - (intOf i).toNat)
  case atStart => exact ⟨0, Nat.zero_le _, rfl, rfl, rfl⟩
  case round =>
    obtain ⟨k, hk, rfl, rfl, rfl⟩ := hrel
    by_cases hlt : k < n
    · have hltl : k < xs.length := by have := HLL.out; omega
      have hki : (k : Int) < (n : Int) := by omega
      obtain ⟨b, off, rfl, hbb, c1⟩ := h.at hltl
      have HS := hide (orTo_succ xs k hltl)
      go_wp2_with fail
      exact ⟨⟨k + 1, by omega, val_word (unhide HS).symm, by go_num, by first | rfl | trivial⟩, by simp [intOf]; omega⟩
    · have HT := hide (show orTo xs k = orW xs by unfold orTo; rw [List.take_of_length_le (by have := HLL.out; omega)])
      go_wp2_with fail
      go_ret
      exact ⟨ret_word (unhide HT), rfl⟩

theorem xor_nat (a b : Nat) (ha : a < 2 ^ 64) (hb : b < 2 ^ 64) : bits .xor .u64 a b = ((a ^^^ b : Nat) : Int) := by
  have ha' : a % 2 ^ IntKind.u64.bits = a := Nat.mod_eq_of_lt ha
  have hb' : b % 2 ^ IntKind.u64.bits = b := Nat.mod_eq_of_lt hb
  simp only [bits, BitVec.ofInt_natCast, BitVec.toNat_xor, BitVec.toNat_ofNat, ha', hb']
  exact wraps_u64' _ (Int.natCast_nonneg _) (by exact_mod_cast Nat.xor_lt_two_pow ha hb)
theorem xor_not {x : Int} (h : isW x) : bits .xor .u64 IntKind.u64.max x = notW x := by
  obtain ⟨a, rfl, ha⟩ := isW_nat h
  have e0 : IntKind.u64.max = ((2 ^ 64 - 1 : Nat) : Int) := by decide
  have e1 : (2 ^ 64 - 1) ^^^ a = 2 ^ 64 - (a + 1) := by
    apply Nat.eq_of_testBit_eq
    intro i
    rw [Nat.testBit_xor, Nat.testBit_two_pow_sub_one, Nat.testBit_two_pow_sub_succ ha]
    by_cases hi : i < 64
    · simp [hi]
    · have : a.testBit i = false := Nat.testBit_lt_two_pow (Nat.lt_of_lt_of_le ha (Nat.pow_le_pow_right (by decide) (by omega)))
      simp [hi, this]
  rw [e0, xor_nat _ _ (by decide) ha, e1]
  unfold notW fullW
  omega
theorem word_args {g : GateD} {ws : List Int} {vn : Nat} (hl : ws.length = vn) {rn inn : Nat} (h : Right g rn inn vn) : ∀ k (hk : k < g.args.length), 0 ≤ g.args[k] ∧ g.args[k] < ws.length := by
  intro k hk
  have h1 := h.args g.args[k] (List.getElem_mem hk)
  omega

set_option maxHeartbeats 1000000 in
theorem word_any (g : GateD) (aa : Option Addr) (an ac : Nat) (held ins ws : List Int) (bb : Nat) (ha ia va : Option Addr) (hn hc inn ic vn vc : Nat) (w : World)
    (hA : Ints w aa an g.args) (hb : bb < w.heap.size) (hcell : w.cell? ⟨bb, 2, none⟩ = some (.slice ha hn hc)) (hH : Words w ha hn held) (hi : Words w ia inn ins) (hv : Words w va vn ws) (hok : Right g hn inn vn) (hwv : ∀ x ∈ ws, isW x) :
    Calls Try.prog 109 #[.pointer (some ⟨bb, 0, none⟩), .agg #[.int .i64 g.kind, .int .i64 g.n, .slice aa an ac], .slice ia inn ic, .slice va vn vc] w fun e w' => e = .returned (.int .u64 (wordV g held ins ws)) ∧ Below w.heap.size w w' := by
  have B : Below w.heap.size w (w.alloc (.cells #[.int .i64 g.kind, .int .i64 g.n, .slice aa an ac] 106)) := (Below.refl _ _).alloc (Nat.le_refl _) _
  have hg2 := GBox.new w g.kind g.n aa an ac 106
  have hA2 := hA.below B
  have hH2 := hH.below B
  have hi2 := hi.below B
  have hv2 := hv.below B
  have hcell2 := (B.cell (p := ⟨bb, 2, none⟩) hb).trans hcell
  have HA1 := hide hA.1
  have HH1 := hide hH.1
  have HI1 := hide hi.1
  have HV1 := hide hv.1
  clear hA hH hi hv hcell
  have hk06 := hok.kind
  have hkk : g.kind = 0 ∨ g.kind = 1 ∨ g.kind = 2 ∨ g.kind = 3 ∨ g.kind = 4 ∨ g.kind = 5 ∨ g.kind = 6 := by omega
  clear hk06
  have HOK := hide hok
  have HWV := hide hwv
  clear hok hwv
  rcases hkk with hkk | hkk | hkk | hkk | hkk | hkk | hkk
  · have HW : Hid (wordV g held ins ws = 0) := by unfold Hid wordV; rw [hkk]; rfl
    obtain ⟨y0, y1, y2, y3⟩ := hg2
    have q1 : (g.kind == 1) = false := by simp only [beq_eq_false_iff_ne, ne_eq]; omega
    have q2 : (g.kind == 2) = false := by simp only [beq_eq_false_iff_ne, ne_eq]; omega
    have q3 : (g.kind == 3) = false := by simp only [beq_eq_false_iff_ne, ne_eq]; omega
    have q4 : (g.kind == 4) = false := by simp only [beq_eq_false_iff_ne, ne_eq]; omega
    have q5 : (g.kind == 5) = false := by simp only [beq_eq_false_iff_ne, ne_eq]; omega
    have q6 : (g.kind == 6) = false := by simp only [beq_eq_false_iff_ne, ne_eq]; omega
    clear hkk
    go_enter Try.func109, Try.ntmps109
    go_wp2_with fail
    go_ret
    exact ⟨ret_word HW.out.symm, B⟩
  · have HW : Hid (wordV g held ins ws = 18446744073709551615) := by unfold Hid wordV; rw [hkk]; exact fullW_is
    obtain ⟨y0, y1, y2, y3⟩ := hg2
    have q1 : (g.kind == 1) = true := by simp only [beq_iff_eq]; omega
    clear hkk
    go_enter Try.func109, Try.ntmps109
    go_wp2_with fail
    go_ret
    exact ⟨ret_word HW.out.symm, B⟩
  · have hR := (unhide HOK).inp hkk
    obtain ⟨m, hm⟩ := Int.eq_ofNat_of_zero_le hR.1
    have hml : m < ins.length := by have h1 := hR.2; rw [hm] at h1; have h2 := unhide HI1; simp at h1; omega
    have hmi : (m : Int) < (inn : Int) := by have h1 := unhide HI1; omega
    obtain ⟨bi, oi, rfl, hbi, ci⟩ := hi2.at hml
    have HW : Hid (wordV g held ins ws = ins[m]) := by
      unfold Hid wordV
      rw [if_neg (by omega), if_pos hkk, hm]; simp [List.getD_eq_getElem?_getD, hml]
    obtain ⟨y0, y1, y2, y3⟩ := hg2
    rw [hm] at y0 y1 y2 y3 ci B hbi ⊢
    rw [hkk] at y0 y1 y2 y3 ci B hbi ⊢
    clear hm hR hkk
    go_enter Try.func109, Try.ntmps109
    go_wp2_with fail
    go_ret
    exact ⟨ret_word HW.out.symm, B⟩
  · have hR := (unhide HOK).reg hkk
    obtain ⟨m, hm⟩ := Int.eq_ofNat_of_zero_le hR.1
    have hml : m < held.length := by have h1 := hR.2; rw [hm] at h1; have h2 := unhide HH1; simp at h1; omega
    have hmi : (m : Int) < (hn : Int) := by have h1 := unhide HH1; omega
    obtain ⟨bi, oi, rfl, hbi, ci⟩ := hH2.at hml
    have HW : Hid (wordV g held ins ws = held[m]) := by
      unfold Hid wordV
      rw [if_neg (by omega), if_neg (by omega), if_pos hkk, hm]; simp [List.getD_eq_getElem?_getD, hml]
    obtain ⟨y0, y1, y2, y3⟩ := hg2
    rw [hm] at y0 y1 y2 y3 ci B hbi hcell2 ⊢
    rw [hkk] at y0 y1 y2 y3 ci B hbi hcell2 ⊢
    clear hm hR hkk
    go_enter Try.func109, Try.ntmps109
    go_wp2_with fail
    go_region_held3 (fun W => W.cell? ⟨bb, 2, none⟩ = some (.slice (some ⟨bi, oi, none⟩) hn hc) ∧ W.cell? ⟨w.heap.size, 1, none⟩ = some (.int .i64 (m : Int)) ∧ W.cell? ⟨bi, oi + m, none⟩ = some (.int .u64 held[m]))
      ((exact ⟨hcell2, y2, ci⟩))
      (fail)
    all_goals have R := hide B.drew
    all_goals go_wp2_with fail
    all_goals go_ret
    all_goals exact ⟨ret_word HW.out.symm, unhide R⟩
  · have HW : Hid (wordV g held ins ws = andW (pickV ws g.args)) := by unfold Hid wordV; rw [hkk]; rfl
    have HIN := hide (word_args (ws := ws) (unhide HV1).symm (unhide HOK))
    have hfew : an ≤ 200 := by have h1 := (unhide HOK).few; have h2 := unhide HA1; omega
    obtain ⟨y0, y1, y2, y3⟩ := hg2
    have q1 : (g.kind == 1) = false := by simp only [beq_eq_false_iff_ne, ne_eq]; omega
    have q2 : (g.kind == 2) = false := by simp only [beq_eq_false_iff_ne, ne_eq]; omega
    have q3 : (g.kind == 3) = false := by simp only [beq_eq_false_iff_ne, ne_eq]; omega
    have q4 : (g.kind == 4) = true := by simp only [beq_iff_eq]; omega
    clear hkk
    go_enter Try.func109, Try.ntmps109
    go_wp2_with fail
    refine (PickW_any ws g.args va aa vn vc an ac _ hv2 hA2 hfew (unhide HIN)).mono ?_
    rintro e wA ⟨aA, cA, rfl, hIA, hFA, hbA⟩
    go_wp2_with fail
    refine (ofAll_any (pickV ws g.args) aA an cA _ hIA hfew).mono ?_
    rintro e wB ⟨rfl, rfl⟩
    go_wp2_with fail
    go_ret
    exact ⟨ret_word HW.out.symm, bstep B hbA⟩
  · have HW : Hid (wordV g held ins ws = orW (pickV ws g.args)) := by unfold Hid wordV; rw [hkk]; rfl
    have HIN := hide (word_args (ws := ws) (unhide HV1).symm (unhide HOK))
    have hfew : an ≤ 200 := by have h1 := (unhide HOK).few; have h2 := unhide HA1; omega
    obtain ⟨y0, y1, y2, y3⟩ := hg2
    have q1 : (g.kind == 1) = false := by simp only [beq_eq_false_iff_ne, ne_eq]; omega
    have q2 : (g.kind == 2) = false := by simp only [beq_eq_false_iff_ne, ne_eq]; omega
    have q3 : (g.kind == 3) = false := by simp only [beq_eq_false_iff_ne, ne_eq]; omega
    have q4 : (g.kind == 4) = false := by simp only [beq_eq_false_iff_ne, ne_eq]; omega
    have q5 : (g.kind == 5) = true := by simp only [beq_iff_eq]; omega
    clear hkk
    go_enter Try.func109, Try.ntmps109
    go_wp2_with fail
    refine (PickW_any ws g.args va aa vn vc an ac _ hv2 hA2 hfew (unhide HIN)).mono ?_
    rintro e wA ⟨aA, cA, rfl, hIA, hFA, hbA⟩
    go_wp2_with fail
    refine (ofAny_any (pickV ws g.args) aA an cA _ hIA hfew).mono ?_
    rintro e wB ⟨rfl, rfl⟩
    go_wp2_with fail
    go_ret
    exact ⟨ret_word HW.out.symm, bstep B hbA⟩
  · have h1 := (unhide HOK).one hkk
    have h0l : 0 < g.args.length := by omega
    have han : an = 1 := by have := unhide HA1; omega
    subst han
    obtain ⟨hp, hq⟩ := (unhide HOK).args g.args[0] (List.getElem_mem h0l)
    obtain ⟨m, hm⟩ := Int.eq_ofNat_of_zero_le hp
    have hml : m < ws.length := by rw [hm] at hq; simp at hq; have := unhide HV1; omega
    have hmi : (m : Int) < (vn : Int) := by have := unhide HV1; omega
    obtain ⟨bi, oi, rfl, hbi, ci⟩ := hv2.at hml
    obtain ⟨b3, o3, rfl, hb3, c3⟩ := hA2.at h0l
    simp only [Nat.add_zero] at c3
    rw [hm] at c3
    have HW : Hid (wordV g held ins ws = notW ws[m]) := by
      unfold Hid wordV
      rw [hkk]
      have e1 : g.args.getD 0 0 = (m : Int) := by rw [List.getD_eq_getElem?_getD, List.getElem?_eq_getElem h0l]; exact hm
      show notW (ws.getD (g.args.getD 0 0).toNat 0) = notW ws[m]
      rw [e1]
      simp [List.getD_eq_getElem?_getD, hml]
    have HNX := hide (xor_not (unhide HWV ws[m] (List.getElem_mem hml)))
    obtain ⟨y0, y1, y2, y3⟩ := hg2
    have q1 : (g.kind == 1) = false := by simp only [beq_eq_false_iff_ne, ne_eq]; omega
    have q2 : (g.kind == 2) = false := by simp only [beq_eq_false_iff_ne, ne_eq]; omega
    have q3 : (g.kind == 3) = false := by simp only [beq_eq_false_iff_ne, ne_eq]; omega
    have q4 : (g.kind == 4) = false := by simp only [beq_eq_false_iff_ne, ne_eq]; omega
    have q5 : (g.kind == 5) = false := by simp only [beq_eq_false_iff_ne, ne_eq]; omega
    have q6 : (g.kind == 6) = true := by simp only [beq_iff_eq]; omega
    clear hkk hm hp hq h1
    go_enter Try.func109, Try.ntmps109
    go_wp2_with fail
    go_ret
    exact ⟨ret_word (by rw [unhide HNX]; exact HW.out.symm), B⟩

/-- All but one block lies as it did. -/
def Stepped (bb : Nat) (w w' : World) : Prop := Below bb w w' ∧ ∀ k, bb < k → k < w.heap.size → w'.heap[k]? = w.heap[k]?
theorem Words.other {w w' : World} {a : Option Addr} {n : Nat} {xs : List Int} {B : Nat} (h : Words w a n xs) (hF : Fresh B a n) (hs : w.heap.size ≤ w'.heap.size) (hk : ∀ k, B ≤ k → k < w.heap.size → w'.heap[k]? = w.heap[k]?) : Words w' a n xs := by
  obtain ⟨h1, h2, h3⟩ := h
  refine ⟨h1, h2, ?_⟩
  rcases h3 with h3 | ⟨b, off, ha, hlt, hc⟩
  · exact Or.inl h3
  · rcases hF with hF | ⟨b', off', ha', hB⟩
    · left; exact List.length_eq_zero_iff.1 (by omega)
    · rw [ha] at ha'
      injection ha' with ha'
      injection ha' with e1 e2 _
      subst e1
      refine Or.inr ⟨b, off, ha, Nat.lt_of_lt_of_le hlt hs, fun i hi => ?_⟩
      rw [World.cell?_of_block (a := ⟨b, off + i, Option.none⟩) (hk b hB hlt)]
      exact hc i hi
theorem set_block {w : World} {bb k : Nat} {v : Value} {j : Nat} (h : j ≠ bb) : (w.setCell ⟨bb, k, none⟩ v).heap[j]? = w.heap[j]? := Below.heap_setCell w _ v j (by simpa using h)

/-- What the board's step answers. -/
def StepsTo (d : NetD) (held ins : List Int) (bb : Nat) (nb : Nat) (la : Option Addr) (ln lc on rn : Nat) (w w' : World) (e : Ending) : Prop :=
  ∃ a c ha' hc', e = .returned (.slice a on c) ∧ Words w' a on (packOuts d held ins) ∧ Fresh w.heap.size a on ∧ Words w' ha' rn (packNext d held ins) ∧ Fresh w.heap.size ha' rn ∧ Cells w' bb [.pointer (some ⟨nb, 0, none⟩), .slice la ln lc, .slice ha' rn hc'] 120 ∧ Stepped bb w w'

set_option maxRecDepth 100000 in
set_option maxHeartbeats 2000000 in
theorem bstep_any (d : NetD) (ins0 : Int) (ga ra oa : Option Addr) (gn gc rn rc on oc nb : Nat) (w1 w : World) (hN : NetAt w1 d ins0 ga gn ra rn oa on) (hx : Boxed w1 nb ins0 ga gn gc ra rn rc oa on oc) (la : Option Addr) (ln lc : Nat) (hO : Ints w1 la ln (orderL d)) (ho : orderE d = 0)
    (held ins : List Int) (ha ia : Option Addr) (hn hc inn ic : Nat) (hi : Words w1 ia inn ins) (hbel1 : Below w1.heap.size w1 w) (bb : Nat) (hbb : w1.heap.size ≤ bb) (hcs : Cells w bb [.pointer (some ⟨nb, 0, none⟩), .slice la ln lc, .slice ha hn hc] 120)
    (hH : Words w ha hn held) (hrl : held.length = d.regs.length) (hil : (ins.length : Int) = d.ins) (hwr : ∀ x ∈ held, isW x) (hwi : ∀ x ∈ ins, isW x) :
    Calls Try.prog 76 #[.pointer (some ⟨bb, 0, none⟩), .slice ia inn ic] w fun e w' => StepsTo d held ins bb nb la ln lc on rn w w' e := by
  have HG : Hid (d.gates.length = gn) := hN.gates.1.symm
  obtain ⟨hck, hho⟩ := orderE_ok ho
  have hlo : (ordTo d d.gates.length).length = d.gates.length := by unfold hasOrd at hho; simpa using hho
  have HCK := hide hck
  have HHO := hide hho
  have HLO := hide hlo
  have HOE := hide ho
  have HOL := hide (show orderL d = (ordTo d d.gates.length).map (fun (k : Nat) => (k : Int)) by unfold orderL; rw [if_pos ho])
  have hcn := counts_gates (check_ok hck).1
  have hgn : gn ≤ 200 := by have := HG.out; omega
  have hon : on ≤ 200 := by have := hN.outs.1; omega
  have hrn : rn ≤ 20 := by have := hN.regs.1; omega
  have hln : ln = gn := by rw [hO.1, unhide HOL, List.length_map, hlo]; exact HG.out
  subst hln
  have HRT : Hid (∀ k (hk : k < d.gates.length), Right d.gates[k] hn inn ln) := by
    intro k hk
    have := right_of hck k hk
    have e1 : d.regs.length = hn := by have := hH.1; omega
    have e2 : d.ins.toNat = inn := by have := hi.1; omega
    rw [e1, e2, HG.out] at this
    exact this
  have HRL := hide hrl
  have HIL := hide hil
  have HIT := hide (show ins.length = d.ins.toNat by omega)
  have HWR := hide hwr
  have HWI := hide hwi
  have HNL := hide (show (nextsV d).length = rn by rw [nextsV_len]; exact hN.regs.1.symm)
  have HOI := hide (show ∀ k (hk : k < d.outs.length), 0 ≤ d.outs[k] ∧ d.outs[k] < d.gates.length from fun k hk => outs_in (check_ok hck).2.1 k hk)
  have HNI := hide (show ∀ k (hk : k < (nextsV d).length), 0 ≤ (nextsV d)[k] ∧ (nextsV d)[k] < d.gates.length from fun k hk => nexts_in (check_ok hck).2.1 k hk)
  clear ho hck hho hlo hcn hrl hil hwr hwi
  have hxw := hx.below hbel1
  have hbl := hcs.lt
  have z0 := hcs.cell 0
  have z1 := hcs.cell 1
  have z2 := hcs.cell 2
  obtain ⟨x0, x1, x2, x3, x4⟩ := hxw
  obtain ⟨i0, hi0, hz0, hz1, hz2⟩ := info_parts Try.infoU
  go_enter Try.func76, Try.ntmps76
  go_wp2_with (at_make; refine wpList_make_full _ rfl _ _ 62 rfl w.heap.size 63 i0 (.int .u64 0) 1 Try.underlying62 hi0 hz0 hz1 .i64 .i64 (ln : Int) (ln : Int) ln rfl rfl rfl rfl ?c1 ?c2 ?c3 ?_)
  case c1 => rw [hz2]; omega
  case c2 => unfold maxLen; omega
  case c3 => exact Nat.le_refl _
  intro w2 hown hgrow
  have hb2 : Below w.heap.size w w2 := (Below.refl _ _).grown hgrow (Nat.le_refl _) (fun k hk => by simp at hk)
  have hrow0 := made_words hown
  have hc2 := hcs.below hb2 hbl
  clear hown hgrow hi0 hz0 hz1 hz2 x1 x2 x3 x4 z0 z1 z2
  have z0 := hc2.cell 0
  have z1 := hc2.cell 1
  have z2 := hc2.cell 2
  go_wp2_with fail
  clear z0 z1 z2 hc2
  go_loopw [22] (fun i wr => ∃ (m : Nat) (x : List Int), m ≤ ln ∧ i = .int .i64 m ∧ (x.length = ln ∧ (∀ y ∈ x, isW y) ∧ WSofar d held ins x m) ∧ Cells wr w.heap.size (wordsV x) 63 ∧ Below w.heap.size w wr) (fun i _ => ln - (intOf i).toNat)
  case atStart => exact ⟨0, List.replicate ln 0, Nat.zero_le _, rfl, ⟨by simp, by intro y hy; rw [List.eq_of_mem_replicate hy]; exact zero_bit.1, by intro k _ j hj; simp at hj⟩, hrow0, hb2⟩
  case round =>
    clear hrow0 hb2
    obtain ⟨m, x, hm, rfl, ⟨hxl, hvx, hsf⟩, hrow, hbel⟩ := hrel
    have hc3 := hcs.below hbel hbl
    have z0 := hc3.cell 0
    have z1 := hc3.cell 1
    have z2 := hc3.cell 2
    have hb13 : Below w1.heap.size w1 wr := hbel1.trans (hbel.mono hbel1.size)
    have hxr := hx.below hb13
    by_cases hlt : m < ln
    · have hmi : (m : Int) < (ln : Int) := by omega
      have hmo : m < (ordTo d d.gates.length).length := by have := unhide HLO; have := HG.out; omega
      obtain ⟨k, hk⟩ : ∃ k, (ordTo d d.gates.length)[m] = k := ⟨_, rfl⟩
      have hkl : k < d.gates.length := by rw [← hk]; exact (ord_to d d.gates.length).lt _ (List.getElem_mem hmo)
      have hkn : k < ln := by have := HG.out; omega
      have hki : (k : Int) < (ln : Int) := by omega
      have hml : m < (orderL d).length := by rw [unhide HOL, List.length_map]; exact hmo
      obtain ⟨b1, o1, rfl, hb1, c1⟩ := (hO.below hb13).at hml
      have hok : (orderL d)[m] = (k : Int) := by simp only [unhide HOL, List.getElem_map, hk]
      rw [hok] at c1
      have HNX := hide (WSofar.next (unhide HCK) (unhide HRL) (unhide HIT) hmo hsf (by rw [hxl]; exact HG.out.symm) hvx hk hkl)
      have HVS := hide (show ∀ y ∈ x.set k (wordV d.gates[k] held ins x), isW y by
        intro y hy
        rcases List.mem_or_eq_of_mem_set hy with h1 | h1
        · exact hvx y h1
        · rw [h1]; exact worthV_isW (unhide HWR) (unhide HWI) hvx)
      have HXL := hide hxl
      have HVX := hide hvx
      have hV := hrow.words (n := ln) hxl.symm (by rw [hxl]; unfold maxLen; omega)
      obtain ⟨b, off, aa, an, ac, rfl, hbb0, g1, g2, g3, hI⟩ := (hN.gates.below hb13).at' hkl
      have hHr := hH.below hbel
      have hir := hi.below hb13
      have HROW := hide hrow
      have hrl := hrow.lt
      clear hk hok hml hsf hmo hvx hxl hrow
      obtain ⟨x0, x1, x2, x3, x4⟩ := hxr
      go_wp2_with fail
      refine (word_any d.gates[k] aa an ac held ins x bb ha ia (some ⟨w.heap.size, 0, none⟩) hn hc inn ic ln ln wr hI hc3.lt z2 hHr hir hV (HRT.out k hkl) (unhide HVX)).mono ?_
      rintro e wB ⟨rfl, hbB⟩
      have hr4 := (unhide HROW).below hbB hrl
      obtain ⟨z, d1⟩ : ∃ z, wB.cell? ⟨w.heap.size, k, none⟩ = some (.int .u64 z) := ⟨_, wcell hr4 k (by rw [unhide HXL]; exact hkn)⟩
      have d2 := hr4.frozen k
      have R1 := wset hr4 k (wordV d.gates[k] held ins x)
      have R2 : Below w.heap.size w (wB.setCell ⟨w.heap.size, k, none⟩ (.int .u64 (wordV d.gates[k] held ins x))) := (bstep hbel hbB).setCell (Nat.le_refl _) _
      have R := hide (And.intro R1 R2)
      clear R1 R2 hr4 x0 x1 x2 x3 x4 z0 z1 z2 g1 g2 g3 hbB hV hI hHr hir hc3 c1
      go_wp2_with fail
      exact ⟨⟨m + 1, _, by omega, by go_num, ⟨by rw [List.length_set]; exact unhide HXL, unhide HVS, unhide HNX⟩, (unhide R).1, (unhide R).2⟩, by simp [intOf]; omega⟩
    · have HF := hide (WSofar.full (unhide HHO) (by rw [unhide HLO, HG.out, show ln = m by omega]; exact hsf) (by rw [hxl]; exact HG.out.symm))
      have HXG := hide (show x.length = d.gates.length by rw [hxl]; exact HG.out.symm)
      have HPO := hide (pack_outs (unhide HOE) (unhide HRL) (unhide HIL) (unhide HXG) hvx (unhide HF))
      have HPN := hide (pack_next (unhide HOE) (unhide HRL) (unhide HIL) (unhide HXG) hvx (unhide HF))
      have hV := hrow.words (n := ln) hxl.symm (by rw [hxl]; unfold maxLen; omega)
      have HOI2 := hide (show ∀ k (hk : k < d.outs.length), 0 ≤ d.outs[k] ∧ d.outs[k] < x.length by rw [unhide HXG]; exact unhide HOI)
      have HNI2 := hide (show ∀ k (hk : k < (nextsV d).length), 0 ≤ (nextsV d)[k] ∧ (nextsV d)[k] < x.length by rw [unhide HXG]; exact unhide HNI)
      clear hsf hvx hxl
      obtain ⟨x0, x1, x2, x3, x4⟩ := hxr
      go_wp2_with fail
      refine (Nexts_any d.regs _ _ _ _ (hN.regs.below hb13) (by omega)).mono ?_
      rintro e w4 ⟨aB, cB, rfl, hIB, _, _, hbB⟩
      have hV4 := hV.below hbB
      have hc4 := hc3.below hbB hc3.lt
      have B4 := bstep hbel hbB
      clear x1 x2 x3 x4 z0 z1 z2 hV hrow hc3
      have z0 := hc4.cell 0
      have z1 := hc4.cell 1
      have z2 := hc4.cell 2
      go_wp2_with fail
      refine (PickW_any x (nextsV d) _ _ _ _ _ _ _ hV4 hIB (by omega) (unhide HNI2)).mono ?_
      rintro e w5 ⟨a5, c5, rfl, hI5, hF5, hb5⟩
      rw [unhide HPN] at hI5
      have hV5 := hV4.below hb5
      have hc5 := hc4.below hb5 hc4.lt
      have B5 := bstep B4 hb5
      have f2 := hc5.frozen 2
      have hF5' := hF5.down B4.size
      clear z0 z1 z2 hV4 hc4 hbB hIB hF5
      have z0 := hc5.cell 0
      have z1 := hc5.cell 1
      have z2 := hc5.cell 2
      -- the store
      have hc6 := hc5.set 2 (.slice a5 rn c5)
      have hne : ∀ k, w.heap.size ≤ k → (w5.setCell ⟨bb, 2, none⟩ (.slice a5 rn c5)).heap[k]? = w5.heap[k]? := fun k hk => set_block (by omega)
      have hsz6 : (w5.setCell ⟨bb, 2, none⟩ (.slice a5 rn c5)).heap.size = w5.heap.size := by simp
      have hV6 := Words.other hV5 (B := w.heap.size) (Or.inr ⟨_, 0, rfl, Nat.le_refl _⟩) (Nat.le_of_eq hsz6.symm) (fun k hk _ => hne k hk)
      have hI6 := Words.other hI5 hF5' (Nat.le_of_eq hsz6.symm) (fun k hk _ => hne k hk)
      have hb16 : Below w1.heap.size w1 (w5.setCell ⟨bb, 2, none⟩ (.slice a5 rn c5)) := (hbel1.trans (B5.mono hbel1.size)).setCell hbb _
      have hst : Stepped bb w (w5.setCell ⟨bb, 2, none⟩ (.slice a5 rn c5)) := ⟨(B5.mono (Nat.le_of_lt hbl)).setCell (Nat.le_refl _) _, fun k h1 h2 => (set_block (by omega)).trans (B5.block k h2)⟩
      have hs6 := B5.size
      clear hV5 hI5 B5 hc5 hne hb5 B4
      obtain ⟨x0, x1, x2, x3, x4⟩ := hx.below hb16
      go_wp2_with fail
      generalize w5.setCell ⟨bb, 2, none⟩ (.slice a5 rn c5) = w6 at *
      clear x1 x2 x3 x4 z0 z1 z2 f2
      refine (PickW_any x d.outs _ _ _ _ _ _ _ hV6 (hN.outs.below hb16) hon (unhide HOI2)).mono ?_
      rintro e w7 ⟨a7, c7, rfl, hI7, hF7, hb7⟩
      rw [unhide HPO] at hI7
      have R1 := hF7.down (b' := w.heap.size) (by omega)
      have R2 := hI6.below hb7
      have R3 := hc6.below hb7 hc6.lt
      have R4 : Stepped bb w w7 := ⟨hst.1.trans (hb7.mono (by omega)), fun k h1 h2 => (hb7.block k (by omega)).trans (hst.2 k h1 h2)⟩
      have R := hide (And.intro hI7 (And.intro R1 (And.intro R2 (And.intro R3 R4))))
      clear R1 R2 R3 R4 hI7 hF7 hst hI6 hc6 hV6 hb16 hb7
      go_wp2_with fail
      go_ret
      exact ⟨a7, c7, a5, c5, rfl, (unhide R).1, (unhide R).2.1, (unhide R).2.2.1, hF5', (unhide R).2.2.2.1, (unhide R).2.2.2.2⟩

def pstepE (d : NetD) (r i : List Int) : Int := if orderE d = 0 then (if r.length = d.regs.length ∧ (i.length : Int) = d.ins then 0 else 1) else orderE d
def pstepO (d : NetD) (r i : List Int) : List Int := if pstepE d r i = 0 then packOuts d r i else []
def pstepN (d : NetD) (r i : List Int) : List Int := if pstepE d r i = 0 then packNext d r i else []

/-- Words by which all runs have the same. -/
def alikeV (xs : List Int) : List Int := xs.map (fun v => if v = 1 then fullW else 0)
theorem alike_isW (xs : List Int) : ∀ x ∈ alikeV xs, isW x := by
  intro x hx
  obtain ⟨y, _, rfl⟩ := List.mem_map.1 hx
  split
  · exact full_bit.1
  · exact zero_bit.1

set_option maxHeartbeats 1000000 in
theorem alike_any (xs : List Int) (a : Option Addr) (n c : Nat) (w : World) (h : Ints w a n xs) (hn : n ≤ 200) :
    Calls Try.prog 75 #[.slice a n c] w fun e w' => ∃ a' c', e = .returned (.slice a' n c') ∧ Words w' a' n (alikeV xs) ∧ Below w.heap.size w w' := by
  have HLL : Hid (xs.length = n) := h.1.symm
  have HML : Hid ((alikeV xs).length = n) := by unfold Hid alikeV; rw [List.length_map]; exact HLL.out
  obtain ⟨i0, hi, hz0, hz1, hz2⟩ := info_parts Try.infoU
  go_enter Try.func75, Try.ntmps75
  go_wp2_with (at_make; refine wpList_make_full _ rfl _ _ 62 rfl w.heap.size 63 i0 (.int .u64 0) 1 Try.underlying62 hi hz0 hz1 .i64 .i64 (n : Int) (n : Int) n rfl rfl rfl rfl ?c1 ?c2 ?c3 ?_)
  case c1 => rw [hz2]; omega
  case c2 => unfold maxLen; omega
  case c3 => exact Nat.le_refl _
  intro w2 hown hgrow
  have hb2 : Below w.heap.size w w2 := (Below.refl _ _).grown hgrow (Nat.le_refl _) (fun k hk => by simp at hk)
  have hrow0 := made_words hown
  clear hown hgrow hi hz0 hz1 hz2
  go_wp2_with fail
  go_loopw [11] (fun i wr => ∃ k : Nat, k ≤ n ∧ i = .int .i64 k ∧ Cells wr w.heap.size (wordsV (partTo 0 (alikeV xs) k)) 63 ∧ Below w.heap.size w wr) (fun i _ => n - (intOf i).toNat)
  case atStart => exact ⟨0, Nat.zero_le _, rfl, by rw [partTo_zero, HML.out]; exact hrow0, hb2⟩
  case round =>
    clear hrow0 hb2
    obtain ⟨k, hk, rfl, hrow, hbel⟩ := hrel
    by_cases hlt : k < n
    · have hltl : k < xs.length := by have := HLL.out; omega
      have hki : (k : Int) < (n : Int) := by omega
      obtain ⟨b, off, rfl, hbb, c1⟩ := (h.below hbel).at hltl
      have hpk : k < (alikeV xs).length := by rw [HML.out]; exact hlt
      have hpl : k < (partTo 0 (alikeV xs) k).length := by rw [partTo_len _ _ _ (by omega)]; exact hpk
      obtain ⟨z, d1⟩ : ∃ z, wr.cell? ⟨w.heap.size, k, none⟩ = some (.int .u64 z) := ⟨_, wcell hrow k hpl⟩
      have d2 := hrow.frozen k
      have hrow2 := wset hrow k 0
      have hb3 : Below w.heap.size w (wr.setCell ⟨w.heap.size, k, none⟩ (.int .u64 0)) := hbel.setCell (Nat.le_refl _) _
      have hset := partTo_set 0 (alikeV xs) k hpk
      by_cases e : xs[k] = 1
      · have hval : (alikeV xs)[k] = 18446744073709551615 := by simp [alikeV, e, fullW_is]
        obtain ⟨z2, d3⟩ : ∃ z, (wr.setCell ⟨w.heap.size, k, none⟩ (.int .u64 0)).cell? ⟨w.heap.size, k, none⟩ = some (.int .u64 z) := ⟨_, wcell hrow2 k (by rw [List.length_set]; exact hpl)⟩
        have d4 := hrow2.frozen k
        have hrow3 := wset hrow2 k 18446744073709551615
        rw [hval] at hset
        rw [List.set_set, hset] at hrow3
        have hb4 : Below w.heap.size w ((wr.setCell ⟨w.heap.size, k, none⟩ (.int .u64 0)).setCell ⟨w.heap.size, k, none⟩ (.int .u64 18446744073709551615)) := hb3.setCell (Nat.le_refl _) _
        rw [e] at c1
        have R := hide (And.intro hrow3 hb4)
        clear hset hpl hpk hrow hval hrow2 hb3 hrow3 hb4 e
        go_wp2_with fail
        exact ⟨⟨k + 1, by omega, by go_num, (unhide R).1, (unhide R).2⟩, by simp [intOf]; omega⟩
      · have hval : (alikeV xs)[k] = 0 := by simp [alikeV, e]
        rw [hval] at hset
        rw [hset] at hrow2
        have hq : (xs[k] == 1) = false := by simp [e]
        have R := hide (And.intro hrow2 hb3)
        clear hset hpl hpk hrow hval hrow2 hb3 e
        go_wp2_with fail
        exact ⟨⟨k + 1, by omega, by go_num, (unhide R).1, (unhide R).2⟩, by simp [intOf]; omega⟩
    · have hkn : k = (alikeV xs).length := by rw [HML.out]; omega
      rw [hkn, partTo_full] at hrow
      have hI := hrow.words (n := n) HML.out.symm (by rw [HML.out]; unfold maxLen; omega)
      clear hkn hrow
      go_wp2_with fail
      go_ret
      exact ⟨_, _, rfl, hI, hbel⟩

/-- A row of rows of words. -/
def WRows (w : World) (a : Option Addr) (n : Nat) (xss : List (List Int)) : Prop :=
  n = xss.length ∧ xss.length ≤ maxLen ∧ (xss = [] ∨ ∃ b off, a = some ⟨b, off, none⟩ ∧ b < w.heap.size ∧ ∀ i (hi : i < xss.length), ∃ a' n' c', w.cell? ⟨b, off + i, none⟩ = some (.slice a' n' c') ∧ Words w a' n' xss[i])
theorem WRows.below {w w' : World} {a : Option Addr} {n : Nat} {xss : List (List Int)} (h : WRows w a n xss) (hb : Below w.heap.size w w') : WRows w' a n xss := by
  obtain ⟨h1, h2, h3⟩ := h
  refine ⟨h1, h2, ?_⟩
  rcases h3 with h3 | ⟨b, off, ha, hlt, hc⟩
  · exact Or.inl h3
  · refine Or.inr ⟨b, off, ha, Nat.lt_of_lt_of_le hlt hb.size, fun i hi => ?_⟩
    obtain ⟨a', n', c', h4, h5⟩ := hc i hi
    exact ⟨a', n', c', (hb.cell (p := ⟨b, off + i, none⟩) hlt).trans h4, h5.below hb⟩
theorem WRows.none (w : World) : WRows w Option.none 0 [] := ⟨rfl, Nat.zero_le _, Or.inl rfl⟩
theorem WRows.at {w : World} {a : Option Addr} {n : Nat} {xss : List (List Int)} (h : WRows w a n xss) {k : Nat} (hk : k < xss.length) :
    ∃ b off a' n' c', a = some ⟨b, off, Option.none⟩ ∧ b < w.heap.size ∧ w.cell? ⟨b, off + k, Option.none⟩ = some (.slice a' n' c') ∧ Words w a' n' xss[k] := by
  obtain ⟨h1, h2, h3⟩ := h
  rcases h3 with h3 | ⟨b, off, ha, hlt, hc⟩
  · rw [h3] at hk; simp at hk
  · obtain ⟨a', n', c', h4, h5⟩ := hc k hk
    exact ⟨b, off, a', n', c', ha, hlt, h4, h5⟩

def packAt (d : NetD) (l : List (List Int)) : Nat → List Int
  | 0 => alikeV (begins d)
  | k + 1 => packNext d (packAt d l k) (l.getD k [])
def packRow (d : NetD) (l : List (List Int)) (k : Nat) : List Int := packOuts d (packAt d l k) (l.getD k [])
def packRows (d : NetD) (l : List (List Int)) (k : Nat) : List (List Int) := (List.range k).map (packRow d l)
def rowsOk (d : NetD) (l : List (List Int)) (k : Nat) : Bool := (l.take k).all (fun r => decide ((r.length : Int) = d.ins))
def prunE (d : NetD) (l : List (List Int)) : Int := if orderE d = 0 then (if 60 < l.length then 2 else if rowsOk d l l.length then 0 else 1) else orderE d
def prunL (d : NetD) (l : List (List Int)) : List (List Int) := if prunE d l = 0 then packRows d l l.length else []
theorem rowsOk_succ (d : NetD) (l : List (List Int)) (k : Nat) (h : k < l.length) : rowsOk d l (k + 1) = (rowsOk d l k && decide ((l[k].length : Int) = d.ins)) := all_take_succ _ l k h
theorem rowsOk_no {d : NetD} {l : List (List Int)} {k : Nat} (h : k < l.length) (hn : ¬ (l[k].length : Int) = d.ins) : rowsOk d l l.length = false := by
  unfold rowsOk
  rw [List.take_length, List.all_eq_false]
  exact ⟨l[k], List.getElem_mem h, by simpa using hn⟩
theorem rowsOk_at {d : NetD} {l : List (List Int)} (h : rowsOk d l l.length = true) (k : Nat) (hk : k < l.length) : (l[k].length : Int) = d.ins := by
  unfold rowsOk at h
  rw [List.take_length, List.all_eq_true] at h
  simpa using h _ (List.getElem_mem hk)
theorem packRows_succ (d : NetD) (l : List (List Int)) (k : Nat) : packRows d l (k + 1) = packRows d l k ++ [packRow d l k] := by
  unfold packRows; rw [List.range_succ, List.map_append]; rfl
theorem next01 (d : NetD) (r i : List Int) (j k : Nat) : (laneNext d r i k).getD j 0 = 0 ∨ (laneNext d r i k).getD j 0 = 1 := by
  by_cases hj : j < (laneNext d r i k).length
  · rw [show (laneNext d r i k).getD j 0 = (laneNext d r i k)[j] by simp [List.getD_eq_getElem?_getD, hj]]
    have hm := List.getElem_mem hj
    by_cases e : doE d (laneV r k) (laneV i k) = 0
    · exact doNext_vals e _ hm
    · unfold laneNext doNext at hj
      rw [if_neg e] at hj
      simp at hj
  · left; simp [List.getD_eq_getElem?_getD, List.getElem?_eq_none (show (laneNext d r i k).length ≤ j by omega)]
theorem packNext_isW (d : NetD) (r i : List Int) : ∀ x ∈ packNext d r i, isW x := by
  intro x hx
  obtain ⟨j, _, rfl⟩ := List.mem_map.1 hx
  exact wordTo_lt (f := laneNext d r i) (i := j) (fun k => next01 d r i j k) 64
theorem packNext_len (d : NetD) (r i : List Int) : (packNext d r i).length = d.regs.length := by simp [packNext]
theorem packAt_isW (d : NetD) (l : List (List Int)) : ∀ k, ∀ x ∈ packAt d l k, isW x
  | 0 => alike_isW _
  | _ + 1 => packNext_isW d _ _
theorem packAt_len (d : NetD) (l : List (List Int)) : ∀ k, (packAt d l k).length = d.regs.length
  | 0 => by simp [packAt, alikeV, begins]
  | _ + 1 => packNext_len d _ _
/-- Words off one block. -/
def WNot (w : World) (g : Nat) (a : Option Addr) (n : Nat) (xs : List Int) : Prop := Words w a n xs ∧ (n = 0 ∨ ∃ b off, a = some ⟨b, off, none⟩ ∧ b ≠ g)
theorem WNot.stored {w : World} {g : Nat} {a : Option Addr} {n : Nat} {xs : List Int} (h : WNot w g a n xs) (k : Nat) (v : Value) : WNot (w.setCell ⟨g, k, none⟩ v) g a n xs := by
  obtain ⟨⟨h1, h2, h3⟩, h4⟩ := h
  refine ⟨⟨h1, h2, ?_⟩, h4⟩
  rcases h3 with h3 | ⟨b, off, ha, hlt, hc⟩
  · exact Or.inl h3
  · rcases h4 with h4 | ⟨b', off', ha', hne⟩
    · left; exact List.length_eq_zero_iff.1 (by omega)
    · rw [ha] at ha'
      injection ha' with ha'
      injection ha' with e1 e2 _
      subst e1
      refine Or.inr ⟨b, off, ha, by simpa using hlt, fun i hi => ?_⟩
      rw [World.cell?_of_block (a := ⟨b, off + i, none⟩) (set_block hne)]
      exact hc i hi
/-- What a row of answers holds so far. -/
def WOuts (w : World) (g : Nat) (vs : List Value) (xss : List (List Int)) : Prop := ∀ j (hj : j < xss.length), ∃ a n c, vs[j]? = some (.slice a n c) ∧ Words w a n xss[j] ∧ Fresh (g + 1) a n
theorem WOuts.other {w w' : World} {g : Nat} {vs : List Value} {xss : List (List Int)} (h : WOuts w g vs xss) (hs : w.heap.size ≤ w'.heap.size) (hk : ∀ k, g + 1 ≤ k → k < w.heap.size → w'.heap[k]? = w.heap[k]?) : WOuts w' g vs xss := by
  intro j hj
  obtain ⟨a, n, c, h1, h2, h3⟩ := h j hj
  exact ⟨a, n, c, h1, h2.other h3 hs hk, h3⟩
theorem WOuts.more {w : World} {g : Nat} {vs : List Value} {xss : List (List Int)} (h : WOuts w g vs xss) {a : Option Addr} {n c : Nat} {xs : List Int} (hw : Words w a n xs) (hF : Fresh (g + 1) a n) (hl : xss.length < vs.length) : WOuts w g (vs.set xss.length (.slice a n c)) (xss ++ [xs]) := by
  intro j hj
  by_cases e : j < xss.length
  · obtain ⟨a', n', c', h1, h2, h3⟩ := h j e
    refine ⟨a', n', c', ?_, ?_, h3⟩
    · rw [List.getElem?_set_ne (by omega)]; exact h1
    · rw [List.getElem_append_left e]; exact h2
  · have ej : j = xss.length := by simp at hj; omega
    subst ej
    refine ⟨a, n, c, ?_, ?_, hF⟩
    · rw [List.getElem?_set_self hl]
    · rw [List.getElem_append_right (Nat.le_refl _)]; simpa using hw
theorem WOuts.rows {w : World} {g n : Nat} {vs : List Value} {xss : List (List Int)} {T : TypeId} (h : WOuts w g vs xss) (hc : Cells w g vs T) (hn : n = xss.length) (hm : n ≤ maxLen) : WRows w (some ⟨g, 0, none⟩) n xss := by
  refine ⟨hn, by omega, Or.inr ⟨g, 0, rfl, hc.lt, fun i hi => ?_⟩⟩
  obtain ⟨a, n', c, h1, h2, _⟩ := h i hi
  exact ⟨a, n', c, by rw [Nat.zero_add, hc.cell i]; exact h1, h2⟩
theorem Try.infoSU : (Try.prog.info? 62).map (fun i => (i.zero, i.size, i.bytes)) = some (some (.slice none 0 0), 1, 24) := by kernel_rfl
theorem made_slrowU {w : World} {base g n : Nat} (h : w.ownsRow base 62 1 (.slice (some ⟨g, 0, none⟩) n n) n (madeCells #[Value.slice none 0 0] n).toList) : Cells w g (List.replicate n (.slice none 0 0)) 62 := by
  rcases h.2 with ⟨h1, _⟩ | ⟨g', cap, cur, hv, _, hh, _, _, hs, ht⟩
  · simp at h1
  · simp only [Value.slice.injEq, Option.some.injEq, Addr.mk.injEq, and_true, true_and] at hv
    obtain ⟨rfl, rfl⟩ := hv
    rw [toList_madeCells_one, List.take_of_length_le (by simp [hs])] at ht
    unfold Cells
    rw [hh]
    congr 2
    apply Array.ext'
    rw [ht]

set_option maxRecDepth 100000 in
set_option maxHeartbeats 2000000 in
theorem PRun_any (d : NetD) (ins0 : Int) (ga ra oa : Option Addr) (gn gc rn rc on oc : Nat) (w : World) (h : NetAt w d ins0 ga gn ra rn oa on) (l : List (List Int)) (la : Option Addr) (ln lc : Nat) (hl : WRows w la ln l) (hwl : ∀ r ∈ l, ∀ x ∈ r, isW x) :
    Calls Try.prog 30 #[.agg #[.int .i64 ins0, .slice ga gn gc, .slice ra rn rc, .slice oa on oc], .slice la ln lc] w fun e w' => ∃ a n c, e = .returned (.tuple #[.slice a n c, .int .i64 (prunE d l)]) ∧ WRows w' a n (prunL d l) ∧ Below w.heap.size w w' := by
  have hb0 : Below w.heap.size w (w.alloc (.cells #[.int .i64 ins0, .slice ga gn gc, .slice ra rn rc, .slice oa on oc] 48)) := (Below.refl _ _).alloc (Nat.le_refl _) _
  have hbox : Boxed (w.alloc (.cells #[.int .i64 ins0, .slice ga gn gc, .slice ra rn rc, .slice oa on oc] 48)) w.heap.size ins0 ga gn gc ra rn rc oa on oc := Boxed.new _ _ _ _ _ _ _ _ _ _ _ _
  have hN := h.below hb0
  have hl0 := hl.below hb0
  have HWL := hide hwl
  have HLL := hide hl.1
  have hlm : ln ≤ maxLen := by rw [hl.1]; exact hl.2.1
  unfold maxLen at hlm
  clear h hl hwl
  obtain ⟨i0, hi, hz0, hz1, hz2⟩ := info_parts Try.infoSU
  go_enter Try.func30, Try.ntmps30
  go_wp2_with fail
  refine (Order_any d _ _ _ _ _ _ _ _ _ _ _ hN).mono ?_
  rintro e w1 ⟨ka, kn, kc, rfl, hO, hb⟩
  have B1 := bstep hb0 hb
  have hN1 := hN.below hb
  have hl1 := hl0.below hb
  have hx1 := hbox.below hb
  clear hb hb0 hN hbox hl0
  by_cases e0 : orderE d = 0
  case neg =>
    have HE := hide (show prunE d l = orderE d by unfold prunE; rw [if_neg e0])
    have HO := hide (show prunL d l = [] by unfold prunL; rw [if_neg (by rw [unhide HE]; exact e0)])
    obtain ⟨ee, hee⟩ : ∃ ee, orderE d = ee := ⟨_, rfl⟩
    rw [hee] at e0
    rw [hee]
    have HEE := hide hee
    have hq : (ee != 0) = true := by simp only [bne_iff_ne, ne_eq]; exact e0
    clear e0 hee hx1
    go_wp2_with fail
    go_ret2
    exact ⟨none, 0, 0, ret_sl (by rw [unhide HE, unhide HEE]), by rw [unhide HO]; exact WRows.none _, B1⟩
  have HOE := hide e0
  have HCK := hide (orderE_ok e0).1
  rw [e0]
  clear e0
  by_cases e6 : 60 < ln
  · have HE := hide (show prunE d l = 2 by unfold prunE; rw [if_pos (unhide HOE), if_pos (by have := unhide HLL; omega)])
    have HO := hide (show prunL d l = [] by unfold prunL; rw [if_neg (by rw [unhide HE]; decide)])
    have hgt : (60 : Int) < (ln : Int) := by omega
    clear e6
    go_wp2_with fail
    go_ret2
    exact ⟨none, 0, 0, ret_sl (unhide HE).symm, by rw [unhide HO]; exact WRows.none _, B1⟩
  have hgt : ¬ (60 : Int) < (ln : Int) := by omega
  have HE1 := hide (show prunE d l = if rowsOk d l l.length then 0 else 1 by unfold prunE; rw [if_pos (unhide HOE), if_neg (by have := unhide HLL; omega)])
  have HDI := hide hN1.ins
  have hx0 := hx1
  obtain ⟨x0, x1, x2, x3, x4⟩ := hx1
  go_wp2_with fail
  go_loopw [28] (fun i wr => ∃ k : Nat, k ≤ ln ∧ i = .int .i64 k ∧ rowsOk d l k = true ∧ wr = w1) (fun i _ => ln - (intOf i).toNat)
  case atStart => exact ⟨0, Nat.zero_le _, rfl, rfl, rfl⟩
  case round =>
    obtain ⟨k, hk, rfl, hno, rfl⟩ := hrel
    by_cases hlt : k < ln
    · have hki : (k : Int) < (ln : Int) := by omega
      have hkl : k < l.length := by have := unhide HLL; omega
      obtain ⟨b, off, a', n', c', rfl, hbb, c1, hW⟩ := hl1.at hkl
      have hn' := hW.1
      have HS := hide (rowsOk_succ d l k hkl)
      by_cases e : (n' : Int) = ins0
      · have HT := hide (show rowsOk d l (k + 1) = true by rw [unhide HS, hno]; simp; have := unhide HDI; omega)
        have hne : ((n' : Int) != ins0) = false := by simp only [bne_eq_false_iff_eq]; exact e
        clear hno e hn' HS
        go_wp2_with fail
        exact ⟨⟨k + 1, by omega, by go_num, unhide HT, by first | rfl | trivial⟩, by simp [intOf]; omega⟩
      · have HT := hide (show prunE d l = 1 by rw [unhide HE1, rowsOk_no hkl (by have := unhide HDI; omega)]; rfl)
        have HO := hide (show prunL d l = [] by unfold prunL; rw [if_neg (by rw [unhide HT]; decide)])
        have hne : ((n' : Int) != ins0) = true := by simp only [bne_iff_ne, ne_eq]; exact e
        clear hno e hn' HS
        go_wp2_with fail
        go_ret2
        exact ⟨none, 0, 0, ret_sl (unhide HT).symm, by rw [unhide HO]; exact WRows.none _, B1⟩
    · have HRO := hide (show rowsOk d l l.length = true by rw [← hno]; exact congrArg _ (by have := unhide HLL; omega))
      have HE := hide (show prunE d l = 0 by rw [unhide HE1, unhide HRO]; rfl)
      have HPL := hide (show prunL d l = packRows d l l.length by unfold prunL; rw [if_pos (unhide HE)])
      have HB := hide (show begAns d = begins d by unfold begAns; rw [if_pos (unhide HCK)])
      clear hno
      go_wp2_with fail
      clear x0 x1 x2 x3 x4
      refine (Begin_any d _ _ _ _ _ _ _ _ _ _ _ hN1).mono ?_
      rintro e w2 ⟨q0, q1, q2, rfl, hQ, hb2⟩
      rw [unhide HB] at hQ
      rw [unhide HCK]
      have hq1 : q1 = rn := by have h1 := hQ.1; have h2 := hN1.regs.1; simp [begins] at h1; omega
      subst hq1
      have hrn : q1 ≤ 200 := by have := counts_gates (check_ok (unhide HCK)).1; have := hN1.regs.1; omega
      have B2 := bstep B1 hb2
      have hN2 := hN1.below hb2
      have hl2 := hl1.below hb2
      have hx2 := hx0.below hb2
      have hO2 := hO.below hb2
      clear hb2 hN1 hl1 hx0 hO B1
      go_wp2_with fail
      refine (alike_any (begins d) _ _ _ _ hQ hrn).mono ?_
      rintro e w3 ⟨ha, hc, rfl, hH, hb3⟩
      have B3 := bstep B2 hb3
      have hN3 := hN2.below hb3
      have hl3 := hl2.below hb3
      have hx3 := hx2.below hb3
      have hO3 := hO2.below hb3
      clear hb3 hN2 hl2 hx2 hO2 B2 hQ
      have hal := (Below.refl _ w3).alloc (Nat.le_refl _) (.cells #[.pointer (some ⟨w.heap.size, 0, none⟩), .slice ka kn kc, .slice ha q1 hc] 120)
      have hcs := Cells.new w3 [.pointer (some ⟨w.heap.size, 0, none⟩), .slice ka kn kc, .slice ha q1 hc] 120
      have hH4 := hH.below hal
      go_wp2_with (at_make; refine wpList_make_full _ rfl _ _ 58 rfl w3.heap.size 62 i0 (.slice none 0 0) 1 Try.underlying58 hi hz0 hz1 .i64 .i64 (ln : Int) (ln : Int) ln rfl rfl rfl rfl ?c1 ?c2 ?c3 ?_)
      case c1 => rw [hz2]; omega
      case c2 => unfold maxLen; omega
      case c3 => simp
      intro w5 hown hgrow
      have hb5 := (Below.refl _ (w3.alloc (.cells #[.pointer (some ⟨w.heap.size, 0, none⟩), .slice ka kn kc, .slice ha q1 hc] 120))).grown hgrow (Nat.le_refl _) (fun k hk => by simp at hk)
      have hrow0 := made_slrowU hown
      have hcs5 := hcs.below hb5 hcs.lt
      have hH5 : WNot w5 (w3.heap.size + 1) ha q1 (alikeV (begins d)) := ⟨hH4.below hb5, by
        rcases hH.2.2 with h9 | ⟨b, off, h9, h10, _⟩
        · left; rw [hH.1, h9]; rfl
        · exact Or.inr ⟨b, off, h9, by omega⟩⟩
      have bb5 := bstep hal hb5
      have hg5 := hrow0.lt
      clear hown hgrow hi hz0 hz1 hz2 hcs hH4 hal hb5 hH
      go_wp2_with fail
      go_loopw [55] (fun i wr => ∃ (k : Nat) (ha : Option Addr) (hc : Nat) (vs : List Value), k ≤ ln ∧ i = .int .i64 k ∧ vs.length = ln ∧ Cells wr w3.heap.size [.pointer (some ⟨w.heap.size, 0, none⟩), .slice ka kn kc, .slice ha q1 hc] 120 ∧ WNot wr (w3.heap.size + 1) ha q1 (packAt d l k) ∧ Cells wr (w3.heap.size + 1) vs 62 ∧ WOuts wr (w3.heap.size + 1) vs (packRows d l k) ∧ Below w3.heap.size w3 wr) (fun i _ => ln - (intOf i).toNat)
      case atStart => exact ⟨0, ha, hc, _, Nat.zero_le _, rfl, by simp, hcs5, hH5, hrow0, by intro j hj; simp [packRows] at hj, bb5⟩
      case round =>
        clear hcs5 hH5 hrow0 bb5 hg5
        obtain ⟨k, ha1, hc1, vs, hk, rfl, hvl, hcs, hH, hrow, hWO, hbel⟩ := hrel
        by_cases hlt : k < ln
        · have hki : (k : Int) < (ln : Int) := by omega
          have hkl : k < l.length := by have := unhide HLL; omega
          obtain ⟨b, off, a', n', c', rfl, hbb, c0, hW⟩ := hl3.at hkl
          have c1 := (hbel.cell (p := ⟨b, off + k, none⟩) hbb).trans c0
          have hget : l.getD k [] = l[k] := by simp [List.getD_eq_getElem?_getD, hkl]
          have HN1 := hide (show packAt d l (k + 1) = packNext d (packAt d l k) l[k] by show packNext d (packAt d l k) (l.getD k []) = _; rw [hget])
          have HN2 := hide (show packRow d l k = packOuts d (packAt d l k) l[k] by unfold packRow; rw [hget])
          have HVL := hide hvl
          have HH := hide hH.1
          have HROW := hide hrow
          have HWO := hide hWO
          have hgl := hrow.lt
          clear c0 hget hvl hH hrow hWO
          go_wp2_with fail
          refine (bstep_any d ins0 ga ra oa gn gc q1 rc on oc w.heap.size w3 _ hN3 hx3 ka kn kc hO3 (unhide HOE) (packAt d l k) l[k] ha1 a' q1 hc1 n' c' hW hbel w3.heap.size (Nat.le_refl _) hcs (unhide HH) (packAt_len d l k) (rowsOk_at (unhide HRO) k hkl) (packAt_isW d l k) (unhide HWL _ (List.getElem_mem hkl))).mono ?_
          rintro e w6 ⟨a6, c6, h6, k6, rfl, hA, hFA, hB, hFB, hC, hD⟩
          have hs6 := hD.1.size
          have hr6 : Cells w6 (w3.heap.size + 1) vs 62 := by
            unfold Cells
            rw [hD.2 _ (Nat.lt_succ_self _) hgl]
            exact unhide HROW
          have hw6 := (unhide HWO).other hs6 (fun j h1 h2 => hD.2 j (by omega) h2)
          have hvk : k < vs.length := by rw [unhide HVL]; exact hlt
          have d1 := hr6.cell k
          rw [List.getElem?_eq_getElem hvk] at d1
          have d2 := hr6.frozen k
          have hF1 := hFA.down (b' := w3.heap.size + 1 + 1) hgl
          have hF2 := hFB.down (b' := w3.heap.size + 1 + 1) hgl
          have R1 := hr6.set k (.slice a6 on c6)
          have R2 : Cells (w6.setCell ⟨w3.heap.size + 1, k, none⟩ (.slice a6 on c6)) w3.heap.size [.pointer (some ⟨w.heap.size, 0, none⟩), .slice ka kn kc, .slice h6 q1 k6] 120 := by
            unfold Cells
            rw [set_block (by omega)]
            exact hC
          have R3 : WNot (w6.setCell ⟨w3.heap.size + 1, k, none⟩ (.slice a6 on c6)) (w3.heap.size + 1) h6 q1 (packAt d l (k + 1)) := by
            rw [unhide HN1]
            refine WNot.stored ⟨hB, ?_⟩ k _
            rcases hF2 with h9 | ⟨b9, o9, h9, h10⟩
            · exact Or.inl h9
            · exact Or.inr ⟨b9, o9, h9, by omega⟩
          have R4 : WOuts (w6.setCell ⟨w3.heap.size + 1, k, none⟩ (.slice a6 on c6)) (w3.heap.size + 1) (vs.set k (.slice a6 on c6)) (packRows d l (k + 1)) := by
            rw [packRows_succ, unhide HN2]
            have h9 := hw6.more (c := c6) hA hF1 (by simp [packRows]; omega)
            rw [show (packRows d l k).length = k by simp [packRows]] at h9
            exact h9.other (Nat.le_of_eq (by simp)) (fun j h1 _ => set_block (by omega))
          have R5 : Below w3.heap.size w3 (w6.setCell ⟨w3.heap.size + 1, k, none⟩ (.slice a6 on c6)) := (hbel.trans hD.1).setCell (Nat.le_succ _) _
          have R := hide (And.intro R1 (And.intro R2 (And.intro R3 (And.intro R4 R5))))
          clear R1 R2 R3 R4 R5 hA hFA hB hFB hC hD hr6 hw6 hF1 hF2 hcs hbel c1
          go_wp2_with fail
          exact ⟨⟨k + 1, h6, k6, vs.set k (.slice a6 on c6), by omega, by go_num, by rw [List.length_set]; exact unhide HVL, (unhide R).2.1, (unhide R).2.2.1, (unhide R).1, (unhide R).2.2.2.1, (unhide R).2.2.2.2⟩, by simp [intOf]; omega⟩
        · have HRW := hide (show WRows wr (some ⟨w3.heap.size + 1, 0, none⟩) ln (prunL d l) by
            rw [unhide HPL]
            have h1 := unhide HLL
            rw [← h1, show ln = k by omega]
            exact hWO.rows hrow (by simp [packRows]) (by unfold maxLen; omega))
          have B9 : Below w.heap.size w wr := bstep B3 hbel
          clear hcs hH hrow hWO hbel
          go_wp2_with fail
          go_ret2
          exact ⟨_, _, _, ret_sl (unhide HE).symm, unhide HRW, B9⟩
end Go.Proofs.Ytongajonecgdpaf
