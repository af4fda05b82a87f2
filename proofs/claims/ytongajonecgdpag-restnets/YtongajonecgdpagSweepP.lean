/- What sweep calls of the library: bits.Mul, slices.Repeat, slices.Clone. -/
import Derived.Test.YtongajonecgdpagSweepM
import Derived.Test.YtongajonecgdpagEvalP
import Derived.Test.YtongajonecgdpagTickB
import Derived.Laws.CopyOwn
namespace Go.Proofs.Ytongajonecgdpag
open Go.RowKit

theorem nil_eqc (w : World) (c : Nat) : Sem.run Try.prog (binOp BinOp.eql 37 (Value.slice none 0 c) (Value.slice none 0 0)) w = .ok (.bool true) w := by kernel_rfl
theorem nil_nec (w : World) (ad : Addr) (n c : Nat) : Sem.run Try.prog (binOp BinOp.eql 37 (Value.slice (some ad) n c) (Value.slice none 0 0)) w = .ok (.bool false) w := by kernel_rfl
theorem nil_eqs (w : World) (c : Nat) : Sem.run Try.prog (binOp BinOp.eql 36 (Value.slice none 0 c) (Value.slice none 0 0)) w = .ok (.bool true) w := by kernel_rfl
theorem nil_nes (w : World) (ad : Addr) (n c : Nat) : Sem.run Try.prog (binOp BinOp.eql 36 (Value.slice (some ad) n c) (Value.slice none 0 0)) w = .ok (.bool false) w := by kernel_rfl

theorem le20 {n : Nat} (h : n ≤ 20) : n = 0 ∨ n = 1 ∨ n = 2 ∨ n = 3 ∨ n = 4 ∨ n = 5 ∨ n = 6 ∨ n = 7 ∨ n = 8 ∨ n = 9 ∨ n = 10 ∨ n = 11 ∨ n = 12 ∨ n = 13 ∨ n = 14 ∨ n = 15 ∨ n = 16 ∨ n = 17 ∨ n = 18 ∨ n = 19 ∨ n = 20 := by omega
set_option maxHeartbeats 2000000 in
theorem Mul64_any (n : Nat) (hn : n ≤ 20) (w : World) :
    Calls Try.prog 94 #[.int .u64 1, .int .u64 (n : Int)] w fun e w' => e = .returned (.tuple #[.int .u64 0, .int .u64 (n : Int)]) ∧ w' = w := by
  rcases le20 hn with rfl | rfl | rfl | rfl | rfl | rfl | rfl | rfl | rfl | rfl | rfl | rfl | rfl | rfl | rfl | rfl | rfl | rfl | rfl | rfl | rfl
  all_goals
    go_enter Try.func94, Try.ntmps94
    go_wp2_with fail
    go_ret2
    exact ⟨rfl, rfl⟩
set_option maxHeartbeats 1000000 in
theorem Mul_any (n : Nat) (hn : n ≤ 20) (w : World) :
    Calls Try.prog 69 #[.int .u64 1, .int .u64 (n : Int)] w fun e w' => e = .returned (.tuple #[.int .u64 0, .int .u64 (n : Int)]) ∧ w' = w := by
  go_enter Try.func69, Try.ntmps69
  go_wp2_with fail
  refine (Mul64_any n hn _).mono ?_
  rintro e w1 ⟨rfl, rfl⟩
  go_wp2_with fail
  go_ret2
  exact ⟨rfl, rfl⟩

theorem two_split (n m : Nat) (h : m ≤ n) : partTo 0 (openV n) m = List.replicate m 2 ++ List.replicate (n - m) 0 := by
  simp [partTo, openV, Nat.min_eq_left h]
theorem two_splice (n m j : Nat) (hm : m + j ≤ n) : splice ((partTo 0 (openV n) m).map (fun x => Value.int .i64 x)) m (List.replicate j (.int .i64 2)) = (partTo 0 (openV n) (m + j)).map (fun x => Value.int .i64 x) := by
  rw [two_split n m (by omega), two_split n (m + j) hm]
  unfold splice
  simp only [List.map_append, List.map_replicate, List.length_replicate]
  rw [List.take_append_of_le_length (by simp), List.take_of_length_le (by simp)]
  rw [List.drop_append, List.drop_of_length_le (by simp)]
  simp only [List.length_replicate, List.nil_append, List.drop_replicate]
  rw [show n - m - (m + j - m) = n - (m + j) by omega, ← List.append_assoc, List.replicate_append_replicate]

theorem copy_twos (n m j : Nat) (hm : m + j ≤ n) : ((is64 (partTo 0 (openV n) m)).toList.take m ++ List.replicate j (Value.int .i64 2) ++ (is64 (partTo 0 (openV n) m)).toList.drop (m + (List.replicate j (Value.int .i64 2)).length)).toArray = is64 (partTo 0 (openV n) (m + j)) := by
  have h9 := two_splice n m j hm
  unfold splice at h9
  unfold is64
  rw [← h9, List.append_assoc]
theorem copy_run (w : World) (g n m j : Nat) (hm : m + j ≤ n) (hrow : IntRow w g (partTo 0 (openV n) m)) (dLen dCap : Nat) (a : Addr) (sLen sCap : Nat) (hsz1 : (Try.prog.info? 3).map (·.size) = some 1) (hn : j = Nat.min sLen dLen) (hsrc : ∀ i, i < j → w.cell? (a.add i) = some (.int .i64 2)) :
    (Builtin.copy_ #[37, 37] 3 #[.slice (some ⟨g, m, none⟩) dLen dCap, .slice (some a) sLen sCap]).run Try.prog w = .ok (.int .i64 (j : Int)) (w.setRow g (is64 (partTo 0 (openV n) (m + j)))) := by
  have h := run_copy_row (P := Try.prog) w 37 37 3 3 g m dLen dCap a sLen sCap (is64 (partTo 0 (openV n) m)) 3 (List.replicate j (.int .i64 2)) Try.underlying37 hsz1 hrow (by rw [List.length_replicate]; exact hn) (by
      intro i v hi
      have hij : i < j := by
        rcases Nat.lt_or_ge i j with h | h
        · exact h
        · rw [List.getElem?_eq_none (by simpa using h)] at hi; simp at hi
      rw [List.getElem?_replicate, if_pos hij] at hi
      have hi' := Option.some.inj hi
      rw [← hi']; exact hsrc i hij) (by
        simp only [is64, List.size_toArray, List.length_map, List.length_replicate]
        rw [partTo_len 0 (openV n) m (by simp [openV]; omega)]
        simpa [openV] using hm) (by intro v hv; rw [List.eq_of_mem_replicate hv]; rfl)
  rw [copy_twos n m j hm, List.length_replicate] at h
  exact h

set_option maxRecDepth 100000 in
set_option maxHeartbeats 2000000 in
theorem Repeat_any (n : Nat) (hn : n ≤ 20) (xa : Option Addr) (xc : Nat) (w : World) (hx : Ints w xa 1 [2]) :
    Calls Try.prog 39 #[.slice xa 1 xc, .int .i64 (n : Int)] w fun e w' => ∃ a c, e = .returned (.slice a n c) ∧ Ints w' a n (openV n) ∧ Fresh w.heap.size a n ∧ Below w.heap.size w w' := by
  obtain ⟨i0, hi, hz0, hz1, hz2⟩ := info_parts Try.infoInt
  have HSZ := hide (show (Try.prog.info? 3).map (·.size) = some 1 by rw [hi]; simp [hz1])
  have hn0 : ¬ (n : Int) < 0 := by omega
  obtain ⟨bx, ox, rfl, hbx, cx⟩ := hx.at (k := 0) (by simp)
  go_enter Try.func39, Try.ntmps39
  go_wp2_with fail
  refine (Mul_any n hn _).mono ?_
  rintro e w1 ⟨rfl, rfl⟩
  have hlo : ¬ (9223372036854775807 : Int) < (n : Int) := by omega
  go_wp2_with (at_make; refine wpList_make_full _ rfl _ _ 37 rfl w1.heap.size 3 i0 (.int .i64 0) 1 Try.underlying37 hi hz0 hz1 .i64 .i64 (n : Int) (n : Int) n rfl rfl rfl rfl ?c1 ?c2 ?c3 ?_)
  case c1 => rw [hz2]; omega
  case c2 => unfold maxLen; omega
  case c3 => exact Nat.le_refl _
  intro w2 hown hgrow
  have hb2 : Below w1.heap.size w1 w2 := (Below.refl _ _).grown hgrow (Nat.le_refl _) (fun k hk => by simp at hk)
  have hrow0 : IntRow w2 w1.heap.size (partTo 0 (openV n) 0) := by rw [partTo_zero]; simpa [openV] using made_introw hown
  have cx2 := (hb2.cell (p := ⟨bx, ox + 0, none⟩) hbx).trans cx
  have hcx : ∀ i, i < Nat.min 1 n → w2.cell? ((⟨bx, ox, none⟩ : Addr).add i) = some (.int .i64 2) := by
    intro i hi
    have h1 : Nat.min 1 n ≤ 1 := Nat.min_le_left _ _
    have : i = 0 := by omega
    subst this
    simpa [Addr.add] using cx2
  have hcp := copy_run w2 w1.heap.size n 0 (Nat.min 1 n) (by rw [Nat.zero_add]; exact Nat.min_le_right _ _) hrow0 n n ⟨bx, ox, none⟩ 1 xc (unhide HSZ) rfl hcx
  rw [Nat.zero_add] at hcp
  have hrow1 : IntRow (w2.setRow w1.heap.size (is64 (partTo 0 (openV n) (Nat.min 1 n)))) w1.heap.size (partTo 0 (openV n) (Nat.min 1 n)) := setRow_heap w2 w1.heap.size _ _ _ _ hrow0
  have hb3 : Below w1.heap.size w1 (w2.setRow w1.heap.size (is64 (partTo 0 (openV n) (Nat.min 1 n)))) := below_setRow hb2 (Nat.le_refl _) _
  have hm1 : Nat.min 1 n ≤ n := Nat.min_le_right _ _
  have hm0 : 0 < n → 0 < Nat.min 1 n := by intro h; show 0 < min 1 n; omega
  generalize Nat.min 1 n = m1 at *
  clear hown hgrow hi hz0 hz1 hz2 cx cx2 hcx
  go_wp2_with fail
  clear hcp
  generalize w2.setRow w1.heap.size (is64 (partTo 0 (openV n) m1)) = w3 at *
  go_loopw [8] (fun i wr => ∃ m : Nat, m ≤ n ∧ i = .int .i64 m ∧ (0 < n → 0 < m) ∧ IntRow wr w1.heap.size (partTo 0 (openV n) m) ∧ Below w1.heap.size w1 wr) (fun i _ => n - (intOf i).toNat)
  case atStart => exact ⟨m1, hm1, rfl, hm0, hrow1, hb3⟩
  case round =>
    clear hrow0 hrow1 hb3 hb2
    obtain ⟨m, hm, rfl, hpos, hrow, hbel⟩ := hrel
    by_cases hlt : m < n
    · have hmi : (m : Int) < (n : Int) := by omega
      have hm0' := hpos (by omega)
      obtain ⟨j, hj⟩ : ∃ j, j = Nat.min m (n - m) := ⟨_, rfl⟩
      have hj1 : j ≤ n - m := by rw [hj]; exact Nat.min_le_right _ _
      have hj2 : 0 < j := by rw [hj]; show 0 < min m (n - m); omega
      have hcp := copy_run wr.drew w1.heap.size n m j (by omega) hrow (n - m) (n - m) ⟨w1.heap.size, 0, none⟩ m n (unhide HSZ) hj (by
        intro i hi
        have hjm : j ≤ m := by rw [hj]; exact Nat.min_le_left _ _
        have hil : i < (partTo 0 (openV n) m).length := by rw [partTo_len 0 _ _ (by simp [openV]; omega)]; simp [openV]; omega
        have h9 := hrow.cell i hil
        have h10 : (partTo 0 (openV n) m)[i] = 2 := by
          simp only [two_split n m (by omega)]
          rw [List.getElem_append_left (by simp; omega)]
          simp
        rw [h10] at h9
        rw [addr_plus]
        simpa using h9)
      have R1 : IntRow (wr.drew.setRow w1.heap.size (is64 (partTo 0 (openV n) (m + j)))) w1.heap.size (partTo 0 (openV n) (m + j)) := setRow_heap wr.drew w1.heap.size _ _ _ _ hrow
      have R2 : Below w1.heap.size w1 (wr.drew.setRow w1.heap.size (is64 (partTo 0 (openV n) (m + j)))) := below_setRow hbel.drew (Nat.le_refl _) _
      have R := hide (And.intro R1 R2)
      have hmc : ¬ n = m := by omega
      clear R1 R2 hrow hj hbel
      go_wp2_with fail
      go_region
      all_goals clear hcp
      all_goals go_wp2_with fail
      all_goals exact ⟨⟨m + j, by omega, by first | rfl | go_num | simp, fun _ => by omega, (unhide R).1, (unhide R).2⟩, by simp [intOf]; omega⟩
    · have hmn : m = n := by omega
      subst hmn
      have hfull : partTo 0 (openV m) m = openV m := by
        have := partTo_full 0 (openV m)
        simpa [openV] using this
      rw [hfull] at hrow
      have hI := hrow.ints m (by simp [openV]) (by simp [openV]; unfold maxLen; omega)
      have hF := hrow.fresh (n := m) (Nat.le_refl _)
      clear hrow hfull
      go_wp2_with fail
      go_ret
      exact ⟨_, _, rfl, hI, hF, hbel⟩

theorem own_nil {w : World} {base : Nat} {e : TypeId} {size : Nat} {a : Option Addr} {n c k : Nat} {xs : List Value} (h : w.ownsRow base e size (.slice a n c) k xs) : a = none → c = 0 := by
  intro ha
  rcases h.2 with ⟨h1, _⟩ | ⟨g, cap, cur, hv, _⟩
  · injection h1 with _ _ h3
  · injection hv with h3 _ _; rw [ha] at h3; simp at h3

set_option maxRecDepth 100000 in
set_option maxHeartbeats 1000000 in
theorem CloneI_any (xs : List Int) (a : Option Addr) (n c : Nat) (w : World) (h : Ints w a n xs) (hn : n ≤ 100) :
    Calls Try.prog 42 #[.slice a n c] w fun e w' => ∃ a' c', e = .returned (.slice a' n c') ∧ Ints w' a' n xs ∧ Fresh w.heap.size a' n ∧ Hid (a' = none → c' = 0) ∧ Below w.heap.size w w' := by
  cases a with
  | none =>
    have hx : xs = [] := by
      rcases h.2.2 with h | ⟨b, off, h, _⟩
      · exact h
      · simp at h
    subst hx
    have hn0 : n = 0 := h.1
    subst hn0
    have hne := nil_eqc w c
    go_enter Try.func42, Try.ntmps42
    go_wp2_with fail
    go_ret
    exact ⟨_, _, rfl, Ints.none _, Or.inl rfl, fun _ => rfl, Below.refl _ _⟩
  | some ad =>
    obtain ⟨i0, hi, hz0, hz1, hz2⟩ := info_parts Try.infoInt
    have HI := hide h
    have HN := hide h.1
    have hne := nil_nec w ad n c
    clear h
    go_enter Try.func42, Try.ntmps42
    go_wp2_with (at_builtin; refine wpList_append_own _ rfl _ _ 37 rfl w.heap.size 3 i0 (.int .i64 0) 1 8 Try.underlying37 hi hz0 hz1 hz2 rfl (by decide) _ 0 (([] : List Int).map (fun x => Value.int .i64 x)) rfl (app_empty w w.heap.size w.heap.size rfl (Nat.le_refl _)) ad n c (xs.map (fun x => Value.int .i64 x)) rfl ?c0 ?c1 ?c2 ?c3 ?c4 ?c5 ?_)
    case c0 => have := unhide HN; simp; omega
    case c1 =>
      intro j u hj
      obtain ⟨h1, h2, h3⟩ := (unhide HI).below ((Below.refl _ w).alloc (Nat.le_refl _) (.cells #[] 3))
      rcases h3 with h3 | ⟨b, off, h4, _, hcell⟩
      · subst h3; simp at hj
      · simp at h4; subst h4
        have hj' : j < xs.length := by
          rcases Nat.lt_or_ge j xs.length with h | h
          · exact h
          · rw [List.getElem?_eq_none (by simpa using h)] at hj; simp at hj
        rw [addr_plus, hcell j hj']
        simpa [hj'] using hj
    case c2 =>
      intro u hu
      obtain ⟨z, _, rfl⟩ := List.mem_map.1 hu
      rfl
    case c3 => unfold maxLen; omega
    case c4 => omega
    case c5 => simp
    intro v' w3 hown' hgrow _
    have hb3 : Below w.heap.size w w3 := ((Below.refl _ w).alloc (Nat.le_refl _) _).grown hgrow (by simp) (fun k hk => by simp [Value.ownBlock] at hk; omega)
    have hown2 : w3.ownsRow w.heap.size 3 1 v' n (xs.map (fun x => Value.int .i64 x)) := by
      simpa using hown'
    obtain ⟨a2, c2, rfl, hI2⟩ := own_ints hown2 (by unfold maxLen; omega)
    have hF2 := own_fresh hown2
    have hN2 := hide (own_nil hown2)
    clear hown' hgrow hown2
    go_wp2_with fail
    go_ret
    exact ⟨_, _, rfl, hI2, hF2, hN2, hb3⟩

/-- Registers as cells. -/
def regsV : List (Bool × Int) → List Value
  | [] => []
  | r :: rs => .bool r.1 :: .int .i64 r.2 :: regsV rs
theorem regsV_len : ∀ rs : List (Bool × Int), (regsV rs).length = 2 * rs.length
  | [] => rfl
  | r :: rs => by simp only [regsV, List.length_cons, regsV_len rs]; omega
theorem regsV_at : ∀ (rs : List (Bool × Int)) (i : Nat) (hi : i < rs.length), (regsV rs)[i * 2]? = some (.bool rs[i].1) ∧ (regsV rs)[i * 2 + 1]? = some (.int .i64 rs[i].2)
  | r :: rs, 0, _ => ⟨rfl, rfl⟩
  | r :: rs, i + 1, hi => by
    have h := regsV_at rs i (by simpa using hi)
    have e1 : (i + 1) * 2 = i * 2 + 1 + 1 := by omega
    rw [e1]
    simp only [regsV, List.getElem?_cons_succ, List.getElem_cons_succ]
    exact h
theorem regsV_of : ∀ (rs : List (Bool × Int)) (j : Nat) (u : Value), (regsV rs)[j]? = some u → ∃ i, ∃ hi : i < rs.length, (j = i * 2 ∧ u = .bool rs[i].1) ∨ (j = i * 2 + 1 ∧ u = .int .i64 rs[i].2)
  | [], j, u, h => by simp [regsV] at h
  | r :: rs, 0, u, h => ⟨0, by simp, Or.inl ⟨rfl, by simp [regsV] at h; exact h.symm⟩⟩
  | r :: rs, 1, u, h => ⟨0, by simp, Or.inr ⟨rfl, by simp [regsV] at h; exact h.symm⟩⟩
  | r :: rs, j + 2, u, h => by
    have h' : (regsV rs)[j]? = some u := by simpa [regsV] using h
    obtain ⟨i, hi, h9⟩ := regsV_of rs j u h'
    refine ⟨i + 1, by simpa using hi, ?_⟩
    rcases h9 with ⟨h1, h2⟩ | ⟨h1, h2⟩
    · exact Or.inl ⟨by omega, by simpa using h2⟩
    · exact Or.inr ⟨by omega, by simpa using h2⟩
theorem regsV_one (rs : List (Bool × Int)) : ∀ u ∈ regsV rs, u.oneCell' = true := by
  intro u hu
  obtain ⟨j, hj⟩ := List.getElem?_of_mem hu
  obtain ⟨i, hi, h | h⟩ := regsV_of rs j u hj
  · rw [h.2]; rfl
  · rw [h.2]; rfl
theorem Regs.cells {w : World} {ad : Addr} {n : Nat} {rs : List (Bool × Int)} (h : Regs w (some ad) n rs) : ∀ j u, (regsV rs)[j]? = some u → w.cell? (ad.add j) = some u := by
  intro j u hj
  obtain ⟨i, hi, h9⟩ := regsV_of rs j u hj
  rcases h.2.2 with h0 | ⟨b, off, ha, _, hc⟩
  · subst h0; simp at hi
  · simp at ha; subst ha
    rw [addr_plus]
    rcases h9 with ⟨rfl, rfl⟩ | ⟨rfl, rfl⟩
    · exact (hc i hi).1
    · rw [← Nat.add_assoc]; exact (hc i hi).2
theorem own_regs {w : World} {base : Nat} {e : TypeId} {v : Value} {n : Nat} {rs : List (Bool × Int)} (h : w.ownsRow base e 2 v n (regsV rs)) (hn : n = rs.length) (hm : n ≤ maxLen) :
    ∃ a cap, v = .slice a n cap ∧ Regs w a n rs ∧ Fresh base a n := by
  rcases h.2 with ⟨h1, h2⟩ | ⟨g, cap, cur, hv, hg, hh, r⟩
  · subst h2
    have : rs = [] := List.eq_nil_of_length_eq_zero hn.symm
    exact ⟨_, _, h1, ⟨hn, by omega, Or.inl this⟩, Or.inl rfl⟩
  · refine ⟨_, cap, hv, ⟨hn, by omega, Or.inr ⟨g, 0, rfl, (Array.getElem?_eq_some_iff.1 hh).1, fun i hi => ?_⟩⟩, Or.inr ⟨g, 0, rfl, hg⟩⟩
    obtain ⟨h1, h2⟩ := regsV_at rs i hi
    have c1 := h.cells (g := g) (by rw [hv]; rfl) _ _ h1
    have c2 := h.cells (g := g) (by rw [hv]; rfl) _ _ h2
    rw [addr_plus] at c1 c2
    exact ⟨c1, by rw [← Nat.add_assoc] at c2; exact c2⟩
theorem Try.infoStore : (Try.prog.info? 48).map (fun i => (i.zero, i.size, i.bytes)) = some (some (.agg #[.bool false, .int .i64 0]), 2, 16) := by kernel_rfl
theorem Regs.none (w : World) : Regs w Option.none 0 [] := ⟨rfl, Nat.zero_le _, Or.inl rfl⟩

set_option maxRecDepth 100000 in
set_option maxHeartbeats 1000000 in
theorem CloneS_any (rs : List (Bool × Int)) (a : Option Addr) (n c : Nat) (w : World) (h : Regs w a n rs) (hn : n ≤ 100) :
    Calls Try.prog 41 #[.slice a n c] w fun e w' => ∃ a' c', e = .returned (.slice a' n c') ∧ Regs w' a' n rs ∧ Fresh w.heap.size a' n ∧ Below w.heap.size w w' := by
  cases a with
  | none =>
    have hx : rs = [] := by
      rcases h.2.2 with h | ⟨b, off, h, _⟩
      · exact h
      · simp at h
    subst hx
    have hn0 : n = 0 := h.1
    subst hn0
    have hne := nil_eqs w c
    go_enter Try.func41, Try.ntmps41
    go_wp2_with fail
    go_ret
    exact ⟨_, _, rfl, Regs.none _, Or.inl rfl, Below.refl _ _⟩
  | some ad =>
    obtain ⟨i0, hi, hz0, hz1, hz2⟩ := info_parts Try.infoStore
    have HI := hide h
    have HN := hide h.1
    have hne := nil_nes w ad n c
    clear h
    go_enter Try.func41, Try.ntmps41
    go_wp2_with (at_builtin; refine wpList_append_own _ rfl _ _ 36 rfl w.heap.size 48 i0 (.agg #[.bool false, .int .i64 0]) 2 16 Try.underlying36 hi hz0 hz1 hz2 rfl (by decide) _ 0 (regsV []) rfl (World.ownsRow_lit w #[] 0 (Nat.le_refl _) (Nat.zero_le _) rfl) ad n c (regsV rs) rfl ?c0 ?c1 ?c2 ?c3 ?c4 ?c5 ?_)
    case c0 => have := unhide HN; rw [regsV_len]; omega
    case c1 => exact ((unhide HI).below ((Below.refl _ w).alloc (Nat.le_refl _) (.cells #[] 48))).cells
    case c2 => exact regsV_one rs
    case c3 => unfold maxLen; omega
    case c4 => omega
    case c5 => simp
    intro v' w3 hown' hgrow _
    have hb3 : Below w.heap.size w w3 := ((Below.refl _ w).alloc (Nat.le_refl _) _).grown hgrow (by simp) (fun k hk => by simp [Value.ownBlock] at hk; omega)
    have hown2 : w3.ownsRow w.heap.size 48 2 v' n (regsV rs) := hown'
    obtain ⟨a2, c2, rfl, hI2, hF2⟩ := own_regs hown2 (unhide HN) (by unfold maxLen; omega)
    clear hown' hgrow hown2
    go_wp2_with fail
    go_ret
    exact ⟨_, _, rfl, hI2, hF2, hb3⟩

set_option maxHeartbeats 1000000 in
theorem open_any (n : Nat) (hn : n ≤ 20) (w : World) :
    Calls Try.prog 38 #[.int .i64 (n : Int)] w fun e w' => ∃ a c, e = .returned (.slice a n c) ∧ Ints w' a n (openV n) ∧ Below w.heap.size w w' := by
  have hal := (Below.refl _ w).alloc (Nat.le_refl _) (.cells #[.int .i64 2] 3)
  have hI := Ints.new w #[.int .i64 2] 3 1 [2] rfl rfl (lt_maxLen _ (by decide))
  go_enter Try.func38, Try.ntmps38
  go_wp2_with fail
  refine (Repeat_any n hn _ _ _ hI).mono ?_
  rintro e w1 ⟨a, c, rfl, h1, _, hb⟩
  go_wp2_with fail
  go_ret
  exact ⟨_, _, rfl, h1, bstep hal hb⟩

theorem ret_gate {k n : Int} {a : Option Addr} {m c : Nat} {k' n' : Int} (h1 : k = k') (h2 : n = n') : Ending.returned (.agg #[.int .i64 k, .int .i64 n, .slice a m c]) = .returned (.agg #[.int .i64 k', .int .i64 n', .slice a m c]) := by rw [h1, h2]
theorem held_g {w0 W : World} {b B : Nat} {u0 u1 u2 : Value} (hb : b < B) (h0 : w0.cell? ⟨b, 0, none⟩ = some u0) (h1 : w0.cell? ⟨b, 1, none⟩ = some u1) (h2 : w0.cell? ⟨b, 2, none⟩ = some u2) (h : Below B w0 W) :
    Below B w0 W ∧ W.cell? ⟨b, 0, none⟩ = some u0 ∧ W.cell? ⟨b, 1, none⟩ = some u1 ∧ W.cell? ⟨b, 2, none⟩ = some u2 :=
  ⟨h, (h.cell (p := ⟨b, 0, none⟩) hb).trans h0, (h.cell (p := ⟨b, 1, none⟩) hb).trans h1, (h.cell (p := ⟨b, 2, none⟩) hb).trans h2⟩

set_option maxRecDepth 100000 in
set_option maxHeartbeats 2000000 in
theorem fold_any (g : GateD) (aa : Option Addr) (an ac : Nat) (v : Int) (w : World) (hA : Ints w aa an g.args) (hfew : an ≤ 100) :
    Calls Try.prog 40 #[.agg #[.int .i64 g.kind, .int .i64 g.n, .slice aa an ac], .int .i64 v] w fun e w' => ∃ aa' an' ac', e = .returned (.agg #[.int .i64 (foldG v g).kind, .int .i64 (foldG v g).n, .slice aa' an' ac']) ∧ Ints w' aa' an' (foldG v g).args ∧ Fresh w.heap.size aa' an' ∧ Below w.heap.size w w' := by
  have hb0 : Below w.heap.size w (w.alloc (.cells #[.int .i64 g.kind, .int .i64 g.n, .slice aa an ac] 46)) := (Below.refl _ _).alloc (Nat.le_refl _) _
  have hg0 := GBox.new w g.kind g.n aa an ac 46
  have hb1 := (Below.refl _ (w.alloc (.cells #[.int .i64 g.kind, .int .i64 g.n, .slice aa an ac] 46))).alloc (Nat.le_refl _) (.cells #[.int .i64 0, .int .i64 0, .slice none 0 0] 46)
  have hc1 := Cells.new (w.alloc (.cells #[.int .i64 g.kind, .int .i64 g.n, .slice aa an ac] 46)) [.int .i64 0, .int .i64 0, .slice none 0 0] 46
  have hsz : (w.alloc (.cells #[.int .i64 g.kind, .int .i64 g.n, .slice aa an ac] 46)).heap.size = w.heap.size + 1 := by simp
  rw [hsz] at hc1
  have hg1 := hg0.below' hb1 hg0.1
  have hA1 := (hA.below hb0).below hb1
  have B1 := bstep hb0 hb1
  clear hg0 hb0 hb1 hsz hA
  obtain ⟨x0, x1, x2, x3⟩ := hg1
  by_cases e0 : v = 0
  · have HG := hide (show foldG v g = ⟨0, 0, []⟩ by unfold foldG; rw [if_pos e0])
    rw [unhide HG]
    clear HG
    subst e0
    clear x1 x2 x3 hc1 hA1
    go_enter Try.func40, Try.ntmps40
    go_wp2_with fail
    exact bodyPost_ret (v := .agg #[.int .i64 0, .int .i64 0, .slice none 0 0]) (by simp [results, Try.results40, go_sem]) rfl ⟨_, _, _, rfl, Ints.none _, Or.inl rfl, B1⟩
  by_cases e1 : v = 1
  · have HG := hide (show foldG v g = ⟨1, 0, []⟩ by unfold foldG; rw [if_neg e0, if_pos e1])
    rw [unhide HG]
    clear HG
    subst e1
    have B2 : Below w.heap.size w ((w.alloc (.cells #[.int .i64 g.kind, .int .i64 g.n, .slice aa an ac] 46)).alloc (.cells #[.int .i64 1, .int .i64 0, .slice none 0 0] 46)) := ((Below.refl _ _).alloc (Nat.le_refl _) _).alloc (by simp) _
    clear x1 x2 x3 hc1 hA1
    go_enter Try.func40, Try.ntmps40
    go_wp2_with fail
    exact bodyPost_ret (v := .agg #[.int .i64 1, .int .i64 0, .slice none 0 0]) (by simp [results, Try.results40, go_sem]) rfl ⟨_, _, _, rfl, Ints.none _, Or.inl rfl, B2⟩
  have HG := hide (show foldG v g = g by unfold foldG; rw [if_neg e0, if_neg e1])
  rw [unhide HG]
  clear HG
  have q0 : (v == 0) = false := by simp [e0]
  have q1 : (v == 1) = false := by simp [e1]
  have hlt1 := hc1.lt
  go_enter Try.func40, Try.ntmps40
  go_wp2_with fail
  generalize hw1 : (w.alloc (.cells #[.int .i64 g.kind, .int .i64 g.n, .slice aa an ac] 46)).alloc (.cells #[.int .i64 0, .int .i64 0, .slice none 0 0] 46) = w1 at *
  clear hw1
  have hbd := (Below.refl w1.heap.size w1).drew
  go_region_held3 (fun W => Below (w.heap.size + 1) w1 W ∧ W.cell? ⟨w.heap.size, 0, none⟩ = some (.int .i64 g.kind) ∧ W.cell? ⟨w.heap.size, 1, none⟩ = some (.int .i64 g.n) ∧ W.cell? ⟨w.heap.size, 2, none⟩ = some (.slice aa an ac))
    ((first | exact held_g (Nat.lt_succ_self _) x1 x2 x3 (Below.refl _ _).drew | exact held_g (Nat.lt_succ_self _) x1 x2 x3 (hSB.mono (Nat.le_of_lt hlt1)) | exact held_g (Nat.lt_succ_self _) x1 x2 x3 ((((hSB.mono (Nat.le_of_lt hlt1)).setCell (Nat.le_refl _) _).setCell (Nat.le_refl _) _).setCell (Nat.le_refl _) _)))
    ((first
      | (go_at_call 42; refine (CloneI_any g.args aa an ac _ (hA1.below hbd) hfew).mono ?_; rintro e wB ⟨aB, cB, rfl, hIB, hFB, hNB, hbB⟩; have hSB := bstep hbd hbB; have hcB := hc1.below hSB hlt1; have z0 := hcB.cell 0; have z1 := hcB.cell 1; have z2 := hcB.cell 2; have f0 := hcB.frozen 0; have f1 := hcB.frozen 1; have f2 := hcB.frozen 2)))
  have hc5 := ((hcB.set 0 (.int .i64 g.kind)).set 1 (.int .i64 g.n)).set 2 (.slice aB an cB)
  have y0 := hc5.cell 0
  have y1 := hc5.cell 1
  have y2 := hc5.cell 2
  have hF5 := hFB.down (b' := w.heap.size) (Nat.le_trans B1.size hbd.size)
  have hs1 := B1.size
  have hI5 : Ints (((wB.setCell ⟨w.heap.size + 1, 0, none⟩ (.int .i64 g.kind)).setCell ⟨w.heap.size + 1, 1, none⟩ (.int .i64 g.n)).setCell ⟨w.heap.size + 1, 2, none⟩ (.slice aB an cB)) aB an g.args := by
    obtain ⟨h1, h2, h3⟩ := hIB
    refine ⟨h1, h2, ?_⟩
    rcases h3 with h3 | ⟨b, off, ha, hl, hc⟩
    · exact Or.inl h3
    · rcases hFB with hF | ⟨b', off', ha', hB⟩
      · left; exact List.length_eq_zero_iff.1 (by omega)
      · rw [ha] at ha'
        injection ha' with ha'
        injection ha' with e1 e2 _
        subst e1
        have hbne : b ≠ w.heap.size + 1 := by have h9 : w1.heap.size ≤ b := hB; omega
        refine Or.inr ⟨b, off, ha, by simpa using hl, fun i hi => ?_⟩
        rw [World.cell?_of_block (a := ⟨b, off + i, none⟩) ((Below.heap_setCell _ _ _ _ hbne).trans ((Below.heap_setCell _ _ _ _ hbne).trans (Below.heap_setCell _ _ _ _ hbne)))]
        exact hc i hi
  have B5 := (((bstep B1 hSB).setCell (p := ⟨w.heap.size + 1, 0, none⟩) (Nat.le_succ _) (.int .i64 g.kind)).setCell (p := ⟨w.heap.size + 1, 1, none⟩) (Nat.le_succ _) (.int .i64 g.n)).setCell (p := ⟨w.heap.size + 1, 2, none⟩) (Nat.le_succ _) (.slice aB an cB)
  clear hcB hIB hFB hbB hSB z0 z1 z2 f0 f1 f2
  go_wp2_with fail
  exact bodyPost_ret (v := .agg #[.int .i64 g.kind, .int .i64 g.n, .slice aB an cB]) (by simp [results, Try.results40, go_sem, y0, y1, y2]) rfl ⟨_, _, _, rfl, hI5, hF5, B5⟩
end Go.Proofs.Ytongajonecgdpag
