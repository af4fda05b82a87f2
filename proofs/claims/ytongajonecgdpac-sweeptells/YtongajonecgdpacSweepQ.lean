/- slices.Repeat. -/
import Derived.Test.YtongajonecgdpacSweepP
namespace Go.Proofs.Ytongajonecgdpac
open Go.RowKit

theorem two_split (n m : Nat) (h : m ≤ n) : partTo 0 (openV n) m = List.replicate m 2 ++ List.replicate (n - m) 0 := by
  simp [partTo, openV, Nat.min_eq_left h]
theorem two_splice (n m j : Nat) (hm : m + j ≤ n) : splice ((partTo 0 (openV n) m).map (fun x => Value.int .i64 x)) m (List.replicate j (.int .i64 2)) = (partTo 0 (openV n) (m + j)).map (fun x => Value.int .i64 x) := by
  rw [two_split n m (by omega), two_split n (m + j) hm]
  unfold splice
  simp only [List.map_append, List.map_replicate, List.length_replicate]
  rw [List.take_append_of_le_length (by simp), List.take_of_length_le (by simp)]
  rw [List.drop_append, List.drop_of_length_le (by simp)]
  simp only [List.length_replicate, List.nil_append, List.drop_replicate]
  rw [show n - m - (m + j - m) = n - (m + j) by omega, ← List.append_assoc, List.replicate_append_replicate]

theorem copy_twos (n m j : Nat) (hm : m + j ≤ n) : ((is64 (partTo 0 (openV n) m)).toList.take m ++ List.replicate j (Value.int .i64 2) ++ (is64 (partTo 0 (openV n) m)).toList.drop (m + (List.replicate j (Value.int .i64 2)).length)).toArray = is64 (partTo 0 (openV n) (m + j)) := by
  have h9 := two_splice n m j hm
  unfold splice at h9
  unfold is64
  rw [← h9, List.append_assoc]
theorem copy_run (w : World) (g n m j : Nat) (hm : m + j ≤ n) (hrow : IntRow w g (partTo 0 (openV n) m)) (dLen dCap : Nat) (a : Addr) (sLen sCap : Nat) (hsz1 : (Try.prog.info? 3).map (·.size) = some 1) (hn : j = Nat.min sLen dLen) (hsrc : ∀ i, i < j → w.cell? (a.add i) = some (.int .i64 2)) :
    (Builtin.copy_ #[24, 24] 3 #[.slice (some ⟨g, m, none⟩) dLen dCap, .slice (some a) sLen sCap]).run Try.prog w = .ok (.int .i64 (j : Int)) (w.setRow g (is64 (partTo 0 (openV n) (m + j)))) := by
  have h := run_copy_row (P := Try.prog) w 24 24 3 3 g m dLen dCap a sLen sCap (is64 (partTo 0 (openV n) m)) 3 (List.replicate j (.int .i64 2)) Try.underlying24 hsz1 hrow (by rw [List.length_replicate]; exact hn) (by
      intro i v hi
      have hij : i < j := by
        rcases Nat.lt_or_ge i j with h | h
        · exact h
        · rw [List.getElem?_eq_none (by simpa using h)] at hi; simp at hi
      rw [List.getElem?_replicate, if_pos hij] at hi
      have hi' := Option.some.inj hi
      rw [← hi']; exact hsrc i hij) (by
        simp only [is64, List.size_toArray, List.length_map, List.length_replicate]
        rw [partTo_len 0 (openV n) m (by simp [openV]; omega)]
        simpa [openV] using hm) (by intro v hv; rw [List.eq_of_mem_replicate hv]; rfl)
  rw [copy_twos n m j hm, List.length_replicate] at h
  exact h

set_option maxRecDepth 100000 in
set_option maxHeartbeats 2000000 in
theorem Repeat_any (n : Nat) (hn : n ≤ 20) (xa : Option Addr) (xc : Nat) (w : World) (hx : Ints w xa 1 [2]) :
    Calls Try.prog 41 #[.slice xa 1 xc, .int .i64 (n : Int)] w fun e w' => ∃ a c, e = .returned (.slice a n c) ∧ Ints w' a n (openV n) ∧ Fresh w.heap.size a n ∧ Below w.heap.size w w' := by
  obtain ⟨i0, hi, hz0, hz1, hz2⟩ := info_parts Try.infoInt
  have HSZ := hide (show (Try.prog.info? 3).map (·.size) = some 1 by rw [hi]; simp [hz1])
  have hn0 : ¬ (n : Int) < 0 := by omega
  obtain ⟨bx, ox, rfl, hbx, cx⟩ := hx.at (k := 0) (by simp)
  go_enter Try.func41, Try.ntmps41
  go_wp2_with fail
  refine (Mul_any n hn _).mono ?_
  rintro e w1 ⟨rfl, rfl⟩
  have hlo : ¬ (9223372036854775807 : Int) < (n : Int) := by omega
  go_wp2_with (at_make; refine wpList_make_full _ rfl _ _ 24 rfl w1.heap.size 3 i0 (.int .i64 0) 1 Try.underlying24 hi hz0 hz1 .i64 .i64 (n : Int) (n : Int) n rfl rfl rfl rfl ?c1 ?c2 ?c3 ?_)
  case c1 => rw [hz2]; omega
  case c2 => unfold maxLen; omega
  case c3 => exact Nat.le_refl _
  intro w2 hown hgrow
  have hb2 : Below w1.heap.size w1 w2 := (Below.refl _ _).grown hgrow (Nat.le_refl _) (fun k hk => by simp at hk)
  have hrow0 : IntRow w2 w1.heap.size (partTo 0 (openV n) 0) := by rw [partTo_zero]; simpa [openV] using made_introw hown
  have cx2 := (hb2.cell (p := ⟨bx, ox + 0, none⟩) hbx).trans cx
  have hcx : ∀ i, i < Nat.min 1 n → w2.cell? ((⟨bx, ox, none⟩ : Addr).add i) = some (.int .i64 2) := by
    intro i hi
    have h1 : Nat.min 1 n ≤ 1 := Nat.min_le_left _ _
    have : i = 0 := by omega
    subst this
    simpa [Addr.add] using cx2
  have hcp := copy_run w2 w1.heap.size n 0 (Nat.min 1 n) (by rw [Nat.zero_add]; exact Nat.min_le_right _ _) hrow0 n n ⟨bx, ox, none⟩ 1 xc (unhide HSZ) rfl hcx
  rw [Nat.zero_add] at hcp
  have hrow1 : IntRow (w2.setRow w1.heap.size (is64 (partTo 0 (openV n) (Nat.min 1 n)))) w1.heap.size (partTo 0 (openV n) (Nat.min 1 n)) := setRow_heap w2 w1.heap.size _ _ _ _ hrow0
  have hb3 : Below w1.heap.size w1 (w2.setRow w1.heap.size (is64 (partTo 0 (openV n) (Nat.min 1 n)))) := below_setRow hb2 (Nat.le_refl _) _
  have hm1 : Nat.min 1 n ≤ n := Nat.min_le_right _ _
  have hm0 : 0 < n → 0 < Nat.min 1 n := by intro h; show 0 < min 1 n; omega
  generalize Nat.min 1 n = m1 at *
  clear hown hgrow hi hz0 hz1 hz2 cx cx2 hcx
  go_wp2_with fail
  clear hcp
  generalize w2.setRow w1.heap.size (is64 (partTo 0 (openV n) m1)) = w3 at *
  go_loopw [8] (fun i wr => ∃ m : Nat, m ≤ n ∧ i = .int .i64 m ∧ (0 < n → 0 < m) ∧ IntRow wr w1.heap.size (partTo 0 (openV n) m) ∧ Below w1.heap.size w1 wr) (fun i _ => n - (intOf i).toNat)
  case atStart => exact ⟨m1, hm1, rfl, hm0, hrow1, hb3⟩
  case round =>
    clear hrow0 hrow1 hb3 hb2
    obtain ⟨m, hm, rfl, hpos, hrow, hbel⟩ := hrel
    by_cases hlt : m < n
    · have hmi : (m : Int) < (n : Int) := by omega
      have hm0' := hpos (by omega)
      obtain ⟨j, hj⟩ : ∃ j, j = Nat.min m (n - m) := ⟨_, rfl⟩
      have hj1 : j ≤ n - m := by rw [hj]; exact Nat.min_le_right _ _
      have hj2 : 0 < j := by rw [hj]; show 0 < min m (n - m); omega
      have hcp := copy_run wr.drew w1.heap.size n m j (by omega) hrow (n - m) (n - m) ⟨w1.heap.size, 0, none⟩ m n (unhide HSZ) hj (by
        intro i hi
        have hjm : j ≤ m := by rw [hj]; exact Nat.min_le_left _ _
        have hil : i < (partTo 0 (openV n) m).length := by rw [partTo_len 0 _ _ (by simp [openV]; omega)]; simp [openV]; omega
        have h9 := hrow.cell i hil
        have h10 : (partTo 0 (openV n) m)[i] = 2 := by
          simp only [two_split n m (by omega)]
          rw [List.getElem_append_left (by simp; omega)]
          simp
        rw [h10] at h9
        rw [addr_plus]
        simpa using h9)
      have R1 : IntRow (wr.drew.setRow w1.heap.size (is64 (partTo 0 (openV n) (m + j)))) w1.heap.size (partTo 0 (openV n) (m + j)) := setRow_heap wr.drew w1.heap.size _ _ _ _ hrow
      have R2 : Below w1.heap.size w1 (wr.drew.setRow w1.heap.size (is64 (partTo 0 (openV n) (m + j)))) := below_setRow hbel.drew (Nat.le_refl _) _
      have R := hide (And.intro R1 R2)
      have hmc : ¬ n = m := by omega
      clear R1 R2 hrow hj hbel
      go_wp2_with fail
      go_region
      all_goals clear hcp
      all_goals go_wp2_with fail
      all_goals exact ⟨⟨m + j, by omega, by first | rfl | go_num | simp, fun _ => by omega, (unhide R).1, (unhide R).2⟩, by simp [intOf]; omega⟩
    · have hmn : m = n := by omega
      subst hmn
      have hfull : partTo 0 (openV m) m = openV m := by
        have := partTo_full 0 (openV m)
        simpa [openV] using this
      rw [hfull] at hrow
      have hI := hrow.ints m (by simp [openV]) (by simp [openV]; unfold maxLen; omega)
      have hF := hrow.fresh (n := m) (Nat.le_refl _)
      clear hrow hfull
      go_wp2_with fail
      go_ret
      exact ⟨_, _, rfl, hI, hF, hbel⟩
end Go.Proofs.Ytongajonecgdpac
