/- The document's tick: what is picked, what is next, bits, power. -/
import Derived.Test.YtongajonecgdpagEvalM
namespace Go.Proofs.Ytongajonecgdpag
open Go.RowKit

set_option maxHeartbeats 1000000 in
theorem picked_any (v l : List Int) (va la : Option Addr) (vn vc ln lc : Nat) (w : World) (hv : Ints w va vn v) (hl : Ints w la ln l) (hln : ln ≤ 200) (hin : ∀ k (hk : k < l.length), 0 ≤ l[k] ∧ l[k] < v.length) :
    Calls Try.prog 53 #[.slice va vn vc, .slice la ln lc] w fun e w' => ∃ a n c, e = .returned (.slice a n c) ∧ Ints w' a n (pickV v l) ∧ Fresh w.heap.size a n ∧ Below w.heap.size w w' := by
  have HLL : Hid (l.length = ln) := hl.1.symm
  have hll : ln ≤ l.length := by have := HLL.out; omega
  have HVN := hide hv.1
  have HIN := hide hin
  clear hin
  obtain ⟨i0, hi, hz0, hz1, hz2⟩ := info_parts Try.infoInt
  go_enter Try.func53, Try.ntmps53
  go_wp2_with fail
  go_loopw [5, 6] (fun v' i wr => ∃ k : Nat, k ≤ ln ∧ i = .int .i64 k ∧ wr.ownsRow w.heap.size 3 1 v' k (intsV ((pickV v l).take k)) ∧ Below w.heap.size w wr) (fun _ i _ => ln - (intOf i).toNat)
  case atStart => exact ⟨0, Nat.zero_le _, rfl, World.ownsRow_nil _ _ _ _, Below.refl _ _⟩
  case round =>
    obtain ⟨k, hk, rfl, hown, hbel⟩ := hrel
    by_cases hlt : k < ln
    · have hltl : k < l.length := by omega
      have hki : (k : Int) < (ln : Int) := by omega
      obtain ⟨b, off, rfl, hbb, c1⟩ := (hl.below hbel).at hltl
      obtain ⟨hp, hq⟩ := (unhide HIN) k hltl
      have hql : l[k].toNat < v.length := by omega
      have hqn : l[k] < (vn : Int) := by have := unhide HVN; omega
      obtain ⟨b2, off2, rfl, hbb2, c2⟩ := (hv.below hbel).at hql
      have HT := hide (show intsV ((pickV v l).take (k + 1)) = intsV ((pickV v l).take k) ++ [.int .i64 v[l[k].toNat]] by
        rw [intsV_succ _ _ (by rw [pickV_len]; exact hltl)]
        simp [pickV, List.getD_eq_getElem?_getD, hql])
      go_wp2_with (at_builtin; refine wpList_append_own _ rfl _ _ 37 rfl (w.heap.size) 3 i0 (.int .i64 0) 1 8 Try.underlying37 hi hz0 hz1 hz2 rfl (by decide) _ _ _ rfl (hown.alloc _) ⟨wr.heap.size, 0, none⟩ 1 1 [.int .i64 (v[l[k].toNat])] rfl rfl ?c1 ?c2 ?c3 ?c4 ?c5 ?_)
      case c1 =>
        intro j u hj
        match j, hj with
        | 0, hj => simp at hj; subst hj; simp [Addr.add]
      case c2 => intro u hu; simp at hu; subst hu; rfl
      case c3 => unfold maxLen; omega
      case c4 => omega
      case c5 => have := hbel.size; simp; omega
      intro v' w3 hown' hgrow _
      have hown2 := hown'
      rw [← unhide HT] at hown2
      have hb9 : Below (w.heap.size) wr w3 := ((Below.refl _ wr).alloc (hbel.size) _).grown hgrow (by have := hbel.size; simp; omega) (fun k hk => (hown.lt k hk).1)
      have hb3 : Below w.heap.size w w3 := hbel.trans hb9
      clear hown' hgrow
      have R := And.intro hown2 hb3
      clear hown c1 c2
      go_wp2_with fail
      exact ⟨⟨k + 1, by omega, by go_num, R.1, R.2⟩, by simp [intOf]; omega⟩
    · have hkn : k = ln := by omega
      rw [List.take_of_length_le (by rw [pickV_len]; have := HLL.out; omega)] at hown
      obtain ⟨a2, c2, hv', hI⟩ := own_ints hown (by unfold maxLen; omega)
      rw [hv'] at hown ⊢
      have hF := own_fresh hown
      clear hv' hown hkn
      go_wp2_with fail
      go_ret
      exact ⟨_, _, _, rfl, hI, hF, hbel⟩


set_option maxHeartbeats 1000000 in
theorem nexts_any (d : NetD) (ins : Int) (ga ra oa : Option Addr) (gn gc rn rc on oc : Nat) (w : World) (h : NetAt w d ins ga gn ra rn oa on) (hrn : rn ≤ 20) :
    Calls Try.prog 78 #[.agg #[.int .i64 ins, .slice ga gn gc, .slice ra rn rc, .slice oa on oc]] w fun e w' => ∃ a n c, e = .returned (.slice a n c) ∧ Ints w' a n (nextsV d) ∧ Below w.heap.size w w' := by
  have hb0 : Below w.heap.size w (w.alloc (.cells #[.int .i64 ins, .slice ga gn gc, .slice ra rn rc, .slice oa on oc] 39)) := (Below.refl _ _).alloc (Nat.le_refl _) _
  have hbox : Boxed (w.alloc (.cells #[.int .i64 ins, .slice ga gn gc, .slice ra rn rc, .slice oa on oc] 39)) w.heap.size ins ga gn gc ra rn rc oa on oc := Boxed.new _ _ _ _ _ _ _ _ _ _ _ _
  have HR : Hid (d.regs.length = rn) := h.regs.1.symm
  have hrs := h.regs
  have hrl : rn ≤ d.regs.length := by have := HR.out; omega
  obtain ⟨i0, hi, hz0, hz1, hz2⟩ := info_parts Try.infoInt
  clear h
  go_enter Try.func78, Try.ntmps78
  go_wp2_with fail
  go_loopw [3, 4] (fun v i wr => ∃ k : Nat, k ≤ rn ∧ i = .int .i64 k ∧ wr.ownsRow (w.heap.size + 1) 3 1 v k (intsV ((nextsV d).take k)) ∧ Below w.heap.size w wr ∧ Boxed wr w.heap.size ins ga gn gc ra rn rc oa on oc) (fun _ i _ => rn - (intOf i).toNat)
  case atStart => exact ⟨0, Nat.zero_le _, rfl, World.ownsRow_nil _ _ _ _, hb0, hbox⟩
  case round =>
    clear hb0 hbox
    obtain ⟨k, hk, rfl, hown, hbel, hbx⟩ := hrel
    have hbx0 := hbx
    obtain ⟨x0, x1, x2, x3, x4⟩ := hbx
    by_cases hlt : k < rn
    · have hltg : k < d.regs.length := by omega
      have hki : (k : Int) < (rn : Int) := by omega
      obtain ⟨b, off, rfl, hbb, c1, c2⟩ := (hrs.below hbel).at hltg
      have HT := hide (show intsV ((nextsV d).take (k + 1)) = intsV ((nextsV d).take k) ++ [.int .i64 d.regs[k].2] by
        rw [intsV_succ _ _ (by rw [nextsV_len]; exact hltg)]
        simp [nextsV])
      go_wp2_with (at_builtin; refine wpList_append_own _ rfl _ _ 37 rfl (w.heap.size + 1) 3 i0 (.int .i64 0) 1 8 Try.underlying37 hi hz0 hz1 hz2 rfl (by decide) _ _ _ rfl (hown.alloc _) ⟨wr.heap.size, 0, none⟩ 1 1 [.int .i64 (d.regs[k].2)] rfl rfl ?c1 ?c2 ?c3 ?c4 ?c5 ?_)
      case c1 =>
        intro j u hj
        match j, hj with
        | 0, hj => simp at hj; subst hj; simp [Addr.add]
      case c2 => intro u hu; simp at hu; subst hu; rfl
      case c3 => unfold maxLen; omega
      case c4 => omega
      case c5 => have := hbel.size; simp; omega
      intro v' w3 hown' hgrow _
      have hown2 := hown'
      rw [← unhide HT] at hown2
      have hb9 : Below (w.heap.size + 1) wr w3 := ((Below.refl _ wr).alloc (Nat.succ_le_of_lt x0) _).grown hgrow (by have := hbel.size; simp; omega) (fun k hk => (hown.lt k hk).1)
      have hb3 : Below w.heap.size w w3 := hbel.trans (hb9.mono (Nat.le_succ _))
      have hbx3 := hbx0.below' hb9 (Nat.lt_succ_self _)
      clear hown' hgrow
      have R := And.intro hown2 (And.intro hb3 hbx3)
      clear hown x1 x2 x3 x4 c1 c2
      go_wp2_with fail
      exact ⟨⟨k + 1, by omega, by go_num, R.1, R.2.1, R.2.2⟩, by simp [intOf]; omega⟩
    · have hkn : k = rn := by omega
      rw [List.take_of_length_le (by rw [nextsV_len]; have := HR.out; omega)] at hown
      obtain ⟨a2, c2, hv, hI⟩ := own_ints hown (by unfold maxLen; omega)
      rw [hv]
      clear hv hown hkn
      go_wp2_with fail
      go_ret
      exact ⟨_, _, _, rfl, hI, hbel⟩

theorem power_le (m : Nat) (h : m ≤ 20) : (2 : Int) ^ m ≤ 1048576 := by
  have h1 : 2 ^ m ≤ 1048576 := Nat.le_trans (Nat.pow_le_pow_right (n := 2) (by decide) h) (by decide)
  have h2 : ((2 ^ m : Nat) : Int) ≤ 1048576 := Int.ofNat_le.mpr h1
  rw [Int.natCast_pow] at h2
  exact h2
end Go.Proofs.Ytongajonecgdpag
