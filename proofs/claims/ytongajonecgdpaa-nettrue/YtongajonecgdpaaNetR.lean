/- The document's answer of Begin; the statements' own net (knot). -/
import Derived.Test.YtongajonecgdpaaNetQ
namespace Go.Proofs.Ytongajonecgdpaa
open Go.RowKit

def begTo (d : NetD) (k : Nat) : List Value := ((begins d).take k).map (fun x => Value.int .i64 x)
theorem begTo_succ (d : NetD) (k : Nat) (h : k < d.regs.length) : begTo d (k + 1) = begTo d k ++ [.int .i64 (if d.regs[k].1 = true then 1 else 0)] := by
  have hk : k < (begins d).length := by simpa [begins] using h
  unfold begTo
  rw [List.take_succ_eq_append_getElem hk, List.map_append]
  simp [begins]
theorem begTo_full (d : NetD) (k : Nat) (h : d.regs.length ≤ k) : begTo d k = (begins d).map (fun x => Value.int .i64 x) := by
  unfold begTo; rw [List.take_of_length_le (by simpa [begins] using h)]

set_option maxHeartbeats 1000000 in
theorem BeginOf_any (d : NetD) (ins : Int) (ga ra oa : Option Addr) (gn gc rn rc on oc : Nat) (w : World) (h : NetAt w d ins ga gn ra rn oa on) (hrn : rn ≤ 20) :
    Calls Try.prog 22 #[.agg #[.int .i64 ins, .slice ga gn gc, .slice ra rn rc, .slice oa on oc]] w fun e w' => ∃ a n c, e = .returned (.slice a n c) ∧ Ints w' a n (begins d) ∧ Below w.heap.size w w' := by
  have hb0 : Below w.heap.size w (w.alloc (.cells #[.int .i64 ins, .slice ga gn gc, .slice ra rn rc, .slice oa on oc] 37)) := (Below.refl _ _).alloc (Nat.le_refl _) _
  have hbox : Boxed (w.alloc (.cells #[.int .i64 ins, .slice ga gn gc, .slice ra rn rc, .slice oa on oc] 37)) w.heap.size ins ga gn gc ra rn rc oa on oc := Boxed.new _ _ _ _ _ _ _ _ _ _ _ _
  have HR : Hid (d.regs.length = rn) := h.regs.1.symm
  have hrs := h.regs
  have hrl : rn ≤ d.regs.length := by have := HR.out; omega
  have hrl2 : d.regs.length ≤ rn := by have := HR.out; omega
  obtain ⟨i0, hi, hz0, hz1, hz2⟩ := info_parts Try.infoInt
  clear h
  go_enter Try.func22, Try.ntmps22
  go_wp2_with fail
  go_loopw [3, 4] (fun v i wr => ∃ k : Nat, k ≤ rn ∧ i = .int .i64 k ∧ wr.ownsRow (w.heap.size + 1) 3 1 v k (begTo d k) ∧ Below w.heap.size w wr ∧ Boxed wr w.heap.size ins ga gn gc ra rn rc oa on oc) (fun _ i _ => rn - (intOf i).toNat)
  case atStart => exact ⟨0, Nat.zero_le _, rfl, World.ownsRow_nil _ _ _ _, hb0, hbox⟩
  case round =>
    clear hb0 hbox
    obtain ⟨k, hk, rfl, hown, hbel, hbx⟩ := hrel
    have hbx0 := hbx
    obtain ⟨x0, x1, x2, x3, x4⟩ := hbx
    by_cases hlt : k < rn
    · have hltg : k < d.regs.length := by omega
      have hki : (k : Int) < (rn : Int) := by omega
      obtain ⟨b, off, rfl, hbb, c1, c2⟩ := (hrs.below hbel).at hltg
      cases e : d.regs[k].1
      · have HT : Hid (begTo d (k + 1) = begTo d k ++ [.int .i64 0]) := by rw [begTo_succ d k hltg, e]; rfl
        rw [e] at c1
        clear e
        go_wp2_with (at_builtin; refine wpList_append_own _ rfl _ _ 22 rfl (w.heap.size + 1) 3 i0 (.int .i64 0) 1 8 Try.underlying22 hi hz0 hz1 hz2 rfl (by decide) _ _ _ rfl (hown.alloc _) ⟨wr.heap.size, 0, none⟩ 1 1 [.int .i64 0] rfl rfl ?c1 ?c2 ?c3 ?c4 ?c5 ?_)
        case c1 =>
          intro j u hj
          match j, hj with
          | 0, hj => simp at hj; subst hj; simp [Addr.add]
        case c2 => intro u hu; simp at hu; subst hu; rfl
        case c3 => unfold maxLen; omega
        case c4 => omega
        case c5 => simp; omega
        intro v' w3 hown' hgrow _
        have hown2 := hown'
        rw [← HT.out] at hown2
        have hb9 : Below (w.heap.size + 1) wr w3 := ((Below.refl _ wr).alloc (Nat.succ_le_of_lt x0) _).grown hgrow (by simp; omega) (fun k hk => (hown.lt k hk).1)
        have hb3 : Below w.heap.size w w3 := hbel.trans (hb9.mono (Nat.le_succ _))
        have hbx3 := hbx0.below' hb9 (Nat.lt_succ_self _)
        clear hown' hgrow
        have R := And.intro hown2 (And.intro hb3 hbx3)
        clear hown x1 x2 x3 x4 c1 c2
        go_wp2_with fail
        exact ⟨⟨k + 1, by omega, by go_num, R.1, R.2.1, R.2.2⟩, by simp [intOf]; omega⟩
      · have HT : Hid (begTo d (k + 1) = begTo d k ++ [.int .i64 1]) := by rw [begTo_succ d k hltg, e]; rfl
        rw [e] at c1
        clear e
        go_wp2_with (at_builtin; refine wpList_append_own _ rfl _ _ 22 rfl (w.heap.size + 1) 3 i0 (.int .i64 0) 1 8 Try.underlying22 hi hz0 hz1 hz2 rfl (by decide) _ _ _ rfl (hown.alloc _) ⟨wr.heap.size, 0, none⟩ 1 1 [.int .i64 1] rfl rfl ?c1 ?c2 ?c3 ?c4 ?c5 ?_)
        case c1 =>
          intro j u hj
          match j, hj with
          | 0, hj => simp at hj; subst hj; simp [Addr.add]
        case c2 => intro u hu; simp at hu; subst hu; rfl
        case c3 => unfold maxLen; omega
        case c4 => omega
        case c5 => simp; omega
        intro v' w3 hown' hgrow _
        have hown2 := hown'
        rw [← HT.out] at hown2
        have hb9 : Below (w.heap.size + 1) wr w3 := ((Below.refl _ wr).alloc (Nat.succ_le_of_lt x0) _).grown hgrow (by simp; omega) (fun k hk => (hown.lt k hk).1)
        have hb3 : Below w.heap.size w w3 := hbel.trans (hb9.mono (Nat.le_succ _))
        have hbx3 := hbx0.below' hb9 (Nat.lt_succ_self _)
        clear hown' hgrow
        have R := And.intro hown2 (And.intro hb3 hbx3)
        clear hown x1 x2 x3 x4 c1 c2
        go_wp2_with fail
        exact ⟨⟨k + 1, by omega, by go_num, R.1, R.2.1, R.2.2⟩, by simp [intOf]; omega⟩
    · have hkn : k = rn := by omega
      rw [begTo_full d k (by omega)] at hown
      obtain ⟨a2, c2, hv, hI⟩ := own_ints hown (by unfold maxLen; omega)
      rw [hv]
      clear hv hown hkn
      go_wp2_with fail
      go_ret
      exact ⟨_, _, _, rfl, hI, hbel⟩
end Go.Proofs.Ytongajonecgdpaa
