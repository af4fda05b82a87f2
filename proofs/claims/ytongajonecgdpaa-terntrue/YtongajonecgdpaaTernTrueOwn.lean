
/- Proved: for every two lists of whole numbers that can be read, linchpinlaw.TernTrue answers true and leaves the lists as they were. No condition. -/
import Derived.Test.YtongajonecgdpaaFrame
import Derived.Test.YtongajonecgdpaaTernE
namespace Go.Proofs.Ytongajonecgdpaa
open Go.ChangeShapes Go.WideShapes Go.ChangeAt Go.RowKit

set_option maxHeartbeats 2000000 in
theorem TernTrue_any (xs ys : List Int) (a a' : Option Addr) (n cap n' cap' : Nat) (w : World) (h : Ints w a n xs) (h' : Ints w a' n' ys) (hreach : n * 8 ≤ 140737488351232) :
    Calls Try.prog 5 #[.slice a n cap, .slice a' n' cap'] w fun e w' => e = .returned (.bool true) ∧ Below w.heap.size w w' := by
  obtain ⟨i0, hi, hz0, hz1, hz2⟩ := info_parts Try.infoInt
  by_cases hE : leqE xs ys = 0
  · obtain ⟨hv, hv', hlen⟩ := leqE_zero hE
    have HE : Hid (leqE xs ys = 0) := hE
    have HV : Hid (vals xs = true) := hv
    have C1 : Hid (ckE xs = 0) := by simp [Hid, ckE, hv]
    have C2 : Hid (ckE ys = 0) := by simp [Hid, ckE, hv']
    have C3 : Hid (ckE (xs.map notV) = 0) := by simp [Hid, ckE, vals_not hv]
    have C4 : Hid (notE (allV xs) = 0) := notE_of (allV_val xs)
    have C5 : Hid (anyV (xs.map notV) = notV (allV xs)) := any_not hv
    have hnx : n ≤ xs.length := by have := h.1; omega
    have hxn : xs.length ≤ n := by have := h.1; omega
    have A1 : Hid (leqB xs ys = true → allV xs = 2 ∨ allV xs = allV ys) := leq_all
    have A2 : Hid (leqB xs ys = true → anyV xs = 2 ∨ anyV xs = anyV ys) := leq_any
    clear hE hv hv' hlen
    go_enter Try.func5, Try.ntmps5
    go_wp2_with fail
    refine (Leq_any _ _ _ _ _ _ _ _ _ h h').mono ?_
    rintro e w1 ⟨rfl, b1⟩
    rw [HE.out]
    have g := h.below b1
    have g' := h'.below b1
    go_wp2_with fail
    go_loopw [7, 8] (fun v i wr => ∃ k : Nat, k ≤ n ∧ i = .int .i64 k ∧ wr.ownsRow w1.heap.size 3 1 v k (notsTo xs k) ∧ Below w1.heap.size w1 wr) (fun _ i _ => n - (intOf i).toNat)
    case atStart => exact ⟨0, Nat.zero_le _, rfl, World.ownsRow_nil _ _ _ _, Below.refl _ _⟩
    case round =>
      obtain ⟨k, hk, rfl, hown, hbel⟩ := hrel
      by_cases hlt : k < n
      · have hltx : k < xs.length := by omega
        rcases g.2.2 with g0 | ⟨b, off, rfl, hbb, hc⟩
        · rw [g0] at hltx; simp at hltx
        have hcell : wr.cell? ⟨b, off + k, none⟩ = some (.int .i64 xs[k]) := by rw [hbel.cell (p := ⟨b, off + k, none⟩) hbb]; exact hc k hltx
        have NE : Hid (notE xs[k] = 0) := notE_of ((vals_true xs).1 HV.out _ (List.getElem_mem hltx))
        have HT : Hid (notsTo xs (k + 1) = notsTo xs k ++ [.int .i64 (notV xs[k])]) := notsTo_succ xs k hltx
        clear hc
        go_wp2_with fail
        refine (Not_any _ _).mono ?_
        rintro e w2 ⟨rfl, b2⟩
        rw [NE.out]
        have hown2 := own_below hown b2
        have hsz : w1.heap.size ≤ w2.heap.size := Nat.le_trans hbel.size b2.size
        go_wp2_with (at_builtin; refine wpList_append_own _ rfl _ _ 22 rfl w1.heap.size 3 i0 (.int .i64 0) 1 8 Try.underlying22 hi hz0 hz1 hz2 rfl (by decide) _ _ _ rfl (hown2.alloc _) ⟨w2.heap.size, 0, none⟩ 1 1 [.int .i64 (notV xs[k])] rfl rfl ?c1 ?c2 ?c3 ?c4 ?c5 ?_)
        case c1 =>
          intro j u hj
          match j, hj with
          | 0, hj => simp at hj; subst hj; simp [Addr.add]
        case c2 => intro u hu; simp at hu; subst hu; rfl
        case c3 => unfold maxLen; omega
        case c4 => omega
        case c5 => simp; omega
        · intro v' w3 hown' hgrow _
          have R := own_step hbel ((b2.trans (((Below.refl _ _).alloc b2.size _))) : Below wr.heap.size wr _) hown hgrow hown'
          rw [← HT.out] at R
          clear hown' hgrow hown hown2 hcell
          go_wp2_with fail
          exact ⟨⟨k + 1, by omega, by go_num, R.1, R.2⟩, by simp [intOf]; omega⟩
      · rw [notsTo_full xs k (by omega)] at hown
        have hkn : k = n := by omega
        have hmm : k ≤ maxLen := by unfold maxLen; omega
        obtain ⟨at1, capt, hvt, ht⟩ := own_ints hown hmm
        rw [hvt]
        clear hvt hown hkn hmm
        have g2 := g.below hbel
        have g2' := g'.below hbel
        clear g g'
        go_wp2_with fail
        refine (All_any _ _ _ _ _ g2).mono ?_
        rintro e w2 ⟨rfl, b2⟩
        rw [C1.out]
        go_wp2_with fail
        refine (All_any _ _ _ _ _ (g2'.below b2)).mono ?_
        rintro e w3 ⟨rfl, hb⟩
        have b3 := bstep b2 hb
        clear hb b2
        rw [C2.out]
        go_wp2_with fail
        refine (Any_any _ _ _ _ _ (g2.below b3)).mono ?_
        rintro e w4 ⟨rfl, hb⟩
        have b4 := bstep b3 hb
        clear hb b3
        rw [C1.out]
        go_wp2_with fail
        refine (Any_any _ _ _ _ _ (g2'.below b4)).mono ?_
        rintro e w5 ⟨rfl, hb⟩
        have b5 := bstep b4 hb
        clear hb b4
        rw [C2.out]
        go_wp2_with fail
        refine (Any_any _ _ _ _ _ (ht.below b5)).mono ?_
        rintro e w6 ⟨rfl, hb⟩
        have b6 := bstep b5 hb
        clear hb b5
        rw [C3.out, C5.out]
        go_wp2_with fail
        refine (Not_any _ _).mono ?_
        rintro e w7 ⟨rfl, hb⟩
        have b7 := bstep b6 hb
        clear hb b6
        rw [C4.out]
        go_wp2_with fail
        refine (ternBegun_any _).mono ?_
        rintro e w8 ⟨rfl, hb⟩
        have b8 := bstep b7 hb
        have bb : Below w.heap.size w w8 := bstep b1 (bstep hbel b8)
        clear hb b7 b8 g2 g2' ht
        cases hq : leqB xs ys
        · go_wp2_with fail
          go_ret
          exact ⟨rfl, bb⟩
        · have q1 := A1.out hq
          have q2 := A2.out hq
          clear hq
          by_cases e1 : allV xs = 2
          · have f1 : (allV xs == 2) = true := by simp [e1]
            clear e1 q1
            by_cases e2 : anyV xs = 2
            · have f2 : (anyV xs == 2) = true := by simp [e2]
              clear e2 q2
              go_wp2_with fail
              go_ret
              exact ⟨rfl, bb⟩
            · have f2 : (anyV xs == 2) = false := by simp [e2]
              have f3 : (anyV xs == anyV ys) = true := by simp; omega
              clear e2 q2
              go_wp2_with fail
              go_ret
              exact ⟨rfl, bb⟩
          · have f1 : (allV xs == 2) = false := by simp [e1]
            have f4 : (allV xs == allV ys) = true := by simp; omega
            clear e1 q1
            by_cases e2 : anyV xs = 2
            · have f2 : (anyV xs == 2) = true := by simp [e2]
              clear e2 q2
              go_wp2_with fail
              go_ret
              exact ⟨rfl, bb⟩
            · have f2 : (anyV xs == 2) = false := by simp [e2]
              have f3 : (anyV xs == anyV ys) = true := by simp; omega
              clear e2 q2
              go_wp2_with fail
              go_ret
              exact ⟨rfl, bb⟩
  · have hn0 : (leqE xs ys != 0) = true := by simp [hE]
    clear hE
    go_enter Try.func5, Try.ntmps5
    go_wp2_with fail
    refine (Leq_any _ _ _ _ _ _ _ _ _ h h').mono ?_
    rintro e w1 ⟨rfl, b1⟩
    go_wp2_with fail
    refine (ternBegun_any _).mono ?_
    rintro e w8 ⟨rfl, hb⟩
    go_wp2_with fail
    go_ret
    exact ⟨rfl, bstep b1 hb⟩

set_option maxRecDepth 100000 in
theorem ternTrue_lifted (os : Os) (started : os.Started) (H : Type) (enc : TypeId × Value → H) :
    ReturnsInHanded {} Try.checked os 5 .any (Rows.ternTrueSpec.pre6 enc Try.prog Try.f5 Rows.ternTrueRow.domain false) (Rows.ternTrueSpec.post enc Try.prog Try.f5 false true false false) := by
  refine returnsInHanded_of_change_sized (C := Try.checked) own started (by kernel_rfl) Try.func5
    (ChangeSpec.witness6 (enc := enc) (C := Try.checked) false ⟨#[], #[.slice none 0 0, .slice none 0 0], []⟩ 8 (by kernel_rfl) (by kernel_rfl) (by kernel_rfl) (by kernel_rfl)) ?_
  intro W base args ds gs before hval0 hW _ hsz0 _
  have hsz : (DataW.weightsEach Try.prog (Try.f5.params.toList ++ Rows.ternTrueSpec.plain.varTypes Try.prog) (ds ++ gs)).all (· ≤ reachBytes) = true := hsz0
  clear hsz0
  have hval : ∀ (j : Nat) t v, Try.f5.params[j]? = some t → args[j]? = some v → Value.okWide Try.prog W .any base t v := hval0
  have hW' := hW
  obtain ⟨p, q, hA0, hV, rfl, _, _⟩ := hW
  have hA : DataW.TrodAll enc Try.prog W 0 (fun _ => true) true Try.f5.params.toList args.toList ds p := hA0
  rw [Try.params5] at hA hval hsz
  obtain ⟨v0, vs0, d0, ds0, p0, q0, hargs, rfl, rfl, h0, r0⟩ := trodAll_cons hA
  obtain ⟨v1, vs1, d1, ds1, p1, q1, rfl, rfl, rfl, h1, r1⟩ := trodAll_cons r0
  obtain ⟨rfl, rfl, rfl⟩ := trodAll_nil r1
  obtain rfl : args = #[v0, v1] := by cases args; simp_all
  obtain ⟨rfl, rfl⟩ := trodVars_none hV
  obtain ⟨a0, len0, cap0, rfl⟩ := okWide_slice Try.underlying22 (hval 0 22 v0 rfl rfl)
  have lt0 : ∀ x ∈ p0, x.block < W.heap.size := by obtain ⟨m, hm⟩ := h0; exact DataW.trod_lt m _ _ _ hm
  obtain ⟨z0, w0, _, s0⟩ := ints_open h0
  obtain ⟨a1, len1, cap1, rfl⟩ := okWide_slice Try.underlying22 (hval 1 22 v1 rfl rfl)
  have lt1 : ∀ x ∈ p1, x.block < W.heap.size := by obtain ⟨m, hm⟩ := h1; exact DataW.trod_lt m _ _ _ hm
  obtain ⟨z1, w1, _⟩ := ints_open h1
  have hreach := ints_reach hsz (j := 0) rfl rfl s0
  clear hA0 hval0
  refine (TernTrue_any z0 z1 a0 a1 len0 cap0 len1 cap1 W w0 w1 hreach).mono fun e W' ⟨he, bel⟩ => ?_
  subst he
  exact ⟨_, rfl, _, _, _, [], _, [], hW', trodAll_mk1 (shut_bool Try.underlying4 _), (trodAll_cons_mk (Below.trod laidOut (by kernel_rfl) (of_decide_eq_true (by kernel_rfl)) h0 bel lt0) (trodAll_cons_mk (Below.trod laidOut (by kernel_rfl) (of_decide_eq_true (by kernel_rfl)) h1 bel lt1) trodAll_mk0)), rfl, bel.frame _, fun h => by cases h⟩

/-- The statement. -/
theorem ternTrue_holds : Rows.TernTrueSaid :=
  OpenClaim.holds_of_wide 5 Try.f5 rfl rfl rfl rfl rfl rfl rfl ⟨rfl, rfl, rfl, rfl, rfl⟩ rfl rfl rfl rfl rfl (by kernel_rfl) Try.func5 (by kernel_rfl)
    (of_decide_eq_true (by kernel_rfl)) (by unfold Func.isWrapper; first | (rw [if_pos (by decide +kernel)]; kernel_rfl) | (rw [if_neg (by decide +kernel)]; exact ⟨rfl, rfl⟩))
    (fun os started H enc _ => ternTrue_lifted os started H enc)
#print axioms ternTrue_holds
end Go.Proofs.Ytongajonecgdpaa
