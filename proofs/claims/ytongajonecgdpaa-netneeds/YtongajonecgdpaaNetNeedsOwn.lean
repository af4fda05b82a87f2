
/- Proved: for every net and every list of whole numbers that can be read, linchpinlaw.NetNeeds answers true and leaves both as they were. No condition. -/
import Derived.Test.YtongajonecgdpaaFrameNet
import Derived.Test.YtongajonecgdpaaNetS
namespace Go.Proofs.Ytongajonecgdpaa
open Go.ChangeShapes Go.WideShapes Go.ChangeAt Go.RowKit

set_option maxHeartbeats 1000000 in
theorem NetNeeds_any (d : NetD) (ins : Int) (ga ra oa : Option Addr) (gn gc rn rc on oc : Nat) (w : World) (h : NetAt w d ins ga gn ra rn oa on) (l : List Int) (la : Option Addr) (ln lc : Nat) (hl : Ints w la ln l) :
    Calls Try.prog 7 #[.agg #[.int .i64 ins, .slice ga gn gc, .slice ra rn rc, .slice oa on oc], .slice la ln lc] w fun e w' => e = .returned (.bool true) ∧ Below w.heap.size w w' := by
  have hb0 : Below w.heap.size w (w.alloc (.cells #[.int .i64 ins, .slice ga gn gc, .slice ra rn rc, .slice oa on oc] 37)) := (Below.refl _ _).alloc (Nat.le_refl _) _
  have hbox : Boxed (w.alloc (.cells #[.int .i64 ins, .slice ga gn gc, .slice ra rn rc, .slice oa on oc] 37)) w.heap.size ins ga gn gc ra rn rc oa on oc := Boxed.new _ _ _ _ _ _ _ _ _ _ _ _
  have hN := h.below hb0
  have hl0 := hl.below hb0
  clear h hl
  go_enter Try.func7, Try.ntmps7
  go_wp2_with fail
  refine (Needs_any d _ _ _ _ _ _ _ _ _ _ _ hN l _ _ _ hl0).mono ?_
  rintro e w1 ⟨ya, yn, yc, ys, rfl, hys, hans, hb⟩
  have B1 := bstep hb0 hb
  have hN1 := hN.below hb
  have hx1 := hbox.below hb
  have hl1 := hl0.below hb
  clear hb hb0 hN hbox hl0
  have hxx := hx1
  obtain ⟨x0, x1, x2, x3, x4⟩ := hxx
  go_wp2_with fail
  clear x0 x1 x2 x3 x4
  refine (NeedsError_any d _ _ _ _ _ _ _ _ _ _ _ hN1 l _ _ _ hl1).mono ?_
  rintro e w2 ⟨rfl, hb⟩
  have B2 := bstep B1 hb
  have hN2 := hN1.below hb
  have hx2 := hx1.below hb
  have hl2 := hl1.below hb
  have hys2 := hys.below hb
  clear hb B1 hN1 hx1 hl1 hys
  by_cases e0 : needE d l = 0
  · have HE : Hid (needE d l = 0) := e0
    have HM := hide (hans.1 e0)
    rw [HE.out]
    clear e0 hans
    have hxx := hx2
    obtain ⟨x0, x1, x2, x3, x4⟩ := hxx
    go_wp2_with fail
    clear x0 x1 x2 x3 x4
    refine (NeedsOf_any d _ _ _ _ _ _ _ _ _ _ _ hN2 l _ _ _ hl2 HE.out).mono ?_
    rintro e w3 ⟨za, zn, zc, zs, rfl, hzs, hmz, hb⟩
    have HS : Hid (decide (ys = zs) = true) := decide_eq_true ((unhide HM).same hmz)
    have B3 := bstep B2 hb
    have hys3 := hys2.below hb
    clear hb B2 hN2 hx2 hl2 hys2 hmz HM
    go_wp2_with fail
    refine (netBegun_any _).mono ?_
    rintro e w4 ⟨rfl, hb⟩
    have B4 := bstep B3 hb
    have hys4 := hys3.below hb
    have hzs4 := hzs.below hb
    clear hb B3 hys3 hzs
    go_wp2_with fail
    refine (SameBools_any _ _ _ _ _ _ _ _ _ hys4 hzs4).mono ?_
    rintro e w5 ⟨rfl, hb⟩
    have B5 := bstep B4 hb
    rw [HS.out]
    clear hb B4 hys4 hzs4
    go_wp2_with fail
    go_ret
    exact ⟨rfl, B5⟩
  · have HQ := hans.2 e0
    have hne : (needE d l == 0) = false := by simp [e0]
    subst HQ
    clear e0 hans
    go_wp2_with fail
    refine (netBegun_any _).mono ?_
    rintro e w4 ⟨rfl, hb⟩
    have B4 := bstep B2 hb
    have hys4 := hys2.below hb
    clear hb B2 hN2 hx2 hl2 hys2
    go_wp2_with fail
    refine (SameBools_any [] [] _ _ _ _ _ _ _ hys4 (by exact Bools.nothing _)).mono ?_
    rintro e w6 ⟨rfl, hb⟩
    have B6 := bstep B4 hb
    rw [show decide (([] : List Bool) = []) = true from rfl]
    clear hb B4 hys4
    go_wp2_with fail
    go_ret
    exact ⟨rfl, B6⟩

set_option maxRecDepth 100000 in
theorem netNeeds_lifted (os : Os) (started : os.Started) (H : Type) (enc : TypeId × Value → H) :
    ReturnsInHanded {} Try.checked os 7 .any (Rows.netNeedsSpec.pre6 enc Try.prog Try.f7 Rows.netNeedsRow.domain false) (Rows.netNeedsSpec.post enc Try.prog Try.f7 false true false false) := by
  refine returnsInHanded_of_change (C := Try.checked) own started (by kernel_rfl) Try.func7
    (ChangeSpec.witness6 (enc := enc) (C := Try.checked) false ⟨#[], #[.agg #[.int .i64 0, .slice none 0 0, .slice none 0 0, .slice none 0 0], .slice none 0 0], []⟩ 8 (by kernel_rfl) (by kernel_rfl) (by kernel_rfl) (by kernel_rfl)) ?_
  intro W base args ds gs before hval0 hW hcnd _
  have hval : ∀ (j : Nat) t v, Try.f7.params[j]? = some t → args[j]? = some v → Value.okWide Try.prog W .any base t v := hval0
  have hW' := hW
  obtain ⟨p, q, hA0, hV, rfl, _, _⟩ := hW
  have hA : DataW.TrodAll enc Try.prog W 0 (fun _ => true) true Try.f7.params.toList args.toList ds p := hA0
  rw [Try.params7] at hA hval
  obtain ⟨v0, vs0, d0, ds0, p0, q0, hargs, rfl, rfl, h0, r0⟩ := trodAll_cons hA
  obtain ⟨v1, vs1, d1, ds1, p1, q1, rfl, rfl, rfl, h1, r1⟩ := trodAll_cons r0
  obtain ⟨rfl, rfl, rfl⟩ := trodAll_nil r1
  obtain rfl : args = #[v0, v1] := by cases args; simp_all
  obtain ⟨rfl, rfl⟩ := trodVars_none hV
  have lt0 : ∀ x ∈ p0, x.block < W.heap.size := by obtain ⟨m, hm⟩ := h0; exact DataW.trod_lt m _ _ _ hm
  obtain ⟨ins, ga, gn, gc, ra, rn, rc, oa, on, oc, d, rfl, hN⟩ := net_open (hval 0 37 v0 rfl rfl) h0
  have lt1 : ∀ x ∈ p1, x.block < W.heap.size := by obtain ⟨m, hm⟩ := h1; exact DataW.trod_lt m _ _ _ hm
  obtain ⟨a1, len1, cap1, rfl⟩ := okWide_slice Try.underlying22 (hval 1 22 v1 rfl rfl)
  obtain ⟨z1, w1, _, _⟩ := ints_open h1
  clear hA0 hval0
  refine (NetNeeds_any d ins ga ra oa gn gc rn rc on oc W hN z1 a1 len1 cap1 w1).mono fun e W' ⟨he, bel⟩ => ?_
  subst he
  exact ⟨_, rfl, _, _, _, [], _, [], hW', trodAll_mk1 (shut_bool Try.underlying4 _), (trodAll_cons_mk (Below.trod laidOut (by kernel_rfl) (of_decide_eq_true (by kernel_rfl)) h0 bel lt0) (trodAll_cons_mk (Below.trod laidOut (by kernel_rfl) (of_decide_eq_true (by kernel_rfl)) h1 bel lt1) trodAll_mk0)), rfl, bel.frame _, fun h => by cases h⟩

/-- The statement. -/
theorem netNeeds_holds : Rows.NetNeedsSaid :=
  OpenClaim.holds_of_wide 7 Try.f7 rfl rfl rfl rfl rfl rfl rfl ⟨rfl, rfl, rfl, rfl, rfl⟩ rfl rfl rfl rfl rfl (by kernel_rfl) Try.func7 (by kernel_rfl)
    (of_decide_eq_true (by kernel_rfl)) (by unfold Func.isWrapper; first | (rw [if_pos (by decide +kernel)]; kernel_rfl) | (rw [if_neg (by decide +kernel)]; exact ⟨rfl, rfl⟩))
    (fun os started H enc _ => netNeeds_lifted os started H enc)
#print axioms netNeeds_holds
end Go.Proofs.Ytongajonecgdpaa
