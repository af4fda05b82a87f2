
/- Proved: for every net that can be read, linchpinlaw.NetChecks answers true and leaves the net as it was. No condition. -/
import Derived.Test.YtongajonecgdpaaFrameNet
import Derived.Test.YtongajonecgdpaaNetS
namespace Go.Proofs.Ytongajonecgdpaa
open Go.ChangeShapes Go.WideShapes Go.ChangeAt Go.RowKit

set_option maxHeartbeats 1000000 in
theorem NetChecks_any (d : NetD) (ins : Int) (ga ra oa : Option Addr) (gn gc rn rc on oc : Nat) (w : World) (h : NetAt w d ins ga gn ra rn oa on) :
    Calls Try.prog 6 #[.agg #[.int .i64 ins, .slice ga gn gc, .slice ra rn rc, .slice oa on oc]] w fun e w' => e = .returned (.bool true) ∧ Below w.heap.size w w' := by
  have hb0 : Below w.heap.size w (w.alloc (.cells #[.int .i64 ins, .slice ga gn gc, .slice ra rn rc, .slice oa on oc] 37)) := (Below.refl _ _).alloc (Nat.le_refl _) _
  have hbox : Boxed (w.alloc (.cells #[.int .i64 ins, .slice ga gn gc, .slice ra rn rc, .slice oa on oc] 37)) w.heap.size ins ga gn gc ra rn rc oa on oc := Boxed.new _ _ _ _ _ _ _ _ _ _ _ _
  have hN := h.below hb0
  have HR : Hid (d.regs.length = rn) := h.regs.1.symm
  clear h
  go_enter Try.func6, Try.ntmps6
  go_wp2_with fail
  refine (Begin_any d _ _ _ _ _ _ _ _ _ _ _ hN).mono ?_
  rintro e w1 ⟨ba, bn, bc, rfl, hbeg, hb⟩
  have B1 := bstep hb0 hb
  have hN1 := hN.below hb
  have hx1 := hbox.below hb
  clear hb hb0 hN hbox
  have hxx := hx1
  obtain ⟨x0, x1, x2, x3, x4⟩ := hxx
  go_wp2_with fail
  clear x0 x1 x2 x3 x4
  refine (CheckNet_any d _ _ _ _ _ _ _ _ _ _ _ hN1).mono ?_
  rintro e w2 ⟨rfl, hb⟩
  have B2 := bstep B1 hb
  have hN2 := hN1.below hb
  have hx2 := hx1.below hb
  have hbeg2 := hbeg.below hb
  clear hb B1 hN1 hx1 hbeg
  by_cases e0 : checkE d = 0
  · have HE : Hid (checkE d = 0) := e0
    have HQ : Hid (begAns d = begins d) := by simp [Hid, begAns, e0]
    have hrn : rn ≤ 20 := by have := (counts_gates (check_ok e0).1).2.2.1; have := HR.out; omega
    rw [HE.out]
    rw [HQ.out] at hbeg2
    clear e0
    have hxx := hx2
    obtain ⟨x0, x1, x2, x3, x4⟩ := hxx
    go_wp2_with fail
    clear x0 x1 x2 x3 x4
    refine (BeginOf_any d _ _ _ _ _ _ _ _ _ _ _ hN2 hrn).mono ?_
    rintro e w3 ⟨ca, cn, cc, rfl, hwant, hb⟩
    have B3 := bstep B2 hb
    have hN3 := hN2.below hb
    have hx3 := hx2.below hb
    have hbeg3 := hbeg2.below hb
    clear hb B2 hN2 hx2 hbeg2
    go_wp2_with fail
    refine (netBegun_any _).mono ?_
    rintro e w4 ⟨rfl, hb⟩
    have B4 := bstep B3 hb
    have hN4 := hN3.below hb
    have hbeg4 := hbeg3.below hb
    have hwant4 := hwant.below hb
    obtain ⟨x0, x1, x2, x3, x4⟩ := hx3.below hb
    clear hb B3 hN3 hx3 hbeg3 hwant
    go_wp2_with fail
    clear x0 x1 x2 x3 x4
    refine (Check_any d _ _ _ _ _ _ _ _ _ _ _ hN4).mono ?_
    rintro e w5 ⟨rfl, hb⟩
    rw [HE.out]
    have B5 := bstep B4 hb
    have hbeg5 := hbeg4.below hb
    have hwant5 := hwant4.below hb
    clear hb B4 hN4 hbeg4 hwant4
    go_wp2_with fail
    refine (SameInts_any _ _ _ _ _ _ _ _ _ hbeg5 hwant5).mono ?_
    rintro e w6 ⟨rfl, hb⟩
    have B6 := bstep B5 hb
    rw [show decide (begins d = begins d) = true from decide_eq_true rfl]
    clear hb B5 hbeg5 hwant5
    go_wp2_with fail
    go_ret
    exact ⟨rfl, B6⟩
  · have HQ : Hid (begAns d = []) := by simp [Hid, begAns, e0]
    have hne : (checkE d == 0) = false := by simp [e0]
    rw [HQ.out] at hbeg2
    clear e0
    go_wp2_with fail
    refine (netBegun_any _).mono ?_
    rintro e w4 ⟨rfl, hb⟩
    have B4 := bstep B2 hb
    have hN4 := hN2.below hb
    have hbeg4 := hbeg2.below hb
    obtain ⟨x0, x1, x2, x3, x4⟩ := hx2.below hb
    clear hb B2 hN2 hx2 hbeg2
    go_wp2_with fail
    clear x0 x1 x2 x3 x4
    refine (Check_any d _ _ _ _ _ _ _ _ _ _ _ hN4).mono ?_
    rintro e w5 ⟨rfl, hb⟩
    have B5 := bstep B4 hb
    have hbeg5 := hbeg4.below hb
    clear hb B4 hN4 hbeg4
    go_wp2_with fail
    refine (SameInts_any [] [] _ _ _ _ _ _ _ hbeg5 (by exact Ints.none _)).mono ?_
    rintro e w6 ⟨rfl, hb⟩
    have B6 := bstep B5 hb
    rw [show decide (([] : List Int) = []) = true from rfl]
    clear hb B5 hbeg5
    go_wp2_with fail
    go_ret
    exact ⟨rfl, B6⟩

set_option maxRecDepth 100000 in
theorem netChecks_lifted (os : Os) (started : os.Started) (H : Type) (enc : TypeId × Value → H) :
    ReturnsInHanded {} Try.checked os 6 .any (Rows.netChecksSpec.pre6 enc Try.prog Try.f6 Rows.netChecksRow.domain false) (Rows.netChecksSpec.post enc Try.prog Try.f6 false true false false) := by
  refine returnsInHanded_of_change (C := Try.checked) own started (by kernel_rfl) Try.func6
    (ChangeSpec.witness6 (enc := enc) (C := Try.checked) false ⟨#[], #[.agg #[.int .i64 0, .slice none 0 0, .slice none 0 0, .slice none 0 0]], []⟩ 8 (by kernel_rfl) (by kernel_rfl) (by kernel_rfl) (by kernel_rfl)) ?_
  intro W base args ds gs before hval0 hW hcnd _
  have hval : ∀ (j : Nat) t v, Try.f6.params[j]? = some t → args[j]? = some v → Value.okWide Try.prog W .any base t v := hval0
  have hW' := hW
  obtain ⟨p, q, hA0, hV, rfl, _, _⟩ := hW
  have hA : DataW.TrodAll enc Try.prog W 0 (fun _ => true) true Try.f6.params.toList args.toList ds p := hA0
  rw [Try.params6] at hA hval
  obtain ⟨v0, vs0, d0, ds0, p0, q0, hargs, rfl, rfl, h0, r0⟩ := trodAll_cons hA
  obtain ⟨rfl, rfl, rfl⟩ := trodAll_nil r0
  obtain rfl : args = #[v0] := by cases args; simp_all
  obtain ⟨rfl, rfl⟩ := trodVars_none hV
  have lt0 : ∀ x ∈ p0, x.block < W.heap.size := by obtain ⟨m, hm⟩ := h0; exact DataW.trod_lt m _ _ _ hm
  obtain ⟨ins, ga, gn, gc, ra, rn, rc, oa, on, oc, d, rfl, hN⟩ := net_open (hval 0 37 v0 rfl rfl) h0
  clear hA0 hval0
  refine (NetChecks_any d ins ga ra oa gn gc rn rc on oc W hN).mono fun e W' ⟨he, bel⟩ => ?_
  subst he
  exact ⟨_, rfl, _, _, _, [], _, [], hW', trodAll_mk1 (shut_bool Try.underlying4 _), (trodAll_cons_mk (Below.trod laidOut (by kernel_rfl) (of_decide_eq_true (by kernel_rfl)) h0 bel lt0) trodAll_mk0), rfl, bel.frame _, fun h => by cases h⟩

/-- The statement. -/
theorem netChecks_holds : Rows.NetChecksSaid :=
  OpenClaim.holds_of_wide 6 Try.f6 rfl rfl rfl rfl rfl rfl rfl ⟨rfl, rfl, rfl, rfl, rfl⟩ rfl rfl rfl rfl rfl (by kernel_rfl) Try.func6 (by kernel_rfl)
    (of_decide_eq_true (by kernel_rfl)) (by unfold Func.isWrapper; first | (rw [if_pos (by decide +kernel)]; kernel_rfl) | (rw [if_neg (by decide +kernel)]; exact ⟨rfl, rfl⟩))
    (fun os started H enc _ => netChecks_lifted os started H enc)
#print axioms netChecks_holds
end Go.Proofs.Ytongajonecgdpaa
