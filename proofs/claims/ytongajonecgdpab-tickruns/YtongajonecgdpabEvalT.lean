/- The document's answers: linchpinref.StepOf and SolvesOf. -/
import Derived.Test.YtongajonecgdpabEvalS
import Derived.Test.YtongajonecgdpabFam
namespace Go.Proofs.Ytongajonecgdpab
open Go.RowKit

/-- What Step answers. -/
def StepAns (d : NetD) (regs ins v : List Int) : Prop := (stepE d regs ins = 0 → Least d regs ins v ∧ vals v = true) ∧ (stepE d regs ins ≠ 0 → v = [])
theorem StepAns.same {d : NetD} {regs ins v u : List Int} (h : StepAns d regs ins v) (h' : StepAns d regs ins u) : v = u := by
  by_cases e : stepE d regs ins = 0
  · exact (h.1 e).1.same (h'.1 e).1
  · rw [h.2 e, h'.2 e]

set_option maxHeartbeats 1000000 in
theorem StepOf_any (d : NetD) (ins0 : Int) (ga ra oa : Option Addr) (gn gc rn rc on oc : Nat) (w : World) (h : NetAt w d ins0 ga gn ra rn oa on) (regs ins : List Int) (qa ia : Option Addr) (qn qc inn ic : Nat) (hr : Ints w qa qn regs) (hi : Ints w ia inn ins) :
    Calls Try.prog 10 #[.agg #[.int .i64 ins0, .slice ga gn gc, .slice ra rn rc, .slice oa on oc], .slice qa qn qc, .slice ia inn ic] w fun e w' => ∃ a n c v, e = .returned (.tuple #[.slice a n c, .int .i64 (stepE d regs ins)]) ∧ Ints w' a n v ∧ StepAns d regs ins v ∧ Below w.heap.size w w' := by
  have hb0 : Below w.heap.size w (w.alloc (.cells #[.int .i64 ins0, .slice ga gn gc, .slice ra rn rc, .slice oa on oc] 26)) := (Below.refl _ _).alloc (Nat.le_refl _) _
  have hbox : Boxed (w.alloc (.cells #[.int .i64 ins0, .slice ga gn gc, .slice ra rn rc, .slice oa on oc] 26)) w.heap.size ins0 ga gn gc ra rn rc oa on oc := Boxed.new _ _ _ _ _ _ _ _ _ _ _ _
  have hN := h.below hb0
  have hr0 := hr.below hb0
  have hi0 := hi.below hb0
  clear h hr hi
  go_enter Try.func10, Try.ntmps10
  go_wp2_with fail
  refine (StepError_any d _ _ _ _ _ _ _ _ _ _ _ hN regs ins _ _ _ _ _ _ hr0 hi0).mono ?_
  rintro e w1 ⟨rfl, hb⟩
  have B1 := bstep hb0 hb
  have hN1 := hN.below hb
  have hr1 := hr0.below hb
  have hi1 := hi0.below hb
  have hx1 := hbox.below hb
  clear hb hb0 hN hbox hr0 hi0
  by_cases e0 : stepE d regs ins = 0
  · have HE : Hid (stepE d regs ins = 0) := e0
    rw [HE.out]
    clear e0
    obtain ⟨x0, x1, x2, x3, x4⟩ := hx1
    go_wp2_with fail
    refine (settled_any d _ _ _ _ _ _ _ _ _ _ _ hN1 regs ins _ _ _ _ _ _ hr1 hi1 HE.out).mono ?_
    rintro e w2 ⟨a2, n2, c2, v2, rfl, hI2, hL2, hv2, hb2⟩
    go_wp2_with fail
    go_ret2
    exact ⟨a2, n2, c2, v2, ret_sl HE.out.symm, hI2, ⟨fun _ => ⟨hL2, hv2⟩, fun hh => absurd HE.out hh⟩, bstep B1 hb2⟩
  · have hne : (stepE d regs ins != 0) = true := by simp [e0]
    have HE := hide e0
    clear e0
    go_wp2_with fail
    go_ret2
    exact ⟨none, 0, 0, [], rfl, Ints.none _, ⟨fun hh => absurd hh (unhide HE), fun _ => rfl⟩, B1⟩

def solvesTo (d : NetD) (regs ins v : List Int) (k : Nat) : Bool := decide (∀ i, i < k → v.getD i 2 = (roundV d regs ins v).getD i 2)
theorem solvesTo_succ (d : NetD) (regs ins v : List Int) (k : Nat) (h : solvesTo d regs ins v k = true) (e : v.getD k 2 = (roundV d regs ins v).getD k 2) : solvesTo d regs ins v (k + 1) = true := by
  unfold solvesTo at h ⊢
  rw [decide_eq_true_iff] at h ⊢
  intro i hi
  by_cases hk : i = k
  · rw [hk]; exact e
  · exact h i (by omega)
theorem solves_all (d : NetD) (regs ins v : List Int) (hl : v.length = d.gates.length) (h : solvesTo d regs ins v v.length = true) : decide (roundV d regs ins v = v) = true := by
  rw [decide_eq_true_iff]
  apply List.ext_getElem (by rw [roundV_len, hl])
  intro i h1 h2
  unfold solvesTo at h
  rw [decide_eq_true_iff] at h
  have := h i h2
  simp only [List.getD_eq_getElem?_getD, List.getElem?_eq_getElem h2, List.getElem?_eq_getElem h1, Option.getD_some] at this
  exact this.symm
theorem solves_not (d : NetD) (regs ins v : List Int) (k : Nat) (e : v.getD k 2 ≠ (roundV d regs ins v).getD k 2) : decide (roundV d regs ins v = v) = false := by
  rw [decide_eq_false_iff_not]
  intro h; exact e (by rw [h])

set_option maxHeartbeats 1000000 in
theorem solves_any (d : NetD) (ins0 : Int) (ga ra oa : Option Addr) (gn gc rn rc on oc : Nat) (w : World) (h : NetAt w d ins0 ga gn ra rn oa on) (regs ins : List Int) (qa ia : Option Addr) (qn qc inn ic : Nat) (hr : Ints w qa qn regs) (hi : Ints w ia inn ins) (v : List Int) (va : Option Addr) (vn vc : Nat) (hv : Ints w va vn v) (hok : stepE d regs ins = 0) (hvl : v.length = d.gates.length) (hvv : vals v = true) :
    Calls Try.prog 31 #[.agg #[.int .i64 ins0, .slice ga gn gc, .slice ra rn rc, .slice oa on oc], .slice qa qn qc, .slice ia inn ic, .slice va vn vc] w fun e w' => e = .returned (.bool (decide (roundV d regs ins v = v))) ∧ Below w.heap.size w w' := by
  have hb0 : Below w.heap.size w (w.alloc (.cells #[.int .i64 ins0, .slice ga gn gc, .slice ra rn rc, .slice oa on oc] 26)) := (Below.refl _ _).alloc (Nat.le_refl _) _
  have hbox : Boxed (w.alloc (.cells #[.int .i64 ins0, .slice ga gn gc, .slice ra rn rc, .slice oa on oc] 26)) w.heap.size ins0 ga gn gc ra rn rc oa on oc := Boxed.new _ _ _ _ _ _ _ _ _ _ _ _
  have hN := h.below hb0
  have hr0 := hr.below hb0
  have hi0 := hi.below hb0
  have hv0 := hv.below hb0
  obtain ⟨hck, hrl, hil, _, _⟩ := stepE_ok hok
  have HG : Hid (d.gates.length = gn) := h.gates.1.symm
  have hvn : vn = gn := by have h1 := hv.1; have h2 := HG.out; omega
  subst hvn
  have hgn : vn ≤ 200 := by have := (counts_gates (check_ok hck).1).2.1; have := HG.out; omega
  have HRT : Hid (∀ k (hk : k < d.gates.length), Right d.gates[k] qn inn vn) := by
    intro k hk
    have := right_of hck k hk
    have e1 : d.regs.length = qn := by have := hr.1; omega
    have e2 : d.ins.toNat = inn := by have := hi.1; omega
    rw [e1, e2, HG.out] at this
    exact this
  have HVL := hide hvl
  have HVV := hide hvv
  clear hok hck hrl hil hvl hvv h hr hi hv
  go_enter Try.func31, Try.ntmps31
  go_wp2_with fail
  go_loopw [9] (fun i wr => ∃ k : Nat, k ≤ vn ∧ i = .int .i64 k ∧ solvesTo d regs ins v k = true ∧ Below (w.alloc (.cells #[.int .i64 ins0, .slice ga vn gc, .slice ra rn rc, .slice oa on oc] 26)).heap.size (w.alloc (.cells #[.int .i64 ins0, .slice ga vn gc, .slice ra rn rc, .slice oa on oc] 26)) wr) (fun i _ => vn - (intOf i).toNat)
  case atStart => exact ⟨0, Nat.zero_le _, rfl, by simp [solvesTo], Below.refl _ _⟩
  case round =>
    obtain ⟨k, hk, rfl, hno, hbel⟩ := hrel
    by_cases hlt : k < vn
    · have hltg : k < d.gates.length := by have := HG.out; omega
      have hltv : k < v.length := by have := unhide HVL; omega
      have hki : (k : Int) < (vn : Int) := by omega
      obtain ⟨b, off, aa, an, ac, rfl, hbb, c1, c2, c3, hI⟩ := (hN.gates.below hbel).at' hltg
      have hV1 := hv0.below hbel
      have hR1 := hr0.below hbel
      have hI1 := hi0.below hbel
      obtain ⟨b2, off2, rfl, hbb2, c4⟩ := hV1.at hltv
      obtain ⟨x0, x1, x2, x3, x4⟩ := hbox.below hbel
      have z1 := fam_cell (p := ⟨b, off + k * 3, none⟩) hbb c1
      have z2 := fam_cell (p := ⟨b, off + k * 3 + 1, none⟩) hbb c2
      have z3 := fam_cell (p := ⟨b, off + k * 3 + 2, none⟩) hbb c3
      have z4 := fam_cell (p := ⟨b2, off2 + k, none⟩) hbb2 c4
      have z5 := fam_cell (p := ⟨w.heap.size, 1, none⟩) x0 x2
      have ne := fam_some wr
      have HRK := HRT.out k hltg
      have bbw := bstep hb0 hbel
      have HNX := hide hno
      have HIA := hide hI
      have HV1 := hide hV1
      have HR1 := hide hR1
      have HI1 := hide hI1
      have HRK' := hide HRK
      clear c1 c2 c3 c4 x1 x2 x3 x4 hno hI hV1 hR1 hI1 HRK
      go_wp2_with fail
      refine region_fam (by kernel_rfl) (by kernel_rfl) ?_
      repeat (go_big_quiet_step (first
        | (go_at_call 48; exact calls_fam _ (worth_any d.gates[k] aa an ac regs ins v qa ia (some ⟨b2, off2, none⟩) qn qc inn ic vn vc _ ((unhide HIA).below (fam_below _)) ((unhide HR1).below (fam_below _)) ((unhide HI1).below (fam_below _)) ((unhide HV1).below (fam_below _)) (unhide HRK') (unhide HVV)))))
      refine wpQuiet_nil ?_
      intro W hW
      obtain ⟨n, hn⟩ := hW
      subst hn
      clear z1 z2 z3 z4 z5
      have b9 := bstep hbel (fam_below n)
      by_cases e : v[k] = worthV d.gates[k] regs ins v
      · have hq : (v[k] != worthV d.gates[k] regs ins v) = false := by simp only [bne_eq_false_iff_eq]; exact e
        have HT := hide (solvesTo_succ d regs ins v k (unhide HNX) (by rw [roundV_at d regs ins v k hltg, ← e]; simp [List.getD_eq_getElem?_getD, hltv]))
        clear e
        go_wp2_with fail
        exact ⟨⟨k + 1, by omega, by go_num, unhide HT, b9⟩, by simp [intOf]; omega⟩
      · have hq : (v[k] != worthV d.gates[k] regs ins v) = true := by simp only [bne_iff_ne, ne_eq]; exact e
        have HT := hide (solves_not d regs ins v k (by rw [roundV_at d regs ins v k hltg]; simpa [List.getD_eq_getElem?_getD, hltv] using e))
        clear e
        go_wp2_with fail
        go_ret
        exact ⟨ret_bool (unhide HT).symm, bstep hb0 b9⟩
    · have HT := hide (solves_all d regs ins v (unhide HVL) (by rw [← hno]; exact congrArg (solvesTo d regs ins v) (by have := unhide HVL; have := HG.out; omega)))
      clear hno
      go_wp2_with fail
      go_ret
      exact ⟨ret_bool (unhide HT).symm, bstep hb0 hbel⟩
end Go.Proofs.Ytongajonecgdpab
