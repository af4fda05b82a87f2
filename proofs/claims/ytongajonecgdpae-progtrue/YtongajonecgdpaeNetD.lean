/- net.Check: what it answers, for every net that is read: what may not be is left by a panic, and recovered. -/
import Derived.Test.YtongajonecgdpaeNetC
namespace Go.Proofs.Ytongajonecgdpae
open Go.RowKit

theorem assert_errno (f : Int) (w : World) : (Instr.typeAssert (.iface 28 (.int .i64 f)) 20 28 false).run Try.prog w = .ok (.int .i64 f) w := by
  simp [Instr.typeAssert, run_underlying Try.underlying28]

theorem catch_panicking (p : Addr) (x f : Int) (w : World) (hc : w.cell? p = some (.int .i64 x)) (hz : w.frozen? p = false) :
    CallsD Try.prog 90 #[.pointer (some p)] (.panicking [{ v := .iface 28 (.int .i64 f), recovered := false }]) w fun e u' w' =>
      e = .returned (.tuple #[]) ∧ u' = .panicking [{ v := .iface 28 (.int .i64 f), recovered := true }] ∧ w' = w.setCell p (.int .i64 f) := by
  refine callsD_of_wpS Try.func90 rfl fun c₀ cs hu => ?_
  apply wpS_seq
  apply wpS_region
  simp [wpOpsS, go_sem, recoverD, hu, Try.ntmps90, Exit.thenS]
  refine wpS_of_wp ?_
  simp only [Array.replicate]
  have hta := assert_errno f w
  go_wp2
  simp [bodyPostS, results, Try.results90]

theorem catch_idle (p : Addr) (w : World) :
    CallsD Try.prog 90 #[.pointer (some p)] .returning w fun e u' w' => e = .returned (.tuple #[]) ∧ u' = .returning ∧ w' = w := by
  refine callsD_of_wpS Try.func90 rfl fun c₀ cs hu => ?_
  apply wpS_seq
  apply wpS_region
  simp [wpOpsS, go_sem, recoverD, hu, Try.ntmps90, Exit.thenS]
  refine wpS_of_wp ?_
  simp only [Array.replicate]
  go_wp2
  cases c₀
  simp_all [bodyPostS, results, Try.results90]

theorem endOf_true (f : Int) : endOf true f = .returned (.tuple #[]) := rfl
theorem endOf_false (f : Int) : endOf false f = .panicked [{ v := .iface 28 (.int .i64 f), recovered := false }] := rfl
theorem counts_gates {d : NetD} (h : countsB d = true) : d.ins ≤ 3 ∧ d.gates.length ≤ 200 ∧ d.regs.length ≤ 20 ∧ d.outs.length ≤ 3 := by
  simp only [countsB, Bool.and_eq_true, decide_eq_true_iff] at h
  exact ⟨h.1.1.1.1, h.1.1.1.2, h.1.1.2, h.1.2⟩

/-- The deferred call, behind a panic: the fault is laid, and handed back. -/
theorem fault_out {w w1 : World} {f : Int} {o1 : Obj} (h : Below ((w.alloc o1).alloc (.cells #[.int .i64 0] 28)).heap.size ((w.alloc o1).alloc (.cells #[.int .i64 0] 28)) w1) :
    w1.cell? ⟨w.heap.size + 1, 0, none⟩ = some (.int .i64 0) ∧ w1.frozen? ⟨w.heap.size + 1, 0, none⟩ = false ∧ Below w.heap.size w (w1.setCell ⟨w.heap.size + 1, 0, none⟩ (.int .i64 f)) := by
  refine ⟨?_, ?_, ?_⟩
  · rw [h.cell (p := ⟨w.heap.size + 1, 0, none⟩) (by simp), World.cell?_alloc_at _ _ _ _ (by simp)]; rfl
  · rw [h.frozen (p := ⟨w.heap.size + 1, 0, none⟩) (by simp)]; exact World.frozen?_alloc_at _ _ _ _ (by simp)
  · refine Below.setCell ?_ (by simp) _
    exact (((Below.refl _ _).alloc (Nat.le_refl _) _).alloc (by simp) _).trans (h.mono (by simp; omega))

set_option maxHeartbeats 2000000 in
theorem firstFault_any (d : NetD) (ins : Int) (ga ra oa : Option Addr) (gn gc rn rc on oc : Nat) (w : World) (h : NetAt w d ins ga gn ra rn oa on) :
    Calls Try.prog 78 #[.agg #[.int .i64 ins, .slice ga gn gc, .slice ra rn rc, .slice oa on oc]] w fun e w' => e = .returned (.int .i64 (checkE d)) ∧ Below w.heap.size w w' := by
  have hmf : ∀ (fn : Fn) (first cap : Array Value) (w : World), (Instr.makeFunc fn first cap).run Try.prog w = .ok (.func fn first cap) w := fun _ _ _ _ => rfl
  have hbb : Below w.heap.size w ((w.alloc (.cells #[.int .i64 ins, .slice ga gn gc, .slice ra rn rc, .slice oa on oc] 26)).alloc (.cells #[.int .i64 0] 28)) := ((Below.refl _ _).alloc (Nat.le_refl _) _).alloc (by simp) _
  have hN : NetAt ((w.alloc (.cells #[.int .i64 ins, .slice ga gn gc, .slice ra rn rc, .slice oa on oc] 26)).alloc (.cells #[.int .i64 0] 28)) d ins ga gn ra rn oa on := h.below hbb
  have hbox : Boxed ((w.alloc (.cells #[.int .i64 ins, .slice ga gn gc, .slice ra rn rc, .slice oa on oc] 26)).alloc (.cells #[.int .i64 0] 28)) w.heap.size ins ga gn gc ra rn rc oa on oc := (Boxed.new _ _ _ _ _ _ _ _ _ _ _ _).below ((Below.refl _ _).alloc (Nat.le_refl _) _)
  cases e1 : countsB d
  · have HE : Hid (checkE d = 2) := by simp [Hid, checkE, e1]
    have H1 : Hid (countsB d = false) := e1
    clear e1 h
    go_enter_defers Try.func78, Try.ntmps78
    go_wp2_with fail
    refine (requireCounts_any d _ _ _ _ _ _ _ _ _ _ _ hN).mono ?_
    rintro e w1 ⟨rfl, hb⟩
    have b1 := hb
    clear hb
    rw [H1.out, endOf_false]
    go_wp2_with fail
    obtain ⟨q1, q2, q3⟩ := fault_out (f := 2) b1
    refine leaves_cons (f := 90) (args := #[.pointer (some ⟨w.heap.size + 1, 0, none⟩)]) (by simp) (by simp [go_sem]) ?_
    refine (catch_panicking ⟨w.heap.size + 1, 0, none⟩ 0 2 _ q1 q2).mono ?_
    rintro e u' w'' ⟨rfl, rfl, rfl⟩
    have q4 : (w1.setCell ⟨w.heap.size + 1, 0, none⟩ (.int .i64 2)).cell? ⟨w.heap.size + 1, 0, none⟩ = some (.int .i64 2) := World.cell?_setCell_same' _ _ _ (by rw [q1]; rfl)
    simp [Leaves, settle, results, Try.results78, go_sem, q4, HE.out, q3]
  have H1 : Hid (countsB d = true) := e1
  have hsm : gn ≤ 200 := by have := (counts_gates e1).2.1; have := h.gates.1; omega
  cases e2 : numbersB d
  · have HE : Hid (checkE d = 3) := by simp [Hid, checkE, e1, e2]
    have H2 : Hid (numbersB d = false) := e2
    clear e1 e2 h
    go_enter_defers Try.func78, Try.ntmps78
    go_wp2_with fail
    refine (requireCounts_any d _ _ _ _ _ _ _ _ _ _ _ hN).mono ?_
    rintro e w1 ⟨rfl, hb⟩
    have b1 := hb
    clear hb
    rw [H1.out, endOf_true]
    obtain ⟨x0, x1, x2, x3, x4⟩ := hbox.below b1
    go_wp2_with fail
    clear x1 x2 x3 x4
    refine (requireNumbers_any d _ _ _ _ _ _ _ _ _ _ _ (hN.below b1) hsm).mono ?_
    rintro e w2 ⟨rfl, hb⟩
    have b2 := bstep b1 hb
    clear b1
    clear hb
    rw [H2.out, endOf_false]
    go_wp2_with fail
    obtain ⟨q1, q2, q3⟩ := fault_out (f := 3) b2
    refine leaves_cons (f := 90) (args := #[.pointer (some ⟨w.heap.size + 1, 0, none⟩)]) (by simp) (by simp [go_sem]) ?_
    refine (catch_panicking ⟨w.heap.size + 1, 0, none⟩ 0 3 _ q1 q2).mono ?_
    rintro e u' w'' ⟨rfl, rfl, rfl⟩
    have q4 : (w2.setCell ⟨w.heap.size + 1, 0, none⟩ (.int .i64 3)).cell? ⟨w.heap.size + 1, 0, none⟩ = some (.int .i64 3) := World.cell?_setCell_same' _ _ _ (by rw [q1]; rfl)
    simp [Leaves, settle, results, Try.results78, go_sem, q4, HE.out, q3]
  have H2 : Hid (numbersB d = true) := e2
  cases e3 : kindsB d
  · have HE : Hid (checkE d = 4) := by simp [Hid, checkE, e1, e2, e3]
    have H3 : Hid (kindsB d = false) := e3
    clear e1 e2 e3 h
    go_enter_defers Try.func78, Try.ntmps78
    go_wp2_with fail
    refine (requireCounts_any d _ _ _ _ _ _ _ _ _ _ _ hN).mono ?_
    rintro e w1 ⟨rfl, hb⟩
    have b1 := hb
    clear hb
    rw [H1.out, endOf_true]
    obtain ⟨x0, x1, x2, x3, x4⟩ := hbox.below b1
    go_wp2_with fail
    clear x1 x2 x3 x4
    refine (requireNumbers_any d _ _ _ _ _ _ _ _ _ _ _ (hN.below b1) hsm).mono ?_
    rintro e w2 ⟨rfl, hb⟩
    have b2 := bstep b1 hb
    clear b1
    clear hb
    rw [H2.out, endOf_true]
    obtain ⟨x0, x1, x2, x3, x4⟩ := hbox.below b2
    go_wp2_with fail
    clear x1 x2 x3 x4
    refine (requireKinds_any d _ _ _ _ _ _ _ _ _ _ _ (hN.below b2) hsm).mono ?_
    rintro e w3 ⟨rfl, hb⟩
    have b3 := bstep b2 hb
    clear b2
    clear hb
    rw [H3.out, endOf_false]
    go_wp2_with fail
    obtain ⟨q1, q2, q3⟩ := fault_out (f := 4) b3
    refine leaves_cons (f := 90) (args := #[.pointer (some ⟨w.heap.size + 1, 0, none⟩)]) (by simp) (by simp [go_sem]) ?_
    refine (catch_panicking ⟨w.heap.size + 1, 0, none⟩ 0 4 _ q1 q2).mono ?_
    rintro e u' w'' ⟨rfl, rfl, rfl⟩
    have q4 : (w3.setCell ⟨w.heap.size + 1, 0, none⟩ (.int .i64 4)).cell? ⟨w.heap.size + 1, 0, none⟩ = some (.int .i64 4) := World.cell?_setCell_same' _ _ _ (by rw [q1]; rfl)
    simp [Leaves, settle, results, Try.results78, go_sem, q4, HE.out, q3]
  have H3 : Hid (kindsB d = true) := e3
  cases e4 : formsB d
  · have HE : Hid (checkE d = 1) := by simp [Hid, checkE, e1, e2, e3, e4]
    have H4 : Hid (formsB d = false) := e4
    clear e1 e2 e3 e4 h
    go_enter_defers Try.func78, Try.ntmps78
    go_wp2_with fail
    refine (requireCounts_any d _ _ _ _ _ _ _ _ _ _ _ hN).mono ?_
    rintro e w1 ⟨rfl, hb⟩
    have b1 := hb
    clear hb
    rw [H1.out, endOf_true]
    obtain ⟨x0, x1, x2, x3, x4⟩ := hbox.below b1
    go_wp2_with fail
    clear x1 x2 x3 x4
    refine (requireNumbers_any d _ _ _ _ _ _ _ _ _ _ _ (hN.below b1) hsm).mono ?_
    rintro e w2 ⟨rfl, hb⟩
    have b2 := bstep b1 hb
    clear b1
    clear hb
    rw [H2.out, endOf_true]
    obtain ⟨x0, x1, x2, x3, x4⟩ := hbox.below b2
    go_wp2_with fail
    clear x1 x2 x3 x4
    refine (requireKinds_any d _ _ _ _ _ _ _ _ _ _ _ (hN.below b2) hsm).mono ?_
    rintro e w3 ⟨rfl, hb⟩
    have b3 := bstep b2 hb
    clear b2
    clear hb
    rw [H3.out, endOf_true]
    obtain ⟨x0, x1, x2, x3, x4⟩ := hbox.below b3
    go_wp2_with fail
    clear x1 x2 x3 x4
    refine (requireForms_any d _ _ _ _ _ _ _ _ _ _ _ (hN.below b3) hsm).mono ?_
    rintro e w4 ⟨rfl, hb⟩
    have b4 := bstep b3 hb
    clear b3
    clear hb
    rw [H4.out, endOf_false]
    go_wp2_with fail
    obtain ⟨q1, q2, q3⟩ := fault_out (f := 1) b4
    refine leaves_cons (f := 90) (args := #[.pointer (some ⟨w.heap.size + 1, 0, none⟩)]) (by simp) (by simp [go_sem]) ?_
    refine (catch_panicking ⟨w.heap.size + 1, 0, none⟩ 0 1 _ q1 q2).mono ?_
    rintro e u' w'' ⟨rfl, rfl, rfl⟩
    have q4 : (w4.setCell ⟨w.heap.size + 1, 0, none⟩ (.int .i64 1)).cell? ⟨w.heap.size + 1, 0, none⟩ = some (.int .i64 1) := World.cell?_setCell_same' _ _ _ (by rw [q1]; rfl)
    simp [Leaves, settle, results, Try.results78, go_sem, q4, HE.out, q3]
  have H4 : Hid (formsB d = true) := e4
  have HE : Hid (checkE d = 0) := by simp [Hid, checkE, e1, e2, e3, e4]
  clear e1 e2 e3 e4 h
  go_enter_defers Try.func78, Try.ntmps78
  go_wp2_with fail
  refine (requireCounts_any d _ _ _ _ _ _ _ _ _ _ _ hN).mono ?_
  rintro e w1 ⟨rfl, hb⟩
  have b1 := hb
  clear hb
  rw [H1.out, endOf_true]
  obtain ⟨x0, x1, x2, x3, x4⟩ := hbox.below b1
  go_wp2_with fail
  clear x1 x2 x3 x4
  refine (requireNumbers_any d _ _ _ _ _ _ _ _ _ _ _ (hN.below b1) hsm).mono ?_
  rintro e w2 ⟨rfl, hb⟩
  have b2 := bstep b1 hb
  clear b1
  clear hb
  rw [H2.out, endOf_true]
  obtain ⟨x0, x1, x2, x3, x4⟩ := hbox.below b2
  go_wp2_with fail
  clear x1 x2 x3 x4
  refine (requireKinds_any d _ _ _ _ _ _ _ _ _ _ _ (hN.below b2) hsm).mono ?_
  rintro e w3 ⟨rfl, hb⟩
  have b3 := bstep b2 hb
  clear b2
  clear hb
  rw [H3.out, endOf_true]
  obtain ⟨x0, x1, x2, x3, x4⟩ := hbox.below b3
  go_wp2_with fail
  clear x1 x2 x3 x4
  refine (requireForms_any d _ _ _ _ _ _ _ _ _ _ _ (hN.below b3) hsm).mono ?_
  rintro e w4 ⟨rfl, hb⟩
  have b4 := bstep b3 hb
  clear b3
  clear hb
  rw [H4.out, endOf_true]
  obtain ⟨q1, q2, q3⟩ := fault_out (f := 0) b4
  have q4 : (w4.setCell ⟨w.heap.size + 1, 0, none⟩ (.int .i64 0)).cell? ⟨w.heap.size + 1, 0, none⟩ = some (.int .i64 0) := World.cell?_setCell_same' _ _ _ (by rw [q1]; rfl)
  go_wp2_with fail
  refine leaves_cons (f := 90) (args := #[.pointer (some ⟨w.heap.size + 1, 0, none⟩)]) (by simp) (by simp [go_sem]) ?_
  refine (catch_idle ⟨w.heap.size + 1, 0, none⟩ _).mono ?_
  rintro e u' w'' ⟨rfl, rfl, rfl⟩
  simp [Leaves, settle, results, Try.results78, go_sem, q4, HE.out, q3]

set_option maxHeartbeats 400000 in
theorem Check_any (d : NetD) (ins : Int) (ga ra oa : Option Addr) (gn gc rn rc on oc : Nat) (w : World) (h : NetAt w d ins ga gn ra rn oa on) :
    Calls Try.prog 60 #[.agg #[.int .i64 ins, .slice ga gn gc, .slice ra rn rc, .slice oa on oc]] w fun e w' => e = .returned (.int .i64 (checkE d)) ∧ Below w.heap.size w w' := by
  have hbb : Below w.heap.size w (w.alloc (.cells #[.int .i64 ins, .slice ga gn gc, .slice ra rn rc, .slice oa on oc] 26)) := (Below.refl _ _).alloc (Nat.le_refl _) _
  have hN := h.below hbb
  go_enter Try.func60, Try.ntmps60
  go_wp2_with fail
  refine (firstFault_any d _ _ _ _ _ _ _ _ _ _ _ hN).mono ?_
  rintro e w1 ⟨rfl, hb⟩
  go_wp2_with fail
  go_ret
  exact ⟨rfl, bstep hbb hb⟩
end Go.Proofs.Ytongajonecgdpae
