/- The document's stage: on. -/
import Derived.Test.YtongajonecgdpagGreatDoorWalkB
namespace Go.Proofs.YtongajonecgdpagGreatDoor
open Go.RowKit

theorem some_split {p : List NodeD} {ws : List Bool} {k : Nat} (hk : k < p.length) (hp : hasP p[k].kind = true) (hw : ws.getD k false = false) (h : someP p ws k = true) : someP p ws (k + 1) = true ∨ someP p ws (endP p (k + 1)) = true := by
  simp only [someP, List.any_eq_true, List.mem_range, Bool.and_eq_true, decide_eq_true_iff] at h ⊢
  obtain ⟨i, h1, h2, h3⟩ := h
  rw [end_node hk hp] at h1
  have hik : i ≠ k := fun e => by rw [e, hw] at h3; simp at h3
  by_cases hi : i < endP p (k + 1)
  · exact Or.inl ⟨i, hi, by omega, h3⟩
  · exact Or.inr ⟨i, h1, by omega, h3⟩
theorem on_seq {p : List NodeD} {ws wo : List Bool} {ins : List Int} {m k : Nat} {s : NextD} (h : kindAt p k = 5) : onF p ws wo ins (m + 1) k s = (if someP p ws (k + 1) then (if (onF p ws wo ins m (k + 1) s).2 then beginF p wo ins m (endP p (k + 1)) (onF p ws wo ins m (k + 1) s).1 else ((onF p ws wo ins m (k + 1) s).1, false)) else onF p ws wo ins m (endP p (k + 1)) s) := by
  conv => lhs; unfold onF
  rw [h]; rfl
def onOne (p : List NodeD) (ws wo : List Bool) (ins : List Int) (m k : Nat) (s : NextD) : NextD × Bool := if someP p ws (k + 1) then onF p ws wo ins m (k + 1) s else (s, true)
theorem on_else {p : List NodeD} {ws wo : List Bool} {ins : List Int} {m k : Nat} {s : NextD} (h : kindAt p k = 6 ∨ kindAt p k = 7 ∨ kindAt p k = 8) : onF p ws wo ins (m + 1) k s = (if someP p ws (endP p (k + 1)) then ((onF p ws wo ins m (endP p (k + 1)) (onOne p ws wo ins m k s).1).1, (onOne p ws wo ins m k s).2 && (onF p ws wo ins m (endP p (k + 1)) (onOne p ws wo ins m k s).1).2) else onOne p ws wo ins m k s) := by
  unfold onOne
  conv => lhs; unfold onF
  rcases h with h | h | h <;> (rw [h]; rfl)

set_option maxRecDepth 100000 in
set_option maxHeartbeats 8000000 in
theorem on_any (sb gW gO : Nat) (p : List NodeD) (r : RestD) (ins : List Int) (a : Option Addr) (n c : Nat) (wa : Option Addr) (wn wc : Nat) (oa : Option Addr) (on oc : Nat) (ia : Option Addr) (inn ic : Nat) (hok : POk p) (hn : n ≤ 14) (hwn : wn = n) (hon : on = 3) (hin : inn = 3) (hne : gW ≠ gO) (hmay : ∀ i, r.waits.getD i false = true → waitK (kindAt p i) = true) : ∀ (m k : Nat) (s : NextD) (w : World), p.length - k ≤ m → k < p.length → someP p r.waits k = true → Kp [gW, gO] w (StQ sb gW gO p r ins a n c wa wn wc oa on oc ia inn ic) → BoolRow w gW s.1 → BoolRow w gO s.2 → s.1.length = p.length → s.2.length = 3 →
    Calls Tryz.prog 54 #[.pointer (some ⟨sb, 0, none⟩), .int .i64 (k : Int)] w fun e w' => NextAt gW gO w w' (onF p r.waits r.outs ins m k s) e
  | 0, k, s, w, hm, hk, _, _, _, _, _, _ => by omega
  | m + 1, k, s, w, hm, hk, hsome, hK, hW, hO, hl1, hl2 => by
    have HN := hide hK.now.nodes.1
    have hki : (k : Int) < (n : Int) := by have := unhide HN; omega
    obtain ⟨b, off, rfl, hbb, c1, c2⟩ := hK.now.nodes.at hk
    have hkd := hok.kinds p[k] (List.getElem_mem hk)
    have hsg := hok.sigs p[k] (List.getElem_mem hk)
    obtain ⟨x, hx⟩ := Int.eq_ofNat_of_zero_le hsg.1
    have HKA := hide (kindAt_of hk)
    have HSA := hide (sigAt_of hk hx)
    have hx2 : x ≤ 2 := by
      have h1 := hsg.2
      rw [hx] at h1
      unfold mostS at h1
      split at h1 <;> omega
    have hxi : (x : Int) < 3 := by omega
    have hx00 : (0 : Int) ≤ (x : Int) := by omega
    rw [hx] at c2
    have hb0 : Below w.heap.size w (w.alloc (.cells #[.int .i64 p[k].kind, .int .i64 (x : Int)] 93)) := (Below.refl _ _).alloc (Nat.le_refl _) _
    obtain ⟨y1, y2, y0⟩ := pair2 w (.int .i64 p[k].kind) (.int .i64 (x : Int)) 93
    have hK1 := hK.on hb0
    have hW1 := hW.on hb0
    have hO1 := hO.on hb0
    have hk1 : KeptS [gW, gO] w (w.alloc (.cells #[.int .i64 p[k].kind, .int .i64 (x : Int)] 93)) := KeptS.of hb0
    have hgWl := hW.lt
    have hgOl := hO.lt
    have q0 := hK.now.c0
    have HP := hide (show hasP p[k].kind = true → (k + 1 < p.length ∧ endP p (k + 1) < p.length) ∧ (someP p r.waits (k + 1) = true ∨ someP p r.waits (endP p (k + 1)) = true) from fun e => ⟨end_two hok.form hk e, some_split hk e (by
      rw [Bool.eq_false_iff]
      intro h1
      have h2 := hmay k h1
      rw [kindAt_of hk] at h2
      unfold waitK at h2
      unfold hasP at e
      simp at e h2
      omega) hsome⟩)
    have HLF := hide (show hasP p[k].kind = false → waitK p[k].kind = true from fun e => by
      simp only [someP, List.any_eq_true, List.mem_range, Bool.and_eq_true, decide_eq_true_iff] at hsome
      obtain ⟨i, h1, h2, h3⟩ := hsome
      rw [end_leaf hk e] at h1
      have h4 := hmay i h3
      rw [show i = k by omega, kindAt_of hk] at h4
      exact h4)
    have HL1 := hide hl1
    have HL2 := hide hl2
    clear hK hW hO hsg hx hl1 hl2 hsome
    generalize hkg : p[k].kind = kd at *
    clear hkg
    go_enter Tryz.func54, Tryz.ntmps54
    go_upto_region 2 with fail
    generalize hw1 : w.alloc (.cells #[.int .i64 kd, .int .i64 (x : Int)] 93) = w1 at *
    clear hw1 c1 c2 q0
    have hQ1 := hK1.now
    obtain ⟨z0, q0, q2, q3, q4, q6, q7, hNd, hWt, hOt, hIn⟩ := hQ1
    have hcW := hW1.cell k (by rw [unhide HL1]; exact hk)
    have hfW := hW1.frozen k
    have hnW := hW1.lt
    have hnO := hO1.lt
    rcases nine hkd with rfl | rfl | rfl | rfl | rfl | rfl | rfl | rfl | rfl
    · exact absurd (unhide HLF rfl) (by decide)
    · -- a pause is over
      have R := hide (show onF p r.waits r.outs ins (m + 1) k s = (s, true) by unfold onF; rw [unhide HKA]; rfl)
      go_wp2_with fail
      go_ret
      exact next_of (unhide R) ⟨rfl, hW1, hO1, hk1⟩
    · -- a halt waits
      have R := hide (show onF p r.waits r.outs ins (m + 1) k s = ((s.1.set k true, s.2), false) by unfold onF; rw [unhide HKA]; rfl)
      have R1 := hide (And.intro (hW1.set k true) (And.intro (hO1.far (k := k) (v := .bool true) (Ne.symm hne)) (hk1.trans (KeptS.set (k := k) (.bool true) (by simp : gW ∈ [gW, gO])))))
      go_wp2_with fail
      go_ret
      exact next_of (unhide R) ⟨rfl, (unhide R1).1, (unhide R1).2.1, (unhide R1).2.2⟩
    · exact absurd (unhide HLF rfl) (by decide)
    · -- a wait for an input
      have hxl : x < ins.length := by have := hIn.1; omega
      obtain ⟨ib, io, rfl, hib, ci⟩ := hIn.at hxl
      have hxn : (x : Int) < (inn : Int) := by omega
      have HGD := hide (show ins.getD (sigAt p k) 0 = ins[x] by rw [unhide HSA]; simp [List.getD_eq_getElem?_getD, hxl])
      have hset : ∀ bb : Bool, (w1.setCell ⟨gW, k, none⟩ (.bool bb)).cell? ⟨sb, 6, none⟩ = some (.slice (some ⟨gW, 0, none⟩) n n) ∧ (w1.setCell ⟨gW, k, none⟩ (.bool bb)).cell? ⟨sb, 4, none⟩ = some (.slice (some ⟨ib, io, none⟩) inn ic) ∧ (w1.setCell ⟨gW, k, none⟩ (.bool bb)).cell? ⟨w.heap.size, 1, none⟩ = some (.int .i64 (x : Int)) ∧ (w1.setCell ⟨gW, k, none⟩ (.bool bb)).cell? ⟨ib, io + x, none⟩ = some (.int .i64 ins[x]) := fun bb => by
        have h9 := hK1 _ (KeptG.set (w := w1) (k := k) (.bool bb) (by simp : gW ∈ [gW, gO]))
        obtain ⟨ib2, io2, e2, _, ci2⟩ := h9.ins.at hxl
        injection e2 with e2
        injection e2 with e3 e4
        subst e3
        subst e4
        exact ⟨h9.c6, h9.c4, (World.cell?_of_block (a := ⟨w.heap.size, 1, none⟩) (set_other (Nat.ne_of_gt hgWl))).trans y2, ci2⟩
      have hrd : ∀ bb : Bool, (w1.setCell ⟨gW, k, none⟩ (.bool bb)).cell? ⟨gW, k, none⟩ = some (.bool bb) := fun bb => by
        have h9 := (hW1.set k bb).cell k (by rw [List.length_set, unhide HL1]; exact hk)
        rw [h9]
        have hkl : k < s.1.length := by rw [unhide HL1]; exact hk
        simp [List.getD_eq_getElem?_getD, hkl]
      generalize ins[x] = iv at *
      by_cases hiv : iv = 0
      · subst hiv
        have R := hide (show onF p r.waits r.outs ins (m + 1) k s = ((s.1.set k true, s.2), false) by unfold onF; rw [unhide HKA, unhide HGD]; rfl)
        have R1 := hide (And.intro (hW1.set k true) (And.intro (hO1.far (k := k) (v := .bool true) (Ne.symm hne)) (hk1.trans (KeptS.set (k := k) (.bool true) (by simp : gW ∈ [gW, gO])))))
        have h9 := hset true
        have h8 := hrd true
        clear hset hrd
        go_wp2_with fail
        go_region_held3 (fun W => W.cell? ⟨sb, 6, none⟩ = some (.slice (some ⟨gW, 0, none⟩) n n) ∧ W.cell? ⟨sb, 4, none⟩ = some (.slice (some ⟨ib, io, none⟩) inn ic) ∧ W.cell? ⟨w.heap.size, 1, none⟩ = some (.int .i64 (x : Int)) ∧ W.cell? ⟨ib, io + x, none⟩ = some (.int .i64 0))
          ((first | exact ⟨q6, q4, y2, ci⟩ | exact h9))
          (fail)
        obtain ⟨g6, g4, g1, g2⟩ := h9
        go_wp2_with fail
        go_ret
        exact next_of (unhide R) ⟨rfl, (unhide R1).1, (unhide R1).2.1, (unhide R1).2.2⟩
      · have hq : (iv == 0) = false := by simp [hiv]
        have R := hide (show onF p r.waits r.outs ins (m + 1) k s = ((s.1.set k false, s.2), true) by unfold onF; rw [unhide HKA, unhide HGD]; rw [hq]; rfl)
        have R1 := hide (And.intro (hW1.set k false) (And.intro (hO1.far (k := k) (v := .bool false) (Ne.symm hne)) (hk1.trans (KeptS.set (k := k) (.bool false) (by simp : gW ∈ [gW, gO])))))
        have h9 := hset false
        have h8 := hrd false
        clear hset hrd
        go_wp2_with fail
        go_region_held3 (fun W => W.cell? ⟨sb, 6, none⟩ = some (.slice (some ⟨gW, 0, none⟩) n n) ∧ W.cell? ⟨sb, 4, none⟩ = some (.slice (some ⟨ib, io, none⟩) inn ic) ∧ W.cell? ⟨w.heap.size, 1, none⟩ = some (.int .i64 (x : Int)) ∧ W.cell? ⟨ib, io + x, none⟩ = some (.int .i64 iv))
          ((first | exact ⟨q6, q4, y2, ci⟩ | exact h9))
          (fail)
        obtain ⟨g6, g4, g1, g2⟩ := h9
        go_wp2_with fail
        go_ret
        exact next_of (unhide R) ⟨rfl, (unhide R1).1, (unhide R1).2.1, (unhide R1).2.2⟩
    · -- one behind the other
      obtain ⟨⟨h1, h2⟩, hss⟩ := unhide HP rfl
      have h3 := end_gt h1
      have ihe : Calls Tryz.prog 83 #[.slice (some ⟨b, off, none⟩) n c, .int .i64 ((k : Int) + 1)] w1 fun e w' => e = .returned (.int .i64 (endP p (k + 1) : Nat)) ∧ w' = w1 := by
        have := end_any p _ n c w1 hNd hok.form hn p.length (k + 1) (by omega) h1
        rwa [show ((k + 1 : Nat) : Int) = (k : Int) + 1 by omega] at this
      have ihs1 : Calls Tryz.prog 53 #[.pointer (some ⟨sb, 0, none⟩), .int .i64 ((k : Int) + 1)] w1 fun e w' => e = .returned (.bool (someP p r.waits (k + 1))) ∧ w' = w1 := by
        have := some_any sb gW gO p r ins (some ⟨b, off, none⟩) n c wa wn wc oa on oc ia inn ic w1 hK1.now hok.form hn hwn (k + 1) h1
        rwa [show ((k + 1 : Nat) : Int) = (k : Int) + 1 by omega] at this
      have ih1 : ∀ (t : NextD) (W : World), someP p r.waits (k + 1) = true → Kp [gW, gO] W (StQ sb gW gO p r ins (some ⟨b, off, none⟩) n c wa wn wc oa on oc ia inn ic) → BoolRow W gW t.1 → BoolRow W gO t.2 → t.1.length = p.length → t.2.length = 3 → Calls Tryz.prog 54 #[.pointer (some ⟨sb, 0, none⟩), .int .i64 ((k : Int) + 1)] W fun e w' => NextAt gW gO W w' (onF p r.waits r.outs ins m (k + 1) t) e := fun t W a0 a1 a2 a3 a4 a5 => by
        have := on_any sb gW gO p r ins (some ⟨b, off, none⟩) n c wa wn wc oa on oc ia inn ic hok hn hwn hon hin hne hmay m (k + 1) t W (by omega) h1 a0 a1 a2 a3 a4 a5
        rwa [show ((k + 1 : Nat) : Int) = (k : Int) + 1 by omega] at this
      have ih2 : ∀ (t : NextD) (W : World), someP p r.waits (endP p (k + 1)) = true → Kp [gW, gO] W (StQ sb gW gO p r ins (some ⟨b, off, none⟩) n c wa wn wc oa on oc ia inn ic) → BoolRow W gW t.1 → BoolRow W gO t.2 → t.1.length = p.length → t.2.length = 3 → Calls Tryz.prog 54 #[.pointer (some ⟨sb, 0, none⟩), .int .i64 (endP p (k + 1) : Nat)] W fun e w' => NextAt gW gO W w' (onF p r.waits r.outs ins m (endP p (k + 1)) t) e := fun t W a0 a1 a2 a3 a4 a5 =>
        on_any sb gW gO p r ins (some ⟨b, off, none⟩) n c wa wn wc oa on oc ia inn ic hok hn hwn hon hin hne hmay m (endP p (k + 1)) t W (by omega) h2 a0 a1 a2 a3 a4 a5
      have ih3 : ∀ (t : NextD) (W : World), Kp [gW, gO] W (StQ sb gW gO p r ins (some ⟨b, off, none⟩) n c wa wn wc oa on oc ia inn ic) → BoolRow W gW t.1 → BoolRow W gO t.2 → t.1.length = p.length → t.2.length = 3 → Calls Tryz.prog 52 #[.pointer (some ⟨sb, 0, none⟩), .int .i64 (endP p (k + 1) : Nat)] W fun e w' => NextAt gW gO W w' (beginF p r.outs ins m (endP p (k + 1)) t) e := fun t W a1 a2 a3 a4 a5 =>
        begin_any sb gW gO p r ins (some ⟨b, off, none⟩) n c wa wn wc oa on oc ia inn ic hok hn hon hin hne m (endP p (k + 1)) t W (by omega) h2 a1 a2 a3 a4 a5
      have ihs2 : ∀ (W : World), Kp [gW, gO] W (StQ sb gW gO p r ins (some ⟨b, off, none⟩) n c wa wn wc oa on oc ia inn ic) → Calls Tryz.prog 53 #[.pointer (some ⟨sb, 0, none⟩), .int .i64 (endP p (k + 1) : Nat)] W fun e w' => e = .returned (.bool (someP p r.waits (endP p (k + 1)))) ∧ w' = W := fun W a1 =>
        some_any sb gW gO p r ins (some ⟨b, off, none⟩) n c wa wn wc oa on oc ia inn ic W a1.now hok.form hn hwn (endP p (k + 1)) h2
      have HIS := hide ihs2
      have HIH := hide (And.intro ih1 (And.intro ih2 ih3))
      clear ih1 ih2 ih3 ihs2 hcW hfW
      have R := hide (on_seq (p := p) (ws := r.waits) (wo := r.outs) (ins := ins) (m := m) (k := k) (s := s) (unhide HKA))
      have hwent := on_went p r.waits r.outs ins m (k + 1) s
      have HSM := hide hss
      cases eb : someP p r.waits (k + 1)
      · have h5 : someP p r.waits (endP p (k + 1)) = true := by
          rcases unhide HSM with h6 | h6
          · rw [eb] at h6; simp at h6
          · exact h6
        have R2 := hide (show onF p r.waits r.outs ins (m + 1) k s = onF p r.waits r.outs ins m (endP p (k + 1)) s by rw [unhide R, eb]; rfl)
        have HEB := hide eb
        clear eb hwent
        go_wp2_with fail
        refine ihe.mono ?_
        rintro e w' ⟨rfl, rfl⟩
        go_wp2_with fail
        refine ihs1.mono ?_
        rintro e w' ⟨rfl, rfl⟩
        rw [unhide HEB]
        go_wp2_with fail
        refine ((unhide HIH).2.1 s _ h5 hK1 hW1 hO1 (unhide HL1) (unhide HL2)).mono ?_
        rintro e w2 ⟨rfl, hW2, hO2, hk2⟩
        go_wp2_with fail
        go_ret
        exact next_of (unhide R2) ⟨rfl, hW2, hO2, hk1.trans hk2⟩
      · have HEB := hide eb
        rw [eb] at R
        clear eb
        go_wp2_with fail
        refine ihe.mono ?_
        rintro e w' ⟨rfl, rfl⟩
        go_wp2_with fail
        refine ihs1.mono ?_
        rintro e w' ⟨rfl, rfl⟩
        rw [unhide HEB]
        go_wp2_with fail
        refine ((unhide HIH).1 s _ (unhide HEB) hK1 hW1 hO1 (unhide HL1) (unhide HL2)).mono ?_
        rintro e w2 ⟨rfl, hW2, hO2, hk2⟩
        have hK2 := hK1.step hk2.1 (fun _ hg => Or.inl hg)
        obtain ⟨t1, ht1⟩ : ∃ t, onF p r.waits r.outs ins m (k + 1) s = t := ⟨_, rfl⟩
        rw [ht1] at hW2 hO2 hwent R ⊢
        obtain ⟨s1, b1⟩ := t1
        have HK2 := hide hK2
        have HKT := hide (hk1.trans hk2)
        have HWE := hide hwent
        clear hK2 hwent ht1 hk2
        cases b1
        · have R2 := hide (show onF p r.waits r.outs ins (m + 1) k s = (s1, false) from unhide R)
          go_wp2_with fail
          go_ret
          exact next_of (unhide R2) ⟨rfl, hW2, hO2, unhide HKT⟩
        · have R2 := hide (show onF p r.waits r.outs ins (m + 1) k s = beginF p r.outs ins m (endP p (k + 1)) s1 from unhide R)
          go_wp2_with fail
          refine ((unhide HIH).2.2 s1 _ (unhide HK2) hW2 hO2 (by rw [(unhide HWE).len]; exact unhide HL1) (by rw [(unhide HWE).outs]; exact unhide HL2)).mono ?_
          rintro e w3 ⟨rfl, hW3, hO3, hk3⟩
          go_wp2_with fail
          go_ret
          exact next_of (unhide R2) ⟨rfl, hW3, hO3, (unhide HKT).trans hk3⟩
    · -- each part in which some wait
      obtain ⟨⟨h1, h2⟩, hss⟩ := unhide HP rfl
      have h3 := end_gt h1
      have ihe : Calls Tryz.prog 83 #[.slice (some ⟨b, off, none⟩) n c, .int .i64 ((k : Int) + 1)] w1 fun e w' => e = .returned (.int .i64 (endP p (k + 1) : Nat)) ∧ w' = w1 := by
        have := end_any p _ n c w1 hNd hok.form hn p.length (k + 1) (by omega) h1
        rwa [show ((k + 1 : Nat) : Int) = (k : Int) + 1 by omega] at this
      have ihs1 : Calls Tryz.prog 53 #[.pointer (some ⟨sb, 0, none⟩), .int .i64 ((k : Int) + 1)] w1 fun e w' => e = .returned (.bool (someP p r.waits (k + 1))) ∧ w' = w1 := by
        have := some_any sb gW gO p r ins (some ⟨b, off, none⟩) n c wa wn wc oa on oc ia inn ic w1 hK1.now hok.form hn hwn (k + 1) h1
        rwa [show ((k + 1 : Nat) : Int) = (k : Int) + 1 by omega] at this
      have ih1 : ∀ (t : NextD) (W : World), someP p r.waits (k + 1) = true → Kp [gW, gO] W (StQ sb gW gO p r ins (some ⟨b, off, none⟩) n c wa wn wc oa on oc ia inn ic) → BoolRow W gW t.1 → BoolRow W gO t.2 → t.1.length = p.length → t.2.length = 3 → Calls Tryz.prog 54 #[.pointer (some ⟨sb, 0, none⟩), .int .i64 ((k : Int) + 1)] W fun e w' => NextAt gW gO W w' (onF p r.waits r.outs ins m (k + 1) t) e := fun t W a0 a1 a2 a3 a4 a5 => by
        have := on_any sb gW gO p r ins (some ⟨b, off, none⟩) n c wa wn wc oa on oc ia inn ic hok hn hwn hon hin hne hmay m (k + 1) t W (by omega) h1 a0 a1 a2 a3 a4 a5
        rwa [show ((k + 1 : Nat) : Int) = (k : Int) + 1 by omega] at this
      have ih2 : ∀ (t : NextD) (W : World), someP p r.waits (endP p (k + 1)) = true → Kp [gW, gO] W (StQ sb gW gO p r ins (some ⟨b, off, none⟩) n c wa wn wc oa on oc ia inn ic) → BoolRow W gW t.1 → BoolRow W gO t.2 → t.1.length = p.length → t.2.length = 3 → Calls Tryz.prog 54 #[.pointer (some ⟨sb, 0, none⟩), .int .i64 (endP p (k + 1) : Nat)] W fun e w' => NextAt gW gO W w' (onF p r.waits r.outs ins m (endP p (k + 1)) t) e := fun t W a0 a1 a2 a3 a4 a5 =>
        on_any sb gW gO p r ins (some ⟨b, off, none⟩) n c wa wn wc oa on oc ia inn ic hok hn hwn hon hin hne hmay m (endP p (k + 1)) t W (by omega) h2 a0 a1 a2 a3 a4 a5
      have ih3 : ∀ (t : NextD) (W : World), Kp [gW, gO] W (StQ sb gW gO p r ins (some ⟨b, off, none⟩) n c wa wn wc oa on oc ia inn ic) → BoolRow W gW t.1 → BoolRow W gO t.2 → t.1.length = p.length → t.2.length = 3 → Calls Tryz.prog 52 #[.pointer (some ⟨sb, 0, none⟩), .int .i64 (endP p (k + 1) : Nat)] W fun e w' => NextAt gW gO W w' (beginF p r.outs ins m (endP p (k + 1)) t) e := fun t W a1 a2 a3 a4 a5 =>
        begin_any sb gW gO p r ins (some ⟨b, off, none⟩) n c wa wn wc oa on oc ia inn ic hok hn hon hin hne m (endP p (k + 1)) t W (by omega) h2 a1 a2 a3 a4 a5
      have ihs2 : ∀ (W : World), Kp [gW, gO] W (StQ sb gW gO p r ins (some ⟨b, off, none⟩) n c wa wn wc oa on oc ia inn ic) → Calls Tryz.prog 53 #[.pointer (some ⟨sb, 0, none⟩), .int .i64 (endP p (k + 1) : Nat)] W fun e w' => e = .returned (.bool (someP p r.waits (endP p (k + 1)))) ∧ w' = W := fun W a1 =>
        some_any sb gW gO p r ins (some ⟨b, off, none⟩) n c wa wn wc oa on oc ia inn ic W a1.now hok.form hn hwn (endP p (k + 1)) h2
      have HIS := hide ihs2
      have HIH := hide (And.intro ih1 (And.intro ih2 ih3))
      clear ih1 ih2 ih3 ihs2 hcW hfW
      have R := hide (on_else (p := p) (ws := r.waits) (wo := r.outs) (ins := ins) (m := m) (k := k) (s := s) (Or.inl (unhide HKA)))
      clear hss
      cases eb : someP p r.waits (k + 1)
      · have HOO := hide (show onOne p r.waits r.outs ins m k s = (s, true) by unfold onOne; rw [eb]; rfl)
        rw [unhide HOO] at R
        have HEB := hide eb
        clear eb
        go_wp2_with fail
        refine ihe.mono ?_
        rintro e w' ⟨rfl, rfl⟩
        go_wp2_with fail
        refine ihs1.mono ?_
        rintro e w' ⟨rfl, rfl⟩
        rw [unhide HEB]
        go_wp2_with fail
        refine (unhide HIS _ hK1).mono ?_
        rintro e w' ⟨rfl, rfl⟩
        cases ec : someP p r.waits (endP p (k + 1))
        · have R2 := hide (show onF p r.waits r.outs ins (m + 1) k s = (s, true) by rw [unhide R, ec]; rfl)
          clear ec
          go_wp2_with fail
          go_ret
          exact next_of (unhide R2) ⟨rfl, hW1, hO1, hk1⟩
        · have HEC := hide ec
          rw [ec] at R
          clear ec
          go_wp2_with fail
          refine ((unhide HIH).2.1 s _ (unhide HEC) hK1 hW1 hO1 (unhide HL1) (unhide HL2)).mono ?_
          rintro e w2 ⟨rfl, hW2, hO2, hk2⟩
          obtain ⟨t2, ht2⟩ : ∃ t, onF p r.waits r.outs ins m (endP p (k + 1)) s = t := ⟨_, rfl⟩
          have R2 := hide (show onF p r.waits r.outs ins (m + 1) k s = (t2.1, true && t2.2) by rw [unhide R]; show ((onF p r.waits r.outs ins m (endP p (k + 1)) s).1, true && (onF p r.waits r.outs ins m (endP p (k + 1)) s).2) = _; rw [ht2])
          rw [ht2] at hW2 hO2 ⊢
          obtain ⟨s2, b2⟩ := t2
          have HKT := hide (hk1.trans hk2)
          clear ht2 hk2
          cases b2
          all_goals
            go_wp2_with fail
            go_ret
            exact next_of (unhide R2) ⟨rfl, hW2, hO2, unhide HKT⟩
      · have HOO := hide (show onOne p r.waits r.outs ins m k s = onF p r.waits r.outs ins m (k + 1) s by unfold onOne; rw [eb]; rfl)
        rw [unhide HOO] at R
        have hwent := on_went p r.waits r.outs ins m (k + 1) s
        have HEB := hide eb
        clear eb
        go_wp2_with fail
        refine ihe.mono ?_
        rintro e w' ⟨rfl, rfl⟩
        go_wp2_with fail
        refine ihs1.mono ?_
        rintro e w' ⟨rfl, rfl⟩
        rw [unhide HEB]
        go_wp2_with fail
        refine ((unhide HIH).1 s _ (unhide HEB) hK1 hW1 hO1 (unhide HL1) (unhide HL2)).mono ?_
        rintro e w2 ⟨rfl, hW2, hO2, hk2⟩
        have hK2 := hK1.step hk2.1 (fun _ hg => Or.inl hg)
        obtain ⟨t1, ht1⟩ : ∃ t, onF p r.waits r.outs ins m (k + 1) s = t := ⟨_, rfl⟩
        rw [ht1] at hW2 hO2 hwent R ⊢
        obtain ⟨s1, b1⟩ := t1
        have HKT := hide (hk1.trans hk2)
        have HWE := hide hwent
        clear hwent ht1 hk2
        go_wp2_with fail
        refine (unhide HIS _ hK2).mono ?_
        rintro e w' ⟨rfl, rfl⟩
        have HK2 := hide hK2
        clear hK2
        cases ec : someP p r.waits (endP p (k + 1))
        · have R2 := hide (show onF p r.waits r.outs ins (m + 1) k s = (s1, b1) by rw [unhide R, ec]; rfl)
          clear ec
          cases b1
          all_goals
            go_wp2_with fail
            go_ret
            exact next_of (unhide R2) ⟨rfl, hW2, hO2, unhide HKT⟩
        · have HEC := hide ec
          rw [ec] at R
          clear ec
          go_wp2_with fail
          refine ((unhide HIH).2.1 s1 _ (unhide HEC) (unhide HK2) hW2 hO2 (by rw [(unhide HWE).len]; exact unhide HL1) (by rw [(unhide HWE).outs]; exact unhide HL2)).mono ?_
          rintro e w3 ⟨rfl, hW3, hO3, hk3⟩
          obtain ⟨t2, ht2⟩ : ∃ t, onF p r.waits r.outs ins m (endP p (k + 1)) s1 = t := ⟨_, rfl⟩
          have R2 := hide (show onF p r.waits r.outs ins (m + 1) k s = (t2.1, b1 && t2.2) by rw [unhide R]; show ((onF p r.waits r.outs ins m (endP p (k + 1)) s1).1, b1 && (onF p r.waits r.outs ins m (endP p (k + 1)) s1).2) = _; rw [ht2])
          rw [ht2] at hW3 hO3 ⊢
          obtain ⟨s2, b2⟩ := t2
          have HKT3 := hide ((unhide HKT).trans hk3)
          clear ht2 hk3
          cases b1 <;> cases b2
          all_goals
            go_wp2_with fail
            go_ret
            exact next_of (unhide R2) ⟨rfl, hW3, hO3, unhide HKT3⟩
    · -- each part in which some wait
      obtain ⟨⟨h1, h2⟩, hss⟩ := unhide HP rfl
      have h3 := end_gt h1
      have ihe : Calls Tryz.prog 83 #[.slice (some ⟨b, off, none⟩) n c, .int .i64 ((k : Int) + 1)] w1 fun e w' => e = .returned (.int .i64 (endP p (k + 1) : Nat)) ∧ w' = w1 := by
        have := end_any p _ n c w1 hNd hok.form hn p.length (k + 1) (by omega) h1
        rwa [show ((k + 1 : Nat) : Int) = (k : Int) + 1 by omega] at this
      have ihs1 : Calls Tryz.prog 53 #[.pointer (some ⟨sb, 0, none⟩), .int .i64 ((k : Int) + 1)] w1 fun e w' => e = .returned (.bool (someP p r.waits (k + 1))) ∧ w' = w1 := by
        have := some_any sb gW gO p r ins (some ⟨b, off, none⟩) n c wa wn wc oa on oc ia inn ic w1 hK1.now hok.form hn hwn (k + 1) h1
        rwa [show ((k + 1 : Nat) : Int) = (k : Int) + 1 by omega] at this
      have ih1 : ∀ (t : NextD) (W : World), someP p r.waits (k + 1) = true → Kp [gW, gO] W (StQ sb gW gO p r ins (some ⟨b, off, none⟩) n c wa wn wc oa on oc ia inn ic) → BoolRow W gW t.1 → BoolRow W gO t.2 → t.1.length = p.length → t.2.length = 3 → Calls Tryz.prog 54 #[.pointer (some ⟨sb, 0, none⟩), .int .i64 ((k : Int) + 1)] W fun e w' => NextAt gW gO W w' (onF p r.waits r.outs ins m (k + 1) t) e := fun t W a0 a1 a2 a3 a4 a5 => by
        have := on_any sb gW gO p r ins (some ⟨b, off, none⟩) n c wa wn wc oa on oc ia inn ic hok hn hwn hon hin hne hmay m (k + 1) t W (by omega) h1 a0 a1 a2 a3 a4 a5
        rwa [show ((k + 1 : Nat) : Int) = (k : Int) + 1 by omega] at this
      have ih2 : ∀ (t : NextD) (W : World), someP p r.waits (endP p (k + 1)) = true → Kp [gW, gO] W (StQ sb gW gO p r ins (some ⟨b, off, none⟩) n c wa wn wc oa on oc ia inn ic) → BoolRow W gW t.1 → BoolRow W gO t.2 → t.1.length = p.length → t.2.length = 3 → Calls Tryz.prog 54 #[.pointer (some ⟨sb, 0, none⟩), .int .i64 (endP p (k + 1) : Nat)] W fun e w' => NextAt gW gO W w' (onF p r.waits r.outs ins m (endP p (k + 1)) t) e := fun t W a0 a1 a2 a3 a4 a5 =>
        on_any sb gW gO p r ins (some ⟨b, off, none⟩) n c wa wn wc oa on oc ia inn ic hok hn hwn hon hin hne hmay m (endP p (k + 1)) t W (by omega) h2 a0 a1 a2 a3 a4 a5
      have ih3 : ∀ (t : NextD) (W : World), Kp [gW, gO] W (StQ sb gW gO p r ins (some ⟨b, off, none⟩) n c wa wn wc oa on oc ia inn ic) → BoolRow W gW t.1 → BoolRow W gO t.2 → t.1.length = p.length → t.2.length = 3 → Calls Tryz.prog 52 #[.pointer (some ⟨sb, 0, none⟩), .int .i64 (endP p (k + 1) : Nat)] W fun e w' => NextAt gW gO W w' (beginF p r.outs ins m (endP p (k + 1)) t) e := fun t W a1 a2 a3 a4 a5 =>
        begin_any sb gW gO p r ins (some ⟨b, off, none⟩) n c wa wn wc oa on oc ia inn ic hok hn hon hin hne m (endP p (k + 1)) t W (by omega) h2 a1 a2 a3 a4 a5
      have ihs2 : ∀ (W : World), Kp [gW, gO] W (StQ sb gW gO p r ins (some ⟨b, off, none⟩) n c wa wn wc oa on oc ia inn ic) → Calls Tryz.prog 53 #[.pointer (some ⟨sb, 0, none⟩), .int .i64 (endP p (k + 1) : Nat)] W fun e w' => e = .returned (.bool (someP p r.waits (endP p (k + 1)))) ∧ w' = W := fun W a1 =>
        some_any sb gW gO p r ins (some ⟨b, off, none⟩) n c wa wn wc oa on oc ia inn ic W a1.now hok.form hn hwn (endP p (k + 1)) h2
      have HIS := hide ihs2
      have HIH := hide (And.intro ih1 (And.intro ih2 ih3))
      clear ih1 ih2 ih3 ihs2 hcW hfW
      have R := hide (on_else (p := p) (ws := r.waits) (wo := r.outs) (ins := ins) (m := m) (k := k) (s := s) (Or.inr (Or.inl (unhide HKA))))
      clear hss
      cases eb : someP p r.waits (k + 1)
      · have HOO := hide (show onOne p r.waits r.outs ins m k s = (s, true) by unfold onOne; rw [eb]; rfl)
        rw [unhide HOO] at R
        have HEB := hide eb
        clear eb
        go_wp2_with fail
        refine ihe.mono ?_
        rintro e w' ⟨rfl, rfl⟩
        go_wp2_with fail
        refine ihs1.mono ?_
        rintro e w' ⟨rfl, rfl⟩
        rw [unhide HEB]
        go_wp2_with fail
        refine (unhide HIS _ hK1).mono ?_
        rintro e w' ⟨rfl, rfl⟩
        cases ec : someP p r.waits (endP p (k + 1))
        · have R2 := hide (show onF p r.waits r.outs ins (m + 1) k s = (s, true) by rw [unhide R, ec]; rfl)
          clear ec
          go_wp2_with fail
          go_ret
          exact next_of (unhide R2) ⟨rfl, hW1, hO1, hk1⟩
        · have HEC := hide ec
          rw [ec] at R
          clear ec
          go_wp2_with fail
          refine ((unhide HIH).2.1 s _ (unhide HEC) hK1 hW1 hO1 (unhide HL1) (unhide HL2)).mono ?_
          rintro e w2 ⟨rfl, hW2, hO2, hk2⟩
          obtain ⟨t2, ht2⟩ : ∃ t, onF p r.waits r.outs ins m (endP p (k + 1)) s = t := ⟨_, rfl⟩
          have R2 := hide (show onF p r.waits r.outs ins (m + 1) k s = (t2.1, true && t2.2) by rw [unhide R]; show ((onF p r.waits r.outs ins m (endP p (k + 1)) s).1, true && (onF p r.waits r.outs ins m (endP p (k + 1)) s).2) = _; rw [ht2])
          rw [ht2] at hW2 hO2 ⊢
          obtain ⟨s2, b2⟩ := t2
          have HKT := hide (hk1.trans hk2)
          clear ht2 hk2
          cases b2
          all_goals
            go_wp2_with fail
            go_ret
            exact next_of (unhide R2) ⟨rfl, hW2, hO2, unhide HKT⟩
      · have HOO := hide (show onOne p r.waits r.outs ins m k s = onF p r.waits r.outs ins m (k + 1) s by unfold onOne; rw [eb]; rfl)
        rw [unhide HOO] at R
        have hwent := on_went p r.waits r.outs ins m (k + 1) s
        have HEB := hide eb
        clear eb
        go_wp2_with fail
        refine ihe.mono ?_
        rintro e w' ⟨rfl, rfl⟩
        go_wp2_with fail
        refine ihs1.mono ?_
        rintro e w' ⟨rfl, rfl⟩
        rw [unhide HEB]
        go_wp2_with fail
        refine ((unhide HIH).1 s _ (unhide HEB) hK1 hW1 hO1 (unhide HL1) (unhide HL2)).mono ?_
        rintro e w2 ⟨rfl, hW2, hO2, hk2⟩
        have hK2 := hK1.step hk2.1 (fun _ hg => Or.inl hg)
        obtain ⟨t1, ht1⟩ : ∃ t, onF p r.waits r.outs ins m (k + 1) s = t := ⟨_, rfl⟩
        rw [ht1] at hW2 hO2 hwent R ⊢
        obtain ⟨s1, b1⟩ := t1
        have HKT := hide (hk1.trans hk2)
        have HWE := hide hwent
        clear hwent ht1 hk2
        go_wp2_with fail
        refine (unhide HIS _ hK2).mono ?_
        rintro e w' ⟨rfl, rfl⟩
        have HK2 := hide hK2
        clear hK2
        cases ec : someP p r.waits (endP p (k + 1))
        · have R2 := hide (show onF p r.waits r.outs ins (m + 1) k s = (s1, b1) by rw [unhide R, ec]; rfl)
          clear ec
          cases b1
          all_goals
            go_wp2_with fail
            go_ret
            exact next_of (unhide R2) ⟨rfl, hW2, hO2, unhide HKT⟩
        · have HEC := hide ec
          rw [ec] at R
          clear ec
          go_wp2_with fail
          refine ((unhide HIH).2.1 s1 _ (unhide HEC) (unhide HK2) hW2 hO2 (by rw [(unhide HWE).len]; exact unhide HL1) (by rw [(unhide HWE).outs]; exact unhide HL2)).mono ?_
          rintro e w3 ⟨rfl, hW3, hO3, hk3⟩
          obtain ⟨t2, ht2⟩ : ∃ t, onF p r.waits r.outs ins m (endP p (k + 1)) s1 = t := ⟨_, rfl⟩
          have R2 := hide (show onF p r.waits r.outs ins (m + 1) k s = (t2.1, b1 && t2.2) by rw [unhide R]; show ((onF p r.waits r.outs ins m (endP p (k + 1)) s1).1, b1 && (onF p r.waits r.outs ins m (endP p (k + 1)) s1).2) = _; rw [ht2])
          rw [ht2] at hW3 hO3 ⊢
          obtain ⟨s2, b2⟩ := t2
          have HKT3 := hide ((unhide HKT).trans hk3)
          clear ht2 hk3
          cases b1 <;> cases b2
          all_goals
            go_wp2_with fail
            go_ret
            exact next_of (unhide R2) ⟨rfl, hW3, hO3, unhide HKT3⟩
    · -- each part in which some wait
      obtain ⟨⟨h1, h2⟩, hss⟩ := unhide HP rfl
      have h3 := end_gt h1
      have ihe : Calls Tryz.prog 83 #[.slice (some ⟨b, off, none⟩) n c, .int .i64 ((k : Int) + 1)] w1 fun e w' => e = .returned (.int .i64 (endP p (k + 1) : Nat)) ∧ w' = w1 := by
        have := end_any p _ n c w1 hNd hok.form hn p.length (k + 1) (by omega) h1
        rwa [show ((k + 1 : Nat) : Int) = (k : Int) + 1 by omega] at this
      have ihs1 : Calls Tryz.prog 53 #[.pointer (some ⟨sb, 0, none⟩), .int .i64 ((k : Int) + 1)] w1 fun e w' => e = .returned (.bool (someP p r.waits (k + 1))) ∧ w' = w1 := by
        have := some_any sb gW gO p r ins (some ⟨b, off, none⟩) n c wa wn wc oa on oc ia inn ic w1 hK1.now hok.form hn hwn (k + 1) h1
        rwa [show ((k + 1 : Nat) : Int) = (k : Int) + 1 by omega] at this
      have ih1 : ∀ (t : NextD) (W : World), someP p r.waits (k + 1) = true → Kp [gW, gO] W (StQ sb gW gO p r ins (some ⟨b, off, none⟩) n c wa wn wc oa on oc ia inn ic) → BoolRow W gW t.1 → BoolRow W gO t.2 → t.1.length = p.length → t.2.length = 3 → Calls Tryz.prog 54 #[.pointer (some ⟨sb, 0, none⟩), .int .i64 ((k : Int) + 1)] W fun e w' => NextAt gW gO W w' (onF p r.waits r.outs ins m (k + 1) t) e := fun t W a0 a1 a2 a3 a4 a5 => by
        have := on_any sb gW gO p r ins (some ⟨b, off, none⟩) n c wa wn wc oa on oc ia inn ic hok hn hwn hon hin hne hmay m (k + 1) t W (by omega) h1 a0 a1 a2 a3 a4 a5
        rwa [show ((k + 1 : Nat) : Int) = (k : Int) + 1 by omega] at this
      have ih2 : ∀ (t : NextD) (W : World), someP p r.waits (endP p (k + 1)) = true → Kp [gW, gO] W (StQ sb gW gO p r ins (some ⟨b, off, none⟩) n c wa wn wc oa on oc ia inn ic) → BoolRow W gW t.1 → BoolRow W gO t.2 → t.1.length = p.length → t.2.length = 3 → Calls Tryz.prog 54 #[.pointer (some ⟨sb, 0, none⟩), .int .i64 (endP p (k + 1) : Nat)] W fun e w' => NextAt gW gO W w' (onF p r.waits r.outs ins m (endP p (k + 1)) t) e := fun t W a0 a1 a2 a3 a4 a5 =>
        on_any sb gW gO p r ins (some ⟨b, off, none⟩) n c wa wn wc oa on oc ia inn ic hok hn hwn hon hin hne hmay m (endP p (k + 1)) t W (by omega) h2 a0 a1 a2 a3 a4 a5
      have ih3 : ∀ (t : NextD) (W : World), Kp [gW, gO] W (StQ sb gW gO p r ins (some ⟨b, off, none⟩) n c wa wn wc oa on oc ia inn ic) → BoolRow W gW t.1 → BoolRow W gO t.2 → t.1.length = p.length → t.2.length = 3 → Calls Tryz.prog 52 #[.pointer (some ⟨sb, 0, none⟩), .int .i64 (endP p (k + 1) : Nat)] W fun e w' => NextAt gW gO W w' (beginF p r.outs ins m (endP p (k + 1)) t) e := fun t W a1 a2 a3 a4 a5 =>
        begin_any sb gW gO p r ins (some ⟨b, off, none⟩) n c wa wn wc oa on oc ia inn ic hok hn hon hin hne m (endP p (k + 1)) t W (by omega) h2 a1 a2 a3 a4 a5
      have ihs2 : ∀ (W : World), Kp [gW, gO] W (StQ sb gW gO p r ins (some ⟨b, off, none⟩) n c wa wn wc oa on oc ia inn ic) → Calls Tryz.prog 53 #[.pointer (some ⟨sb, 0, none⟩), .int .i64 (endP p (k + 1) : Nat)] W fun e w' => e = .returned (.bool (someP p r.waits (endP p (k + 1)))) ∧ w' = W := fun W a1 =>
        some_any sb gW gO p r ins (some ⟨b, off, none⟩) n c wa wn wc oa on oc ia inn ic W a1.now hok.form hn hwn (endP p (k + 1)) h2
      have HIS := hide ihs2
      have HIH := hide (And.intro ih1 (And.intro ih2 ih3))
      clear ih1 ih2 ih3 ihs2 hcW hfW
      have R := hide (on_else (p := p) (ws := r.waits) (wo := r.outs) (ins := ins) (m := m) (k := k) (s := s) (Or.inr (Or.inr (unhide HKA))))
      clear hss
      cases eb : someP p r.waits (k + 1)
      · have HOO := hide (show onOne p r.waits r.outs ins m k s = (s, true) by unfold onOne; rw [eb]; rfl)
        rw [unhide HOO] at R
        have HEB := hide eb
        clear eb
        go_wp2_with fail
        refine ihe.mono ?_
        rintro e w' ⟨rfl, rfl⟩
        go_wp2_with fail
        refine ihs1.mono ?_
        rintro e w' ⟨rfl, rfl⟩
        rw [unhide HEB]
        go_wp2_with fail
        refine (unhide HIS _ hK1).mono ?_
        rintro e w' ⟨rfl, rfl⟩
        cases ec : someP p r.waits (endP p (k + 1))
        · have R2 := hide (show onF p r.waits r.outs ins (m + 1) k s = (s, true) by rw [unhide R, ec]; rfl)
          clear ec
          go_wp2_with fail
          go_ret
          exact next_of (unhide R2) ⟨rfl, hW1, hO1, hk1⟩
        · have HEC := hide ec
          rw [ec] at R
          clear ec
          go_wp2_with fail
          refine ((unhide HIH).2.1 s _ (unhide HEC) hK1 hW1 hO1 (unhide HL1) (unhide HL2)).mono ?_
          rintro e w2 ⟨rfl, hW2, hO2, hk2⟩
          obtain ⟨t2, ht2⟩ : ∃ t, onF p r.waits r.outs ins m (endP p (k + 1)) s = t := ⟨_, rfl⟩
          have R2 := hide (show onF p r.waits r.outs ins (m + 1) k s = (t2.1, true && t2.2) by rw [unhide R]; show ((onF p r.waits r.outs ins m (endP p (k + 1)) s).1, true && (onF p r.waits r.outs ins m (endP p (k + 1)) s).2) = _; rw [ht2])
          rw [ht2] at hW2 hO2 ⊢
          obtain ⟨s2, b2⟩ := t2
          have HKT := hide (hk1.trans hk2)
          clear ht2 hk2
          cases b2
          all_goals
            go_wp2_with fail
            go_ret
            exact next_of (unhide R2) ⟨rfl, hW2, hO2, unhide HKT⟩
      · have HOO := hide (show onOne p r.waits r.outs ins m k s = onF p r.waits r.outs ins m (k + 1) s by unfold onOne; rw [eb]; rfl)
        rw [unhide HOO] at R
        have hwent := on_went p r.waits r.outs ins m (k + 1) s
        have HEB := hide eb
        clear eb
        go_wp2_with fail
        refine ihe.mono ?_
        rintro e w' ⟨rfl, rfl⟩
        go_wp2_with fail
        refine ihs1.mono ?_
        rintro e w' ⟨rfl, rfl⟩
        rw [unhide HEB]
        go_wp2_with fail
        refine ((unhide HIH).1 s _ (unhide HEB) hK1 hW1 hO1 (unhide HL1) (unhide HL2)).mono ?_
        rintro e w2 ⟨rfl, hW2, hO2, hk2⟩
        have hK2 := hK1.step hk2.1 (fun _ hg => Or.inl hg)
        obtain ⟨t1, ht1⟩ : ∃ t, onF p r.waits r.outs ins m (k + 1) s = t := ⟨_, rfl⟩
        rw [ht1] at hW2 hO2 hwent R ⊢
        obtain ⟨s1, b1⟩ := t1
        have HKT := hide (hk1.trans hk2)
        have HWE := hide hwent
        clear hwent ht1 hk2
        go_wp2_with fail
        refine (unhide HIS _ hK2).mono ?_
        rintro e w' ⟨rfl, rfl⟩
        have HK2 := hide hK2
        clear hK2
        cases ec : someP p r.waits (endP p (k + 1))
        · have R2 := hide (show onF p r.waits r.outs ins (m + 1) k s = (s1, b1) by rw [unhide R, ec]; rfl)
          clear ec
          cases b1
          all_goals
            go_wp2_with fail
            go_ret
            exact next_of (unhide R2) ⟨rfl, hW2, hO2, unhide HKT⟩
        · have HEC := hide ec
          rw [ec] at R
          clear ec
          go_wp2_with fail
          refine ((unhide HIH).2.1 s1 _ (unhide HEC) (unhide HK2) hW2 hO2 (by rw [(unhide HWE).len]; exact unhide HL1) (by rw [(unhide HWE).outs]; exact unhide HL2)).mono ?_
          rintro e w3 ⟨rfl, hW3, hO3, hk3⟩
          obtain ⟨t2, ht2⟩ : ∃ t, onF p r.waits r.outs ins m (endP p (k + 1)) s1 = t := ⟨_, rfl⟩
          have R2 := hide (show onF p r.waits r.outs ins (m + 1) k s = (t2.1, b1 && t2.2) by rw [unhide R]; show ((onF p r.waits r.outs ins m (endP p (k + 1)) s1).1, b1 && (onF p r.waits r.outs ins m (endP p (k + 1)) s1).2) = _; rw [ht2])
          rw [ht2] at hW3 hO3 ⊢
          obtain ⟨s2, b2⟩ := t2
          have HKT3 := hide ((unhide HKT).trans hk3)
          clear ht2 hk3
          cases b1 <;> cases b2
          all_goals
            go_wp2_with fail
            go_ret
            exact next_of (unhide R2) ⟨rfl, hW3, hO3, unhide HKT3⟩
end Go.Proofs.YtongajonecgdpagGreatDoor
