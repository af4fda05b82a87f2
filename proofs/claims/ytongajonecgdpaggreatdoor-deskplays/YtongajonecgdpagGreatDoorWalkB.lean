/- The document's stage: begin. -/
import Derived.Test.YtongajonecgdpagGreatDoorWalkM
namespace Go.Proofs.YtongajonecgdpagGreatDoor
open Go.RowKit

set_option maxRecDepth 100000 in
set_option maxHeartbeats 8000000 in
theorem begin_any (sb gW gO : Nat) (p : List NodeD) (r : RestD) (ins : List Int) (a : Option Addr) (n c : Nat) (wa : Option Addr) (wn wc : Nat) (oa : Option Addr) (on oc : Nat) (ia : Option Addr) (inn ic : Nat) (hok : POk p) (hn : n ≤ 14) (hon : on = 3) (hin : inn = 3) (hne : gW ≠ gO) : ∀ (m k : Nat) (s : NextD) (w : World), p.length - k ≤ m → k < p.length → Kp [gW, gO] w (StQ sb gW gO p r ins a n c wa wn wc oa on oc ia inn ic) → BoolRow w gW s.1 → BoolRow w gO s.2 → s.1.length = p.length → s.2.length = 3 →
    Calls Tryz.prog 52 #[.pointer (some ⟨sb, 0, none⟩), .int .i64 (k : Int)] w fun e w' => NextAt gW gO w w' (beginF p r.outs ins m k s) e
  | 0, k, s, w, hm, hk, _, _, _, _, _ => by omega
  | m + 1, k, s, w, hm, hk, hK, hW, hO, hl1, hl2 => by
    have HN := hide hK.now.nodes.1
    have hki : (k : Int) < (n : Int) := by have := unhide HN; omega
    obtain ⟨b, off, rfl, hbb, c1, c2⟩ := hK.now.nodes.at hk
    have hkd := hok.kinds p[k] (List.getElem_mem hk)
    have hsg := hok.sigs p[k] (List.getElem_mem hk)
    obtain ⟨x, hx⟩ := Int.eq_ofNat_of_zero_le hsg.1
    have HKA := hide (kindAt_of hk)
    have HSA := hide (sigAt_of hk hx)
    have hx2 : x ≤ 2 := by
      have h1 := hsg.2
      rw [hx] at h1
      unfold mostS at h1
      split at h1 <;> omega
    have hxi : (x : Int) < 3 := by omega
    have hx00 : (0 : Int) ≤ (x : Int) := by omega
    rw [hx] at c2
    have hb0 : Below w.heap.size w (w.alloc (.cells #[.int .i64 p[k].kind, .int .i64 (x : Int)] 93)) := (Below.refl _ _).alloc (Nat.le_refl _) _
    obtain ⟨y1, y2, y0⟩ := pair2 w (.int .i64 p[k].kind) (.int .i64 (x : Int)) 93
    have hK1 := hK.on hb0
    have hW1 := hW.on hb0
    have hO1 := hO.on hb0
    have hk1 : KeptS [gW, gO] w (w.alloc (.cells #[.int .i64 p[k].kind, .int .i64 (x : Int)] 93)) := KeptS.of hb0
    have hgWl := hW.lt
    have hgOl := hO.lt
    have q0 := hK.now.c0
    have HP := hide (show hasP p[k].kind = true → k + 1 < p.length ∧ endP p (k + 1) < p.length from fun e => end_two hok.form hk e)
    have HL1 := hide hl1
    have HL2 := hide hl2
    clear hK hW hO hsg hx hl1 hl2
    generalize hkg : p[k].kind = kd at *
    clear hkg
    go_enter Tryz.func52, Tryz.ntmps52
    go_upto_region 2 with fail
    generalize hw1 : w.alloc (.cells #[.int .i64 kd, .int .i64 (x : Int)] 93) = w1 at *
    clear hw1 c1 c2 q0
    have hQ1 := hK1.now
    obtain ⟨z0, q0, q2, q3, q4, q6, q7, hNd, hWt, hOt, hIn⟩ := hQ1
    have hcW := hW1.cell k (by rw [unhide HL1]; exact hk)
    have hfW := hW1.frozen k
    have hcO := hO1.cell x (by rw [unhide HL2]; omega)
    have hfO := hO1.frozen x
    have hnW := hW1.lt
    have hnO := hO1.lt
    rcases nine hkd with rfl | rfl | rfl | rfl | rfl | rfl | rfl | rfl | rfl
    · -- nothing
      have R := hide (show beginF p r.outs ins (m + 1) k s = (s, true) by unfold beginF; rw [unhide HKA]; rfl)
      go_wp2_with fail
      go_ret
      exact next_of (unhide R) ⟨rfl, hW1, hO1, hk1⟩
    · -- waits
      have R := hide (show beginF p r.outs ins (m + 1) k s = ((s.1.set k true, s.2), false) by unfold beginF; rw [unhide HKA]; rfl)
      have R1 := hide (And.intro (hW1.set k true) (And.intro (hO1.far (k := k) (v := .bool true) (Ne.symm hne)) (hk1.trans (KeptS.set (k := k) (.bool true) (by simp : gW ∈ [gW, gO])))))
      go_wp2_with fail
      go_ret
      exact next_of (unhide R) ⟨rfl, (unhide R1).1, (unhide R1).2.1, (unhide R1).2.2⟩
    · -- waits
      have R := hide (show beginF p r.outs ins (m + 1) k s = ((s.1.set k true, s.2), false) by unfold beginF; rw [unhide HKA]; rfl)
      have R1 := hide (And.intro (hW1.set k true) (And.intro (hO1.far (k := k) (v := .bool true) (Ne.symm hne)) (hk1.trans (KeptS.set (k := k) (.bool true) (by simp : gW ∈ [gW, gO])))))
      go_wp2_with fail
      go_ret
      exact next_of (unhide R) ⟨rfl, (unhide R1).1, (unhide R1).2.1, (unhide R1).2.2⟩
    · -- puts out
      have R := hide (show beginF p r.outs ins (m + 1) k s = ((s.1, s.2.set x true), true) by unfold beginF; rw [unhide HKA, unhide HSA]; rfl)
      have R1 := hide (And.intro (hW1.far (k := x) (v := .bool true) hne) (And.intro (hO1.set x true) (hk1.trans (KeptS.set (k := x) (.bool true) (by simp : gO ∈ [gW, gO])))))
      have hs7 : (w1.setCell ⟨gO, x, none⟩ (.bool true)).cell? ⟨sb, 7, none⟩ = some (.slice (some ⟨gO, 0, none⟩) 3 3) := (hK1 _ (KeptG.set (k := x) (.bool true) (by simp : gO ∈ [gW, gO]))).c7
      have hs1 : (w1.setCell ⟨gO, x, none⟩ (.bool true)).cell? ⟨w.heap.size, 1, none⟩ = some (.int .i64 (x : Int)) := (World.cell?_of_block (a := ⟨w.heap.size, 1, none⟩) (set_other (Nat.ne_of_gt hgOl))).trans y2
      go_wp2_with fail
      go_region_held3 (fun W => W.cell? ⟨sb, 7, none⟩ = some (.slice (some ⟨gO, 0, none⟩) 3 3) ∧ W.cell? ⟨w.heap.size, 1, none⟩ = some (.int .i64 (x : Int)))
        ((first | exact ⟨q7, y2⟩ | exact ⟨hs7, hs1⟩))
        (fail)
      go_wp2_with fail
      go_ret
      exact next_of (unhide R) ⟨rfl, (unhide R1).1, (unhide R1).2.1, (unhide R1).2.2⟩
    · -- awaits
      have R := hide (show beginF p r.outs ins (m + 1) k s = ((s.1.set k true, s.2), false) by unfold beginF; rw [unhide HKA]; rfl)
      have R1 := hide (And.intro (hW1.set k true) (And.intro (hO1.far (k := k) (v := .bool true) (Ne.symm hne)) (hk1.trans (KeptS.set (k := k) (.bool true) (by simp : gW ∈ [gW, gO])))))
      go_wp2_with fail
      go_ret
      exact next_of (unhide R) ⟨rfl, (unhide R1).1, (unhide R1).2.1, (unhide R1).2.2⟩
    · -- one behind the other
      obtain ⟨h1, h2⟩ := unhide HP rfl
      have h3 := end_gt h1
      have ihe : Calls Tryz.prog 83 #[.slice (some ⟨b, off, none⟩) n c, .int .i64 ((k : Int) + 1)] w1 fun e w' => e = .returned (.int .i64 (endP p (k + 1) : Nat)) ∧ w' = w1 := by
        have := end_any p _ n c w1 hNd hok.form hn p.length (k + 1) (by omega) h1
        rwa [show ((k + 1 : Nat) : Int) = (k : Int) + 1 by omega] at this
      have ih1 : ∀ (t : NextD) (W : World), Kp [gW, gO] W (StQ sb gW gO p r ins (some ⟨b, off, none⟩) n c wa wn wc oa on oc ia inn ic) → BoolRow W gW t.1 → BoolRow W gO t.2 → t.1.length = p.length → t.2.length = 3 → Calls Tryz.prog 52 #[.pointer (some ⟨sb, 0, none⟩), .int .i64 ((k : Int) + 1)] W fun e w' => NextAt gW gO W w' (beginF p r.outs ins m (k + 1) t) e := fun t W a1 a2 a3 a4 a5 => by
        have := begin_any sb gW gO p r ins _ n c wa wn wc oa on oc ia inn ic hok hn hon hin hne m (k + 1) t W (by omega) h1 a1 a2 a3 a4 a5
        rwa [show ((k + 1 : Nat) : Int) = (k : Int) + 1 by omega] at this
      have ih2 : ∀ (t : NextD) (W : World), Kp [gW, gO] W (StQ sb gW gO p r ins (some ⟨b, off, none⟩) n c wa wn wc oa on oc ia inn ic) → BoolRow W gW t.1 → BoolRow W gO t.2 → t.1.length = p.length → t.2.length = 3 → Calls Tryz.prog 52 #[.pointer (some ⟨sb, 0, none⟩), .int .i64 (endP p (k + 1) : Nat)] W fun e w' => NextAt gW gO W w' (beginF p r.outs ins m (endP p (k + 1)) t) e := fun t W a1 a2 a3 a4 a5 =>
        begin_any sb gW gO p r ins _ n c wa wn wc oa on oc ia inn ic hok hn hon hin hne m (endP p (k + 1)) t W (by omega) h2 a1 a2 a3 a4 a5
      have HIH := hide (And.intro ih1 ih2)
      clear ih1 ih2 hcW hfW hcO hfO
      have R := hide (begin_seq (p := p) (wo := r.outs) (ins := ins) (m := m) (k := k) (s := s) (unhide HKA))
      have hwent := begin_went p r.outs ins m (k + 1) s
      go_wp2_with fail
      refine ihe.mono ?_
      rintro e w' ⟨rfl, rfl⟩
      go_wp2_with fail
      refine ((unhide HIH).1 s _ hK1 hW1 hO1 (unhide HL1) (unhide HL2)).mono ?_
      rintro e w2 ⟨rfl, hW2, hO2, hk2⟩
      have hK2 := hK1.step hk2.1 (fun _ hg => Or.inl hg)
      obtain ⟨t1, ht1⟩ : ∃ t, beginF p r.outs ins m (k + 1) s = t := ⟨_, rfl⟩
      rw [ht1] at hW2 hO2 hwent R ⊢
      obtain ⟨s1, b1⟩ := t1
      have HK2 := hide hK2
      have HKT := hide (hk1.trans hk2)
      have HWE := hide hwent
      clear hK2 hwent ht1 hk2
      cases b1
      · have R2 := hide (show beginF p r.outs ins (m + 1) k s = (s1, false) from unhide R)
        go_wp2_with fail
        go_ret
        exact next_of (unhide R2) ⟨rfl, hW2, hO2, unhide HKT⟩
      · have R2 := hide (show beginF p r.outs ins (m + 1) k s = beginF p r.outs ins m (endP p (k + 1)) s1 from unhide R)
        go_wp2_with fail
        refine ((unhide HIH).2 s1 _ (unhide HK2) hW2 hO2 (by rw [(unhide HWE).len]; exact unhide HL1) (by rw [(unhide HWE).outs]; exact unhide HL2)).mono ?_
        rintro e w3 ⟨rfl, hW3, hO3, hk3⟩
        go_wp2_with fail
        go_ret
        exact next_of (unhide R2) ⟨rfl, hW3, hO3, (unhide HKT).trans hk3⟩
    · -- both at once
      obtain ⟨h1, h2⟩ := unhide HP rfl
      have h3 := end_gt h1
      have ihe : Calls Tryz.prog 83 #[.slice (some ⟨b, off, none⟩) n c, .int .i64 ((k : Int) + 1)] w1 fun e w' => e = .returned (.int .i64 (endP p (k + 1) : Nat)) ∧ w' = w1 := by
        have := end_any p _ n c w1 hNd hok.form hn p.length (k + 1) (by omega) h1
        rwa [show ((k + 1 : Nat) : Int) = (k : Int) + 1 by omega] at this
      have ih1 : ∀ (t : NextD) (W : World), Kp [gW, gO] W (StQ sb gW gO p r ins (some ⟨b, off, none⟩) n c wa wn wc oa on oc ia inn ic) → BoolRow W gW t.1 → BoolRow W gO t.2 → t.1.length = p.length → t.2.length = 3 → Calls Tryz.prog 52 #[.pointer (some ⟨sb, 0, none⟩), .int .i64 ((k : Int) + 1)] W fun e w' => NextAt gW gO W w' (beginF p r.outs ins m (k + 1) t) e := fun t W a1 a2 a3 a4 a5 => by
        have := begin_any sb gW gO p r ins _ n c wa wn wc oa on oc ia inn ic hok hn hon hin hne m (k + 1) t W (by omega) h1 a1 a2 a3 a4 a5
        rwa [show ((k + 1 : Nat) : Int) = (k : Int) + 1 by omega] at this
      have ih2 : ∀ (t : NextD) (W : World), Kp [gW, gO] W (StQ sb gW gO p r ins (some ⟨b, off, none⟩) n c wa wn wc oa on oc ia inn ic) → BoolRow W gW t.1 → BoolRow W gO t.2 → t.1.length = p.length → t.2.length = 3 → Calls Tryz.prog 52 #[.pointer (some ⟨sb, 0, none⟩), .int .i64 (endP p (k + 1) : Nat)] W fun e w' => NextAt gW gO W w' (beginF p r.outs ins m (endP p (k + 1)) t) e := fun t W a1 a2 a3 a4 a5 =>
        begin_any sb gW gO p r ins _ n c wa wn wc oa on oc ia inn ic hok hn hon hin hne m (endP p (k + 1)) t W (by omega) h2 a1 a2 a3 a4 a5
      have HIH := hide (And.intro ih1 ih2)
      clear ih1 ih2 hcW hfW hcO hfO
      have R := hide (begin_par (p := p) (wo := r.outs) (ins := ins) (m := m) (k := k) (s := s) (unhide HKA))
      have hwent := begin_went p r.outs ins m (k + 1) s
      go_wp2_with fail
      refine ihe.mono ?_
      rintro e w' ⟨rfl, rfl⟩
      go_wp2_with fail
      refine ((unhide HIH).1 s _ hK1 hW1 hO1 (unhide HL1) (unhide HL2)).mono ?_
      rintro e w2 ⟨rfl, hW2, hO2, hk2⟩
      have hK2 := hK1.step hk2.1 (fun _ hg => Or.inl hg)
      obtain ⟨t1, ht1⟩ : ∃ t, beginF p r.outs ins m (k + 1) s = t := ⟨_, rfl⟩
      rw [ht1] at hW2 hO2 hwent R ⊢
      obtain ⟨s1, b1⟩ := t1
      have HK2 := hide hK2
      have HKT := hide (hk1.trans hk2)
      have HWE := hide hwent
      clear hK2 hwent ht1 hk2
      go_wp2_with fail
      refine ((unhide HIH).2 s1 _ (unhide HK2) hW2 hO2 (by rw [(unhide HWE).len]; exact unhide HL1) (by rw [(unhide HWE).outs]; exact unhide HL2)).mono ?_
      rintro e w3 ⟨rfl, hW3, hO3, hk3⟩
      obtain ⟨t2, ht2⟩ : ∃ t, beginF p r.outs ins m (endP p (k + 1)) s1 = t := ⟨_, rfl⟩
      have R2 := hide (show beginF p r.outs ins (m + 1) k s = (t2.1, b1 && t2.2) by rw [unhide R]; show ((beginF p r.outs ins m (endP p (k + 1)) s1).1, b1 && (beginF p r.outs ins m (endP p (k + 1)) s1).2) = _; rw [ht2])
      rw [ht2] at hW3 hO3 ⊢
      obtain ⟨s2, b2⟩ := t2
      have HKT3 := hide ((unhide HKT).trans hk3)
      clear ht2 hk3
      cases b1 <;> cases b2
      all_goals
        go_wp2_with fail
        go_ret
        exact next_of (unhide R2) ⟨rfl, hW3, hO3, unhide HKT3⟩
    · -- asks
      obtain ⟨h1, h2⟩ := unhide HP rfl
      have h3 := end_gt h1
      have ihe : Calls Tryz.prog 83 #[.slice (some ⟨b, off, none⟩) n c, .int .i64 ((k : Int) + 1)] w1 fun e w' => e = .returned (.int .i64 (endP p (k + 1) : Nat)) ∧ w' = w1 := by
        have := end_any p _ n c w1 hNd hok.form hn p.length (k + 1) (by omega) h1
        rwa [show ((k + 1 : Nat) : Int) = (k : Int) + 1 by omega] at this
      have ih1 : ∀ (t : NextD) (W : World), Kp [gW, gO] W (StQ sb gW gO p r ins (some ⟨b, off, none⟩) n c wa wn wc oa on oc ia inn ic) → BoolRow W gW t.1 → BoolRow W gO t.2 → t.1.length = p.length → t.2.length = 3 → Calls Tryz.prog 52 #[.pointer (some ⟨sb, 0, none⟩), .int .i64 ((k : Int) + 1)] W fun e w' => NextAt gW gO W w' (beginF p r.outs ins m (k + 1) t) e := fun t W a1 a2 a3 a4 a5 => by
        have := begin_any sb gW gO p r ins _ n c wa wn wc oa on oc ia inn ic hok hn hon hin hne m (k + 1) t W (by omega) h1 a1 a2 a3 a4 a5
        rwa [show ((k + 1 : Nat) : Int) = (k : Int) + 1 by omega] at this
      have ih2 : ∀ (t : NextD) (W : World), Kp [gW, gO] W (StQ sb gW gO p r ins (some ⟨b, off, none⟩) n c wa wn wc oa on oc ia inn ic) → BoolRow W gW t.1 → BoolRow W gO t.2 → t.1.length = p.length → t.2.length = 3 → Calls Tryz.prog 52 #[.pointer (some ⟨sb, 0, none⟩), .int .i64 (endP p (k + 1) : Nat)] W fun e w' => NextAt gW gO W w' (beginF p r.outs ins m (endP p (k + 1)) t) e := fun t W a1 a2 a3 a4 a5 =>
        begin_any sb gW gO p r ins _ n c wa wn wc oa on oc ia inn ic hok hn hon hin hne m (endP p (k + 1)) t W (by omega) h2 a1 a2 a3 a4 a5
      have HIH := hide (And.intro ih1 ih2)
      clear ih1 ih2 hcW hfW hcO hfO
      have R := hide (begin_ask (p := p) (wo := r.outs) (ins := ins) (m := m) (k := k) (s := s) (Or.inl (unhide HKA)))
      have hxl : x < ins.length := by have := hIn.1; omega
      obtain ⟨ib, io, rfl, hib, ci⟩ := hIn.at hxl
      have HAK := hide (show askB p r.outs ins k = (ins[x] == 1) by unfold askB; rw [unhide HKA, unhide HSA]; simp [List.getD_eq_getElem?_getD, hxl])
      have hxn : (x : Int) < (inn : Int) := by omega
      generalize ins[x] = iv at *
      by_cases hiv : iv = 1
      · subst hiv
        have R2 := hide (show beginF p r.outs ins (m + 1) k s = beginF p r.outs ins m (k + 1) s by rw [unhide R, unhide HAK]; rfl)
        have HN5 := hide (fun N : Nat => And.intro (hK1.on (below_drewN (Below.refl _ w1) N)) (And.intro (hW1.on (below_drewN (Below.refl _ w1) N)) (And.intro (hO1.on (below_drewN (Below.refl _ w1) N)) (hk1.trans (KeptS.of (below_drewN (Below.refl _ w1) N))))))
        clear hK1 hW1 hO1 HAK
        go_wp2_with fail
        refine ihe.mono ?_
        rintro e w' ⟨rfl, rfl⟩
        go_wp2_with fail
        go_quiet (fail)
        all_goals
          go_wp2_with fail
          refine ((unhide HIH).1 s _ (unhide HN5 _).1 (unhide HN5 _).2.1 (unhide HN5 _).2.2.1 (unhide HL1) (unhide HL2)).mono ?_
          rintro e w2 ⟨rfl, hW2, hO2, hk2⟩
          go_wp2_with fail
          go_ret
          exact next_of (unhide R2) ⟨rfl, hW2, hO2, (unhide HN5 _).2.2.2.trans hk2⟩
      · have hq : (iv == 1) = false := by simp [hiv]
        have R2 := hide (show beginF p r.outs ins (m + 1) k s = beginF p r.outs ins m (endP p (k + 1)) s by rw [unhide R, unhide HAK]; rw [hq]; rfl)
        have HN5 := hide (fun N : Nat => And.intro (hK1.on (below_drewN (Below.refl _ w1) N)) (And.intro (hW1.on (below_drewN (Below.refl _ w1) N)) (And.intro (hO1.on (below_drewN (Below.refl _ w1) N)) (hk1.trans (KeptS.of (below_drewN (Below.refl _ w1) N))))))
        clear hK1 hW1 hO1 HAK
        go_wp2_with fail
        refine ihe.mono ?_
        rintro e w' ⟨rfl, rfl⟩
        go_wp2_with fail
        go_quiet (fail)
        all_goals
          go_wp2_with fail
          refine ((unhide HIH).2 s _ (unhide HN5 _).1 (unhide HN5 _).2.1 (unhide HN5 _).2.2.1 (unhide HL1) (unhide HL2)).mono ?_
          rintro e w2 ⟨rfl, hW2, hO2, hk2⟩
          go_wp2_with fail
          go_ret
          exact next_of (unhide R2) ⟨rfl, hW2, hO2, (unhide HN5 _).2.2.2.trans hk2⟩
    · -- asks
      obtain ⟨h1, h2⟩ := unhide HP rfl
      have h3 := end_gt h1
      have ihe : Calls Tryz.prog 83 #[.slice (some ⟨b, off, none⟩) n c, .int .i64 ((k : Int) + 1)] w1 fun e w' => e = .returned (.int .i64 (endP p (k + 1) : Nat)) ∧ w' = w1 := by
        have := end_any p _ n c w1 hNd hok.form hn p.length (k + 1) (by omega) h1
        rwa [show ((k + 1 : Nat) : Int) = (k : Int) + 1 by omega] at this
      have ih1 : ∀ (t : NextD) (W : World), Kp [gW, gO] W (StQ sb gW gO p r ins (some ⟨b, off, none⟩) n c wa wn wc oa on oc ia inn ic) → BoolRow W gW t.1 → BoolRow W gO t.2 → t.1.length = p.length → t.2.length = 3 → Calls Tryz.prog 52 #[.pointer (some ⟨sb, 0, none⟩), .int .i64 ((k : Int) + 1)] W fun e w' => NextAt gW gO W w' (beginF p r.outs ins m (k + 1) t) e := fun t W a1 a2 a3 a4 a5 => by
        have := begin_any sb gW gO p r ins _ n c wa wn wc oa on oc ia inn ic hok hn hon hin hne m (k + 1) t W (by omega) h1 a1 a2 a3 a4 a5
        rwa [show ((k + 1 : Nat) : Int) = (k : Int) + 1 by omega] at this
      have ih2 : ∀ (t : NextD) (W : World), Kp [gW, gO] W (StQ sb gW gO p r ins (some ⟨b, off, none⟩) n c wa wn wc oa on oc ia inn ic) → BoolRow W gW t.1 → BoolRow W gO t.2 → t.1.length = p.length → t.2.length = 3 → Calls Tryz.prog 52 #[.pointer (some ⟨sb, 0, none⟩), .int .i64 (endP p (k + 1) : Nat)] W fun e w' => NextAt gW gO W w' (beginF p r.outs ins m (endP p (k + 1)) t) e := fun t W a1 a2 a3 a4 a5 =>
        begin_any sb gW gO p r ins _ n c wa wn wc oa on oc ia inn ic hok hn hon hin hne m (endP p (k + 1)) t W (by omega) h2 a1 a2 a3 a4 a5
      have HIH := hide (And.intro ih1 ih2)
      clear ih1 ih2 hcW hfW hcO hfO
      have R := hide (begin_ask (p := p) (wo := r.outs) (ins := ins) (m := m) (k := k) (s := s) (Or.inr (unhide HKA)))
      have hxl : x < r.outs.length := by have := hOt.1; omega
      obtain ⟨ib, io, rfl, hib, ci⟩ := hOt.at hxl
      have HAK := hide (show askB p r.outs ins k = r.outs[x] by unfold askB; rw [unhide HKA, unhide HSA]; simp [List.getD_eq_getElem?_getD, hxl])
      have hxn : (x : Int) < (on : Int) := by omega
      generalize r.outs[x] = iv at *
      cases iv
      · skip
        have R2 := hide (show beginF p r.outs ins (m + 1) k s = beginF p r.outs ins m (endP p (k + 1)) s by rw [unhide R, unhide HAK]; rfl)
        have HN5 := hide (fun N : Nat => And.intro (hK1.on (below_drewN (Below.refl _ w1) N)) (And.intro (hW1.on (below_drewN (Below.refl _ w1) N)) (And.intro (hO1.on (below_drewN (Below.refl _ w1) N)) (hk1.trans (KeptS.of (below_drewN (Below.refl _ w1) N))))))
        clear hK1 hW1 hO1 HAK
        go_wp2_with fail
        refine ihe.mono ?_
        rintro e w' ⟨rfl, rfl⟩
        go_wp2_with fail
        go_quiet (fail)
        all_goals
          go_wp2_with fail
          refine ((unhide HIH).2 s _ (unhide HN5 _).1 (unhide HN5 _).2.1 (unhide HN5 _).2.2.1 (unhide HL1) (unhide HL2)).mono ?_
          rintro e w2 ⟨rfl, hW2, hO2, hk2⟩
          go_wp2_with fail
          go_ret
          exact next_of (unhide R2) ⟨rfl, hW2, hO2, (unhide HN5 _).2.2.2.trans hk2⟩
      · skip
        have R2 := hide (show beginF p r.outs ins (m + 1) k s = beginF p r.outs ins m (k + 1) s by rw [unhide R, unhide HAK]; rfl)
        have HN5 := hide (fun N : Nat => And.intro (hK1.on (below_drewN (Below.refl _ w1) N)) (And.intro (hW1.on (below_drewN (Below.refl _ w1) N)) (And.intro (hO1.on (below_drewN (Below.refl _ w1) N)) (hk1.trans (KeptS.of (below_drewN (Below.refl _ w1) N))))))
        clear hK1 hW1 hO1 HAK
        go_wp2_with fail
        refine ihe.mono ?_
        rintro e w' ⟨rfl, rfl⟩
        go_wp2_with fail
        go_quiet (fail)
        all_goals
          go_wp2_with fail
          refine ((unhide HIH).1 s _ (unhide HN5 _).1 (unhide HN5 _).2.1 (unhide HN5 _).2.2.1 (unhide HL1) (unhide HL2)).mono ?_
          rintro e w2 ⟨rfl, hW2, hO2, hk2⟩
          go_wp2_with fail
          go_ret
          exact next_of (unhide R2) ⟨rfl, hW2, hO2, (unhide HN5 _).2.2.2.trans hk2⟩
end Go.Proofs.YtongajonecgdpagGreatDoor
