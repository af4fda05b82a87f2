/- The program's walker: begin. -/
import Derived.Test.YtopacgdfafhfhafWalkP
namespace Go.Proofs.Ytopacgdfafhfhaf
open Go.RowKit

set_option maxHeartbeats 1000000 in
theorem choose_cl {w : World} {b5 b6 : Nat} {pa pb : Int} (h5 : w.cell? ⟨b5, 0, none⟩ = some (.int .i64 pa)) (h6 : w.cell? ⟨b6, 0, none⟩ = some (.int .i64 pb)) (q : Bool) :
    Calls Try.prog 36 #[.bool q, .pointer (some ⟨b5, 0, none⟩), .pointer (some ⟨b6, 0, none⟩)] w fun e w' => e = .returned (.int .i64 (if q then pa else pb)) ∧ w' = w := by
  cases q
  all_goals
    go_enter Try.func36, Try.ntmps36
    go_wp2_with fail
    go_ret
    exact ⟨rfl, rfl⟩

set_option maxRecDepth 100000 in
set_option maxHeartbeats 8000000 in
theorem wbegin_any (sb gW gO : Nat) (p : List NodeD) (r : RestD) (x : Int) (a : Option Addr) (n c : Nat) (f : Bool) (wa : Option Addr) (wn wc : Nat) (oa : Option Addr) (on oc : Nat) (ho : WkO p r x n c wn wc on gW gO) : ∀ (m k : Nat) (s : NextD) (w : World), p.length - k ≤ m → k < p.length → Kp [gW, gO] w (WkQ sb gW gO p r x a n c f wa wn wc oa on oc) → BoolRow w gW s.1 → BoolRow w gO s.2 → s.1.length = p.length → s.2.length = 3 →
    Calls Try.prog 27 #[.pointer (some ⟨sb, 0, none⟩), .int .i64 (k : Int)] w fun e w' => NextAt gW gO w w' (beginF p r.outs (bitsV x 3) m k s) e
  | 0, k, s, w, hm, hk, _, _, _, _, _ => by omega
  | m + 1, k, s, w, hm, hk, hK, hW, hO, hl1, hl2 => by
    have hQ := hK.now
    have HN := hide hQ.nodes.1
    have hki : (k : Int) < (n : Int) := by have := unhide HN; omega
    have hkd := ho.ok.kinds p[k] (List.getElem_mem hk)
    have hsg := ho.ok.sigs p[k] (List.getElem_mem hk)
    obtain ⟨z, hz⟩ := Int.eq_ofNat_of_zero_le hsg.1
    have HKA := hide (kindAt_of hk)
    have HSA := hide (sigAt_of hk hz)
    have hz2 : z ≤ 2 := by
      have h1 := hsg.2
      rw [hz] at h1
      unfold mostS at h1
      split at h1 <;> omega
    have hzi : (z : Int) < 3 := by omega
    have hz00 : (0 : Int) ≤ (z : Int) := by omega
    go_enter Try.func27, Try.ntmps27
    go_wp2_with fail
    refine (wparts_any hQ ho.nc k).mono ?_
    rintro e w1 ⟨rfl, hb1⟩
    have HPP := hide (show hasP p[k].kind = true → partA p (k : Int) = (k : Int) + 1 ∧ partB p (k : Int) = (endP p (k + 1) : Nat) from fun e => ⟨(parts_node (partsE_ok ho.ok hk) hk e).1, (parts_node (partsE_ok ho.ok hk) hk e).2.1⟩)
    have HP := hide (show hasP p[k].kind = true → k + 1 < p.length ∧ endP p (k + 1) < p.length from fun e => end_two ho.ok.form hk e)
    obtain ⟨pa, hpa⟩ : ∃ pa, partA p (k : Int) = pa := ⟨_, rfl⟩
    obtain ⟨pb, hpb⟩ : ∃ pb, partB p (k : Int) = pb := ⟨_, rfl⟩
    obtain ⟨pc, hpc⟩ : ∃ pc, partC p (k : Int) = pc := ⟨_, rfl⟩
    rw [hpa, hpb] at HPP
    rw [hpa, hpb, hpc]
    clear hpa hpb hpc
    have hk1 : KeptS [gW, gO] w w1 := KeptS.of hb1
    have hb2 : Below w1.heap.size w1 ((w1.alloc (.cells #[.int .i64 pa] 3)).alloc (.cells #[.int .i64 pb] 3)) := ((Below.refl _ _).alloc (Nat.le_refl _) _).alloc (by simp) _
    have x5 : ((w1.alloc (.cells #[.int .i64 pa] 3)).alloc (.cells #[.int .i64 pb] 3)).cell? ⟨w1.heap.size, 0, none⟩ = some (.int .i64 pa) := by simp
    have x6 : ((w1.alloc (.cells #[.int .i64 pa] 3)).alloc (.cells #[.int .i64 pb] 3)).cell? ⟨w1.heap.size + 1, 0, none⟩ = some (.int .i64 pb) := by simp
    have l6 : w1.heap.size + 1 < ((w1.alloc (.cells #[.int .i64 pa] 3)).alloc (.cells #[.int .i64 pb] 3)).heap.size := by simp
    have hK2 := (hK.on hb1).on hb2
    have hW2 := (hW.on hb1).on hb2
    have hO2 := (hO.on hb1).on hb2
    have hk2 := hk1.trans (KeptS.of hb2)
    have hlW : gW < w1.heap.size := (hW.on hb1).lt
    have hlO : gO < w1.heap.size := (hO.on hb1).lt
    clear hK hW hO hQ hb1 hk1 hb2
    go_upto_region 3 with fail
    generalize (w1.alloc (.cells #[.int .i64 pa] 3)).alloc (.cells #[.int .i64 pb] 3) = w2 at *
    generalize w1.heap.size = b5 at *
    obtain ⟨b, off, rfl, hbb, c1, c2⟩ := hK2.now.nodes.at hk
    rw [hz] at c2
    have q0 := hK2.now.c0
    have q00 := hK2.now.lt
    have hb3 : Below w2.heap.size w2 (w2.alloc (.cells #[.int .i64 p[k].kind, .int .i64 (z : Int)] 57)) := (Below.refl _ _).alloc (Nat.le_refl _) _
    obtain ⟨y1, y2, y0⟩ := pair2 w2 (.int .i64 p[k].kind) (.int .i64 (z : Int)) 57
    have hK3 := hK2.on hb3
    have hW3 := hW2.on hb3
    have hO3 := hO2.on hb3
    have hk3 := hk2.trans (KeptS.of hb3)
    have x53 := (hb3.cell (p := ⟨b5, 0, none⟩) (Nat.lt_of_succ_lt l6)).trans x5
    have x63 := (hb3.cell (p := ⟨b5 + 1, 0, none⟩) l6).trans x6
    have l63 : b5 + 1 < (w2.alloc (.cells #[.int .i64 p[k].kind, .int .i64 (z : Int)] 57)).heap.size := Nat.lt_of_lt_of_le l6 hb3.size
    clear hz hK2 hW2 hO2 hk2 x5 x6 hb3
    generalize hkg : p[k].kind = kd at *
    clear hkg hsg
    go_upto_region 4 with fail
    generalize hw3 : w2.alloc (.cells #[.int .i64 kd, .int .i64 (z : Int)] 57) = w3 at *
    clear hw3 c1 c2 q0 q00 hbb
    generalize w2.heap.size = nb at *
    have hQ3 := hK3.now
    have HL1 := hide hl1
    have HL2 := hide hl2
    clear hl1 hl2
    rcases nine hkd with rfl | rfl | rfl | rfl | rfl | rfl | rfl | rfl | rfl
    · -- nothing
      have R := hide (show beginF p r.outs (bitsV x 3) (m + 1) k s = (s, true) by unfold beginF; rw [unhide HKA]; rfl)
      go_wp2_with fail
      go_ret
      exact next_of (unhide R) ⟨rfl, hW3, hO3, hk3⟩
    · have R := hide (show beginF p r.outs (bitsV x 3) (m + 1) k s = ((s.1.set k true, s.2), false) by unfold beginF; rw [unhide HKA]; rfl)
      go_wp2_with fail
      refine (waitAt_any hQ3 s hW3 hO3 (unhide HL1) ho.ne k hk).mono ?_
      rintro e w4 ⟨rfl, hW4, hO4, hk4⟩
      go_wp2_with fail
      go_ret
      exact next_of (unhide R) ⟨rfl, hW4, hO4, hk3.trans hk4⟩
    · have R := hide (show beginF p r.outs (bitsV x 3) (m + 1) k s = ((s.1.set k true, s.2), false) by unfold beginF; rw [unhide HKA]; rfl)
      go_wp2_with fail
      refine (waitAt_any hQ3 s hW3 hO3 (unhide HL1) ho.ne k hk).mono ?_
      rintro e w4 ⟨rfl, hW4, hO4, hk4⟩
      go_wp2_with fail
      go_ret
      exact next_of (unhide R) ⟨rfl, hW4, hO4, hk3.trans hk4⟩
    · -- puts out
      have R := hide (show beginF p r.outs (bitsV x 3) (m + 1) k s = ((s.1, s.2.set z true), true) by unfold beginF; rw [unhide HKA, unhide HSA]; rfl)
      have R1 := hide (And.intro (hW3.far (k := z) (v := .bool true) ho.ne) (And.intro (hO3.set z true) (hk3.trans (KeptS.set (k := z) (.bool true) (by simp : gO ∈ [gW, gO])))))
      have q6 := hQ3.c6
      have q00 := hQ3.lt
      have hcO := hO3.cell z (by rw [unhide HL2]; omega)
      have hfO := hO3.frozen z
      have hnO := hO3.lt
      have hs7 : (w3.setCell ⟨gO, z, none⟩ (.bool true)).cell? ⟨sb, 6, none⟩ = some (.slice (some ⟨gO, 0, none⟩) 3 3) := (hK3 _ (KeptG.set (k := z) (.bool true) (by simp : gO ∈ [gW, gO]))).c6
      have hs1 : (w3.setCell ⟨gO, z, none⟩ (.bool true)).cell? ⟨nb, 1, none⟩ = some (.int .i64 (z : Int)) := (World.cell?_of_block (a := ⟨nb, 1, none⟩) (set_other (Nat.ne_of_gt (show gO < nb by omega)))).trans y2
      go_wp2_with fail
      go_region_held3 (fun W => W.cell? ⟨sb, 6, none⟩ = some (.slice (some ⟨gO, 0, none⟩) 3 3) ∧ W.cell? ⟨nb, 1, none⟩ = some (.int .i64 (z : Int)))
        ((first | exact ⟨q6, y2⟩ | exact ⟨hs7, hs1⟩))
        (fail)
      go_wp2_with fail
      go_ret
      exact next_of (unhide R) ⟨rfl, (unhide R1).1, (unhide R1).2.1, (unhide R1).2.2⟩
    · have R := hide (show beginF p r.outs (bitsV x 3) (m + 1) k s = ((s.1.set k true, s.2), false) by unfold beginF; rw [unhide HKA]; rfl)
      go_wp2_with fail
      refine (waitAt_any hQ3 s hW3 hO3 (unhide HL1) ho.ne k hk).mono ?_
      rintro e w4 ⟨rfl, hW4, hO4, hk4⟩
      go_wp2_with fail
      go_ret
      exact next_of (unhide R) ⟨rfl, hW4, hO4, hk3.trans hk4⟩
    all_goals
      obtain ⟨h1, h2⟩ := unhide HP rfl
      obtain ⟨rfl, rfl⟩ := unhide HPP rfl
      have h3 := end_gt h1
      have ih1 : ∀ (t : NextD) (W : World), Kp [gW, gO] W (WkQ sb gW gO p r x (some ⟨b, off, none⟩) n c f wa wn wc oa on oc) → BoolRow W gW t.1 → BoolRow W gO t.2 → t.1.length = p.length → t.2.length = 3 → Calls Try.prog 27 #[.pointer (some ⟨sb, 0, none⟩), .int .i64 ((k : Int) + 1)] W fun e w' => NextAt gW gO W w' (beginF p r.outs (bitsV x 3) m (k + 1) t) e := fun t W a1 a2 a3 a4 a5 => by
        have := wbegin_any sb gW gO p r x _ n c f wa wn wc oa on oc ho m (k + 1) t W (by omega) h1 a1 a2 a3 a4 a5
        rwa [show ((k + 1 : Nat) : Int) = (k : Int) + 1 by omega] at this
      have ih2 : ∀ (t : NextD) (W : World), Kp [gW, gO] W (WkQ sb gW gO p r x (some ⟨b, off, none⟩) n c f wa wn wc oa on oc) → BoolRow W gW t.1 → BoolRow W gO t.2 → t.1.length = p.length → t.2.length = 3 → Calls Try.prog 27 #[.pointer (some ⟨sb, 0, none⟩), .int .i64 (endP p (k + 1) : Nat)] W fun e w' => NextAt gW gO W w' (beginF p r.outs (bitsV x 3) m (endP p (k + 1)) t) e := fun t W a1 a2 a3 a4 a5 =>
        wbegin_any sb gW gO p r x _ n c f wa wn wc oa on oc ho m (endP p (k + 1)) t W (by omega) h2 a1 a2 a3 a4 a5
      have HIH := hide (And.intro ih1 ih2)
      clear ih1 ih2
    · -- one behind the other
      have R := hide (begin_seq (p := p) (wo := r.outs) (ins := bitsV x 3) (m := m) (k := k) (s := s) (unhide HKA))
      have hwent := begin_went p r.outs (bitsV x 3) m (k + 1) s
      go_wp2_with fail
      refine ((unhide HIH).1 s _ hK3 hW3 hO3 (unhide HL1) (unhide HL2)).mono ?_
      rintro e w4 ⟨rfl, hW4, hO4, hk4⟩
      have hK4 := hK3.step hk4.1 (fun _ hg => Or.inl hg)
      have x64 := (World.cell?_of_block (a := ⟨b5 + 1, 0, none⟩) (hk4.1.2 (b5 + 1) l63 (by simp; omega))).trans x63
      obtain ⟨t1, ht1⟩ : ∃ t, beginF p r.outs (bitsV x 3) m (k + 1) s = t := ⟨_, rfl⟩
      rw [ht1] at hW4 hO4 hwent R ⊢
      obtain ⟨s1, b1⟩ := t1
      have HK4 := hide hK4
      have HKT := hide (hk3.trans hk4)
      have HWE := hide hwent
      clear hK4 hwent ht1 hk4
      cases b1
      · have R2 := hide (show beginF p r.outs (bitsV x 3) (m + 1) k s = (s1, false) from unhide R)
        go_wp2_with fail
        go_ret
        exact next_of (unhide R2) ⟨rfl, hW4, hO4, unhide HKT⟩
      · have R2 := hide (show beginF p r.outs (bitsV x 3) (m + 1) k s = beginF p r.outs (bitsV x 3) m (endP p (k + 1)) s1 from unhide R)
        go_wp2_with fail
        refine ((unhide HIH).2 s1 _ (unhide HK4) hW4 hO4 (by rw [(unhide HWE).len]; exact unhide HL1) (by rw [(unhide HWE).outs]; exact unhide HL2)).mono ?_
        rintro e w5 ⟨rfl, hW5, hO5, hk5⟩
        go_wp2_with fail
        go_ret
        exact next_of (unhide R2) ⟨rfl, hW5, hO5, (unhide HKT).trans hk5⟩
    · -- both at once
      have R := hide (begin_par (p := p) (wo := r.outs) (ins := bitsV x 3) (m := m) (k := k) (s := s) (unhide HKA))
      have hwent := begin_went p r.outs (bitsV x 3) m (k + 1) s
      obtain ⟨t1, ht1⟩ : ∃ t, beginF p r.outs (bitsV x 3) m (k + 1) s = t := ⟨_, rfl⟩
      rw [ht1] at hwent R
      obtain ⟨s1, b1⟩ := t1
      obtain ⟨t2, ht2⟩ : ∃ t, beginF p r.outs (bitsV x 3) m (endP p (k + 1)) s1 = t := ⟨_, rfl⟩
      have R2 := hide (show beginF p r.outs (bitsV x 3) (m + 1) k s = (t2.1, b1 && t2.2) by rw [unhide R]; show ((beginF p r.outs (bitsV x 3) m (endP p (k + 1)) s1).1, b1 && (beginF p r.outs (bitsV x 3) m (endP p (k + 1)) s1).2) = _; rw [ht2])
      obtain ⟨s2, b2⟩ := t2
      obtain ⟨v1, hv1⟩ : ∃ v : Int, v = (k : Int) + 1 := ⟨_, rfl⟩
      obtain ⟨v2, hv2⟩ : ∃ v : Int, v = ((endP p (k + 1) : Nat) : Int) := ⟨_, rfl⟩
      rw [← hv1] at x53
      rw [← hv2] at x63
      have C1 : ∀ W : World, Kp [gW, gO] W (WkQ sb gW gO p r x (some ⟨b, off, none⟩) n c f wa wn wc oa on oc) → BoolRow W gW s.1 → BoolRow W gO s.2 → Calls Try.prog 27 #[.pointer (some ⟨sb, 0, none⟩), .int .i64 v1] W fun e w' => NextAt gW gO W w' (s1, b1) e := fun W a1 a2 a3 => by
        have := (unhide HIH).1 s W a1 a2 a3 (unhide HL1) (unhide HL2)
        rwa [ht1, ← hv1] at this
      have C2 : ∀ W : World, Kp [gW, gO] W (WkQ sb gW gO p r x (some ⟨b, off, none⟩) n c f wa wn wc oa on oc) → BoolRow W gW s1.1 → BoolRow W gO s1.2 → Calls Try.prog 27 #[.pointer (some ⟨sb, 0, none⟩), .int .i64 v2] W fun e w' => NextAt gW gO W w' (s2, b2) e := fun W a1 a2 a3 => by
        have := (unhide HIH).2 s1 W a1 a2 a3 (by rw [hwent.len]; exact unhide HL1) (by rw [hwent.outs]; exact unhide HL2)
        rwa [ht2, ← hv2] at this
      have HC := hide (And.intro C1 C2)
      have hbd := (Below.refl w3.heap.size w3).drew
      have hKd := hK3.on hbd
      have hWd := hW3.on hbd
      have hOd := hO3.on hbd
      have hkd3 := hk3.trans (KeptS.of hbd)
      have hn5 : b5 ∉ [gW, gO] := by simp; omega
      have hn6 : b5 + 1 ∉ [gW, gO] := by simp; omega
      have cells : ∀ W : World, KeptS [gW, gO] w3 W → W.cell? ⟨b5, 0, none⟩ = some (.int .i64 v1) ∧ W.cell? ⟨b5 + 1, 0, none⟩ = some (.int .i64 v2) := fun W hW => ⟨(World.cell?_of_block (a := ⟨b5, 0, none⟩) (hW.1.2 b5 (Nat.lt_of_succ_lt l63) hn5)).trans x53, (World.cell?_of_block (a := ⟨b5 + 1, 0, none⟩) (hW.1.2 (b5 + 1) l63 hn6)).trans x63⟩
      have HCE := hide cells
      clear hv1 hv2
      clear C1 C2 R ht1 ht2 hwent cells hK3 hW3 hO3
      have HKS := hide (KeptS.of (G := [gW, gO]) hbd)
      go_wp2_with fail
      go_region_held3 (fun W => W.cell? ⟨b5, 0, none⟩ = some (.int .i64 v1) ∧ W.cell? ⟨b5 + 1, 0, none⟩ = some (.int .i64 v2))
        ((first | exact ⟨x53, x63⟩ | exact hSA | exact hSB))
        ((first
          | (go_at_call_of 27 (Value.int IntKind.i64 v1); refine ((unhide HC).1 _ hKd hWd hOd).mono ?_; rintro e wA ⟨rfl, hWA, hOA, hkA⟩; have hKA := hKd.step hkA.1 (fun _ hg => Or.inl hg); have hkA3 := hkd3.trans hkA; have hSA := unhide HCE wA ((unhide HKS).trans hkA))
          | (go_at_call_of 27 (Value.int IntKind.i64 v2); refine ((unhide HC).2 _ hKA hWA hOA).mono ?_; rintro e wB ⟨rfl, hWB, hOB, hkB⟩; have hkB3 := hkA3.trans hkB; have hSB := unhide HCE wB (((unhide HKS).trans hkA).trans hkB))))
      cases b1 <;> cases b2
      all_goals
        go_wp2_with fail
        go_ret
        exact next_of (unhide R2) ⟨rfl, hWB, hOB, hkB3⟩
    · -- asks an input
      have R := hide (begin_ask (p := p) (wo := r.outs) (ins := bitsV x 3) (m := m) (k := k) (s := s) (Or.inl (unhide HKA)))
      have HAK := hide (show askB p r.outs (bitsV x 3) k = hasIn x z by unfold askB hasIn; rw [unhide HKA, unhide HSA]; simp)
      go_wp2_with fail
      refine (hasInput_any hQ3 ho.x0 ho.x7 z hz2).mono ?_
      rintro e w' ⟨rfl, rfl⟩
      obtain ⟨hv, hhv⟩ : ∃ hv, hasIn x z = hv := ⟨_, rfl⟩
      rw [hhv] at HAK ⊢
      clear hhv
      go_wp2_with fail
      refine (choose_cl x53 x63 hv).mono ?_
      rintro e w' ⟨rfl, rfl⟩
      cases hv
      · have R2 := hide (show beginF p r.outs (bitsV x 3) (m + 1) k s = beginF p r.outs (bitsV x 3) m (endP p (k + 1)) s by rw [unhide R, unhide HAK]; rfl)
        go_wp2_with fail
        refine ((unhide HIH).2 s _ hK3 hW3 hO3 (unhide HL1) (unhide HL2)).mono ?_
        rintro e w4 ⟨rfl, hW4, hO4, hk4⟩
        go_wp2_with fail
        go_ret
        exact next_of (unhide R2) ⟨rfl, hW4, hO4, hk3.trans hk4⟩
      · have R2 := hide (show beginF p r.outs (bitsV x 3) (m + 1) k s = beginF p r.outs (bitsV x 3) m (k + 1) s by rw [unhide R, unhide HAK]; rfl)
        go_wp2_with fail
        refine ((unhide HIH).1 s _ hK3 hW3 hO3 (unhide HL1) (unhide HL2)).mono ?_
        rintro e w4 ⟨rfl, hW4, hO4, hk4⟩
        go_wp2_with fail
        go_ret
        exact next_of (unhide R2) ⟨rfl, hW4, hO4, hk3.trans hk4⟩
    · -- asks what was put out
      have R := hide (begin_ask (p := p) (wo := r.outs) (ins := bitsV x 3) (m := m) (k := k) (s := s) (Or.inr (unhide HKA)))
      have hzl : z < r.outs.length := by have := hQ3.outs.1; have := ho.ho; omega
      obtain ⟨ob, oo, rfl, hob, co⟩ := hQ3.outs.at hzl
      have hzn : (z : Int) < (on : Int) := by have := ho.ho; omega
      have HAK := hide (show askB p r.outs (bitsV x 3) k = r.outs[z] by unfold askB; rw [unhide HKA, unhide HSA]; simp [List.getD_eq_getElem?_getD, hzl])
      have q3 := hQ3.c3
      have q00 := hQ3.lt
      have hbd := (Below.refl w3.heap.size w3).drew
      have hKd := hK3.on hbd
      have hWd := hW3.on hbd
      have hOd := hO3.on hbd
      have hkd3 := hk3.trans (KeptS.of hbd)
      have x5d := (hbd.cell (p := ⟨b5, 0, none⟩) (Nat.lt_of_succ_lt l63)).trans x53
      have x6d := (hbd.cell (p := ⟨b5 + 1, 0, none⟩) l63).trans x63
      have hob0 := hob
      have q3k : ∀ W : World, KeptG [gW, gO] w3 W → W.cell? ⟨sb, 3, none⟩ = some (.slice (some ⟨ob, oo, none⟩) on oc) ∧ W.cell? ⟨nb, 1, none⟩ = some (.int .i64 (z : Int)) ∧ W.cell? ⟨ob, oo + z, none⟩ = some (.bool r.outs[z]) := fun W hW => by
        have h9 := hK3 W hW
        obtain ⟨ob2, oo2, e2, _, co2⟩ := h9.outs.at hzl
        injection e2 with e2
        injection e2 with e3 e4
        subst e3
        subst e4
        exact ⟨h9.c3, (World.cell?_of_block (a := ⟨nb, 1, none⟩) (hW.2 nb y0 (by simp; omega))).trans y2, co2⟩
      have HQK := hide q3k
      have HKG := hide (KeptG.of (G := [gW, gO]) hbd)
      clear hK3 hW3 hO3 q3k
      generalize r.outs[z] = iv at *
      cases iv
      · have R2 := hide (show beginF p r.outs (bitsV x 3) (m + 1) k s = beginF p r.outs (bitsV x 3) m (endP p (k + 1)) s by rw [unhide R, unhide HAK]; rfl)
        have CC := choose_cl x5d x6d false
        simp only [Bool.false_eq_true, if_false] at CC
        go_wp2_with fail
        go_region_held3 (fun W => W.cell? ⟨sb, 3, none⟩ = some (.slice (some ⟨ob, oo, none⟩) on oc) ∧ W.cell? ⟨nb, 1, none⟩ = some (.int .i64 (z : Int)) ∧ W.cell? ⟨ob, oo + z, none⟩ = some (.bool false))
          ((first | exact ⟨q3, y2, co⟩ | exact hSA))
          ((first
            | (go_at_call 36; refine CC.mono ?_; rintro e w' ⟨rfl, rfl⟩)
            | (go_at_call 27; refine ((unhide HIH).2 s _ hKd hWd hOd (unhide HL1) (unhide HL2)).mono ?_; rintro e wA ⟨rfl, hWA, hOA, hkA⟩; have hSA := unhide HQK wA ((unhide HKG).trans hkA.1))))
        go_wp2_with fail
        go_ret
        exact next_of (unhide R2) ⟨rfl, hWA, hOA, hkd3.trans hkA⟩
      · have R2 := hide (show beginF p r.outs (bitsV x 3) (m + 1) k s = beginF p r.outs (bitsV x 3) m (k + 1) s by rw [unhide R, unhide HAK]; rfl)
        have CC := choose_cl x5d x6d true
        simp only [if_true] at CC
        go_wp2_with fail
        go_region_held3 (fun W => W.cell? ⟨sb, 3, none⟩ = some (.slice (some ⟨ob, oo, none⟩) on oc) ∧ W.cell? ⟨nb, 1, none⟩ = some (.int .i64 (z : Int)) ∧ W.cell? ⟨ob, oo + z, none⟩ = some (.bool true))
          ((first | exact ⟨q3, y2, co⟩ | exact hSA))
          ((first
            | (go_at_call 36; refine CC.mono ?_; rintro e w' ⟨rfl, rfl⟩)
            | (go_at_call 27; refine ((unhide HIH).1 s _ hKd hWd hOd (unhide HL1) (unhide HL2)).mono ?_; rintro e wA ⟨rfl, hWA, hOA, hkA⟩; have hSA := unhide HQK wA ((unhide HKG).trans hkA.1))))
        go_wp2_with fail
        go_ret
        exact next_of (unhide R2) ⟨rfl, hWA, hOA, hkd3.trans hkA⟩
end Go.Proofs.Ytopacgdfafhfhaf
