/- The program's walker: goOn of a node. -/
import Derived.Test.YtopacgdfafhfhafWalkR
namespace Go.Proofs.Ytopacgdfafhfhaf
open Go.RowKit

set_option maxRecDepth 100000 in
set_option maxHeartbeats 8000000 in
theorem goOn_any (sb gW gO : Nat) (p : List NodeD) (r : RestD) (x : Int) (a : Option Addr) (n c : Nat) (f : Bool) (wa : Option Addr) (wn wc : Nat) (oa : Option Addr) (on oc : Nat) (ho : WkO p r x n c wn wc on gW gO) : ∀ (m k : Nat), p.length - k ≤ m → k < p.length → GoOn sb gW gO p r x a n c f wa wn wc oa on oc m k (k : Int)
  | 0, k, hm, hk => by omega
  | m + 1, k, hm, hk => by
    intro s w hsome hz hK hW hO hl1 hl2
    have hQ := hK.now
    have HN := hide hQ.nodes.1
    have hki : (k : Int) < (n : Int) := by have := unhide HN; omega
    have hkd := ho.ok.kinds p[k] (List.getElem_mem hk)
    have hsg := ho.ok.sigs p[k] (List.getElem_mem hk)
    obtain ⟨z, hzz⟩ := Int.eq_ofNat_of_zero_le hsg.1
    have HKA := hide (kindAt_of hk)
    have HSA := hide (sigAt_of hk hzz)
    have hz2 : z ≤ 2 := by
      have h1 := hsg.2
      rw [hzz] at h1
      unfold mostS at h1
      split at h1 <;> omega
    have hzi : (z : Int) < 3 := by omega
    have hz00 : (0 : Int) ≤ (z : Int) := by omega
    have HPP := hide (show hasP p[k].kind = true → partA p (k : Int) = (k : Int) + 1 ∧ partB p (k : Int) = (endP p (k + 1) : Nat) from fun e => ⟨(parts_node (partsE_ok ho.ok hk) hk e).1, (parts_node (partsE_ok ho.ok hk) hk e).2.1⟩)
    have HP := hide (show hasP p[k].kind = true → (k + 1 < p.length ∧ endP p (k + 1) < p.length) ∧ (someP p r.waits (k + 1) = true ∨ someP p r.waits (endP p (k + 1)) = true) from fun e => ⟨end_two ho.ok.form hk e, some_parts hk e ho.may hsome⟩)
    have HLF := hide (show hasP p[k].kind = false → waitK p[k].kind = true from fun e => by
      rcases some_kind hk ho.may hsome with h1 | h1
      · rw [kindAt_of hk, e] at h1; simp at h1
      · rw [kindAt_of hk] at h1; exact h1)
    have HZ := hide hz
    have HL := hide (And.intro hl1 hl2)
    clear hz hl1 hl2 hsome hsg
    go_enter Try.func29, Try.ntmps29
    go_wp2_with fail
    refine (wparts_any hQ ho.nc k).mono ?_
    rintro e w1 ⟨rfl, hb1⟩
    obtain ⟨pa, hpa⟩ : ∃ pa, partA p (k : Int) = pa := ⟨_, rfl⟩
    obtain ⟨pb, hpb⟩ : ∃ pb, partB p (k : Int) = pb := ⟨_, rfl⟩
    obtain ⟨pc, hpc⟩ : ∃ pc, partC p (k : Int) = pc := ⟨_, rfl⟩
    rw [hpa, hpb] at HPP
    rw [hpa, hpb, hpc]
    clear hpa hpb hpc
    have hK1 := hK.on hb1
    have hW1 := hW.on hb1
    have hO1 := hO.on hb1
    have hk1 : KeptS [gW, gO] w w1 := KeptS.of hb1
    clear hK hW hO hQ hb1
    obtain ⟨b, off, rfl, hbb, c1, c2⟩ := hK1.now.nodes.at hk
    rw [hzz] at c2
    have q0 := hK1.now.c0
    have q00 := hK1.now.lt
    have hb2 : Below w1.heap.size w1 (w1.alloc (.cells #[.int .i64 p[k].kind, .int .i64 (z : Int)] 57)) := (Below.refl _ _).alloc (Nat.le_refl _) _
    obtain ⟨y1, y2, y0⟩ := pair2 w1 (.int .i64 p[k].kind) (.int .i64 (z : Int)) 57
    have hK2 := hK1.on hb2
    have hW2 := hW1.on hb2
    have hO2 := hO1.on hb2
    have hk2 : KeptS [gW, gO] w (w1.alloc (.cells #[.int .i64 p[k].kind, .int .i64 (z : Int)] 57)) := hk1.trans (KeptS.of hb2)
    clear hzz
    generalize hkg : p[k].kind = kd at *
    clear hkg
    go_upto_region 3 with fail
    generalize hw2 : w1.alloc (.cells #[.int .i64 kd, .int .i64 (z : Int)] 57) = w2 at *
    clear hw2 c1 c2 q0 q00 hK1 hW1 hO1 hk1 hb2
    have hQ2 := hK2.now
    have gone : ∀ j : Nat, p.length - j ≤ m → j < p.length → GoOn sb gW gO p r x (some ⟨b, off, none⟩) n c f wa wn wc oa on oc m j (j : Int) := fun j h1 h2 => goOn_any sb gW gO p r x (some ⟨b, off, none⟩) n c f wa wn wc oa on oc ho m j h1 h2
    have HGO := hide gone
    clear gone
    rcases nine hkd with rfl | rfl | rfl | rfl | rfl | rfl | rfl | rfl | rfl
    · exact absurd (unhide HLF rfl) (by decide)
    · -- a pause is over
      have R := hide (show onF p r.waits r.outs (bitsV x 3) (m + 1) k s = (s, true) by unfold onF; rw [unhide HKA]; rfl)
      go_wp2_with fail
      go_ret
      exact next_of (unhide R) ⟨rfl, hW2, hO2, hk2⟩
    · -- a halt waits
      have R := hide (show onF p r.waits r.outs (bitsV x 3) (m + 1) k s = ((s.1.set k true, s.2), false) by unfold onF; rw [unhide HKA]; rfl)
      go_wp2_with fail
      refine (waitAt_any hQ2 s hW2 hO2 (unhide HL).1 ho.ne k hk).mono ?_
      rintro e w3 ⟨rfl, hW3, hO3, hk3⟩
      go_wp2_with fail
      go_ret
      exact next_of (unhide R) ⟨rfl, hW3, hO3, hk2.trans hk3⟩
    · exact absurd (unhide HLF rfl) (by decide)
    · -- a wait for an input
      have HI := hide (hasIn_no ho.x0 ho.x7 hz2)
      go_wp2_with fail
      refine (hasInput_any hQ2 ho.x0 ho.x7 z hz2).mono ?_
      rintro e w' ⟨rfl, rfl⟩
      obtain ⟨hv, hhv⟩ : ∃ hv, hasIn x z = hv := ⟨_, rfl⟩
      rw [hhv] at HI ⊢
      clear hhv
      cases hv
      · have R := hide (show onF p r.waits r.outs (bitsV x 3) (m + 1) k s = ((s.1.set k true, s.2), false) by unfold onF; rw [unhide HKA, unhide HSA, unhide HI]; rfl)
        go_wp2_with fail
        refine (waitAt_any hQ2 s hW2 hO2 (unhide HL).1 ho.ne k hk).mono ?_
        rintro e w3 ⟨rfl, hW3, hO3, hk3⟩
        go_wp2_with fail
        go_ret
        exact next_of (unhide R) ⟨rfl, hW3, hO3, hk2.trans hk3⟩
      · have R := hide (show onF p r.waits r.outs (bitsV x 3) (m + 1) k s = (s, true) by
          have h9 := set_no (unhide HZ k (Nat.le_refl _))
          unfold onF; rw [unhide HKA, unhide HSA, unhide HI]
          show ((s.1.set k false, s.2), true) = (s, true)
          rw [h9])
        go_wp2_with fail
        go_ret
        exact next_of (unhide R) ⟨rfl, hW2, hO2, hk2⟩
    · -- one behind the other
      obtain ⟨⟨h1, h2⟩, hss⟩ := unhide HP rfl
      obtain ⟨rfl, rfl⟩ := unhide HPP rfl
      have h3 := end_gt h1
      have g1 : GoOn sb gW gO p r x (some ⟨b, off, none⟩) n c f wa wn wc oa on oc m (k + 1) ((k : Int) + 1) := by
        have := unhide HGO (k + 1) (by omega) h1
        rwa [show ((k + 1 : Nat) : Int) = (k : Int) + 1 by omega] at this
      have g2 := unhide HGO (endP p (k + 1)) (by omega) h2
      have sw : ∀ W : World, WkQ sb gW gO p r x (some ⟨b, off, none⟩) n c f wa wn wc oa on oc W → Calls Try.prog 28 #[.pointer (some ⟨sb, 0, none⟩), .int .i64 ((k : Int) + 1)] W fun e w' => e = .returned (.bool (someP p r.waits (k + 1))) ∧ Below W.heap.size W w' := fun W hq => by
        have := someWait_any hq ho (k + 1) h1
        rwa [show ((k + 1 : Nat) : Int) = (k : Int) + 1 by omega] at this
      have bg : ∀ (t : NextD) (W : World), Kp [gW, gO] W (WkQ sb gW gO p r x (some ⟨b, off, none⟩) n c f wa wn wc oa on oc) → BoolRow W gW t.1 → BoolRow W gO t.2 → t.1.length = p.length → t.2.length = 3 → Calls Try.prog 27 #[.pointer (some ⟨sb, 0, none⟩), .int .i64 (endP p (k + 1) : Nat)] W fun e w' => NextAt gW gO W w' (beginF p r.outs (bitsV x 3) m (endP p (k + 1)) t) e := fun t W a1 a2 a3 a4 a5 =>
        wbegin_any sb gW gO p r x _ n c f wa wn wc oa on oc ho m (endP p (k + 1)) t W (by omega) h2 a1 a2 a3 a4 a5
      have HIH := hide (And.intro g1 (And.intro g2 bg))
      have HSW := hide sw
      have HB := hide (show endP p (k + 1) ≥ k by omega)
      clear g1 g2 bg sw
      have R := hide (on_seq2 (p := p) (ws := r.waits) (wo := r.outs) (ins := bitsV x 3) (m := m) (k := k) (s := s) (unhide HKA))
      go_wp2_with fail
      refine (unhide HSW _ hQ2).mono ?_
      rintro e w3 ⟨rfl, hb3⟩
      have hK3 := hK2.on hb3
      have hW3 := hW2.on hb3
      have hO3 := hO2.on hb3
      have hk3 := hk2.trans (KeptS.of hb3)
      clear hb3 hQ2 hK2 hW2 hO2 hk2
      cases hs : someP p r.waits (k + 1)
      · have R2 := hide (show onF p r.waits r.outs (bitsV x 3) (m + 1) k s = onF p r.waits r.outs (bitsV x 3) m (endP p (k + 1)) s by rw [unhide R, hs]; rfl)
        have hs2 : someP p r.waits (endP p (k + 1)) = true := by
          rcases hss with h | h
          · rw [hs] at h; simp at h
          · exact h
        clear hss hs
        go_wp2_with fail
        refine ((unhide HIH).2.1 s _ hs2 (fun i hi => unhide HZ i (by have := unhide HB; omega)) hK3 hW3 hO3 (unhide HL).1 (unhide HL).2).mono ?_
        rintro e w4 ⟨rfl, hW4, hO4, hk4⟩
        go_wp2_with fail
        go_ret
        exact next_of (unhide R2) ⟨rfl, hW4, hO4, hk3.trans hk4⟩
      · have R1 := hide (show onF p r.waits r.outs (bitsV x 3) (m + 1) k s = (if (onF p r.waits r.outs (bitsV x 3) m (k + 1) s).2 then beginF p r.outs (bitsV x 3) m (endP p (k + 1)) (onF p r.waits r.outs (bitsV x 3) m (k + 1) s).1 else ((onF p r.waits r.outs (bitsV x 3) m (k + 1) s).1, false)) by rw [unhide R, hs]; rfl)
        have hwent := on_went p r.waits r.outs (bitsV x 3) m (k + 1) s
        have HS := hide hs
        clear hss hs
        go_wp2_with fail
        refine ((unhide HIH).1 s _ (unhide HS) (fun i hi => unhide HZ i (by omega)) hK3 hW3 hO3 (unhide HL).1 (unhide HL).2).mono ?_
        rintro e w4 ⟨rfl, hW4, hO4, hk4⟩
        have hK4 := hK3.step hk4.1 (fun _ hg => Or.inl hg)
        obtain ⟨t1, ht1⟩ : ∃ t, onF p r.waits r.outs (bitsV x 3) m (k + 1) s = t := ⟨_, rfl⟩
        rw [ht1] at hW4 hO4 hwent R1 ⊢
        obtain ⟨s1, b1⟩ := t1
        have HK4 := hide hK4
        have HKT := hide (hk3.trans hk4)
        have HWE := hide hwent
        clear hK4 hwent ht1 hk4
        cases b1
        · have R2 := hide (show onF p r.waits r.outs (bitsV x 3) (m + 1) k s = (s1, false) from unhide R1)
          go_wp2_with fail
          go_ret
          exact next_of (unhide R2) ⟨rfl, hW4, hO4, unhide HKT⟩
        · have R2 := hide (show onF p r.waits r.outs (bitsV x 3) (m + 1) k s = beginF p r.outs (bitsV x 3) m (endP p (k + 1)) s1 from unhide R1)
          go_wp2_with fail
          refine ((unhide HIH).2.2 s1 _ (unhide HK4) hW4 hO4 (by rw [(unhide HWE).len]; exact (unhide HL).1) (by rw [(unhide HWE).outs]; exact (unhide HL).2)).mono ?_
          rintro e w5 ⟨rfl, hW5, hO5, hk5⟩
          go_wp2_with fail
          go_ret
          exact next_of (unhide R2) ⟨rfl, hW5, hO5, (unhide HKT).trans hk5⟩
    all_goals
      obtain ⟨⟨h1, h2⟩, hss⟩ := unhide HP rfl
      obtain ⟨rfl, rfl⟩ := unhide HPP rfl
      have h3 := end_gt h1
      have R := hide (on_both (p := p) (ws := r.waits) (wo := r.outs) (ins := bitsV x 3) (m := m) (k := k) (s := s) (by rw [unhide HKA]; simp))
      have hb3 : Below w2.heap.size w2 (w2.alloc (.cells #[.int .i64 ((k : Int) + 1), .int .i64 (endP p (k + 1) : Nat)] 3)) := (Below.refl _ _).alloc (Nat.le_refl _) _
      obtain ⟨v1, v2, v0⟩ := pair2 w2 (.int .i64 ((k : Int) + 1)) (.int .i64 (endP p (k + 1) : Nat)) 3
      have hgW : gW < w2.heap.size := hW2.lt
      have hgO : gO < w2.heap.size := hO2.lt
      have hPr : Kp [gW, gO] (w2.alloc (.cells #[.int .i64 ((k : Int) + 1), .int .i64 (endP p (k + 1) : Nat)] 3)) (Pair2 w2.heap.size ((k : Int) + 1) (endP p (k + 1) : Nat)) := fun V hV => by
        have hblk := hV.2 w2.heap.size v0 (by simp; omega)
        exact ⟨Nat.lt_of_lt_of_le v0 hV.1, (World.cell?_of_block (a := ⟨w2.heap.size, 0, none⟩) hblk).trans v1, (World.cell?_of_block (a := ⟨w2.heap.size, 1, none⟩) hblk).trans v2⟩
      have hK3 := hK2.on hb3
      have hW3 := hW2.on hb3
      have hO3 := hO2.on hb3
      have hk3 := hk2.trans (KeptS.of hb3)
      have AG := fun (W : World) (hKW : Kp [gW, gO] W (WkQ sb gW gO p r x (some ⟨b, off, none⟩) n c f wa wn wc oa on oc)) (hPW : Kp [gW, gO] W (Pair2 w2.heap.size ((k + 1 : Nat) : Int) ((endP p (k + 1) : Nat) : Int))) (hWW : BoolRow W gW s.1) (hOW : BoolRow W gO s.2) => allGoOn_of sb gW gO p r x (some ⟨b, off, none⟩) n c f wa wn wc oa on oc ho m (k + 1) (endP p (k + 1)) w2.heap.size h1 h2 (Nat.le_refl _) (unhide HGO (k + 1) (by omega) h1) (unhide HGO (endP p (k + 1)) (by omega) h2) s W (fun i hi => unhide HZ i (by omega)) hKW hPW hWW hOW (unhide HL).1 (unhide HL).2
      rw [show ((k + 1 : Nat) : Int) = (k : Int) + 1 by omega] at AG
      have HAG := hide AG
      clear AG hss v1 v2 hb3 hQ2 hK2 hW2 hO2 hk2
      generalize hep : endP p (k + 1) = ep at *
      go_wp2_with fail
      refine (unhide HAG _ hK3 hPr hW3 hO3).mono ?_
      rintro e w4 ⟨rfl, hW4, hO4, hk4⟩
      obtain ⟨t1, ht1⟩ : ∃ t, goOne p r.waits r.outs (bitsV x 3) m ep (goOne p r.waits r.outs (bitsV x 3) m (k + 1) (s, true)) = t := ⟨_, rfl⟩
      rw [ht1] at hW4 hO4 R ⊢
      obtain ⟨s1, b1⟩ := t1
      clear ht1
      go_wp2_with fail
      go_ret
      exact next_of (unhide R) ⟨rfl, hW4, hO4, hk3.trans hk4⟩
end Go.Proofs.Ytopacgdfafhfhaf
