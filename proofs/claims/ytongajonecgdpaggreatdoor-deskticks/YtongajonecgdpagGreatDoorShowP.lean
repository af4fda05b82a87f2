/- text.Show: what the program shows is what the document shows. -/
import Derived.Test.YtongajonecgdpagGreatDoorPhrC
import Derived.Test.YtongajonecgdpagGreatDoorProgP
import Derived.Test.YtongajonecgdpagGreatDoorEvalP
namespace Go.Proofs.YtongajonecgdpagGreatDoor
open Go.RowKit

theorem look_is {w : World} {m : Nat} (h : PhrOf w m isN) {x : NodeD} (hx : isN x = true) : (Instr.lookup 63 (.map (some m)) (.agg #[.int .i64 x.kind, .int .i64 x.sig]) false).run Tryz.prog w = .ok (.agg #[.string ⟨(headT x).toArray⟩, .string ⟨(betwT x).toArray⟩, .string ⟨(endT x).toArray⟩]) w := by
  have := look_node h x false
  rw [hx] at this
  exact this
theorem phParts_any (h b e : List UInt8) (hb : b.length ≤ 100) (w : World) : Calls Tryz.prog 62 #[.agg #[.string ⟨h.toArray⟩, .string ⟨b.toArray⟩, .string ⟨e.toArray⟩]] w fun x w' => x = .returned (.bool (b != [])) ∧ Below w.heap.size w w' := by
  have hb0 : Below w.heap.size w (w.alloc (.cells #[.string ⟨h.toArray⟩, .string ⟨b.toArray⟩, .string ⟨e.toArray⟩] 98)) := (Below.refl _ _).alloc (Nat.le_refl _) _
  by_cases hb' : b = []
  · subst hb'
    go_enter Tryz.func62, Tryz.ntmps62
    go_wp2_with fail
    go_ret
    exact ⟨rfl, hb0⟩
  · have hd : (b == []) = false := by simpa using hb'
    have hd2 : (b != []) = true := by simpa using hb'
    rw [hd2]
    go_enter Tryz.func62, Tryz.ntmps62
    go_wp2_with fail
    go_ret
    exact ⟨rfl, hb0⟩
theorem parts_at {p : List NodeD} (hok : POk p) {k : Nat} (hk : k < p.length) (hp : hasP p[k].kind = true) : partA p (k : Int) = (k : Int) + 1 ∧ partB p (k : Int) = ((endP p (k + 1) : Nat) : Int) := by
  have h0 : partsE p (k : Int) = 0 := by
    unfold partsE
    rw [if_pos (of_pok hok), if_pos]
    omega
  have hkk : kindAt p ((k : Int).toNat) = p[k].kind := by simp [kindAt, List.getD_eq_getElem?_getD, hk]
  unfold partA partB
  rw [if_pos h0, if_pos h0, hkk, hp]
  exact ⟨rfl, by simp⟩
theorem head_len {x : NodeD} (hx : isN x = true) : (headT x).length ≤ 16 ∧ (betwT x).length ≤ 16 ∧ (endT x).length ≤ 16 := by
  have h : ∀ y ∈ valid, (headT y).length ≤ 16 ∧ (betwT y).length ≤ 16 ∧ (endT y).length ≤ 16 := by decide +kernel
  exact h x (valid_mem hx)

set_option maxRecDepth 100000 in
set_option maxHeartbeats 4000000 in
theorem shower_any (p : List NodeD) (pa : Option Addr) (pn pc m : Nat) (hok : POk p) (hc : pn ≤ pc) : ∀ (f k : Nat) (w : World), p.length - k ≤ f → k < p.length → Nodes w pa pn p → PhrOf w m isN →
    Calls Tryz.prog 29 #[.agg #[.slice pa pn pc, .map (some m)], .int .i64 (k : Int)] w fun e w' => e = .returned (.string ⟨(textL p f k).toArray⟩) ∧ Below w.heap.size w w'
  | 0, k, w, hm, hk, _, _ => by omega
  | f + 1, k, w, hm, hk, hN, hP => by
    have hn14 : pn ≤ 14 := by rw [hN.1]; exact hok.few
    have hki : (k : Int) < (pn : Int) := by have := hN.1; omega
    obtain ⟨b, off, rfl, hbb, c1, c2⟩ := hN.at hk
    have hkd := hok.kinds p[k] (List.getElem_mem hk)
    have hsg := hok.sigs p[k] (List.getElem_mem hk)
    have hxn : isN p[k] = true := by simp only [isN, decide_eq_true_iff]; exact ⟨hkd.1, hkd.2, hsg.1, hsg.2⟩
    have HT := hide (head_text (p := p) (m := f) (k := k) (x := p[k]) (by simp [List.getD_eq_getElem?_getD, hk]) hxn)
    have HPA := hide (fun hp : hasP p[k].kind = true => And.intro (end_two hok.form hk hp) (parts_at hok hk hp))
    have HLE := hide (fun (j : Nat) (hj : j < p.length) => text_le hok f hj)
    obtain ⟨l1, l2, l3⟩ := head_len hxn
    have hbn := betw_none hxn
    have T : ∀ (j : Nat) (W : World), p.length - j ≤ f → j < p.length → Nodes W (some ⟨b, off, none⟩) pn p → PhrOf W m isN → Calls Tryz.prog 29 #[.agg #[.slice (some ⟨b, off, none⟩) pn pc, .map (some m)], .int .i64 (j : Int)] W fun e w' => e = .returned (.string ⟨(textL p f j).toArray⟩) ∧ Below W.heap.size W w' := fun j W => shower_any p (some ⟨b, off, none⟩) pn pc m hok hc f j W
    have HIH := hide T
    have hb0 : Below w.heap.size w (w.alloc (.cells #[.slice (some ⟨b, off, none⟩) pn pc, .map (some m)] 66)) := (Below.refl _ _).alloc (Nat.le_refl _) _
    obtain ⟨y1, y2, y0⟩ := pairT w (.slice (some ⟨b, off, none⟩) pn pc) (.map (some m)) 66
    have hN1 := hN.below hb0
    have hP1 := hP.same (hb0.block _ hP.lt)
    have hc1 := (hb0.cell (p := ⟨b, off + k * 2, none⟩) hbb).trans c1
    have hc2 := (hb0.cell (p := ⟨b, off + k * 2 + 1, none⟩) hbb).trans c2
    have hbb1 := Nat.lt_of_lt_of_le hbb hb0.size
    clear T c1 c2 hbb hP hN hkd hsg
    generalize hxk : p[k] = x at *
    clear hxk
    go_enter Tryz.func29, Tryz.ntmps29
    go_upto_region 1 with fail
    generalize hw1 : w.alloc (.cells #[.slice (some ⟨b, off, none⟩) pn pc, .map (some m)] 66) = w1 at *
    clear hw1
    have HS : ∀ W, Below w1.heap.size w1 W → PhrOf W m isN ∧ W.cell? ⟨w.heap.size, 0, none⟩ = some (.slice (some ⟨b, off, none⟩) pn pc) ∧ W.cell? ⟨w.heap.size, 1, none⟩ = some (.map (some m)) ∧ W.cell? ⟨b, off + k * 2, none⟩ = some (.int .i64 x.kind) ∧ W.cell? ⟨b, off + k * 2 + 1, none⟩ = some (.int .i64 x.sig) := fun W hW =>
      ⟨hP1.same (hW.block _ hP1.lt), (hW.cell (p := ⟨w.heap.size, 0, none⟩) y0).trans y1, (hW.cell (p := ⟨w.heap.size, 1, none⟩) y0).trans y2, (hW.cell (p := ⟨b, off + k * 2, none⟩) hbb1).trans hc1, (hW.cell (p := ⟨b, off + k * 2 + 1, none⟩) hbb1).trans hc2⟩
    have hbd : Below w1.heap.size w1 w1.drew := (Below.refl _ _).drew
    refine wp_region_held_drew (S := fun W => PhrOf W m isN ∧ W.cell? ⟨w.heap.size, 0, none⟩ = some (.slice (some ⟨b, off, none⟩) pn pc) ∧ W.cell? ⟨w.heap.size, 1, none⟩ = some (.map (some m)) ∧ W.cell? ⟨b, off + k * 2, none⟩ = some (.int .i64 x.kind) ∧ W.cell? ⟨b, off + k * 2 + 1, none⟩ = some (.int .i64 x.sig)) (by kernel_rfl) ?_ (fun hHeld => ?_)
    · exact HS _ hbd
    refine wpAnyH_take (i := 0) (oi := { dst := some 10, op := Go.Op.fieldAddr 66 (Go.Operand.tmp 2) 1, type := 0, pos := "text.go:61", after := #[], guard := none }) (v := ?_) rfl (by kernel_rfl) (by kernel_rfl) (by kernel_rfl) (fun _ _ _ h => h) (Or.inl ⟨by rfl, ?_⟩) (by assumption) ?_
    rotate_left
    · intro w hSw; (try dsimp only at hSw); go_simp; (try (with_reducible rfl))
    try simp only [Act.put, List.setIfInBounds_toArray, List.set_cons_zero, List.set_cons_succ]
    refine wpAnyH_take (i := 1) (oi := { dst := some 11, op := Go.Op.load 63 (Go.Operand.tmp 10), type := 63, pos := "text.go:61", after := #[{ on := 0, ground := Go.Ground.data }], guard := none }) (v := ?_) rfl (by kernel_rfl) (by kernel_rfl) (by kernel_rfl) (fun _ _ _ h => h) (Or.inl ⟨by rfl, ?_⟩) (by assumption) ?_
    rotate_left
    · intro w hSw; (try dsimp only at hSw); go_simp; (try (with_reducible rfl))
    try simp only [Act.put, List.setIfInBounds_toArray, List.set_cons_zero, List.set_cons_succ]
    refine wpAnyH_take (i := 2) (oi := { dst := some 12, op := Go.Op.fieldAddr 66 (Go.Operand.tmp 2) 0, type := 0, pos := "text.go:61", after := #[], guard := none }) (v := ?_) rfl (by kernel_rfl) (by kernel_rfl) (by kernel_rfl) (fun _ _ _ h => h) (Or.inl ⟨by rfl, ?_⟩) (by assumption) ?_
    rotate_left
    · intro w hSw; (try dsimp only at hSw); go_simp; (try (with_reducible rfl))
    try simp only [Act.put, List.setIfInBounds_toArray, List.set_cons_zero, List.set_cons_succ]
    refine wpAnyH_take (i := 3) (oi := { dst := some 13, op := Go.Op.load 27 (Go.Operand.tmp 12), type := 27, pos := "text.go:61", after := #[{ on := 2, ground := Go.Ground.data }], guard := none }) (v := ?_) rfl (by kernel_rfl) (by kernel_rfl) (by kernel_rfl) (fun _ _ _ h => h) (Or.inl ⟨by rfl, ?_⟩) (by assumption) ?_
    rotate_left
    · intro w hSw; (try dsimp only at hSw); go_simp; (try (with_reducible rfl))
    try simp only [Act.put, List.setIfInBounds_toArray, List.set_cons_zero, List.set_cons_succ]
    refine wpAnyH_take (i := 4) (oi := { dst := some 14, op := Go.Op.move (Go.Operand.tmp 1), type := 3, pos := "text.go:61", after := #[], guard := none }) (v := ?_) rfl (by kernel_rfl) (by kernel_rfl) (by kernel_rfl) (fun _ _ _ h => h) (Or.inl ⟨by rfl, ?_⟩) (by assumption) ?_
    rotate_left
    · intro w hSw; (try dsimp only at hSw); go_simp; (try (with_reducible rfl))
    try simp only [Act.put, List.setIfInBounds_toArray, List.set_cons_zero, List.set_cons_succ]
    refine wpAnyH_take (i := 5) (oi := { dst := some 15, op := Go.Op.indexAddr 27 (Go.Operand.tmp 13) (Go.Operand.tmp 14), type := 0, pos := "text.go:61", after := #[{ on := 3, ground := Go.Ground.data }, { on := 4, ground := Go.Ground.data }], guard := none }) (v := ?_) rfl (by kernel_rfl) (by kernel_rfl) (by kernel_rfl) (fun _ _ _ h => h) (Or.inl ⟨by rfl, ?_⟩) (by assumption) ?_
    rotate_left
    · intro w hSw; (try dsimp only at hSw); go_simp; (try (with_reducible rfl))
    try simp only [Act.put, List.setIfInBounds_toArray, List.set_cons_zero, List.set_cons_succ]
    refine wpAnyH_take (i := 6) (oi := { dst := some 16, op := Go.Op.load 93 (Go.Operand.tmp 15), type := 93, pos := "text.go:61", after := #[{ on := 5, ground := Go.Ground.data }], guard := none }) (v := ?_) rfl (by kernel_rfl) (by kernel_rfl) (by kernel_rfl) (fun _ _ _ h => h) (Or.inl ⟨by rfl, ?_⟩) (by assumption) ?_
    rotate_left
    · intro w hSw; (try dsimp only at hSw); go_simp; (try (with_reducible rfl))
    try simp only [Act.put, List.setIfInBounds_toArray, List.set_cons_zero, List.set_cons_succ]
    refine wpAnyH_take (i := 7) (oi := { dst := some 17, op := Go.Op.lookup 63 (Go.Operand.tmp 11) (Go.Operand.tmp 16) false, type := 98, pos := "text.go:61", after := #[{ on := 1, ground := Go.Ground.data }, { on := 6, ground := Go.Ground.data }], guard := none }) (v := ?_) rfl (by kernel_rfl) (by kernel_rfl) (by kernel_rfl) (fun _ _ _ h => h) (Or.inl ⟨by rfl, ?_⟩) (by assumption) ?_
    rotate_left
    · intro w hSw; (try dsimp only at hSw); have hLK := look_is hSw.1 hxn; go_simp; (try (with_reducible rfl))
    try simp only [Act.put, List.setIfInBounds_toArray, List.set_cons_zero, List.set_cons_succ]
    refine wpAnyH_ready (rs := [8]) (by kernel_rfl) (by simp) ?_
    refine AllReadyH.cons (o := { dst := some 5, op := Go.Op.alloc 98, type := 0, pos := "text.go:61", after := #[], guard := none }) rfl (fun K hK => ?_) ?_
    · have hbA := hbd.alloc hbd.size (.cells #[.string ⟨#[]⟩, .string ⟨#[]⟩, .string ⟨#[]⟩] 98)
      go_simp
      refine hK.out _ _ ?_ (fun hHeld => ?_)
      · (try dsimp only)
        (first | exact HS _ hbA | exact HS _ hbS)
      clear hK K
      try simp only [Act.put, List.setIfInBounds_toArray, List.set_cons_zero, List.set_cons_succ]
      refine wpAnyH_ready (rs := [9]) (by kernel_rfl) (by simp) ?_
      refine AllReadyH.cons (o := { dst := none, op := Go.Op.store 98 (Go.Operand.tmp 5) (Go.Operand.tmp 17), type := 0, pos := "text.go:61", after := #[{ on := 8, ground := Go.Ground.data }, { on := 7, ground := Go.Ground.data }, { on := 0, ground := Go.Ground.phase }, { on := 1, ground := Go.Ground.phase }, { on := 2, ground := Go.Ground.phase }, { on := 3, ground := Go.Ground.phase }, { on := 4, ground := Go.Ground.phase }, { on := 5, ground := Go.Ground.phase }, { on := 6, ground := Go.Ground.phase }, { on := 7, ground := Go.Ground.phase }, { on := 8, ground := Go.Ground.phase }], guard := none }) rfl (fun K hK => ?_) ?_
      · have hbS := ((Below.refl w1.heap.size w1).alloc (Nat.le_refl _) (.cells #[.string ⟨(headT x).toArray⟩, .string ⟨(betwT x).toArray⟩, .string ⟨(endT x).toArray⟩] 98)).drew
        have hc9 := Cells.new w1 [.string ⟨(headT x).toArray⟩, .string ⟨(betwT x).toArray⟩, .string ⟨(endT x).toArray⟩] 98
        go_simp
        refine hK.out _ _ ?_ (fun hHeld => ?_)
        · (try dsimp only)
          (first | exact HS _ hbA | exact HS _ hbS)
        clear hK K
        try simp only [Act.put]
        refine wpAnyH_done (by kernel_rfl) ?_ _
        have hN2 := hN1.below hbS
        have hP2 := hP1.same (hbS.block _ hP1.lt)
        obtain ⟨_, g1, g2, _, _⟩ := HS _ hbS
        have g0 := Nat.lt_of_lt_of_le y0 hbS.size
        have B2 := bstep hb0 hbS
        have hc2 : Cells (w1.alloc (.cells #[.string ⟨(headT x).toArray⟩, .string ⟨(betwT x).toArray⟩, .string ⟨(endT x).toArray⟩] 98)).drew w1.heap.size _ _ := hc9
        clear hbA hbd hc1 HS hN1 hP1 hHeld hc9 hbS y0 y1 y2
        generalize (w1.alloc (.cells #[.string ⟨(headT x).toArray⟩, .string ⟨(betwT x).toArray⟩, .string ⟨(endT x).toArray⟩] 98)).drew = w2 at *
        generalize w1.heap.size = g at *
        have z0 := hc2.cell 0
        have z1 := hc2.cell 1
        have z2 := hc2.cell 2
        go_wp2_with fail
        refine (phParts_any _ _ _ (by omega) _).mono ?_
        rintro e w3 ⟨rfl, hb3⟩
        have B3 := bstep B2 hb3
        have hN3 := hN2.below hb3
        have hP3 := hP2.same (hb3.block _ hP2.lt)
        have hc3 := (show Cells w3 g _ _ from (hb3.block _ hc2.lt).trans hc2)
        have q0 := Nat.lt_of_lt_of_le g0 hb3.size
        have q1 := (hb3.cell (p := ⟨w.heap.size, 0, none⟩) g0).trans g1
        have q2 := (hb3.cell (p := ⟨w.heap.size, 1, none⟩) g0).trans g2
        clear z0 z1 z2 hb3 B2 hN2 hP2 hc2 g0 g1 g2
        have z0 := hc3.cell 0
        have z1 := hc3.cell 1
        have z2 := hc3.cell 2
        cases hp : hasP x.kind
        · have hbe := hbn.2 hp
          rw [show (betwT x != []) = false by rw [hbe]; rfl]
          have HR := hide (show textL p (f + 1) k = headT x by rw [unhide HT, hp]; simp)
          clear hbn hp hbe HPA HT
          go_wp2_with fail
          go_ret
          exact ⟨ret_str (by rw [unhide HR]), B3⟩
        · have hbe : betwT x ≠ [] := fun e => by have := hbn.1 e; rw [hp] at this; simp at this
          rw [show (betwT x != []) = true by simpa using hbe]
          obtain ⟨⟨hk1, hk2⟩, hpa, hpb⟩ := unhide HPA hp
          have hgt := end_gt hk1
          have q3 := unhide HLE _ hk1
          have q4 := unhide HLE _ hk2
          have T1 := unhide HIH (k + 1)
          have T2 := unhide HIH (endP p (k + 1))
          rw [show ((k + 1 : Nat) : Int) = (k : Int) + 1 by omega] at T1
          have HR := hide (show textL p (f + 1) k = headT x ++ textL p f (k + 1) ++ betwT x ++ textL p f (endP p (k + 1)) ++ endT x by rw [unhide HT, hp]; simp)
          have HF := hide (And.intro (show p.length - (k + 1) ≤ f by omega) (show p.length - endP p (k + 1) ≤ f by omega))
          generalize textL p f (k + 1) = t1 at *
          generalize textL p f (endP p (k + 1)) = t2 at *
          have HK := hide (And.intro hk1 hk2)
          have HT1 := hide T1
          have HT2 := hide T2
          generalize endP p (k + 1) = ke at *
          clear hbn hp hbe HPA HT HLE HIH T1 T2 hgt
          go_wp2_with fail
          refine (PParts_any p _ _ _ _ _ hN3 hc).mono ?_
          rintro e w4 ⟨hpr, hb4⟩
          unfold PartsRet at hpr
          rw [hpa, hpb] at hpr
          subst hpr
          generalize partC p (k : Int) = pC
          generalize partsE p (k : Int) = pE
          have B4 := bstep B3 hb4
          have hN4 := hN3.below hb4
          have hP4 := hP3.same (hb4.block _ hP3.lt)
          have hc4 := (show Cells w4 g _ _ from (hb4.block _ hc3.lt).trans hc3)
          have p0 := Nat.lt_of_lt_of_le q0 hb4.size
          have p1 := (hb4.cell (p := ⟨w.heap.size, 0, none⟩) q0).trans q1
          have p2 := (hb4.cell (p := ⟨w.heap.size, 1, none⟩) q0).trans q2
          clear z0 z1 z2 hb4 B3 hN3 hP3 hc3 q0 q1 q2
          have HS : ∀ W, Below w4.heap.size w4 W → Below w4.heap.size w4 W ∧ W.cell? ⟨w.heap.size, 0, none⟩ = some (.slice (some ⟨b, off, none⟩) pn pc) ∧ W.cell? ⟨w.heap.size, 1, none⟩ = some (.map (some m)) ∧ W.cell? ⟨g, 0, none⟩ = some (.string ⟨(headT x).toArray⟩) ∧ W.cell? ⟨g, 1, none⟩ = some (.string ⟨(betwT x).toArray⟩) ∧ W.cell? ⟨g, 2, none⟩ = some (.string ⟨(endT x).toArray⟩) := fun W hW => by
            have h5 := (show Cells W g _ _ from (hW.block _ hc4.lt).trans hc4)
            exact ⟨hW, (hW.cell (p := ⟨w.heap.size, 0, none⟩) p0).trans p1, (hW.cell (p := ⟨w.heap.size, 1, none⟩) p0).trans p2, h5.cell 0, h5.cell 1, h5.cell 2⟩
          have hbd : Below w4.heap.size w4 w4.drew := (Below.refl _ _).drew
          have hNd := hN4.below hbd
          have hPd := hP4.same (hbd.block _ hP4.lt)
          have n1 : ¬ 9223372036854775807 < (headT x).length + t1.length := by omega
          have n2 : ¬ 9223372036854775807 < (headT x).length + t1.length + (betwT x).length := by omega
          have n3 : ¬ 9223372036854775807 < (headT x).length + t1.length + (betwT x).length + t2.length := by omega
          have n4 : ¬ 9223372036854775807 < (headT x).length + t1.length + (betwT x).length + t2.length + (endT x).length := by omega
          go_wp2_with fail
          go_region_held3 (fun W => Below w4.heap.size w4 W ∧ W.cell? ⟨w.heap.size, 0, none⟩ = some (.slice (some ⟨b, off, none⟩) pn pc) ∧ W.cell? ⟨w.heap.size, 1, none⟩ = some (.map (some m)) ∧ W.cell? ⟨g, 0, none⟩ = some (.string ⟨(headT x).toArray⟩) ∧ W.cell? ⟨g, 1, none⟩ = some (.string ⟨(betwT x).toArray⟩) ∧ W.cell? ⟨g, 2, none⟩ = some (.string ⟨(endT x).toArray⟩))
            ((first | with_reducible exact HS _ hbd | with_reducible exact HS _ hSA | with_reducible exact HS _ hSB))
            ((go_at_call 29
              (first
                | (with_reducible refine (unhide HT1 _ (unhide HF).1 (unhide HK).1 hNd hPd).mono ?_
                   rintro e wA ⟨rfl, hbA⟩
                   have hSA := bstep hbd hbA
                   have hNA := hNd.below hbA
                   have hPA := hPd.same (hbA.block _ hPd.lt))
                | (with_reducible refine (unhide HT2 _ (unhide HF).2 (unhide HK).2 hNA hPA).mono ?_
                   rintro e wB ⟨rfl, hbB⟩
                   have hSB := bstep hSA hbB))))
          go_wp2_with fail
          go_ret
          exact ⟨ret_str (by rw [unhide HR]; simp only [← str_app]), bstep B4 hSB⟩
      exact AllReadyH.nil
    exact AllReadyH.nil

def showL (p : List NodeD) : List UInt8 := if checkP p = 0 then textL p p.length 0 else []
set_option maxRecDepth 100000 in
set_option maxHeartbeats 2000000 in
theorem Show_any (p : List NodeD) (pa : Option Addr) (pn pc : Nat) (w : World) (hN : Nodes w pa pn p) (hc : pn ≤ pc) :
    Calls Tryz.prog 8 #[.slice pa pn pc] w fun e w' => e = .returned (.tuple #[.string ⟨(showL p).toArray⟩, .int .i64 (checkP p)]) ∧ Below w.heap.size w w' := by
  go_enter Tryz.func8, Tryz.ntmps8
  go_wp2_with fail
  refine (PCheck_any p _ _ _ _ hN).mono ?_
  rintro e w1 ⟨rfl, B1⟩
  have hN1 := hN.below B1
  by_cases he : checkP p = 0
  case neg =>
    have HS := hide (show showL p = [] by unfold showL; rw [if_neg he])
    have hq : (checkP p != 0) = true := by simp [he]
    obtain ⟨ck, hck⟩ : ∃ ck, checkP p = ck := ⟨_, rfl⟩
    have HCK := hide hck
    rw [hck] at hq ⊢
    clear he hck
    go_wp2_with fail
    go_ret2
    exact ⟨(by rw [unhide HS, unhide HCK]; rfl), B1⟩
  have hok := pok_of he
  have hpos : 0 < p.length := ok_some (o := 0) hok.form
  have HS := hide (show showL p = textL p p.length 0 by unfold showL; rw [if_pos he])
  have HCK := hide he
  rw [he]
  clear he
  go_wp2_with fail
  refine (phrases_any _).mono ?_
  rintro e w2 ⟨m, rfl, hP, _, hb2⟩
  have hN2 := hN1.below hb2
  have B2 := bstep B1 hb2
  go_wp2_with fail
  refine (shower_any p pa pn pc m hok hc p.length 0 _ (by omega) hpos hN2 hP).mono ?_
  rintro e w3 ⟨rfl, hb3⟩
  have B3 := bstep B2 hb3
  go_wp2_with fail
  go_ret2
  exact ⟨(by rw [unhide HS, unhide HCK]; rfl), B3⟩
end Go.Proofs.YtongajonecgdpagGreatDoor
