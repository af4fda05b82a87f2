/- reader.node: a node and its parts. -/
import Derived.Test.YtongajonecgdpagGreatDoorReadC
import Derived.Deep.AppendLies
namespace Go.Proofs.YtongajonecgdpagGreatDoor
open Go.RowKit

theorem row_form0 {w : World} {base n : Nat} {e : TypeId} {v : Value} {xs : List Value} (h : w.ownsRow base e 2 v n xs) : ∃ a c, v = .slice a n c := by
  rcases h.2 with ⟨h1, h2⟩ | ⟨g, c, cur, h1, _⟩
  · exact ⟨none, 0, by rw [h1, h2]⟩
  · exact ⟨_, c, h1⟩
theorem Tryz.infoNode : (Tryz.prog.info? 93).map (fun i => (i.zero, i.size, i.bytes)) = some (some (.agg #[.int .i64 0, .int .i64 0]), 2, 16) := by kernel_rfl
theorem RdAt.more {w w8 : World} {b m : Nat} {s : List UInt8} {acc : List NodeD} {nv : Value} (h : RdAt w b m s acc nv) (x : NodeD) {g c : Nat} (hown : w8.ownsRow (b + 1) 93 2 (.slice (some ⟨g, 0, none⟩) (acc.length + 1) c) (acc.length + 1) (cellsN acc ++ [.int .i64 x.kind, .int .i64 x.sig])) (hgr : w.grownBy w8 nv.ownBlock) (hat : nv.ownBlock = some g ∨ g = w.heap.size) :
    RdAt (w8.setCell ⟨b, 1, none⟩ (.slice (some ⟨g, 0, none⟩) (acc.length + 1) c)) b m s (acc ++ [x]) (.slice (some ⟨g, 0, none⟩) (acc.length + 1) c) ∧ KeptT (b :: ownT nv) w (w8.setCell ⟨b, 1, none⟩ (.slice (some ⟨g, 0, none⟩) (acc.length + 1) c)) ∧ ∀ y ∈ ownT (.slice (some ⟨g, 0, none⟩) (acc.length + 1) c), y ∈ ownT nv ∨ w.heap.size ≤ y := by
  have hnb : some b ≠ nv.ownBlock := fun e => h.noRow (Nat.le_refl b) e.symm
  have hnm : some m ≠ nv.ownBlock := fun e => h.noRow (Nat.le_of_lt h.mb) e.symm
  have hc8 : Cells w8 b _ _ := (hgr.block b h.box.lt hnb).trans h.box
  have hb := (Below.refl 0 w8).setCell (p := ⟨b, 1, none⟩) (Nat.zero_le _) (.slice (some ⟨g, 0, none⟩) (acc.length + 1) c)
  have hp8 := h.phr.same (hgr.block m h.phr.lt hnm)
  refine ⟨⟨hc8.set 1 _, ?_, hp8.same (set_other (by have := h.mb; omega)), h.mb⟩, (KeptT.grown hgr (fun y e => List.mem_cons_of_mem _ (ownT_mem.2 e))).trans ⟨KeptG.set _ (List.mem_cons_self ..), hb.os, hb.tape, hb.output⟩, fun y hy => ?_⟩
  · rw [cellsN_snoc, List.length_append]
    exact ownsRow_setCell_below hown (a := ⟨b, 1, none⟩) (Nat.lt_succ_self _) _
  · have e := ownT_mem.1 hy
    have e2 : g = y := by simpa [Value.ownBlock] using e
    subst e2
    rcases hat with e | e
    · exact Or.inl (ownT_mem.2 e)
    · exact Or.inr (Nat.le_of_eq e.symm)

set_option maxRecDepth 100000 in
set_option maxHeartbeats 16000000 in
theorem node_step (n : Nat) (IH : NodeC n) : NodeC (n + 1) := by
  intro w b m s acc nv h hfew hfuel
  obtain ⟨i0, hi, hz0, hz1, hz2⟩ := info_parts Tryz.infoNode
  have HRF := hide (readF_succ n s acc)
  have hb0 : Below w.heap.size w (w.alloc (.cells #[.pointer (some ⟨b, 0, none⟩)] 143)) := (Below.refl _ _).alloc (Nat.le_refl _) _
  have hcq := Cells.new w [.pointer (some ⟨b, 0, none⟩)] 143
  have hR1 := h.on hb0
  have hoq := own_old h (Nat.le_refl _)
  have hbl := h.box.lt
  obtain ⟨na, nc, hnv⟩ := row_form0 h.row
  have HK1 := hide (KeptT.of (G := b :: ownT nv) hb0)
  subst hnv
  clear h
  go_enter Tryz.func76, Tryz.ntmps76
  go_upto_region 1 with fail
  generalize hw1 : w.alloc (.cells #[.pointer (some ⟨b, 0, none⟩)] 143) = w1 at *
  have hsz : w.heap.size < w1.heap.size := hcq.lt
  clear hw1
  have x3 := hcq.cell 0
  have z1 := hR1.box.cell 1
  by_cases h14 : 14 ≤ acc.length
  · have hi : ¬ (acc.length : Int) < 14 := by omega
    have HP := hide (show readF (n + 1) s acc = none by rw [unhide HRF, if_pos h14])
    clear h14
    go_wp2_with fail
    refine (trequire_any false _).mono ?_
    rintro e w' ⟨rfl, rfl⟩
    rw [endOf_false]
    go_wp2_with fail
    exact ⟨rfl, rd_none (unhide HP) rfl (unhide HK1)⟩
  have hlt : (acc.length : Int) < 14 := by omega
  rw [if_neg h14] at HRF
  clear h14
  go_wp2_with fail
  refine (trequire_any true _).mono ?_
  rintro e w' ⟨rfl, rfl⟩
  rename World => w1
  rw [endOf_true]
  have hbd := (Below.refl w1.heap.size w1).drew
  have hRd := hR1.on hbd
  have pq : w.heap.size < w1.drew.heap.size ∧ w1.drew.cell? ⟨w.heap.size, 0, none⟩ = some (.pointer (some ⟨b, 0, none⟩)) := ⟨hcq.lt, hcq.cell 0⟩
  go_upto_region 3 with fail
  cases hf : findN (fit1 s) with
  | none =>
    have HP := hide (show readF (n + 1) s acc = none by rw [unhide HRF, hf])
    refine wp_region_held_drew (S := fun W => W.cell? ⟨w.heap.size, 0, none⟩ = some (.pointer (some ⟨b, 0, none⟩))) (by kernel_rfl) ?_ (fun hHeld => ?_)
    · exact x3
    refine wpAnyH_take (i := 0) (oi := { dst := some 12, op := Go.Op.load 143 (Go.Operand.tmp 1), type := 143, pos := "read.go:39", after := #[], guard := none }) (v := ?_) rfl (by kernel_rfl) (by kernel_rfl) (by kernel_rfl) (fun _ _ _ h => h) (Or.inl ⟨by rfl, ?_⟩) (by assumption) ?_
    rotate_left
    · intro w hSw; (try dsimp only at hSw); go_simp; (try (with_reducible rfl))
    try simp only [Act.put, List.setIfInBounds_toArray, List.set_cons_zero, List.set_cons_succ]
    refine wpAnyH_take (i := 1) (oi := { dst := some 13, op := Go.Op.load 143 (Go.Operand.tmp 1), type := 143, pos := "read.go:39", after := #[], guard := none }) (v := ?_) rfl (by kernel_rfl) (by kernel_rfl) (by kernel_rfl) (fun _ _ _ h => h) (Or.inl ⟨by rfl, ?_⟩) (by assumption) ?_
    rotate_left
    · intro w hSw; (try dsimp only at hSw); go_simp; (try (with_reducible rfl))
    try simp only [Act.put, List.setIfInBounds_toArray, List.set_cons_zero, List.set_cons_succ]
    refine wpAnyH_take (i := 2) (oi := { dst := some 14, op := Go.Op.nilCheck (Go.Operand.tmp 13), type := 0, pos := "read.go:39", after := #[{ on := 1, ground := Go.Ground.data }], guard := none }) (v := ?_) rfl (by kernel_rfl) (by kernel_rfl) (by kernel_rfl) (fun _ _ _ h => h) (Or.inl ⟨by rfl, ?_⟩) (by assumption) ?_
    rotate_left
    · intro w hSw; (try dsimp only at hSw); go_simp; (try (with_reducible rfl))
    try simp only [Act.put, List.setIfInBounds_toArray, List.set_cons_zero, List.set_cons_succ]
    refine wpAnyH_take (i := 3) (oi := { dst := some 15, op := Go.Op.fieldAddr 117 (Go.Operand.tmp 14) 1, type := 0, pos := "read.go:39", after := #[{ on := 2, ground := Go.Ground.data }], guard := none }) (v := ?_) rfl (by kernel_rfl) (by kernel_rfl) (by kernel_rfl) (fun _ _ _ h => h) (Or.inl ⟨by rfl, ?_⟩) (by assumption) ?_
    rotate_left
    · intro w hSw; (try dsimp only at hSw); go_simp; (try (with_reducible rfl))
    try simp only [Act.put, List.setIfInBounds_toArray, List.set_cons_zero, List.set_cons_succ]
    refine wpAnyH_take (i := 5) (oi := { dst := some 17, op := Go.Op.load 143 (Go.Operand.tmp 1), type := 143, pos := "read.go:39", after := #[], guard := none }) (v := ?_) rfl (by kernel_rfl) (by kernel_rfl) (by kernel_rfl) (fun _ _ _ h => h) (Or.inl ⟨by rfl, ?_⟩) (by assumption) ?_
    rotate_left
    · intro w hSw; (try dsimp only at hSw); go_simp; (try (with_reducible rfl))
    try simp only [Act.put, List.setIfInBounds_toArray, List.set_cons_zero, List.set_cons_succ]
    refine wpAnyH_take (i := 6) (oi := { dst := some 18, op := Go.Op.makeFunc (Go.Fn.func 109) #[] #[Go.Operand.tmp 1], type := 145, pos := "read.go:39", after := #[], guard := none }) (v := ?_) rfl (by kernel_rfl) (by kernel_rfl) (by kernel_rfl) (fun _ _ _ h => h) (Or.inl ⟨by rfl, ?_⟩) (by assumption) ?_
    rotate_left
    · intro w hSw; (try dsimp only at hSw); go_simp; (try (with_reducible rfl))
    try simp only [Act.put, List.setIfInBounds_toArray, List.set_cons_zero, List.set_cons_succ]
    refine wpAnyH_ready (rs := [4, 7]) (by kernel_rfl) (by simp) ?_
    refine AllReadyH.cons (o := { dst := some 16, op := Go.Op.load 27 (Go.Operand.tmp 15), type := 27, pos := "read.go:39", after := #[{ on := 3, ground := Go.Ground.data }], guard := none }) rfl (fun K hK => ?_) ?_
    · go_simp
      refine hK.out _ _ ?_ (fun hHeld => ?_)
      · (try dsimp only)
        exact x3
      clear hK K
      try simp only [Act.put, List.setIfInBounds_toArray, List.set_cons_zero, List.set_cons_succ]
      refine wpAnyH_ready (rs := [7]) (by kernel_rfl) (by simp) ?_
      refine AllReadyH.cons (o := { dst := some 19, op := Go.Op.call { callee := Go.Callee.value (Go.Operand.func 108), args := #[Go.Operand.tmp 17, Go.Operand.tmp 18], argTypes := #[143, 145] }, type := 93, pos := "read.go:39", after := #[{ on := 5, ground := Go.Ground.data }, { on := 6, ground := Go.Ground.data }], guard := none }) rfl (fun K hK => ?_) ?_
      · go_simp
        refine (find1_any hRd w.heap.size pq).mono ?_
        rintro e w3 ⟨he, hb3⟩
        simp only [hf] at he
        subst he
        exact ⟨rfl, rd_none (unhide HP) rfl ((unhide HK1).trans (KeptT.of (bstep hbd hb3)))⟩
      exact AllReadyH.nil
    refine AllReadyH.cons (o := { dst := some 19, op := Go.Op.call { callee := Go.Callee.value (Go.Operand.func 108), args := #[Go.Operand.tmp 17, Go.Operand.tmp 18], argTypes := #[143, 145] }, type := 93, pos := "read.go:39", after := #[{ on := 5, ground := Go.Ground.data }, { on := 6, ground := Go.Ground.data }], guard := none }) rfl (fun K hK => ?_) ?_
    · go_simp
      refine (find1_any hRd w.heap.size pq).mono ?_
      rintro e w3 ⟨he, hb3⟩
      simp only [hf] at he
      subst he
      exact ⟨rfl, rd_none (unhide HP) rfl ((unhide HK1).trans (KeptT.of (bstep hbd hb3)))⟩
    exact AllReadyH.nil
  | some x =>
    obtain ⟨hxn, hxf⟩ := find_is hf
    have hxf2 : (afterL s (headT x)).2 = true := hxf
    have HP := hide (show readF (n + 1) s acc = if betwT x = [] then some (s.drop (headT x).length, acc ++ [x]) else partsF n (s.drop (headT x).length) acc x by rw [unhide HRF, hf])
    have zd := hRd.box.cell 1
    refine wp_region_held_drew (S := fun W => W.cell? ⟨w.heap.size, 0, none⟩ = some (.pointer (some ⟨b, 0, none⟩))) (by kernel_rfl) ?_ (fun hHeld => ?_)
    · exact x3
    refine wpAnyH_take (i := 0) (oi := { dst := some 12, op := Go.Op.load 143 (Go.Operand.tmp 1), type := 143, pos := "read.go:39", after := #[], guard := none }) (v := ?_) rfl (by kernel_rfl) (by kernel_rfl) (by kernel_rfl) (fun _ _ _ h => h) (Or.inl ⟨by rfl, ?_⟩) (by assumption) ?_
    rotate_left
    · intro w hSw; (try dsimp only at hSw); go_simp; (try (with_reducible rfl))
    try simp only [Act.put, List.setIfInBounds_toArray, List.set_cons_zero, List.set_cons_succ]
    refine wpAnyH_take (i := 1) (oi := { dst := some 13, op := Go.Op.load 143 (Go.Operand.tmp 1), type := 143, pos := "read.go:39", after := #[], guard := none }) (v := ?_) rfl (by kernel_rfl) (by kernel_rfl) (by kernel_rfl) (fun _ _ _ h => h) (Or.inl ⟨by rfl, ?_⟩) (by assumption) ?_
    rotate_left
    · intro w hSw; (try dsimp only at hSw); go_simp; (try (with_reducible rfl))
    try simp only [Act.put, List.setIfInBounds_toArray, List.set_cons_zero, List.set_cons_succ]
    refine wpAnyH_take (i := 2) (oi := { dst := some 14, op := Go.Op.nilCheck (Go.Operand.tmp 13), type := 0, pos := "read.go:39", after := #[{ on := 1, ground := Go.Ground.data }], guard := none }) (v := ?_) rfl (by kernel_rfl) (by kernel_rfl) (by kernel_rfl) (fun _ _ _ h => h) (Or.inl ⟨by rfl, ?_⟩) (by assumption) ?_
    rotate_left
    · intro w hSw; (try dsimp only at hSw); go_simp; (try (with_reducible rfl))
    try simp only [Act.put, List.setIfInBounds_toArray, List.set_cons_zero, List.set_cons_succ]
    refine wpAnyH_take (i := 3) (oi := { dst := some 15, op := Go.Op.fieldAddr 117 (Go.Operand.tmp 14) 1, type := 0, pos := "read.go:39", after := #[{ on := 2, ground := Go.Ground.data }], guard := none }) (v := ?_) rfl (by kernel_rfl) (by kernel_rfl) (by kernel_rfl) (fun _ _ _ h => h) (Or.inl ⟨by rfl, ?_⟩) (by assumption) ?_
    rotate_left
    · intro w hSw; (try dsimp only at hSw); go_simp; (try (with_reducible rfl))
    try simp only [Act.put, List.setIfInBounds_toArray, List.set_cons_zero, List.set_cons_succ]
    refine wpAnyH_take (i := 5) (oi := { dst := some 17, op := Go.Op.load 143 (Go.Operand.tmp 1), type := 143, pos := "read.go:39", after := #[], guard := none }) (v := ?_) rfl (by kernel_rfl) (by kernel_rfl) (by kernel_rfl) (fun _ _ _ h => h) (Or.inl ⟨by rfl, ?_⟩) (by assumption) ?_
    rotate_left
    · intro w hSw; (try dsimp only at hSw); go_simp; (try (with_reducible rfl))
    try simp only [Act.put, List.setIfInBounds_toArray, List.set_cons_zero, List.set_cons_succ]
    refine wpAnyH_take (i := 6) (oi := { dst := some 18, op := Go.Op.makeFunc (Go.Fn.func 109) #[] #[Go.Operand.tmp 1], type := 145, pos := "read.go:39", after := #[], guard := none }) (v := ?_) rfl (by kernel_rfl) (by kernel_rfl) (by kernel_rfl) (fun _ _ _ h => h) (Or.inl ⟨by rfl, ?_⟩) (by assumption) ?_
    rotate_left
    · intro w hSw; (try dsimp only at hSw); go_simp; (try (with_reducible rfl))
    try simp only [Act.put, List.setIfInBounds_toArray, List.set_cons_zero, List.set_cons_succ]
    refine wpAnyH_ready (rs := [4, 7]) (by kernel_rfl) (by simp) ?_
    refine AllReadyH.cons (o := { dst := some 16, op := Go.Op.load 27 (Go.Operand.tmp 15), type := 27, pos := "read.go:39", after := #[{ on := 3, ground := Go.Ground.data }], guard := none }) rfl (fun K hK => ?_) ?_
    · go_simp
      refine hK.out _ _ ?_ (fun hHeld => ?_)
      · (try dsimp only)
        (first | exact x3 | exact x3F | exact x3A | exact x38 | exact x39)
      clear hK K
      try simp only [Act.put, List.setIfInBounds_toArray, List.set_cons_zero, List.set_cons_succ]
      refine wpAnyH_ready (rs := [7]) (by kernel_rfl) (by simp) ?_
      refine AllReadyH.cons (o := { dst := some 19, op := Go.Op.call { callee := Go.Callee.value (Go.Operand.func 108), args := #[Go.Operand.tmp 17, Go.Operand.tmp 18], argTypes := #[143, 145] }, type := 93, pos := "read.go:39", after := #[{ on := 5, ground := Go.Ground.data }, { on := 6, ground := Go.Ground.data }], guard := none }) rfl (fun K hK => ?_) ?_
      · go_simp
        refine (find1_any hRd w.heap.size pq).mono ?_
        rintro e w3 ⟨he, hb3⟩
        simp only [hf] at he
        subst he
        have hR3 := hRd.on hb3
        have zF := hR3.box.cell 1
        have hcF := (show Cells w3 w.heap.size _ _ from (hb3.block _ pq.1).trans (show Cells w1.drew _ _ _ from hcq))
        have x3F := hcF.cell 0
        have BF := bstep hbd hb3
        have bl3 := hR3.box.lt
        refine hK.out _ _ ?_ (fun hHeld => ?_)
        · (try dsimp only)
          (first | exact x3 | exact x3F | exact x3A | exact x38 | exact x39)
        clear hK K
        try simp only [Act.put, List.setIfInBounds_toArray, List.set_cons_zero, List.set_cons_succ]
        refine wpAnyH_ready (rs := [8]) (by kernel_rfl) (by simp) ?_
        refine AllReadyH.cons (o := { dst := some 20, op := Go.Op.buildSlice 27 1 #[(0, Go.Operand.tmp 19)], type := 27, pos := "read.go:39", after := #[{ on := 7, ground := Go.Ground.data }], guard := none }) rfl (fun K hK => ?_) ?_
        · have hbA := (Below.refl w3.heap.size w3).alloc (Nat.le_refl _) (.cells #[.int .i64 x.kind, .int .i64 x.sig] 93)
          have hRA := hR3.on hbA
          have zA := hRA.box.cell 1
          have hcA := (show Cells (w3.alloc (.cells #[.int .i64 x.kind, .int .i64 x.sig] 93)) w.heap.size _ _ from (hbA.block _ hcF.lt).trans hcF)
          have x3A := hcA.cell 0
          have BA := bstep BF hbA
          go_simp
          refine hK.out _ _ ?_ (fun hHeld => ?_)
          · (try dsimp only)
            (first | exact x3 | exact x3F | exact x3A | exact x38 | exact x39)
          clear hK K
          try simp only [Act.put, List.setIfInBounds_toArray, List.set_cons_zero, List.set_cons_succ]
          refine wpAnyH_ready (rs := [9]) (by kernel_rfl) (by simp) ?_
          refine AllReadyH.cons (o := { dst := some 21, op := Go.Op.call { callee := Go.Callee.builtin Go.Builtin.append, args := #[Go.Operand.tmp 16, Go.Operand.tmp 20], argTypes := #[27, 27] }, type := 27, pos := "read.go:39", after := #[{ on := 4, ground := Go.Ground.data }, { on := 8, ground := Go.Ground.data }, { on := 7, ground := Go.Ground.chain }], guard := none }) rfl (fun K hK => ?_) ?_
          · refine step_append_lies _ rfl _ _ 27 rfl (b + 1) 93 i0 (.agg #[.int .i64 0, .int .i64 0]) 2 16 Tryz.underlying27 hi hz0 hz1 hz2 rfl (by decide) (.slice na acc.length nc) acc.length (cellsN acc) rfl hRA.row ⟨w3.heap.size, 0, none⟩ 1 1 [.int .i64 x.kind, .int .i64 x.sig] rfl rfl (World.news_of_block (cs := #[.int .i64 x.kind, .int .i64 x.sig]) (MapKept.heap_alloc w3 _).1) (by intro u hu; simp at hu; rcases hu with rfl | rfl <;> rfl) (by decide) (by unfold maxLen; omega) (by omega) (by simp; omega) _ rfl ?_
            intro g8 cap8 w8 hown8 hgr8 hat8 hlt8
            obtain ⟨hR9, hK9, hO9⟩ := hRA.more x hown8 hgr8 hat8
            have hc8b : Cells w8 b _ _ := (hgr8.block b hRA.box.lt (fun e => hRA.noRow (Nat.le_refl b) e.symm)).trans hRA.box
            have hnq : w.heap.size ∉ b :: ownT (.slice na acc.length nc) := fun hm => by rcases List.mem_cons.1 hm with e | e; omega; exact hoq e
            have hc8q : Cells w8 w.heap.size _ _ := (hgr8.block w.heap.size hcA.lt (fun e => hoq (ownT_mem.2 e.symm))).trans hcA
            have x38 := hc8q.cell 0
            have d8 := hc8b.cell 1
            have f8 := hc8b.frozen 1
            have hc9q := hK9.cells hcA hnq
            have x39 := hc9q.cell 0
            refine hK.out _ _ ?_ (fun hHeld => ?_)
            · (try dsimp only)
              (first | exact x3 | exact x3F | exact x3A | exact x38 | exact x39)
            clear hK K
            try simp only [Act.put, List.setIfInBounds_toArray, List.set_cons_zero, List.set_cons_succ]
            refine wpAnyH_take (i := 10) (oi := { dst := some 22, op := Go.Op.nilCheck (Go.Operand.tmp 12), type := 0, pos := "read.go:39", after := #[{ on := 0, ground := Go.Ground.data }, { on := 0, ground := Go.Ground.phase }, { on := 1, ground := Go.Ground.phase }, { on := 2, ground := Go.Ground.phase }, { on := 3, ground := Go.Ground.phase }, { on := 4, ground := Go.Ground.phase }, { on := 5, ground := Go.Ground.phase }, { on := 6, ground := Go.Ground.phase }, { on := 7, ground := Go.Ground.phase }, { on := 8, ground := Go.Ground.phase }, { on := 9, ground := Go.Ground.phase }], guard := none }) (v := ?_) rfl (by kernel_rfl) (by kernel_rfl) (by kernel_rfl) (fun _ _ _ h => h) (Or.inl ⟨by rfl, ?_⟩) (by assumption) ?_
            rotate_left
            · intro w hSw; (try dsimp only at hSw); go_simp; (try (with_reducible rfl))
            try simp only [Act.put, List.setIfInBounds_toArray, List.set_cons_zero, List.set_cons_succ]
            refine wpAnyH_take (i := 11) (oi := { dst := some 23, op := Go.Op.fieldAddr 117 (Go.Operand.tmp 22) 1, type := 0, pos := "read.go:39", after := #[{ on := 10, ground := Go.Ground.data }, { on := 0, ground := Go.Ground.phase }, { on := 1, ground := Go.Ground.phase }, { on := 2, ground := Go.Ground.phase }, { on := 3, ground := Go.Ground.phase }, { on := 4, ground := Go.Ground.phase }, { on := 5, ground := Go.Ground.phase }, { on := 6, ground := Go.Ground.phase }, { on := 7, ground := Go.Ground.phase }, { on := 8, ground := Go.Ground.phase }, { on := 9, ground := Go.Ground.phase }], guard := none }) (v := ?_) rfl (by kernel_rfl) (by kernel_rfl) (by kernel_rfl) (fun _ _ _ h => h) (Or.inl ⟨by rfl, ?_⟩) (by assumption) ?_
            rotate_left
            · intro w hSw; (try dsimp only at hSw); go_simp; (try (with_reducible rfl))
            try simp only [Act.put, List.setIfInBounds_toArray, List.set_cons_zero, List.set_cons_succ]
            refine wpAnyH_ready (rs := [12]) (by kernel_rfl) (by simp) ?_
            refine AllReadyH.cons (o := { dst := none, op := Go.Op.store 27 (Go.Operand.tmp 23) (Go.Operand.tmp 21), type := 0, pos := "read.go:39", after := #[{ on := 11, ground := Go.Ground.data }, { on := 9, ground := Go.Ground.data }, { on := 9, ground := Go.Ground.chain }, { on := 0, ground := Go.Ground.phase }, { on := 1, ground := Go.Ground.phase }, { on := 2, ground := Go.Ground.phase }, { on := 3, ground := Go.Ground.phase }, { on := 4, ground := Go.Ground.phase }, { on := 5, ground := Go.Ground.phase }, { on := 6, ground := Go.Ground.phase }, { on := 7, ground := Go.Ground.phase }, { on := 8, ground := Go.Ground.phase }, { on := 9, ground := Go.Ground.phase }], guard := none }) rfl (fun K hK => ?_) ?_
            · go_simp
              refine hK.out _ _ ?_ (fun hHeld => ?_)
              · (try dsimp only)
                (first | exact x3 | exact x3F | exact x3A | exact x38 | exact x39)
              clear hK K
              try simp only [Act.put]
              refine wpAnyH_done (by kernel_rfl) ?_ _
              have HK9 := hide ((unhide HK1).trans ((KeptT.of BA).trans hK9))
              have hwa : w.heap.size ≤ (w3.alloc (.cells #[.int .i64 x.kind, .int .i64 x.sig] 93)).heap.size := Nat.le_trans (Nat.le_of_lt hsz) BA.size
              have HO9 := hide (fun y hy => (hO9 y hy).imp id (fun e => Nat.le_trans hwa e) : ∀ y ∈ ownT (.slice (some ⟨g8, 0, none⟩) (acc.length + 1) cap8), y ∈ ownT (.slice na acc.length nc) ∨ w.heap.size ≤ y)
              have hoq9 := own_next hoq hcA.lt hO9
              have hrow := hR9.row
              rw [List.length_append] at hrow
              have hks : acc.length < (acc ++ [x]).length := by simp
              have v0 := hrow.cellAt (acc.length * 2) (by first | omega | (simp; omega))
              have v1 := hrow.cellAt (acc.length * 2 + 1) (by first | omega | (simp; omega))
              rw [(cellsN_at _ acc.length hks).1] at v0
              rw [(cellsN_at _ acc.length hks).2] at v1
              rw [List.getElem_concat_length (h := rfl)] at v0 v1
              have vl := (hrow.lt g8 rfl).2
              clear hRd hR3 hRA zF hcF x3F BF hbA zA hcA x3A BA hown8 hgr8 hat8 hlt8 hK9 hO9 hc8b hc8q x38 d8 f8 hb3 hnq hrow hwa pq zd z1 x3 hR1 hbd hcq hHeld bl3 HK1 HRF hf
              generalize w8.setCell ⟨b, 1, none⟩ (.slice (some ⟨g8, 0, none⟩) (acc.length + 1) cap8) = w9 at *
              have z19 := hR9.box.cell 1
              have z29 := hR9.box.cell 2
              have bl9 := hR9.box.lt
              have lq9 := hc9q.lt
              have hki : (acc.length : Int) < (acc.length : Int) + 1 := by omega
              have HS : ∀ W, Below w9.heap.size w9 W → PhrOf W m isN ∧ W.cell? ⟨w.heap.size, 0, none⟩ = some (.pointer (some ⟨b, 0, none⟩)) ∧ W.cell? ⟨b, 1, none⟩ = some (.slice (some ⟨g8, 0, none⟩) (acc.length + 1) cap8) ∧ W.cell? ⟨b, 2, none⟩ = some (.map (some m)) ∧ W.cell? ⟨g8, acc.length * 2, none⟩ = some (.int .i64 x.kind) ∧ W.cell? ⟨g8, acc.length * 2 + 1, none⟩ = some (.int .i64 x.sig) := fun W hW =>
                ⟨hR9.phr.same (hW.block _ hR9.phr.lt), (hW.cell (p := ⟨w.heap.size, 0, none⟩) lq9).trans x39, (hW.cell (p := ⟨b, 1, none⟩) bl9).trans z19, (hW.cell (p := ⟨b, 2, none⟩) bl9).trans z29, (hW.cell (p := ⟨g8, acc.length * 2, none⟩) vl).trans v0, (hW.cell (p := ⟨g8, acc.length * 2 + 1, none⟩) vl).trans v1⟩
              have hbd : Below w9.heap.size w9 w9.drew := (Below.refl _ _).drew
              go_upto_region 4 with fail
              refine wp_region_held_drew (S := fun W => PhrOf W m isN ∧ W.cell? ⟨w.heap.size, 0, none⟩ = some (.pointer (some ⟨b, 0, none⟩)) ∧ W.cell? ⟨b, 1, none⟩ = some (.slice (some ⟨g8, 0, none⟩) (acc.length + 1) cap8) ∧ W.cell? ⟨b, 2, none⟩ = some (.map (some m)) ∧ W.cell? ⟨g8, acc.length * 2, none⟩ = some (.int .i64 x.kind) ∧ W.cell? ⟨g8, acc.length * 2 + 1, none⟩ = some (.int .i64 x.sig)) (by kernel_rfl) ?_ (fun hHeld => ?_)
              · exact HS _ hbd
              refine wpAnyH_take (i := 0) (oi := { dst := some 24, op := Go.Op.load 143 (Go.Operand.tmp 1), type := 143, pos := "read.go:40", after := #[], guard := none }) (v := ?_) rfl (by kernel_rfl) (by kernel_rfl) (by kernel_rfl) (fun _ _ _ h => h) (Or.inl ⟨by rfl, ?_⟩) (by assumption) ?_
              rotate_left
              · intro w hSw; (try dsimp only at hSw); go_simp; (try (with_reducible rfl))
              try simp only [Act.put, List.setIfInBounds_toArray, List.set_cons_zero, List.set_cons_succ]
              refine wpAnyH_take (i := 1) (oi := { dst := some 25, op := Go.Op.nilCheck (Go.Operand.tmp 24), type := 0, pos := "read.go:40", after := #[{ on := 0, ground := Go.Ground.data }], guard := none }) (v := ?_) rfl (by kernel_rfl) (by kernel_rfl) (by kernel_rfl) (fun _ _ _ h => h) (Or.inl ⟨by rfl, ?_⟩) (by assumption) ?_
              rotate_left
              · intro w hSw; (try dsimp only at hSw); go_simp; (try (with_reducible rfl))
              try simp only [Act.put, List.setIfInBounds_toArray, List.set_cons_zero, List.set_cons_succ]
              refine wpAnyH_take (i := 2) (oi := { dst := some 26, op := Go.Op.fieldAddr 117 (Go.Operand.tmp 25) 2, type := 0, pos := "read.go:40", after := #[{ on := 1, ground := Go.Ground.data }], guard := none }) (v := ?_) rfl (by kernel_rfl) (by kernel_rfl) (by kernel_rfl) (fun _ _ _ h => h) (Or.inl ⟨by rfl, ?_⟩) (by assumption) ?_
              rotate_left
              · intro w hSw; (try dsimp only at hSw); go_simp; (try (with_reducible rfl))
              try simp only [Act.put, List.setIfInBounds_toArray, List.set_cons_zero, List.set_cons_succ]
              refine wpAnyH_take (i := 3) (oi := { dst := some 27, op := Go.Op.load 63 (Go.Operand.tmp 26), type := 63, pos := "read.go:40", after := #[{ on := 2, ground := Go.Ground.data }], guard := none }) (v := ?_) rfl (by kernel_rfl) (by kernel_rfl) (by kernel_rfl) (fun _ _ _ h => h) (Or.inl ⟨by rfl, ?_⟩) (by assumption) ?_
              rotate_left
              · intro w hSw; (try dsimp only at hSw); go_simp; (try (with_reducible rfl))
              try simp only [Act.put, List.setIfInBounds_toArray, List.set_cons_zero, List.set_cons_succ]
              refine wpAnyH_take (i := 4) (oi := { dst := some 28, op := Go.Op.load 143 (Go.Operand.tmp 1), type := 143, pos := "read.go:40", after := #[], guard := none }) (v := ?_) rfl (by kernel_rfl) (by kernel_rfl) (by kernel_rfl) (fun _ _ _ h => h) (Or.inl ⟨by rfl, ?_⟩) (by assumption) ?_
              rotate_left
              · intro w hSw; (try dsimp only at hSw); go_simp; (try (with_reducible rfl))
              try simp only [Act.put, List.setIfInBounds_toArray, List.set_cons_zero, List.set_cons_succ]
              refine wpAnyH_take (i := 5) (oi := { dst := some 29, op := Go.Op.nilCheck (Go.Operand.tmp 28), type := 0, pos := "read.go:40", after := #[{ on := 4, ground := Go.Ground.data }], guard := none }) (v := ?_) rfl (by kernel_rfl) (by kernel_rfl) (by kernel_rfl) (fun _ _ _ h => h) (Or.inl ⟨by rfl, ?_⟩) (by assumption) ?_
              rotate_left
              · intro w hSw; (try dsimp only at hSw); go_simp; (try (with_reducible rfl))
              try simp only [Act.put, List.setIfInBounds_toArray, List.set_cons_zero, List.set_cons_succ]
              refine wpAnyH_take (i := 6) (oi := { dst := some 30, op := Go.Op.fieldAddr 117 (Go.Operand.tmp 29) 1, type := 0, pos := "read.go:40", after := #[{ on := 5, ground := Go.Ground.data }], guard := none }) (v := ?_) rfl (by kernel_rfl) (by kernel_rfl) (by kernel_rfl) (fun _ _ _ h => h) (Or.inl ⟨by rfl, ?_⟩) (by assumption) ?_
              rotate_left
              · intro w hSw; (try dsimp only at hSw); go_simp; (try (with_reducible rfl))
              try simp only [Act.put, List.setIfInBounds_toArray, List.set_cons_zero, List.set_cons_succ]
              refine wpAnyH_take (i := 7) (oi := { dst := some 31, op := Go.Op.load 27 (Go.Operand.tmp 30), type := 27, pos := "read.go:40", after := #[{ on := 6, ground := Go.Ground.data }], guard := none }) (v := ?_) rfl (by kernel_rfl) (by kernel_rfl) (by kernel_rfl) (fun _ _ _ h => h) (Or.inl ⟨by rfl, ?_⟩) (by assumption) ?_
              rotate_left
              · intro w hSw; (try dsimp only at hSw); go_simp; (try (with_reducible rfl))
              try simp only [Act.put, List.setIfInBounds_toArray, List.set_cons_zero, List.set_cons_succ]
              refine wpAnyH_take (i := 8) (oi := { dst := some 32, op := Go.Op.move (Go.Operand.tmp 2), type := 3, pos := "read.go:40", after := #[], guard := none }) (v := ?_) rfl (by kernel_rfl) (by kernel_rfl) (by kernel_rfl) (fun _ _ _ h => h) (Or.inl ⟨by rfl, ?_⟩) (by assumption) ?_
              rotate_left
              · intro w hSw; (try dsimp only at hSw); go_simp; (try (with_reducible rfl))
              try simp only [Act.put, List.setIfInBounds_toArray, List.set_cons_zero, List.set_cons_succ]
              refine wpAnyH_take (i := 9) (oi := { dst := some 33, op := Go.Op.indexAddr 27 (Go.Operand.tmp 31) (Go.Operand.tmp 32), type := 0, pos := "read.go:40", after := #[{ on := 7, ground := Go.Ground.data }, { on := 8, ground := Go.Ground.data }], guard := none }) (v := ?_) rfl (by kernel_rfl) (by kernel_rfl) (by kernel_rfl) (fun _ _ _ h => h) (Or.inl ⟨by rfl, ?_⟩) (by assumption) ?_
              rotate_left
              · intro w hSw; (try dsimp only at hSw); go_simp; (try (with_reducible rfl))
              try simp only [Act.put, List.setIfInBounds_toArray, List.set_cons_zero, List.set_cons_succ]
              refine wpAnyH_take (i := 10) (oi := { dst := some 34, op := Go.Op.load 93 (Go.Operand.tmp 33), type := 93, pos := "read.go:40", after := #[{ on := 9, ground := Go.Ground.data }], guard := none }) (v := ?_) rfl (by kernel_rfl) (by kernel_rfl) (by kernel_rfl) (fun _ _ _ h => h) (Or.inl ⟨by rfl, ?_⟩) (by assumption) ?_
              rotate_left
              · intro w hSw; (try dsimp only at hSw); go_simp; (try (with_reducible rfl))
              try simp only [Act.put, List.setIfInBounds_toArray, List.set_cons_zero, List.set_cons_succ]
              refine wpAnyH_take (i := 11) (oi := { dst := some 35, op := Go.Op.lookup 63 (Go.Operand.tmp 27) (Go.Operand.tmp 34) false, type := 98, pos := "read.go:40", after := #[{ on := 3, ground := Go.Ground.data }, { on := 10, ground := Go.Ground.data }], guard := none }) (v := ?_) rfl (by kernel_rfl) (by kernel_rfl) (by kernel_rfl) (fun _ _ _ h => h) (Or.inl ⟨by rfl, ?_⟩) (by assumption) ?_
              rotate_left
              · intro w hSw; (try dsimp only at hSw); have hLK := look_is hSw.1 hxn; go_simp; (try (with_reducible rfl))
              try simp only [Act.put, List.setIfInBounds_toArray, List.set_cons_zero, List.set_cons_succ]
              refine wpAnyH_ready (rs := [12]) (by kernel_rfl) (by simp) ?_
              refine AllReadyH.cons (o := { dst := some 3, op := Go.Op.alloc 98, type := 0, pos := "read.go:40", after := #[], guard := none }) rfl (fun K hK => ?_) ?_
              · have hbA := hbd.alloc hbd.size (.cells #[.string ⟨#[]⟩, .string ⟨#[]⟩, .string ⟨#[]⟩] 98)
                go_simp
                refine hK.out _ _ ?_ (fun hHeld => ?_)
                · (try dsimp only)
                  (first | exact HS _ hbA | exact HS _ hbS)
                clear hK K
                try simp only [Act.put, List.setIfInBounds_toArray, List.set_cons_zero, List.set_cons_succ]
                refine wpAnyH_ready (rs := [13]) (by kernel_rfl) (by simp) ?_
                refine AllReadyH.cons (o := { dst := none, op := Go.Op.store 98 (Go.Operand.tmp 3) (Go.Operand.tmp 35), type := 0, pos := "read.go:40", after := #[{ on := 12, ground := Go.Ground.data }, { on := 11, ground := Go.Ground.data }, { on := 0, ground := Go.Ground.phase }, { on := 1, ground := Go.Ground.phase }, { on := 2, ground := Go.Ground.phase }, { on := 3, ground := Go.Ground.phase }, { on := 4, ground := Go.Ground.phase }, { on := 5, ground := Go.Ground.phase }, { on := 6, ground := Go.Ground.phase }, { on := 7, ground := Go.Ground.phase }, { on := 8, ground := Go.Ground.phase }, { on := 9, ground := Go.Ground.phase }, { on := 10, ground := Go.Ground.phase }, { on := 11, ground := Go.Ground.phase }, { on := 12, ground := Go.Ground.phase }], guard := none }) rfl (fun K hK => ?_) ?_
                · have hbS := ((Below.refl w9.heap.size w9).alloc (Nat.le_refl _) (.cells #[.string ⟨(headT x).toArray⟩, .string ⟨(betwT x).toArray⟩, .string ⟨(endT x).toArray⟩] 98)).drew
                  have hc9 := Cells.new w9 [.string ⟨(headT x).toArray⟩, .string ⟨(betwT x).toArray⟩, .string ⟨(endT x).toArray⟩] 98
                  go_simp
                  refine hK.out _ _ ?_ (fun hHeld => ?_)
                  · (try dsimp only)
                    (first | exact HS _ hbA | exact HS _ hbS)
                  clear hK K
                  try simp only [Act.put]
                  refine wpAnyH_done (by kernel_rfl) ?_ _
                  have hR5 := hR9.on hbS
                  have hcq5 := (show Cells (w9.alloc (.cells #[.string ⟨(headT x).toArray⟩, .string ⟨(betwT x).toArray⟩, .string ⟨(endT x).toArray⟩] 98)).drew w.heap.size _ _ from (hbS.block _ hc9q.lt).trans hc9q)
                  have hcg5 : Cells (w9.alloc (.cells #[.string ⟨(headT x).toArray⟩, .string ⟨(betwT x).toArray⟩, .string ⟨(endT x).toArray⟩] 98)).drew w9.heap.size _ _ := hc9
                  have hog5 := own_old hR9 (Nat.le_refl _)
                  have hb6 : b < w9.heap.size := bl9
                  have HK5 := hide ((unhide HK9).next (unhide HO9) (KeptT.of hbS))
                  clear hbA hbd HS hHeld hc9 hbS x39 z19 z29 v0 v1 hR9 hc9q HK9 vl bl9
                  generalize (w9.alloc (.cells #[.string ⟨(headT x).toArray⟩, .string ⟨(betwT x).toArray⟩, .string ⟨(endT x).toArray⟩] 98)).drew = w5 at *
                  generalize w9.heap.size = g6 at *
                  have x3 := hcq5.cell 0
                  have y0 := hcg5.cell 0
                  go_wp2_with fail
                  clear x3 y0
                  refine (skip_any hR5 (headT x)).mono ?_
                  intro e w6 hsk
                  unfold SkipRet at hsk
                  rw [if_pos hxf2] at hsk
                  obtain ⟨rfl, nv6, hR6, hK6, hO6⟩ := hsk
                  have n3 : w.heap.size ∉ b :: ownT (.slice (some ⟨g8, 0, none⟩) (acc.length + 1) cap8) := fun hm => by rcases List.mem_cons.1 hm with e | e; omega; exact hoq9 e
                  have n6 : g6 ∉ b :: ownT (.slice (some ⟨g8, 0, none⟩) (acc.length + 1) cap8) := fun hm => by rcases List.mem_cons.1 hm with e | e; omega; exact hog5 e
                  have hcq6 := hK6.cells hcq5 n3
                  have hcg6 := hK6.cells hcg5 n6
                  have hws : w.heap.size ≤ w5.heap.size := (unhide HK5).1.1
                  have HK6 := hide ((unhide HK5).next (unhide HO9) hK6)
                  have HO6 := hide (fun g hg => by rcases hO6 g hg with e | e; exact (unhide HO9) g e; exact Or.inr (Nat.le_trans hws e) : ∀ g ∈ ownT nv6, g ∈ ownT (.slice na acc.length nc) ∨ w.heap.size ≤ g)
                  obtain ⟨hl1, hl2, hl3⟩ := head_len hxn
                  clear n3 n6 hcq5 hcg5 hog5 hoq9 hO6 hK6 HK5 hR5 hws
                  have x3 := hcq6.cell 0
                  have y0 := hcg6.cell 0
                  have y1 := hcg6.cell 1
                  have y2 := hcg6.cell 2
                  go_wp2_with fail
                  clear x3 y0 y1 y2
                  refine (phParts_any _ _ _ (by omega) _).mono ?_
                  rintro e w7 ⟨rfl, hb7⟩
                  have hR7 := hR6.on hb7
                  have HK7 := hide ((unhide HK6).next (unhide HO6) (KeptT.of hb7))
                  have hcq7 := (show Cells w7 w.heap.size _ _ from (hb7.block _ hcq6.lt).trans hcq6)
                  have hcg7 := (show Cells w7 g6 _ _ from (hb7.block _ hcg6.lt).trans hcg6)
                  clear hcq6 hcg6 HK6 hR6 hb7
                  by_cases hbt : betwT x = []
                  · have HP2 := hide (show readF (n + 1) s acc = some (s.drop (headT x).length, acc ++ [x]) by rw [unhide HP, if_pos hbt])
                    rw [show (betwT x != []) = false by rw [hbt]; rfl]
                    have HF := hide (show RdPost w w7 b m (.slice na acc.length nc) (s.drop (headT x).length) (acc ++ [x]) from ⟨nv6, hR7, unhide HK7, unhide HO6⟩)
                    clear hbt hcq7 hcg7 hR7 HP
                    go_wp2_with fail
                    go_end0
                    exact rd_some (unhide HP2) rfl (unhide HF)
                  · have HP2 := hide (show readF (n + 1) s acc = partsF n (s.drop (headT x).length) acc x by rw [unhide HP, if_neg hbt])
                    rw [show (betwT x != []) = true by simpa using hbt]
                    have x3 := hcq7.cell 0
                    have y0 := hcg7.cell 0
                    clear hbt HP
                    go_wp2_with fail
                    clear x3 y0
                    refine (partsOf_any n IH w7 b m (s.drop (headT x).length) acc x nv6 hR7 (by omega) (by omega)).mono ?_
                    intro e w8' hret
                    obtain ⟨r2, hr2⟩ : ∃ r, partsF n (s.drop (headT x).length) acc x = r := ⟨_, rfl⟩
                    rw [hr2] at hret
                    have HP3 := hide ((unhide HP2).trans hr2)
                    clear hr2 HP2 hcq7 hcg7 hR7
                    cases r2 with
                    | none =>
                      obtain ⟨rfl, hK8⟩ := hret
                      have HK := hide ((unhide HK7).next (unhide HO6) hK8)
                      clear hK8
                      unfold fell
                      go_wp2_with fail
                      exact ⟨rfl, rd_none (unhide HP3) rfl (unhide HK)⟩
                    | some p =>
                      obtain ⟨s4, acc4⟩ := p
                      obtain ⟨rfl, hp⟩ := hret
                      have HF := hide (RdPost.next (unhide HK7) (unhide HO6) hp)
                      clear hp
                      go_wp2_with fail
                      go_end0
                      exact rd_some (unhide HP3) rfl (unhide HF)
                exact AllReadyH.nil
              exact AllReadyH.nil
            exact AllReadyH.nil
          exact AllReadyH.nil
        exact AllReadyH.nil
      exact AllReadyH.nil
    refine AllReadyH.cons (o := { dst := some 19, op := Go.Op.call { callee := Go.Callee.value (Go.Operand.func 108), args := #[Go.Operand.tmp 17, Go.Operand.tmp 18], argTypes := #[143, 145] }, type := 93, pos := "read.go:39", after := #[{ on := 5, ground := Go.Ground.data }, { on := 6, ground := Go.Ground.data }], guard := none }) rfl (fun K hK => ?_) ?_
    · go_simp
      refine (find1_any hRd w.heap.size pq).mono ?_
      rintro e w3 ⟨he, hb3⟩
      simp only [hf] at he
      subst he
      have hR3 := hRd.on hb3
      have zF := hR3.box.cell 1
      have hcF := (show Cells w3 w.heap.size _ _ from (hb3.block _ pq.1).trans (show Cells w1.drew _ _ _ from hcq))
      have x3F := hcF.cell 0
      have BF := bstep hbd hb3
      have bl3 := hR3.box.lt
      refine hK.out _ _ ?_ (fun hHeld => ?_)
      · (try dsimp only)
        (first | exact x3 | exact x3F | exact x3A | exact x38 | exact x39)
      clear hK K
      try simp only [Act.put, List.setIfInBounds_toArray, List.set_cons_zero, List.set_cons_succ]
      refine wpAnyH_ready (rs := [4, 8]) (by kernel_rfl) (by simp) ?_
      refine AllReadyH.cons (o := { dst := some 16, op := Go.Op.load 27 (Go.Operand.tmp 15), type := 27, pos := "read.go:39", after := #[{ on := 3, ground := Go.Ground.data }], guard := none }) rfl (fun K hK => ?_) ?_
      · go_simp
        refine hK.out _ _ ?_ (fun hHeld => ?_)
        · (try dsimp only)
          (first | exact x3 | exact x3F | exact x3A | exact x38 | exact x39)
        clear hK K
        try simp only [Act.put, List.setIfInBounds_toArray, List.set_cons_zero, List.set_cons_succ]
        refine wpAnyH_ready (rs := [8]) (by kernel_rfl) (by simp) ?_
        refine AllReadyH.cons (o := { dst := some 20, op := Go.Op.buildSlice 27 1 #[(0, Go.Operand.tmp 19)], type := 27, pos := "read.go:39", after := #[{ on := 7, ground := Go.Ground.data }], guard := none }) rfl (fun K hK => ?_) ?_
        · have hbA := (Below.refl w3.heap.size w3).alloc (Nat.le_refl _) (.cells #[.int .i64 x.kind, .int .i64 x.sig] 93)
          have hRA := hR3.on hbA
          have zA := hRA.box.cell 1
          have hcA := (show Cells (w3.alloc (.cells #[.int .i64 x.kind, .int .i64 x.sig] 93)) w.heap.size _ _ from (hbA.block _ hcF.lt).trans hcF)
          have x3A := hcA.cell 0
          have BA := bstep BF hbA
          go_simp
          refine hK.out _ _ ?_ (fun hHeld => ?_)
          · (try dsimp only)
            (first | exact x3 | exact x3F | exact x3A | exact x38 | exact x39)
          clear hK K
          try simp only [Act.put, List.setIfInBounds_toArray, List.set_cons_zero, List.set_cons_succ]
          refine wpAnyH_ready (rs := [9]) (by kernel_rfl) (by simp) ?_
          refine AllReadyH.cons (o := { dst := some 21, op := Go.Op.call { callee := Go.Callee.builtin Go.Builtin.append, args := #[Go.Operand.tmp 16, Go.Operand.tmp 20], argTypes := #[27, 27] }, type := 27, pos := "read.go:39", after := #[{ on := 4, ground := Go.Ground.data }, { on := 8, ground := Go.Ground.data }, { on := 7, ground := Go.Ground.chain }], guard := none }) rfl (fun K hK => ?_) ?_
          · refine step_append_lies _ rfl _ _ 27 rfl (b + 1) 93 i0 (.agg #[.int .i64 0, .int .i64 0]) 2 16 Tryz.underlying27 hi hz0 hz1 hz2 rfl (by decide) (.slice na acc.length nc) acc.length (cellsN acc) rfl hRA.row ⟨w3.heap.size, 0, none⟩ 1 1 [.int .i64 x.kind, .int .i64 x.sig] rfl rfl (World.news_of_block (cs := #[.int .i64 x.kind, .int .i64 x.sig]) (MapKept.heap_alloc w3 _).1) (by intro u hu; simp at hu; rcases hu with rfl | rfl <;> rfl) (by decide) (by unfold maxLen; omega) (by omega) (by simp; omega) _ rfl ?_
            intro g8 cap8 w8 hown8 hgr8 hat8 hlt8
            obtain ⟨hR9, hK9, hO9⟩ := hRA.more x hown8 hgr8 hat8
            have hc8b : Cells w8 b _ _ := (hgr8.block b hRA.box.lt (fun e => hRA.noRow (Nat.le_refl b) e.symm)).trans hRA.box
            have hnq : w.heap.size ∉ b :: ownT (.slice na acc.length nc) := fun hm => by rcases List.mem_cons.1 hm with e | e; omega; exact hoq e
            have hc8q : Cells w8 w.heap.size _ _ := (hgr8.block w.heap.size hcA.lt (fun e => hoq (ownT_mem.2 e.symm))).trans hcA
            have x38 := hc8q.cell 0
            have d8 := hc8b.cell 1
            have f8 := hc8b.frozen 1
            have hc9q := hK9.cells hcA hnq
            have x39 := hc9q.cell 0
            refine hK.out _ _ ?_ (fun hHeld => ?_)
            · (try dsimp only)
              (first | exact x3 | exact x3F | exact x3A | exact x38 | exact x39)
            clear hK K
            try simp only [Act.put, List.setIfInBounds_toArray, List.set_cons_zero, List.set_cons_succ]
            refine wpAnyH_take (i := 10) (oi := { dst := some 22, op := Go.Op.nilCheck (Go.Operand.tmp 12), type := 0, pos := "read.go:39", after := #[{ on := 0, ground := Go.Ground.data }, { on := 0, ground := Go.Ground.phase }, { on := 1, ground := Go.Ground.phase }, { on := 2, ground := Go.Ground.phase }, { on := 3, ground := Go.Ground.phase }, { on := 4, ground := Go.Ground.phase }, { on := 5, ground := Go.Ground.phase }, { on := 6, ground := Go.Ground.phase }, { on := 7, ground := Go.Ground.phase }, { on := 8, ground := Go.Ground.phase }, { on := 9, ground := Go.Ground.phase }], guard := none }) (v := ?_) rfl (by kernel_rfl) (by kernel_rfl) (by kernel_rfl) (fun _ _ _ h => h) (Or.inl ⟨by rfl, ?_⟩) (by assumption) ?_
            rotate_left
            · intro w hSw; (try dsimp only at hSw); go_simp; (try (with_reducible rfl))
            try simp only [Act.put, List.setIfInBounds_toArray, List.set_cons_zero, List.set_cons_succ]
            refine wpAnyH_take (i := 11) (oi := { dst := some 23, op := Go.Op.fieldAddr 117 (Go.Operand.tmp 22) 1, type := 0, pos := "read.go:39", after := #[{ on := 10, ground := Go.Ground.data }, { on := 0, ground := Go.Ground.phase }, { on := 1, ground := Go.Ground.phase }, { on := 2, ground := Go.Ground.phase }, { on := 3, ground := Go.Ground.phase }, { on := 4, ground := Go.Ground.phase }, { on := 5, ground := Go.Ground.phase }, { on := 6, ground := Go.Ground.phase }, { on := 7, ground := Go.Ground.phase }, { on := 8, ground := Go.Ground.phase }, { on := 9, ground := Go.Ground.phase }], guard := none }) (v := ?_) rfl (by kernel_rfl) (by kernel_rfl) (by kernel_rfl) (fun _ _ _ h => h) (Or.inl ⟨by rfl, ?_⟩) (by assumption) ?_
            rotate_left
            · intro w hSw; (try dsimp only at hSw); go_simp; (try (with_reducible rfl))
            try simp only [Act.put, List.setIfInBounds_toArray, List.set_cons_zero, List.set_cons_succ]
            refine wpAnyH_ready (rs := [12]) (by kernel_rfl) (by simp) ?_
            refine AllReadyH.cons (o := { dst := none, op := Go.Op.store 27 (Go.Operand.tmp 23) (Go.Operand.tmp 21), type := 0, pos := "read.go:39", after := #[{ on := 11, ground := Go.Ground.data }, { on := 9, ground := Go.Ground.data }, { on := 9, ground := Go.Ground.chain }, { on := 0, ground := Go.Ground.phase }, { on := 1, ground := Go.Ground.phase }, { on := 2, ground := Go.Ground.phase }, { on := 3, ground := Go.Ground.phase }, { on := 4, ground := Go.Ground.phase }, { on := 5, ground := Go.Ground.phase }, { on := 6, ground := Go.Ground.phase }, { on := 7, ground := Go.Ground.phase }, { on := 8, ground := Go.Ground.phase }, { on := 9, ground := Go.Ground.phase }], guard := none }) rfl (fun K hK => ?_) ?_
            · go_simp
              refine hK.out _ _ ?_ (fun hHeld => ?_)
              · (try dsimp only)
                (first | exact x3 | exact x3F | exact x3A | exact x38 | exact x39)
              clear hK K
              try simp only [Act.put]
              refine wpAnyH_done (by kernel_rfl) ?_ _
              have HK9 := hide ((unhide HK1).trans ((KeptT.of BA).trans hK9))
              have hwa : w.heap.size ≤ (w3.alloc (.cells #[.int .i64 x.kind, .int .i64 x.sig] 93)).heap.size := Nat.le_trans (Nat.le_of_lt hsz) BA.size
              have HO9 := hide (fun y hy => (hO9 y hy).imp id (fun e => Nat.le_trans hwa e) : ∀ y ∈ ownT (.slice (some ⟨g8, 0, none⟩) (acc.length + 1) cap8), y ∈ ownT (.slice na acc.length nc) ∨ w.heap.size ≤ y)
              have hoq9 := own_next hoq hcA.lt hO9
              have hrow := hR9.row
              rw [List.length_append] at hrow
              have hks : acc.length < (acc ++ [x]).length := by simp
              have v0 := hrow.cellAt (acc.length * 2) (by first | omega | (simp; omega))
              have v1 := hrow.cellAt (acc.length * 2 + 1) (by first | omega | (simp; omega))
              rw [(cellsN_at _ acc.length hks).1] at v0
              rw [(cellsN_at _ acc.length hks).2] at v1
              rw [List.getElem_concat_length (h := rfl)] at v0 v1
              have vl := (hrow.lt g8 rfl).2
              clear hRd hR3 hRA zF hcF x3F BF hbA zA hcA x3A BA hown8 hgr8 hat8 hlt8 hK9 hO9 hc8b hc8q x38 d8 f8 hb3 hnq hrow hwa pq zd z1 x3 hR1 hbd hcq hHeld bl3 HK1 HRF hf
              generalize w8.setCell ⟨b, 1, none⟩ (.slice (some ⟨g8, 0, none⟩) (acc.length + 1) cap8) = w9 at *
              have z19 := hR9.box.cell 1
              have z29 := hR9.box.cell 2
              have bl9 := hR9.box.lt
              have lq9 := hc9q.lt
              have hki : (acc.length : Int) < (acc.length : Int) + 1 := by omega
              have HS : ∀ W, Below w9.heap.size w9 W → PhrOf W m isN ∧ W.cell? ⟨w.heap.size, 0, none⟩ = some (.pointer (some ⟨b, 0, none⟩)) ∧ W.cell? ⟨b, 1, none⟩ = some (.slice (some ⟨g8, 0, none⟩) (acc.length + 1) cap8) ∧ W.cell? ⟨b, 2, none⟩ = some (.map (some m)) ∧ W.cell? ⟨g8, acc.length * 2, none⟩ = some (.int .i64 x.kind) ∧ W.cell? ⟨g8, acc.length * 2 + 1, none⟩ = some (.int .i64 x.sig) := fun W hW =>
                ⟨hR9.phr.same (hW.block _ hR9.phr.lt), (hW.cell (p := ⟨w.heap.size, 0, none⟩) lq9).trans x39, (hW.cell (p := ⟨b, 1, none⟩) bl9).trans z19, (hW.cell (p := ⟨b, 2, none⟩) bl9).trans z29, (hW.cell (p := ⟨g8, acc.length * 2, none⟩) vl).trans v0, (hW.cell (p := ⟨g8, acc.length * 2 + 1, none⟩) vl).trans v1⟩
              have hbd : Below w9.heap.size w9 w9.drew := (Below.refl _ _).drew
              go_upto_region 4 with fail
              refine wp_region_held_drew (S := fun W => PhrOf W m isN ∧ W.cell? ⟨w.heap.size, 0, none⟩ = some (.pointer (some ⟨b, 0, none⟩)) ∧ W.cell? ⟨b, 1, none⟩ = some (.slice (some ⟨g8, 0, none⟩) (acc.length + 1) cap8) ∧ W.cell? ⟨b, 2, none⟩ = some (.map (some m)) ∧ W.cell? ⟨g8, acc.length * 2, none⟩ = some (.int .i64 x.kind) ∧ W.cell? ⟨g8, acc.length * 2 + 1, none⟩ = some (.int .i64 x.sig)) (by kernel_rfl) ?_ (fun hHeld => ?_)
              · exact HS _ hbd
              refine wpAnyH_take (i := 0) (oi := { dst := some 24, op := Go.Op.load 143 (Go.Operand.tmp 1), type := 143, pos := "read.go:40", after := #[], guard := none }) (v := ?_) rfl (by kernel_rfl) (by kernel_rfl) (by kernel_rfl) (fun _ _ _ h => h) (Or.inl ⟨by rfl, ?_⟩) (by assumption) ?_
              rotate_left
              · intro w hSw; (try dsimp only at hSw); go_simp; (try (with_reducible rfl))
              try simp only [Act.put, List.setIfInBounds_toArray, List.set_cons_zero, List.set_cons_succ]
              refine wpAnyH_take (i := 1) (oi := { dst := some 25, op := Go.Op.nilCheck (Go.Operand.tmp 24), type := 0, pos := "read.go:40", after := #[{ on := 0, ground := Go.Ground.data }], guard := none }) (v := ?_) rfl (by kernel_rfl) (by kernel_rfl) (by kernel_rfl) (fun _ _ _ h => h) (Or.inl ⟨by rfl, ?_⟩) (by assumption) ?_
              rotate_left
              · intro w hSw; (try dsimp only at hSw); go_simp; (try (with_reducible rfl))
              try simp only [Act.put, List.setIfInBounds_toArray, List.set_cons_zero, List.set_cons_succ]
              refine wpAnyH_take (i := 2) (oi := { dst := some 26, op := Go.Op.fieldAddr 117 (Go.Operand.tmp 25) 2, type := 0, pos := "read.go:40", after := #[{ on := 1, ground := Go.Ground.data }], guard := none }) (v := ?_) rfl (by kernel_rfl) (by kernel_rfl) (by kernel_rfl) (fun _ _ _ h => h) (Or.inl ⟨by rfl, ?_⟩) (by assumption) ?_
              rotate_left
              · intro w hSw; (try dsimp only at hSw); go_simp; (try (with_reducible rfl))
              try simp only [Act.put, List.setIfInBounds_toArray, List.set_cons_zero, List.set_cons_succ]
              refine wpAnyH_take (i := 3) (oi := { dst := some 27, op := Go.Op.load 63 (Go.Operand.tmp 26), type := 63, pos := "read.go:40", after := #[{ on := 2, ground := Go.Ground.data }], guard := none }) (v := ?_) rfl (by kernel_rfl) (by kernel_rfl) (by kernel_rfl) (fun _ _ _ h => h) (Or.inl ⟨by rfl, ?_⟩) (by assumption) ?_
              rotate_left
              · intro w hSw; (try dsimp only at hSw); go_simp; (try (with_reducible rfl))
              try simp only [Act.put, List.setIfInBounds_toArray, List.set_cons_zero, List.set_cons_succ]
              refine wpAnyH_take (i := 4) (oi := { dst := some 28, op := Go.Op.load 143 (Go.Operand.tmp 1), type := 143, pos := "read.go:40", after := #[], guard := none }) (v := ?_) rfl (by kernel_rfl) (by kernel_rfl) (by kernel_rfl) (fun _ _ _ h => h) (Or.inl ⟨by rfl, ?_⟩) (by assumption) ?_
              rotate_left
              · intro w hSw; (try dsimp only at hSw); go_simp; (try (with_reducible rfl))
              try simp only [Act.put, List.setIfInBounds_toArray, List.set_cons_zero, List.set_cons_succ]
              refine wpAnyH_take (i := 5) (oi := { dst := some 29, op := Go.Op.nilCheck (Go.Operand.tmp 28), type := 0, pos := "read.go:40", after := #[{ on := 4, ground := Go.Ground.data }], guard := none }) (v := ?_) rfl (by kernel_rfl) (by kernel_rfl) (by kernel_rfl) (fun _ _ _ h => h) (Or.inl ⟨by rfl, ?_⟩) (by assumption) ?_
              rotate_left
              · intro w hSw; (try dsimp only at hSw); go_simp; (try (with_reducible rfl))
              try simp only [Act.put, List.setIfInBounds_toArray, List.set_cons_zero, List.set_cons_succ]
              refine wpAnyH_take (i := 6) (oi := { dst := some 30, op := Go.Op.fieldAddr 117 (Go.Operand.tmp 29) 1, type := 0, pos := "read.go:40", after := #[{ on := 5, ground := Go.Ground.data }], guard := none }) (v := ?_) rfl (by kernel_rfl) (by kernel_rfl) (by kernel_rfl) (fun _ _ _ h => h) (Or.inl ⟨by rfl, ?_⟩) (by assumption) ?_
              rotate_left
              · intro w hSw; (try dsimp only at hSw); go_simp; (try (with_reducible rfl))
              try simp only [Act.put, List.setIfInBounds_toArray, List.set_cons_zero, List.set_cons_succ]
              refine wpAnyH_take (i := 7) (oi := { dst := some 31, op := Go.Op.load 27 (Go.Operand.tmp 30), type := 27, pos := "read.go:40", after := #[{ on := 6, ground := Go.Ground.data }], guard := none }) (v := ?_) rfl (by kernel_rfl) (by kernel_rfl) (by kernel_rfl) (fun _ _ _ h => h) (Or.inl ⟨by rfl, ?_⟩) (by assumption) ?_
              rotate_left
              · intro w hSw; (try dsimp only at hSw); go_simp; (try (with_reducible rfl))
              try simp only [Act.put, List.setIfInBounds_toArray, List.set_cons_zero, List.set_cons_succ]
              refine wpAnyH_take (i := 8) (oi := { dst := some 32, op := Go.Op.move (Go.Operand.tmp 2), type := 3, pos := "read.go:40", after := #[], guard := none }) (v := ?_) rfl (by kernel_rfl) (by kernel_rfl) (by kernel_rfl) (fun _ _ _ h => h) (Or.inl ⟨by rfl, ?_⟩) (by assumption) ?_
              rotate_left
              · intro w hSw; (try dsimp only at hSw); go_simp; (try (with_reducible rfl))
              try simp only [Act.put, List.setIfInBounds_toArray, List.set_cons_zero, List.set_cons_succ]
              refine wpAnyH_take (i := 9) (oi := { dst := some 33, op := Go.Op.indexAddr 27 (Go.Operand.tmp 31) (Go.Operand.tmp 32), type := 0, pos := "read.go:40", after := #[{ on := 7, ground := Go.Ground.data }, { on := 8, ground := Go.Ground.data }], guard := none }) (v := ?_) rfl (by kernel_rfl) (by kernel_rfl) (by kernel_rfl) (fun _ _ _ h => h) (Or.inl ⟨by rfl, ?_⟩) (by assumption) ?_
              rotate_left
              · intro w hSw; (try dsimp only at hSw); go_simp; (try (with_reducible rfl))
              try simp only [Act.put, List.setIfInBounds_toArray, List.set_cons_zero, List.set_cons_succ]
              refine wpAnyH_take (i := 10) (oi := { dst := some 34, op := Go.Op.load 93 (Go.Operand.tmp 33), type := 93, pos := "read.go:40", after := #[{ on := 9, ground := Go.Ground.data }], guard := none }) (v := ?_) rfl (by kernel_rfl) (by kernel_rfl) (by kernel_rfl) (fun _ _ _ h => h) (Or.inl ⟨by rfl, ?_⟩) (by assumption) ?_
              rotate_left
              · intro w hSw; (try dsimp only at hSw); go_simp; (try (with_reducible rfl))
              try simp only [Act.put, List.setIfInBounds_toArray, List.set_cons_zero, List.set_cons_succ]
              refine wpAnyH_take (i := 11) (oi := { dst := some 35, op := Go.Op.lookup 63 (Go.Operand.tmp 27) (Go.Operand.tmp 34) false, type := 98, pos := "read.go:40", after := #[{ on := 3, ground := Go.Ground.data }, { on := 10, ground := Go.Ground.data }], guard := none }) (v := ?_) rfl (by kernel_rfl) (by kernel_rfl) (by kernel_rfl) (fun _ _ _ h => h) (Or.inl ⟨by rfl, ?_⟩) (by assumption) ?_
              rotate_left
              · intro w hSw; (try dsimp only at hSw); have hLK := look_is hSw.1 hxn; go_simp; (try (with_reducible rfl))
              try simp only [Act.put, List.setIfInBounds_toArray, List.set_cons_zero, List.set_cons_succ]
              refine wpAnyH_ready (rs := [12]) (by kernel_rfl) (by simp) ?_
              refine AllReadyH.cons (o := { dst := some 3, op := Go.Op.alloc 98, type := 0, pos := "read.go:40", after := #[], guard := none }) rfl (fun K hK => ?_) ?_
              · have hbA := hbd.alloc hbd.size (.cells #[.string ⟨#[]⟩, .string ⟨#[]⟩, .string ⟨#[]⟩] 98)
                go_simp
                refine hK.out _ _ ?_ (fun hHeld => ?_)
                · (try dsimp only)
                  (first | exact HS _ hbA | exact HS _ hbS)
                clear hK K
                try simp only [Act.put, List.setIfInBounds_toArray, List.set_cons_zero, List.set_cons_succ]
                refine wpAnyH_ready (rs := [13]) (by kernel_rfl) (by simp) ?_
                refine AllReadyH.cons (o := { dst := none, op := Go.Op.store 98 (Go.Operand.tmp 3) (Go.Operand.tmp 35), type := 0, pos := "read.go:40", after := #[{ on := 12, ground := Go.Ground.data }, { on := 11, ground := Go.Ground.data }, { on := 0, ground := Go.Ground.phase }, { on := 1, ground := Go.Ground.phase }, { on := 2, ground := Go.Ground.phase }, { on := 3, ground := Go.Ground.phase }, { on := 4, ground := Go.Ground.phase }, { on := 5, ground := Go.Ground.phase }, { on := 6, ground := Go.Ground.phase }, { on := 7, ground := Go.Ground.phase }, { on := 8, ground := Go.Ground.phase }, { on := 9, ground := Go.Ground.phase }, { on := 10, ground := Go.Ground.phase }, { on := 11, ground := Go.Ground.phase }, { on := 12, ground := Go.Ground.phase }], guard := none }) rfl (fun K hK => ?_) ?_
                · have hbS := ((Below.refl w9.heap.size w9).alloc (Nat.le_refl _) (.cells #[.string ⟨(headT x).toArray⟩, .string ⟨(betwT x).toArray⟩, .string ⟨(endT x).toArray⟩] 98)).drew
                  have hc9 := Cells.new w9 [.string ⟨(headT x).toArray⟩, .string ⟨(betwT x).toArray⟩, .string ⟨(endT x).toArray⟩] 98
                  go_simp
                  refine hK.out _ _ ?_ (fun hHeld => ?_)
                  · (try dsimp only)
                    (first | exact HS _ hbA | exact HS _ hbS)
                  clear hK K
                  try simp only [Act.put]
                  refine wpAnyH_done (by kernel_rfl) ?_ _
                  have hR5 := hR9.on hbS
                  have hcq5 := (show Cells (w9.alloc (.cells #[.string ⟨(headT x).toArray⟩, .string ⟨(betwT x).toArray⟩, .string ⟨(endT x).toArray⟩] 98)).drew w.heap.size _ _ from (hbS.block _ hc9q.lt).trans hc9q)
                  have hcg5 : Cells (w9.alloc (.cells #[.string ⟨(headT x).toArray⟩, .string ⟨(betwT x).toArray⟩, .string ⟨(endT x).toArray⟩] 98)).drew w9.heap.size _ _ := hc9
                  have hog5 := own_old hR9 (Nat.le_refl _)
                  have hb6 : b < w9.heap.size := bl9
                  have HK5 := hide ((unhide HK9).next (unhide HO9) (KeptT.of hbS))
                  clear hbA hbd HS hHeld hc9 hbS x39 z19 z29 v0 v1 hR9 hc9q HK9 vl bl9
                  generalize (w9.alloc (.cells #[.string ⟨(headT x).toArray⟩, .string ⟨(betwT x).toArray⟩, .string ⟨(endT x).toArray⟩] 98)).drew = w5 at *
                  generalize w9.heap.size = g6 at *
                  have x3 := hcq5.cell 0
                  have y0 := hcg5.cell 0
                  go_wp2_with fail
                  clear x3 y0
                  refine (skip_any hR5 (headT x)).mono ?_
                  intro e w6 hsk
                  unfold SkipRet at hsk
                  rw [if_pos hxf2] at hsk
                  obtain ⟨rfl, nv6, hR6, hK6, hO6⟩ := hsk
                  have n3 : w.heap.size ∉ b :: ownT (.slice (some ⟨g8, 0, none⟩) (acc.length + 1) cap8) := fun hm => by rcases List.mem_cons.1 hm with e | e; omega; exact hoq9 e
                  have n6 : g6 ∉ b :: ownT (.slice (some ⟨g8, 0, none⟩) (acc.length + 1) cap8) := fun hm => by rcases List.mem_cons.1 hm with e | e; omega; exact hog5 e
                  have hcq6 := hK6.cells hcq5 n3
                  have hcg6 := hK6.cells hcg5 n6
                  have hws : w.heap.size ≤ w5.heap.size := (unhide HK5).1.1
                  have HK6 := hide ((unhide HK5).next (unhide HO9) hK6)
                  have HO6 := hide (fun g hg => by rcases hO6 g hg with e | e; exact (unhide HO9) g e; exact Or.inr (Nat.le_trans hws e) : ∀ g ∈ ownT nv6, g ∈ ownT (.slice na acc.length nc) ∨ w.heap.size ≤ g)
                  obtain ⟨hl1, hl2, hl3⟩ := head_len hxn
                  clear n3 n6 hcq5 hcg5 hog5 hoq9 hO6 hK6 HK5 hR5 hws
                  have x3 := hcq6.cell 0
                  have y0 := hcg6.cell 0
                  have y1 := hcg6.cell 1
                  have y2 := hcg6.cell 2
                  go_wp2_with fail
                  clear x3 y0 y1 y2
                  refine (phParts_any _ _ _ (by omega) _).mono ?_
                  rintro e w7 ⟨rfl, hb7⟩
                  have hR7 := hR6.on hb7
                  have HK7 := hide ((unhide HK6).next (unhide HO6) (KeptT.of hb7))
                  have hcq7 := (show Cells w7 w.heap.size _ _ from (hb7.block _ hcq6.lt).trans hcq6)
                  have hcg7 := (show Cells w7 g6 _ _ from (hb7.block _ hcg6.lt).trans hcg6)
                  clear hcq6 hcg6 HK6 hR6 hb7
                  by_cases hbt : betwT x = []
                  · have HP2 := hide (show readF (n + 1) s acc = some (s.drop (headT x).length, acc ++ [x]) by rw [unhide HP, if_pos hbt])
                    rw [show (betwT x != []) = false by rw [hbt]; rfl]
                    have HF := hide (show RdPost w w7 b m (.slice na acc.length nc) (s.drop (headT x).length) (acc ++ [x]) from ⟨nv6, hR7, unhide HK7, unhide HO6⟩)
                    clear hbt hcq7 hcg7 hR7 HP
                    go_wp2_with fail
                    go_end0
                    exact rd_some (unhide HP2) rfl (unhide HF)
                  · have HP2 := hide (show readF (n + 1) s acc = partsF n (s.drop (headT x).length) acc x by rw [unhide HP, if_neg hbt])
                    rw [show (betwT x != []) = true by simpa using hbt]
                    have x3 := hcq7.cell 0
                    have y0 := hcg7.cell 0
                    clear hbt HP
                    go_wp2_with fail
                    clear x3 y0
                    refine (partsOf_any n IH w7 b m (s.drop (headT x).length) acc x nv6 hR7 (by omega) (by omega)).mono ?_
                    intro e w8' hret
                    obtain ⟨r2, hr2⟩ : ∃ r, partsF n (s.drop (headT x).length) acc x = r := ⟨_, rfl⟩
                    rw [hr2] at hret
                    have HP3 := hide ((unhide HP2).trans hr2)
                    clear hr2 HP2 hcq7 hcg7 hR7
                    cases r2 with
                    | none =>
                      obtain ⟨rfl, hK8⟩ := hret
                      have HK := hide ((unhide HK7).next (unhide HO6) hK8)
                      clear hK8
                      unfold fell
                      go_wp2_with fail
                      exact ⟨rfl, rd_none (unhide HP3) rfl (unhide HK)⟩
                    | some p =>
                      obtain ⟨s4, acc4⟩ := p
                      obtain ⟨rfl, hp⟩ := hret
                      have HF := hide (RdPost.next (unhide HK7) (unhide HO6) hp)
                      clear hp
                      go_wp2_with fail
                      go_end0
                      exact rd_some (unhide HP3) rfl (unhide HF)
                exact AllReadyH.nil
              exact AllReadyH.nil
            exact AllReadyH.nil
          exact AllReadyH.nil
        exact AllReadyH.nil
      refine AllReadyH.cons (o := { dst := some 20, op := Go.Op.buildSlice 27 1 #[(0, Go.Operand.tmp 19)], type := 27, pos := "read.go:39", after := #[{ on := 7, ground := Go.Ground.data }], guard := none }) rfl (fun K hK => ?_) ?_
      · have hbA := (Below.refl w3.heap.size w3).alloc (Nat.le_refl _) (.cells #[.int .i64 x.kind, .int .i64 x.sig] 93)
        have hRA := hR3.on hbA
        have zA := hRA.box.cell 1
        have hcA := (show Cells (w3.alloc (.cells #[.int .i64 x.kind, .int .i64 x.sig] 93)) w.heap.size _ _ from (hbA.block _ hcF.lt).trans hcF)
        have x3A := hcA.cell 0
        have BA := bstep BF hbA
        go_simp
        refine hK.out _ _ ?_ (fun hHeld => ?_)
        · (try dsimp only)
          (first | exact x3 | exact x3F | exact x3A | exact x38 | exact x39)
        clear hK K
        try simp only [Act.put, List.setIfInBounds_toArray, List.set_cons_zero, List.set_cons_succ]
        refine wpAnyH_ready (rs := [4]) (by kernel_rfl) (by simp) ?_
        refine AllReadyH.cons (o := { dst := some 16, op := Go.Op.load 27 (Go.Operand.tmp 15), type := 27, pos := "read.go:39", after := #[{ on := 3, ground := Go.Ground.data }], guard := none }) rfl (fun K hK => ?_) ?_
        · go_simp
          refine hK.out _ _ ?_ (fun hHeld => ?_)
          · (try dsimp only)
            (first | exact x3 | exact x3F | exact x3A | exact x38 | exact x39)
          clear hK K
          try simp only [Act.put, List.setIfInBounds_toArray, List.set_cons_zero, List.set_cons_succ]
          refine wpAnyH_ready (rs := [9]) (by kernel_rfl) (by simp) ?_
          refine AllReadyH.cons (o := { dst := some 21, op := Go.Op.call { callee := Go.Callee.builtin Go.Builtin.append, args := #[Go.Operand.tmp 16, Go.Operand.tmp 20], argTypes := #[27, 27] }, type := 27, pos := "read.go:39", after := #[{ on := 4, ground := Go.Ground.data }, { on := 8, ground := Go.Ground.data }, { on := 7, ground := Go.Ground.chain }], guard := none }) rfl (fun K hK => ?_) ?_
          · refine step_append_lies _ rfl _ _ 27 rfl (b + 1) 93 i0 (.agg #[.int .i64 0, .int .i64 0]) 2 16 Tryz.underlying27 hi hz0 hz1 hz2 rfl (by decide) (.slice na acc.length nc) acc.length (cellsN acc) rfl hRA.row ⟨w3.heap.size, 0, none⟩ 1 1 [.int .i64 x.kind, .int .i64 x.sig] rfl rfl (World.news_of_block (cs := #[.int .i64 x.kind, .int .i64 x.sig]) (MapKept.heap_alloc w3 _).1) (by intro u hu; simp at hu; rcases hu with rfl | rfl <;> rfl) (by decide) (by unfold maxLen; omega) (by omega) (by simp; omega) _ rfl ?_
            intro g8 cap8 w8 hown8 hgr8 hat8 hlt8
            obtain ⟨hR9, hK9, hO9⟩ := hRA.more x hown8 hgr8 hat8
            have hc8b : Cells w8 b _ _ := (hgr8.block b hRA.box.lt (fun e => hRA.noRow (Nat.le_refl b) e.symm)).trans hRA.box
            have hnq : w.heap.size ∉ b :: ownT (.slice na acc.length nc) := fun hm => by rcases List.mem_cons.1 hm with e | e; omega; exact hoq e
            have hc8q : Cells w8 w.heap.size _ _ := (hgr8.block w.heap.size hcA.lt (fun e => hoq (ownT_mem.2 e.symm))).trans hcA
            have x38 := hc8q.cell 0
            have d8 := hc8b.cell 1
            have f8 := hc8b.frozen 1
            have hc9q := hK9.cells hcA hnq
            have x39 := hc9q.cell 0
            refine hK.out _ _ ?_ (fun hHeld => ?_)
            · (try dsimp only)
              (first | exact x3 | exact x3F | exact x3A | exact x38 | exact x39)
            clear hK K
            try simp only [Act.put, List.setIfInBounds_toArray, List.set_cons_zero, List.set_cons_succ]
            refine wpAnyH_take (i := 10) (oi := { dst := some 22, op := Go.Op.nilCheck (Go.Operand.tmp 12), type := 0, pos := "read.go:39", after := #[{ on := 0, ground := Go.Ground.data }, { on := 0, ground := Go.Ground.phase }, { on := 1, ground := Go.Ground.phase }, { on := 2, ground := Go.Ground.phase }, { on := 3, ground := Go.Ground.phase }, { on := 4, ground := Go.Ground.phase }, { on := 5, ground := Go.Ground.phase }, { on := 6, ground := Go.Ground.phase }, { on := 7, ground := Go.Ground.phase }, { on := 8, ground := Go.Ground.phase }, { on := 9, ground := Go.Ground.phase }], guard := none }) (v := ?_) rfl (by kernel_rfl) (by kernel_rfl) (by kernel_rfl) (fun _ _ _ h => h) (Or.inl ⟨by rfl, ?_⟩) (by assumption) ?_
            rotate_left
            · intro w hSw; (try dsimp only at hSw); go_simp; (try (with_reducible rfl))
            try simp only [Act.put, List.setIfInBounds_toArray, List.set_cons_zero, List.set_cons_succ]
            refine wpAnyH_take (i := 11) (oi := { dst := some 23, op := Go.Op.fieldAddr 117 (Go.Operand.tmp 22) 1, type := 0, pos := "read.go:39", after := #[{ on := 10, ground := Go.Ground.data }, { on := 0, ground := Go.Ground.phase }, { on := 1, ground := Go.Ground.phase }, { on := 2, ground := Go.Ground.phase }, { on := 3, ground := Go.Ground.phase }, { on := 4, ground := Go.Ground.phase }, { on := 5, ground := Go.Ground.phase }, { on := 6, ground := Go.Ground.phase }, { on := 7, ground := Go.Ground.phase }, { on := 8, ground := Go.Ground.phase }, { on := 9, ground := Go.Ground.phase }], guard := none }) (v := ?_) rfl (by kernel_rfl) (by kernel_rfl) (by kernel_rfl) (fun _ _ _ h => h) (Or.inl ⟨by rfl, ?_⟩) (by assumption) ?_
            rotate_left
            · intro w hSw; (try dsimp only at hSw); go_simp; (try (with_reducible rfl))
            try simp only [Act.put, List.setIfInBounds_toArray, List.set_cons_zero, List.set_cons_succ]
            refine wpAnyH_ready (rs := [12]) (by kernel_rfl) (by simp) ?_
            refine AllReadyH.cons (o := { dst := none, op := Go.Op.store 27 (Go.Operand.tmp 23) (Go.Operand.tmp 21), type := 0, pos := "read.go:39", after := #[{ on := 11, ground := Go.Ground.data }, { on := 9, ground := Go.Ground.data }, { on := 9, ground := Go.Ground.chain }, { on := 0, ground := Go.Ground.phase }, { on := 1, ground := Go.Ground.phase }, { on := 2, ground := Go.Ground.phase }, { on := 3, ground := Go.Ground.phase }, { on := 4, ground := Go.Ground.phase }, { on := 5, ground := Go.Ground.phase }, { on := 6, ground := Go.Ground.phase }, { on := 7, ground := Go.Ground.phase }, { on := 8, ground := Go.Ground.phase }, { on := 9, ground := Go.Ground.phase }], guard := none }) rfl (fun K hK => ?_) ?_
            · go_simp
              refine hK.out _ _ ?_ (fun hHeld => ?_)
              · (try dsimp only)
                (first | exact x3 | exact x3F | exact x3A | exact x38 | exact x39)
              clear hK K
              try simp only [Act.put]
              refine wpAnyH_done (by kernel_rfl) ?_ _
              have HK9 := hide ((unhide HK1).trans ((KeptT.of BA).trans hK9))
              have hwa : w.heap.size ≤ (w3.alloc (.cells #[.int .i64 x.kind, .int .i64 x.sig] 93)).heap.size := Nat.le_trans (Nat.le_of_lt hsz) BA.size
              have HO9 := hide (fun y hy => (hO9 y hy).imp id (fun e => Nat.le_trans hwa e) : ∀ y ∈ ownT (.slice (some ⟨g8, 0, none⟩) (acc.length + 1) cap8), y ∈ ownT (.slice na acc.length nc) ∨ w.heap.size ≤ y)
              have hoq9 := own_next hoq hcA.lt hO9
              have hrow := hR9.row
              rw [List.length_append] at hrow
              have hks : acc.length < (acc ++ [x]).length := by simp
              have v0 := hrow.cellAt (acc.length * 2) (by first | omega | (simp; omega))
              have v1 := hrow.cellAt (acc.length * 2 + 1) (by first | omega | (simp; omega))
              rw [(cellsN_at _ acc.length hks).1] at v0
              rw [(cellsN_at _ acc.length hks).2] at v1
              rw [List.getElem_concat_length (h := rfl)] at v0 v1
              have vl := (hrow.lt g8 rfl).2
              clear hRd hR3 hRA zF hcF x3F BF hbA zA hcA x3A BA hown8 hgr8 hat8 hlt8 hK9 hO9 hc8b hc8q x38 d8 f8 hb3 hnq hrow hwa pq zd z1 x3 hR1 hbd hcq hHeld bl3 HK1 HRF hf
              generalize w8.setCell ⟨b, 1, none⟩ (.slice (some ⟨g8, 0, none⟩) (acc.length + 1) cap8) = w9 at *
              have z19 := hR9.box.cell 1
              have z29 := hR9.box.cell 2
              have bl9 := hR9.box.lt
              have lq9 := hc9q.lt
              have hki : (acc.length : Int) < (acc.length : Int) + 1 := by omega
              have HS : ∀ W, Below w9.heap.size w9 W → PhrOf W m isN ∧ W.cell? ⟨w.heap.size, 0, none⟩ = some (.pointer (some ⟨b, 0, none⟩)) ∧ W.cell? ⟨b, 1, none⟩ = some (.slice (some ⟨g8, 0, none⟩) (acc.length + 1) cap8) ∧ W.cell? ⟨b, 2, none⟩ = some (.map (some m)) ∧ W.cell? ⟨g8, acc.length * 2, none⟩ = some (.int .i64 x.kind) ∧ W.cell? ⟨g8, acc.length * 2 + 1, none⟩ = some (.int .i64 x.sig) := fun W hW =>
                ⟨hR9.phr.same (hW.block _ hR9.phr.lt), (hW.cell (p := ⟨w.heap.size, 0, none⟩) lq9).trans x39, (hW.cell (p := ⟨b, 1, none⟩) bl9).trans z19, (hW.cell (p := ⟨b, 2, none⟩) bl9).trans z29, (hW.cell (p := ⟨g8, acc.length * 2, none⟩) vl).trans v0, (hW.cell (p := ⟨g8, acc.length * 2 + 1, none⟩) vl).trans v1⟩
              have hbd : Below w9.heap.size w9 w9.drew := (Below.refl _ _).drew
              go_upto_region 4 with fail
              refine wp_region_held_drew (S := fun W => PhrOf W m isN ∧ W.cell? ⟨w.heap.size, 0, none⟩ = some (.pointer (some ⟨b, 0, none⟩)) ∧ W.cell? ⟨b, 1, none⟩ = some (.slice (some ⟨g8, 0, none⟩) (acc.length + 1) cap8) ∧ W.cell? ⟨b, 2, none⟩ = some (.map (some m)) ∧ W.cell? ⟨g8, acc.length * 2, none⟩ = some (.int .i64 x.kind) ∧ W.cell? ⟨g8, acc.length * 2 + 1, none⟩ = some (.int .i64 x.sig)) (by kernel_rfl) ?_ (fun hHeld => ?_)
              · exact HS _ hbd
              refine wpAnyH_take (i := 0) (oi := { dst := some 24, op := Go.Op.load 143 (Go.Operand.tmp 1), type := 143, pos := "read.go:40", after := #[], guard := none }) (v := ?_) rfl (by kernel_rfl) (by kernel_rfl) (by kernel_rfl) (fun _ _ _ h => h) (Or.inl ⟨by rfl, ?_⟩) (by assumption) ?_
              rotate_left
              · intro w hSw; (try dsimp only at hSw); go_simp; (try (with_reducible rfl))
              try simp only [Act.put, List.setIfInBounds_toArray, List.set_cons_zero, List.set_cons_succ]
              refine wpAnyH_take (i := 1) (oi := { dst := some 25, op := Go.Op.nilCheck (Go.Operand.tmp 24), type := 0, pos := "read.go:40", after := #[{ on := 0, ground := Go.Ground.data }], guard := none }) (v := ?_) rfl (by kernel_rfl) (by kernel_rfl) (by kernel_rfl) (fun _ _ _ h => h) (Or.inl ⟨by rfl, ?_⟩) (by assumption) ?_
              rotate_left
              · intro w hSw; (try dsimp only at hSw); go_simp; (try (with_reducible rfl))
              try simp only [Act.put, List.setIfInBounds_toArray, List.set_cons_zero, List.set_cons_succ]
              refine wpAnyH_take (i := 2) (oi := { dst := some 26, op := Go.Op.fieldAddr 117 (Go.Operand.tmp 25) 2, type := 0, pos := "read.go:40", after := #[{ on := 1, ground := Go.Ground.data }], guard := none }) (v := ?_) rfl (by kernel_rfl) (by kernel_rfl) (by kernel_rfl) (fun _ _ _ h => h) (Or.inl ⟨by rfl, ?_⟩) (by assumption) ?_
              rotate_left
              · intro w hSw; (try dsimp only at hSw); go_simp; (try (with_reducible rfl))
              try simp only [Act.put, List.setIfInBounds_toArray, List.set_cons_zero, List.set_cons_succ]
              refine wpAnyH_take (i := 3) (oi := { dst := some 27, op := Go.Op.load 63 (Go.Operand.tmp 26), type := 63, pos := "read.go:40", after := #[{ on := 2, ground := Go.Ground.data }], guard := none }) (v := ?_) rfl (by kernel_rfl) (by kernel_rfl) (by kernel_rfl) (fun _ _ _ h => h) (Or.inl ⟨by rfl, ?_⟩) (by assumption) ?_
              rotate_left
              · intro w hSw; (try dsimp only at hSw); go_simp; (try (with_reducible rfl))
              try simp only [Act.put, List.setIfInBounds_toArray, List.set_cons_zero, List.set_cons_succ]
              refine wpAnyH_take (i := 4) (oi := { dst := some 28, op := Go.Op.load 143 (Go.Operand.tmp 1), type := 143, pos := "read.go:40", after := #[], guard := none }) (v := ?_) rfl (by kernel_rfl) (by kernel_rfl) (by kernel_rfl) (fun _ _ _ h => h) (Or.inl ⟨by rfl, ?_⟩) (by assumption) ?_
              rotate_left
              · intro w hSw; (try dsimp only at hSw); go_simp; (try (with_reducible rfl))
              try simp only [Act.put, List.setIfInBounds_toArray, List.set_cons_zero, List.set_cons_succ]
              refine wpAnyH_take (i := 5) (oi := { dst := some 29, op := Go.Op.nilCheck (Go.Operand.tmp 28), type := 0, pos := "read.go:40", after := #[{ on := 4, ground := Go.Ground.data }], guard := none }) (v := ?_) rfl (by kernel_rfl) (by kernel_rfl) (by kernel_rfl) (fun _ _ _ h => h) (Or.inl ⟨by rfl, ?_⟩) (by assumption) ?_
              rotate_left
              · intro w hSw; (try dsimp only at hSw); go_simp; (try (with_reducible rfl))
              try simp only [Act.put, List.setIfInBounds_toArray, List.set_cons_zero, List.set_cons_succ]
              refine wpAnyH_take (i := 6) (oi := { dst := some 30, op := Go.Op.fieldAddr 117 (Go.Operand.tmp 29) 1, type := 0, pos := "read.go:40", after := #[{ on := 5, ground := Go.Ground.data }], guard := none }) (v := ?_) rfl (by kernel_rfl) (by kernel_rfl) (by kernel_rfl) (fun _ _ _ h => h) (Or.inl ⟨by rfl, ?_⟩) (by assumption) ?_
              rotate_left
              · intro w hSw; (try dsimp only at hSw); go_simp; (try (with_reducible rfl))
              try simp only [Act.put, List.setIfInBounds_toArray, List.set_cons_zero, List.set_cons_succ]
              refine wpAnyH_take (i := 7) (oi := { dst := some 31, op := Go.Op.load 27 (Go.Operand.tmp 30), type := 27, pos := "read.go:40", after := #[{ on := 6, ground := Go.Ground.data }], guard := none }) (v := ?_) rfl (by kernel_rfl) (by kernel_rfl) (by kernel_rfl) (fun _ _ _ h => h) (Or.inl ⟨by rfl, ?_⟩) (by assumption) ?_
              rotate_left
              · intro w hSw; (try dsimp only at hSw); go_simp; (try (with_reducible rfl))
              try simp only [Act.put, List.setIfInBounds_toArray, List.set_cons_zero, List.set_cons_succ]
              refine wpAnyH_take (i := 8) (oi := { dst := some 32, op := Go.Op.move (Go.Operand.tmp 2), type := 3, pos := "read.go:40", after := #[], guard := none }) (v := ?_) rfl (by kernel_rfl) (by kernel_rfl) (by kernel_rfl) (fun _ _ _ h => h) (Or.inl ⟨by rfl, ?_⟩) (by assumption) ?_
              rotate_left
              · intro w hSw; (try dsimp only at hSw); go_simp; (try (with_reducible rfl))
              try simp only [Act.put, List.setIfInBounds_toArray, List.set_cons_zero, List.set_cons_succ]
              refine wpAnyH_take (i := 9) (oi := { dst := some 33, op := Go.Op.indexAddr 27 (Go.Operand.tmp 31) (Go.Operand.tmp 32), type := 0, pos := "read.go:40", after := #[{ on := 7, ground := Go.Ground.data }, { on := 8, ground := Go.Ground.data }], guard := none }) (v := ?_) rfl (by kernel_rfl) (by kernel_rfl) (by kernel_rfl) (fun _ _ _ h => h) (Or.inl ⟨by rfl, ?_⟩) (by assumption) ?_
              rotate_left
              · intro w hSw; (try dsimp only at hSw); go_simp; (try (with_reducible rfl))
              try simp only [Act.put, List.setIfInBounds_toArray, List.set_cons_zero, List.set_cons_succ]
              refine wpAnyH_take (i := 10) (oi := { dst := some 34, op := Go.Op.load 93 (Go.Operand.tmp 33), type := 93, pos := "read.go:40", after := #[{ on := 9, ground := Go.Ground.data }], guard := none }) (v := ?_) rfl (by kernel_rfl) (by kernel_rfl) (by kernel_rfl) (fun _ _ _ h => h) (Or.inl ⟨by rfl, ?_⟩) (by assumption) ?_
              rotate_left
              · intro w hSw; (try dsimp only at hSw); go_simp; (try (with_reducible rfl))
              try simp only [Act.put, List.setIfInBounds_toArray, List.set_cons_zero, List.set_cons_succ]
              refine wpAnyH_take (i := 11) (oi := { dst := some 35, op := Go.Op.lookup 63 (Go.Operand.tmp 27) (Go.Operand.tmp 34) false, type := 98, pos := "read.go:40", after := #[{ on := 3, ground := Go.Ground.data }, { on := 10, ground := Go.Ground.data }], guard := none }) (v := ?_) rfl (by kernel_rfl) (by kernel_rfl) (by kernel_rfl) (fun _ _ _ h => h) (Or.inl ⟨by rfl, ?_⟩) (by assumption) ?_
              rotate_left
              · intro w hSw; (try dsimp only at hSw); have hLK := look_is hSw.1 hxn; go_simp; (try (with_reducible rfl))
              try simp only [Act.put, List.setIfInBounds_toArray, List.set_cons_zero, List.set_cons_succ]
              refine wpAnyH_ready (rs := [12]) (by kernel_rfl) (by simp) ?_
              refine AllReadyH.cons (o := { dst := some 3, op := Go.Op.alloc 98, type := 0, pos := "read.go:40", after := #[], guard := none }) rfl (fun K hK => ?_) ?_
              · have hbA := hbd.alloc hbd.size (.cells #[.string ⟨#[]⟩, .string ⟨#[]⟩, .string ⟨#[]⟩] 98)
                go_simp
                refine hK.out _ _ ?_ (fun hHeld => ?_)
                · (try dsimp only)
                  (first | exact HS _ hbA | exact HS _ hbS)
                clear hK K
                try simp only [Act.put, List.setIfInBounds_toArray, List.set_cons_zero, List.set_cons_succ]
                refine wpAnyH_ready (rs := [13]) (by kernel_rfl) (by simp) ?_
                refine AllReadyH.cons (o := { dst := none, op := Go.Op.store 98 (Go.Operand.tmp 3) (Go.Operand.tmp 35), type := 0, pos := "read.go:40", after := #[{ on := 12, ground := Go.Ground.data }, { on := 11, ground := Go.Ground.data }, { on := 0, ground := Go.Ground.phase }, { on := 1, ground := Go.Ground.phase }, { on := 2, ground := Go.Ground.phase }, { on := 3, ground := Go.Ground.phase }, { on := 4, ground := Go.Ground.phase }, { on := 5, ground := Go.Ground.phase }, { on := 6, ground := Go.Ground.phase }, { on := 7, ground := Go.Ground.phase }, { on := 8, ground := Go.Ground.phase }, { on := 9, ground := Go.Ground.phase }, { on := 10, ground := Go.Ground.phase }, { on := 11, ground := Go.Ground.phase }, { on := 12, ground := Go.Ground.phase }], guard := none }) rfl (fun K hK => ?_) ?_
                · have hbS := ((Below.refl w9.heap.size w9).alloc (Nat.le_refl _) (.cells #[.string ⟨(headT x).toArray⟩, .string ⟨(betwT x).toArray⟩, .string ⟨(endT x).toArray⟩] 98)).drew
                  have hc9 := Cells.new w9 [.string ⟨(headT x).toArray⟩, .string ⟨(betwT x).toArray⟩, .string ⟨(endT x).toArray⟩] 98
                  go_simp
                  refine hK.out _ _ ?_ (fun hHeld => ?_)
                  · (try dsimp only)
                    (first | exact HS _ hbA | exact HS _ hbS)
                  clear hK K
                  try simp only [Act.put]
                  refine wpAnyH_done (by kernel_rfl) ?_ _
                  have hR5 := hR9.on hbS
                  have hcq5 := (show Cells (w9.alloc (.cells #[.string ⟨(headT x).toArray⟩, .string ⟨(betwT x).toArray⟩, .string ⟨(endT x).toArray⟩] 98)).drew w.heap.size _ _ from (hbS.block _ hc9q.lt).trans hc9q)
                  have hcg5 : Cells (w9.alloc (.cells #[.string ⟨(headT x).toArray⟩, .string ⟨(betwT x).toArray⟩, .string ⟨(endT x).toArray⟩] 98)).drew w9.heap.size _ _ := hc9
                  have hog5 := own_old hR9 (Nat.le_refl _)
                  have hb6 : b < w9.heap.size := bl9
                  have HK5 := hide ((unhide HK9).next (unhide HO9) (KeptT.of hbS))
                  clear hbA hbd HS hHeld hc9 hbS x39 z19 z29 v0 v1 hR9 hc9q HK9 vl bl9
                  generalize (w9.alloc (.cells #[.string ⟨(headT x).toArray⟩, .string ⟨(betwT x).toArray⟩, .string ⟨(endT x).toArray⟩] 98)).drew = w5 at *
                  generalize w9.heap.size = g6 at *
                  have x3 := hcq5.cell 0
                  have y0 := hcg5.cell 0
                  go_wp2_with fail
                  clear x3 y0
                  refine (skip_any hR5 (headT x)).mono ?_
                  intro e w6 hsk
                  unfold SkipRet at hsk
                  rw [if_pos hxf2] at hsk
                  obtain ⟨rfl, nv6, hR6, hK6, hO6⟩ := hsk
                  have n3 : w.heap.size ∉ b :: ownT (.slice (some ⟨g8, 0, none⟩) (acc.length + 1) cap8) := fun hm => by rcases List.mem_cons.1 hm with e | e; omega; exact hoq9 e
                  have n6 : g6 ∉ b :: ownT (.slice (some ⟨g8, 0, none⟩) (acc.length + 1) cap8) := fun hm => by rcases List.mem_cons.1 hm with e | e; omega; exact hog5 e
                  have hcq6 := hK6.cells hcq5 n3
                  have hcg6 := hK6.cells hcg5 n6
                  have hws : w.heap.size ≤ w5.heap.size := (unhide HK5).1.1
                  have HK6 := hide ((unhide HK5).next (unhide HO9) hK6)
                  have HO6 := hide (fun g hg => by rcases hO6 g hg with e | e; exact (unhide HO9) g e; exact Or.inr (Nat.le_trans hws e) : ∀ g ∈ ownT nv6, g ∈ ownT (.slice na acc.length nc) ∨ w.heap.size ≤ g)
                  obtain ⟨hl1, hl2, hl3⟩ := head_len hxn
                  clear n3 n6 hcq5 hcg5 hog5 hoq9 hO6 hK6 HK5 hR5 hws
                  have x3 := hcq6.cell 0
                  have y0 := hcg6.cell 0
                  have y1 := hcg6.cell 1
                  have y2 := hcg6.cell 2
                  go_wp2_with fail
                  clear x3 y0 y1 y2
                  refine (phParts_any _ _ _ (by omega) _).mono ?_
                  rintro e w7 ⟨rfl, hb7⟩
                  have hR7 := hR6.on hb7
                  have HK7 := hide ((unhide HK6).next (unhide HO6) (KeptT.of hb7))
                  have hcq7 := (show Cells w7 w.heap.size _ _ from (hb7.block _ hcq6.lt).trans hcq6)
                  have hcg7 := (show Cells w7 g6 _ _ from (hb7.block _ hcg6.lt).trans hcg6)
                  clear hcq6 hcg6 HK6 hR6 hb7
                  by_cases hbt : betwT x = []
                  · have HP2 := hide (show readF (n + 1) s acc = some (s.drop (headT x).length, acc ++ [x]) by rw [unhide HP, if_pos hbt])
                    rw [show (betwT x != []) = false by rw [hbt]; rfl]
                    have HF := hide (show RdPost w w7 b m (.slice na acc.length nc) (s.drop (headT x).length) (acc ++ [x]) from ⟨nv6, hR7, unhide HK7, unhide HO6⟩)
                    clear hbt hcq7 hcg7 hR7 HP
                    go_wp2_with fail
                    go_end0
                    exact rd_some (unhide HP2) rfl (unhide HF)
                  · have HP2 := hide (show readF (n + 1) s acc = partsF n (s.drop (headT x).length) acc x by rw [unhide HP, if_neg hbt])
                    rw [show (betwT x != []) = true by simpa using hbt]
                    have x3 := hcq7.cell 0
                    have y0 := hcg7.cell 0
                    clear hbt HP
                    go_wp2_with fail
                    clear x3 y0
                    refine (partsOf_any n IH w7 b m (s.drop (headT x).length) acc x nv6 hR7 (by omega) (by omega)).mono ?_
                    intro e w8' hret
                    obtain ⟨r2, hr2⟩ : ∃ r, partsF n (s.drop (headT x).length) acc x = r := ⟨_, rfl⟩
                    rw [hr2] at hret
                    have HP3 := hide ((unhide HP2).trans hr2)
                    clear hr2 HP2 hcq7 hcg7 hR7
                    cases r2 with
                    | none =>
                      obtain ⟨rfl, hK8⟩ := hret
                      have HK := hide ((unhide HK7).next (unhide HO6) hK8)
                      clear hK8
                      unfold fell
                      go_wp2_with fail
                      exact ⟨rfl, rd_none (unhide HP3) rfl (unhide HK)⟩
                    | some p =>
                      obtain ⟨s4, acc4⟩ := p
                      obtain ⟨rfl, hp⟩ := hret
                      have HF := hide (RdPost.next (unhide HK7) (unhide HO6) hp)
                      clear hp
                      go_wp2_with fail
                      go_end0
                      exact rd_some (unhide HP3) rfl (unhide HF)
                exact AllReadyH.nil
              exact AllReadyH.nil
            exact AllReadyH.nil
          exact AllReadyH.nil
        exact AllReadyH.nil
      exact AllReadyH.nil
    exact AllReadyH.nil
end Go.Proofs.YtongajonecgdpagGreatDoor
