/- reader.find: the node that is found first, of those that fit. -/
import Derived.Test.YtongajonecgdpagGreatDoorReadA
import Derived.Deep.Upon
import Derived.Deep.DeepCutAuto
import Derived.Deep.CutBlock
import Derived.Deep.RegionHeld3
namespace Go.Proofs.YtongajonecgdpagGreatDoor
open Go.RowKit

def fits (f : NodeD → Bool) (i : Nat) : Bool := isN (nodeI i) && f (nodeI i)
theorem nodeI_at (k j : Nat) (hj : j < 3) : nodeI (3 * k + j) = ⟨(k : Int), (j : Int)⟩ := by
  have h1 : (3 * k + j) / 3 = k := by omega
  have h2 : (3 * k + j) % 3 = j := by omega
  simp only [nodeI, h1, h2]
theorem allN_at (i : Nat) (h : i < allN.length) : allN[i] = nodeI i := by simp [allN]
theorem findN_some {f : NodeD → Bool} {n : Nat} (hn : n < 27) (h : fits f n = true) (hno : ∀ i, i < n → fits f i = false) : findN f = some (nodeI n) := by
  unfold findN
  rw [List.find?_eq_some_iff_getElem]
  have hl : n < allN.length := by simpa [allN] using hn
  exact ⟨h, n, hl, allN_at n hl, fun j hj => by rw [allN_at]; have := hno j hj; unfold fits at this; rw [this]; rfl⟩
theorem findN_none {f : NodeD → Bool} (hno : ∀ i, i < 27 → fits f i = false) : findN f = none := by
  unfold findN
  rw [List.find?_eq_none]
  intro x hx
  obtain ⟨i, hi, rfl⟩ := List.mem_map.1 hx
  have := hno i (List.mem_range.1 hi)
  unfold fits at this
  rw [this]; simp
def fit1 (s : List UInt8) (x : NodeD) : Bool := (afterL s (headT x)).2
def fit2 (s hd : List UInt8) (x : NodeD) : Bool := headT x == hd && (afterL s (betwT x)).2
theorem ask1F_any (s : List UInt8) (x : NodeD) (q b : Nat) (w : World) (hq : q < w.heap.size ∧ w.cell? ⟨q, 0, none⟩ = some (.pointer (some ⟨b, 0, none⟩))) (hb : b < w.heap.size ∧ w.cell? ⟨b, 0, none⟩ = some (.string ⟨s.toArray⟩)) :
    Calls Tryz.prog 109 #[.agg #[.string ⟨(headT x).toArray⟩, .string ⟨(betwT x).toArray⟩, .string ⟨(endT x).toArray⟩], .pointer (some ⟨q, 0, none⟩)] w fun e w' => e = .returned (.bool (fit1 s x)) ∧ Below w.heap.size w w' := ask1_any s _ _ _ q b w hq hb
theorem ask2F_any (s hd : List UInt8) (x : NodeD) (q5 q3 b : Nat) (w : World) (h5 : q5 < w.heap.size ∧ w.cell? ⟨q5, 0, none⟩ = some (.string ⟨hd.toArray⟩)) (hq : q3 < w.heap.size ∧ w.cell? ⟨q3, 0, none⟩ = some (.pointer (some ⟨b, 0, none⟩))) (hb : b < w.heap.size ∧ w.cell? ⟨b, 0, none⟩ = some (.string ⟨s.toArray⟩)) :
    Calls Tryz.prog 132 #[.agg #[.string ⟨(headT x).toArray⟩, .string ⟨(betwT x).toArray⟩, .string ⟨(endT x).toArray⟩], .pointer (some ⟨q5, 0, none⟩), .pointer (some ⟨q3, 0, none⟩)] w fun e w' => e = .returned (.bool (fit2 s hd x)) ∧ Below w.heap.size w w' := ask2_any s _ hd _ _ q5 q3 b w h5 hq hb
theorem more_no {P : Nat → Bool} {n : Nat} (h : ∀ i, i < n → P i = false) (hn : P n = false) : ∀ i, i < n + 1 → P i = false := fun i hi => by
  rcases Nat.lt_or_ge i n with h1 | h1
  · exact h i h1
  · rw [show i = n by omega]; exact hn
def FindRet (w w' : World) (r : Option NodeD) (e : Ending) : Prop := (e = match r with | some x => .returned (.agg #[.int .i64 x.kind, .int .i64 x.sig]) | none => fell 1) ∧ Below w.heap.size w w'
theorem look_gen (m : Nat) (k j : Int) : ∃ a1 a2 a3 : List UInt8, (∀ w : World, PhrOf w m isN → (Instr.lookup 63 (.map (some m)) (.agg #[.int .i64 k, .int .i64 j]) true).run Tryz.prog w = .ok (.tuple #[.agg #[.string ⟨a1.toArray⟩, .string ⟨a2.toArray⟩, .string ⟨a3.toArray⟩], .bool (isN ⟨k, j⟩)]) w) ∧ (isN ⟨k, j⟩ = true → a1 = headT ⟨k, j⟩ ∧ a2 = betwT ⟨k, j⟩ ∧ a3 = endT ⟨k, j⟩) := by
  cases hn : isN ⟨k, j⟩
  · refine ⟨[], [], [], fun w h => ?_, fun e => by simp at e⟩
    have := look_node h ⟨k, j⟩ true
    rw [hn] at this
    exact this
  · refine ⟨_, _, _, fun w h => ?_, fun _ => ⟨rfl, rfl, rfl⟩⟩
    have := look_node h ⟨k, j⟩ true
    rw [hn] at this
    exact this
set_option maxRecDepth 100000 in
set_option maxHeartbeats 8000000 in
theorem find1_any {w : World} {b m : Nat} {s : List UInt8} {acc : List NodeD} {nv : Value} (h : RdAt w b m s acc nv) (q : Nat) (hq : q < w.heap.size ∧ w.cell? ⟨q, 0, none⟩ = some (.pointer (some ⟨b, 0, none⟩))) :
    Calls Tryz.prog 108 #[.pointer (some ⟨b, 0, none⟩), .func (.func 109) #[] #[.pointer (some ⟨q, 0, none⟩)]] w fun e w' => FindRet w w' (findN (fit1 s)) e := by
  have hb0 : Below w.heap.size w (w.alloc (.cells #[.int .i64 0, .int .i64 0] 93)) := (Below.refl _ _).alloc (Nat.le_refl _) _
  have hcR := Cells.new w [.int .i64 0, .int .i64 0] 93
  have hsz : (w.alloc (.cells #[.int .i64 0, .int .i64 0] 93)).heap.size = w.heap.size + 1 := by simp
  have h1 := h.on hb0
  have hq1 : q < (w.alloc (.cells #[.int .i64 0, .int .i64 0] 93)).heap.size ∧ (w.alloc (.cells #[.int .i64 0, .int .i64 0] 93)).cell? ⟨q, 0, none⟩ = some (.pointer (some ⟨b, 0, none⟩)) := ⟨by rw [hsz]; omega, (hb0.cell (p := ⟨q, 0, none⟩) hq.1).trans hq.2⟩
  go_enter Tryz.func108, Tryz.ntmps108
  go_wp2_with fail
  generalize hw1 : w.alloc (.cells #[.int .i64 0, .int .i64 0] 93) = w1 at *
  clear hw1 h hsz
  go_loopw [10] (fun iv wr => ∃ k : Nat, k ≤ 9 ∧ iv = .int .i64 k ∧ (∀ i, i < 3 * k → fits (fit1 s) i = false) ∧ Below w1.heap.size w1 wr) (fun iv _ => 9 - (intOf iv).toNat)
  case atStart => exact ⟨0, by omega, rfl, fun i hi => by omega, Below.refl _ _⟩
  case round =>
    obtain ⟨k, hk, rfl, hno, hbel⟩ := hrel
    have HNO := hide hno
    clear hno
    by_cases hlt : k < 9
    · have hki : (k : Int) < 9 := by omega
      go_wp2_with fail
      go_loopw [13] (fun jv wz => ∃ j : Nat, j ≤ 3 ∧ jv = .int .i64 j ∧ (∀ i, i < 3 * k + j → fits (fit1 s) i = false) ∧ Below w1.heap.size w1 wz) (fun jv _ => 3 - (intOf jv).toNat)
      case atStart => exact ⟨0, by omega, rfl, unhide HNO, hbel⟩
      case round =>
        rename World => w2x
        obtain ⟨j, hj, rfl, hno, hbz⟩ := hrel
        have HNO := hide hno
        clear hno hbel
        by_cases hlj : j < 3
        · have hji : (j : Int) < 3 := by omega
          have hx := nodeI_at k j hlj
          have HF := hide (show fits (fit1 s) (3 * k + j) = (isN ⟨(k : Int), (j : Int)⟩ && (fit1 s) ⟨(k : Int), (j : Int)⟩) by unfold fits; rw [hx])
          have HX := hide hx
          have HLJ := hide hlj
          have hRz := h1.on hbz
          have hb3 := (Below.refl w2x.heap.size w2x).alloc (Nat.le_refl _) (.cells #[.int .i64 (k : Int), .int .i64 (j : Int)] 93)
          obtain ⟨y1, y2, y0⟩ := pairT w2x (.int .i64 (k : Int)) (.int .i64 (j : Int)) 93
          have hR3 := hRz.on hb3
          have B3 := bstep hbz hb3
          obtain ⟨a1, a2, a3, hLK, hA⟩ := look_gen m (k : Int) (j : Int)
          have HLK := hide hLK
          have HA := hide hA
          clear hx hRz hbz hb3 hLK hA
          go_upto_region 8 with fail
          generalize w2x.alloc (.cells #[.int .i64 (k : Int), .int .i64 (j : Int)] 93) = w3 at *
          generalize w2x.heap.size = g at *
          obtain ⟨qn, hqn⟩ : ∃ qn, isN ⟨(k : Int), (j : Int)⟩ = qn := ⟨_, rfl⟩
          rw [hqn] at HF HA
          simp only [hqn] at HLK
          clear hqn
          have z2 := hR3.box.cell 2
          have zl := hR3.box.lt
          have HS : ∀ W, Below w3.heap.size w3 W → PhrOf W m isN ∧ W.cell? ⟨b, 2, none⟩ = some (.map (some m)) ∧ W.cell? ⟨g, 0, none⟩ = some (.int .i64 (k : Int)) ∧ W.cell? ⟨g, 1, none⟩ = some (.int .i64 (j : Int)) := fun W hW =>
            ⟨hR3.phr.same (hW.block _ hR3.phr.lt), (hW.cell (p := ⟨b, 2, none⟩) zl).trans z2, (hW.cell (p := ⟨g, 0, none⟩) y0).trans y1, (hW.cell (p := ⟨g, 1, none⟩) y0).trans y2⟩
          have hbd : Below w3.heap.size w3 w3.drew := (Below.refl _ _).drew
          refine wp_region_held_drew (S := fun W => PhrOf W m isN ∧ W.cell? ⟨b, 2, none⟩ = some (.map (some m)) ∧ W.cell? ⟨g, 0, none⟩ = some (.int .i64 (k : Int)) ∧ W.cell? ⟨g, 1, none⟩ = some (.int .i64 (j : Int))) (by kernel_rfl) ?_ (fun hHeld => ?_)
          · exact HS _ hbd
          refine wpAnyH_take (i := 0) (oi := { dst := some 20, op := Go.Op.move (Go.Operand.tmp 0), type := 143, pos := "read.go:63", after := #[], guard := none }) (v := ?_) rfl (by kernel_rfl) (by kernel_rfl) (by kernel_rfl) (fun _ _ _ h => h) (Or.inl ⟨by rfl, ?_⟩) (by assumption) ?_
          rotate_left
          · intro w hSw; (try dsimp only at hSw); go_simp; (try (with_reducible rfl))
          try simp only [Act.put, List.setIfInBounds_toArray, List.set_cons_zero, List.set_cons_succ]
          refine wpAnyH_take (i := 1) (oi := { dst := some 21, op := Go.Op.nilCheck (Go.Operand.tmp 20), type := 0, pos := "read.go:63", after := #[{ on := 0, ground := Go.Ground.data }], guard := none }) (v := ?_) rfl (by kernel_rfl) (by kernel_rfl) (by kernel_rfl) (fun _ _ _ h => h) (Or.inl ⟨by rfl, ?_⟩) (by assumption) ?_
          rotate_left
          · intro w hSw; (try dsimp only at hSw); go_simp; (try (with_reducible rfl))
          try simp only [Act.put, List.setIfInBounds_toArray, List.set_cons_zero, List.set_cons_succ]
          refine wpAnyH_take (i := 2) (oi := { dst := some 22, op := Go.Op.fieldAddr 117 (Go.Operand.tmp 21) 2, type := 0, pos := "read.go:63", after := #[{ on := 1, ground := Go.Ground.data }], guard := none }) (v := ?_) rfl (by kernel_rfl) (by kernel_rfl) (by kernel_rfl) (fun _ _ _ h => h) (Or.inl ⟨by rfl, ?_⟩) (by assumption) ?_
          rotate_left
          · intro w hSw; (try dsimp only at hSw); go_simp; (try (with_reducible rfl))
          try simp only [Act.put, List.setIfInBounds_toArray, List.set_cons_zero, List.set_cons_succ]
          refine wpAnyH_take (i := 3) (oi := { dst := some 23, op := Go.Op.load 63 (Go.Operand.tmp 22), type := 63, pos := "read.go:63", after := #[{ on := 2, ground := Go.Ground.data }], guard := none }) (v := ?_) rfl (by kernel_rfl) (by kernel_rfl) (by kernel_rfl) (fun _ _ _ h => h) (Or.inl ⟨by rfl, ?_⟩) (by assumption) ?_
          rotate_left
          · intro w hSw; (try dsimp only at hSw); go_simp; (try (with_reducible rfl))
          try simp only [Act.put, List.setIfInBounds_toArray, List.set_cons_zero, List.set_cons_succ]
          refine wpAnyH_take (i := 4) (oi := { dst := some 24, op := Go.Op.load 93 (Go.Operand.tmp 7), type := 93, pos := "read.go:63", after := #[], guard := none }) (v := ?_) rfl (by kernel_rfl) (by kernel_rfl) (by kernel_rfl) (fun _ _ _ h => h) (Or.inl ⟨by rfl, ?_⟩) (by assumption) ?_
          rotate_left
          · intro w hSw; (try dsimp only at hSw); go_simp; (try (with_reducible rfl))
          try simp only [Act.put, List.setIfInBounds_toArray, List.set_cons_zero, List.set_cons_succ]
          refine wpAnyH_take (i := 5) (oi := { dst := some 25, op := Go.Op.lookup 63 (Go.Operand.tmp 23) (Go.Operand.tmp 24) true, type := 164, pos := "read.go:63", after := #[{ on := 3, ground := Go.Ground.data }, { on := 4, ground := Go.Ground.data }], guard := none }) (v := ?_) rfl (by kernel_rfl) (by kernel_rfl) (by kernel_rfl) (fun _ _ _ h => h) (Or.inl ⟨by rfl, ?_⟩) (by assumption) ?_
          rotate_left
          · intro w hSw; (try dsimp only at hSw); have hLK := unhide HLK _ hSw.1; go_simp; (try (with_reducible rfl))
          try simp only [Act.put, List.setIfInBounds_toArray, List.set_cons_zero, List.set_cons_succ]
          refine wpAnyH_take (i := 6) (oi := { dst := some 19, op := Go.Op.move (Go.Operand.tmp 25), type := 164, pos := "read.go:63", after := #[{ on := 5, ground := Go.Ground.data }], guard := none }) (v := ?_) rfl (by kernel_rfl) (by kernel_rfl) (by kernel_rfl) (fun _ _ _ h => h) (Or.inl ⟨by rfl, ?_⟩) (by assumption) ?_
          rotate_left
          · intro w hSw; (try dsimp only at hSw); go_simp; (try (with_reducible rfl))
          try simp only [Act.put, List.setIfInBounds_toArray, List.set_cons_zero, List.set_cons_succ]
          refine wpAnyH_take (i := 7) (oi := { dst := some 26, op := Go.Op.extract (Go.Operand.tmp 19) 0, type := 98, pos := "read.go:63", after := #[{ on := 6, ground := Go.Ground.data }], guard := none }) (v := ?_) rfl (by kernel_rfl) (by kernel_rfl) (by kernel_rfl) (fun _ _ _ h => h) (Or.inl ⟨by rfl, ?_⟩) (by assumption) ?_
          rotate_left
          · intro w hSw; (try dsimp only at hSw); go_simp; (try (with_reducible rfl))
          try simp only [Act.put, List.setIfInBounds_toArray, List.set_cons_zero, List.set_cons_succ]
          refine wpAnyH_take (i := 8) (oi := { dst := some 27, op := Go.Op.extract (Go.Operand.tmp 19) 1, type := 4, pos := "read.go:63", after := #[{ on := 6, ground := Go.Ground.data }, { on := 10, ground := Go.Ground.gcOnly Go.Departure.lateStores }], guard := none }) (v := ?_) rfl (by kernel_rfl) (by kernel_rfl) (by kernel_rfl) (fun _ _ _ h => h) (Or.inl ⟨by rfl, ?_⟩) (by assumption) ?_
          rotate_left
          · intro w hSw; (try dsimp only at hSw); go_simp; (try (with_reducible rfl))
          try simp only [Act.put, List.setIfInBounds_toArray, List.set_cons_zero, List.set_cons_succ]
          refine wpAnyH_ready (rs := [9]) (by kernel_rfl) (by simp) ?_
          refine AllReadyH.cons (o := { dst := some 8, op := Go.Op.alloc 98, type := 0, pos := "read.go:63", after := #[], guard := none }) rfl (fun K hK => ?_) ?_
          · have hbA := hbd.alloc hbd.size (.cells #[.string ⟨#[]⟩, .string ⟨#[]⟩, .string ⟨#[]⟩] 98)
            go_simp
            refine hK.out _ _ ?_ (fun hHeld => ?_)
            · (try dsimp only)
              (first | exact HS _ hbA | exact HS _ hbS)
            clear hK K
            try simp only [Act.put, List.setIfInBounds_toArray, List.set_cons_zero, List.set_cons_succ]
            refine wpAnyH_ready (rs := [10]) (by kernel_rfl) (by simp) ?_
            refine AllReadyH.cons (o := { dst := none, op := Go.Op.store 98 (Go.Operand.tmp 8) (Go.Operand.tmp 26), type := 0, pos := "read.go:63", after := #[{ on := 9, ground := Go.Ground.data }, { on := 7, ground := Go.Ground.data }, { on := 0, ground := Go.Ground.phase }, { on := 1, ground := Go.Ground.phase }, { on := 2, ground := Go.Ground.phase }, { on := 3, ground := Go.Ground.phase }, { on := 4, ground := Go.Ground.phase }, { on := 5, ground := Go.Ground.phase }, { on := 6, ground := Go.Ground.phase }, { on := 7, ground := Go.Ground.phase }, { on := 8, ground := Go.Ground.textOnly Go.Departure.lateStores }, { on := 9, ground := Go.Ground.phase }], guard := none }) rfl (fun K hK => ?_) ?_
            · have hbS := ((Below.refl w3.heap.size w3).alloc (Nat.le_refl _) (.cells #[.string ⟨a1.toArray⟩, .string ⟨a2.toArray⟩, .string ⟨a3.toArray⟩] 98)).drew
              have hc9 := Cells.new w3 [.string ⟨a1.toArray⟩, .string ⟨a2.toArray⟩, .string ⟨a3.toArray⟩] 98
              go_simp
              refine hK.out _ _ ?_ (fun hHeld => ?_)
              · (try dsimp only)
                (first | exact HS _ hbA | exact HS _ hbS)
              clear hK K
              try simp only [Act.put, List.setIfInBounds_toArray, List.set_cons_zero, List.set_cons_succ]
              refine wpAnyH_ready (rs := [11]) (by kernel_rfl) (by simp) ?_
              refine AllReadyH.cons (o := { dst := some 9, op := Go.Op.assign (Go.Operand.tmp 27), type := 4, pos := "read.go:63", after := #[{ on := 8, ground := Go.Ground.data }, { on := 10, ground := Go.Ground.chain }, { on := 0, ground := Go.Ground.phase }, { on := 1, ground := Go.Ground.phase }, { on := 2, ground := Go.Ground.phase }, { on := 3, ground := Go.Ground.phase }, { on := 4, ground := Go.Ground.phase }, { on := 5, ground := Go.Ground.phase }, { on := 6, ground := Go.Ground.phase }, { on := 7, ground := Go.Ground.phase }, { on := 8, ground := Go.Ground.phase }, { on := 9, ground := Go.Ground.phase }, { on := 10, ground := Go.Ground.phase }], guard := none }) rfl (fun K hK => ?_) ?_
              · go_simp
                refine hK.out _ _ ?_ (fun hHeld => ?_)
                · (try dsimp only)
                  (first | exact HS _ hbA | exact HS _ hbS)
                clear hK K
                try simp only [Act.put]
                refine wpAnyH_done (by kernel_rfl) ?_ _
                have hR4 := hR3.on hbS
                obtain ⟨_, _, g0, g1⟩ := HS _ hbS
                have gl := Nat.lt_of_lt_of_le y0 hbS.size
                have B4 := bstep B3 hbS
                have hc4 : Cells (w3.alloc (.cells #[.string ⟨a1.toArray⟩, .string ⟨a2.toArray⟩, .string ⟨a3.toArray⟩] 98)).drew w3.heap.size _ _ := hc9
                clear hbA hbd HS hR3 hHeld hc9 hbS y0 y1 y2 z2 zl B3
                generalize (w3.alloc (.cells #[.string ⟨a1.toArray⟩, .string ⟨a2.toArray⟩, .string ⟨a3.toArray⟩] 98)).drew = w4 at *
                generalize w3.heap.size = g2 at *
                cases qn
                · have HN := hide (show fits (fit1 s) (3 * k + j) = false by rw [unhide HF]; rfl)
                  clear HF
                  go_wp2_with fail
                  exact ⟨⟨j + 1, by omega, by go_num, more_no (unhide HNO) (unhide HN), B4⟩, by simp [intOf]; omega⟩
                · have x0 := hc4.cell 0
                  have x1 := hc4.cell 1
                  have x2 := hc4.cell 2
                  obtain ⟨rfl, rfl, rfl⟩ := unhide HA rfl
                  have HF2 := hide (show fits (fit1 s) (3 * k + j) = (fit1 s) ⟨(k : Int), (j : Int)⟩ by rw [unhide HF]; rfl)
                  have hq4 : q < w4.heap.size ∧ w4.cell? ⟨q, 0, none⟩ = some (.pointer (some ⟨b, 0, none⟩)) := ⟨Nat.lt_of_lt_of_le hq1.1 B4.size, (B4.cell (p := ⟨q, 0, none⟩) hq1.1).trans hq1.2⟩
                  clear HF
                  go_wp2_with fail
                  refine (ask1F_any s _ q b _ hq4 ⟨hR4.box.lt, hR4.box.cell 0⟩).mono ?_
                  rintro e w5 ⟨rfl, hb5⟩
                  have B5 := bstep B4 hb5
                  have gl5 := Nat.lt_of_lt_of_le gl hb5.size
                  have g05 := (hb5.cell (p := ⟨g, 0, none⟩) gl).trans g0
                  have g15 := (hb5.cell (p := ⟨g, 1, none⟩) gl).trans g1
                  clear x0 x1 x2 hb5 B4 gl g0 g1 hc4 hR4
                  obtain ⟨fb, hfb⟩ : ∃ fb, (fit1 s) ⟨(k : Int), (j : Int)⟩ = fb := ⟨_, rfl⟩
                  rw [hfb] at HF2
                  rw [hfb]
                  clear hfb
                  cases fb
                  · go_wp2_with fail
                    exact ⟨⟨j + 1, by omega, by go_num, more_no (unhide HNO) (unhide HF2), B5⟩, by simp [intOf]; omega⟩
                  · have hc5 := (show Cells w5 w.heap.size _ _ from (B5.block _ hcR.lt).trans hcR)
                    have r0 := hc5.cell 0
                    have r1 := hc5.cell 1
                    have e0 := hc5.frozen 0
                    have e1 := hc5.frozen 1
                    have rl := hc5.lt
                    have hc6 := (hc5.set 0 (.int .i64 (k : Int))).set 1 (.int .i64 (j : Int))
                    have v0 := hc6.cell 0
                    have v1 := hc6.cell 1
                    have B6 := ((bstep hb0 B5).setCell (p := ⟨w.heap.size, 0, none⟩) (Nat.le_refl _) (.int .i64 (k : Int))).setCell (p := ⟨w.heap.size, 1, none⟩) (Nat.le_refl _) (.int .i64 (j : Int))
                    go_wp2_with fail
                    exact bodyPost_ret (v := .agg #[.int .i64 (k : Int), .int .i64 (j : Int)]) (by simp [results, Tryz.results108, go_sem, v0, v1]) rfl ⟨by rw [findN_some (by have := unhide HLJ; omega) (unhide HF2) (unhide HNO), unhide HX], B6⟩
              exact AllReadyH.nil
            exact AllReadyH.nil
          exact AllReadyH.nil
        · have hj3 : j = 3 := by omega
          subst hj3
          go_wp2_with fail
          exact ⟨⟨k + 1, by omega, by go_num, fun i hi => unhide HNO i (by omega), hbz⟩, by simp [intOf]; omega⟩
    · go_wp2_with fail
      exact ⟨rfl, by rw [findN_none (fun i hi => unhide HNO i (by omega))]; rfl, bstep hb0 hbel⟩

set_option maxRecDepth 100000 in
set_option maxHeartbeats 8000000 in
theorem find2_any {w : World} {b m : Nat} {s : List UInt8} {acc : List NodeD} {nv : Value} (h : RdAt w b m s acc nv) (hd : List UInt8) (q5 q3 : Nat) (h5 : q5 < w.heap.size ∧ w.cell? ⟨q5, 0, none⟩ = some (.string ⟨hd.toArray⟩)) (hq : q3 < w.heap.size ∧ w.cell? ⟨q3, 0, none⟩ = some (.pointer (some ⟨b, 0, none⟩))) :
    Calls Tryz.prog 108 #[.pointer (some ⟨b, 0, none⟩), .func (.func 132) #[] #[.pointer (some ⟨q5, 0, none⟩), .pointer (some ⟨q3, 0, none⟩)]] w fun e w' => FindRet w w' (findN (fit2 s hd)) e := by
  have hb0 : Below w.heap.size w (w.alloc (.cells #[.int .i64 0, .int .i64 0] 93)) := (Below.refl _ _).alloc (Nat.le_refl _) _
  have hcR := Cells.new w [.int .i64 0, .int .i64 0] 93
  have hsz : (w.alloc (.cells #[.int .i64 0, .int .i64 0] 93)).heap.size = w.heap.size + 1 := by simp
  have h1 := h.on hb0
  have hq1 : q3 < (w.alloc (.cells #[.int .i64 0, .int .i64 0] 93)).heap.size ∧ (w.alloc (.cells #[.int .i64 0, .int .i64 0] 93)).cell? ⟨q3, 0, none⟩ = some (.pointer (some ⟨b, 0, none⟩)) := ⟨by rw [hsz]; omega, (hb0.cell (p := ⟨q3, 0, none⟩) hq.1).trans hq.2⟩
  have hp1 : q5 < (w.alloc (.cells #[.int .i64 0, .int .i64 0] 93)).heap.size ∧ (w.alloc (.cells #[.int .i64 0, .int .i64 0] 93)).cell? ⟨q5, 0, none⟩ = some (.string ⟨hd.toArray⟩) := ⟨by rw [hsz]; omega, (hb0.cell (p := ⟨q5, 0, none⟩) h5.1).trans h5.2⟩
  go_enter Tryz.func108, Tryz.ntmps108
  go_wp2_with fail
  generalize hw1 : w.alloc (.cells #[.int .i64 0, .int .i64 0] 93) = w1 at *
  clear hw1 h hsz
  go_loopw [10] (fun iv wr => ∃ k : Nat, k ≤ 9 ∧ iv = .int .i64 k ∧ (∀ i, i < 3 * k → fits (fit2 s hd) i = false) ∧ Below w1.heap.size w1 wr) (fun iv _ => 9 - (intOf iv).toNat)
  case atStart => exact ⟨0, by omega, rfl, fun i hi => by omega, Below.refl _ _⟩
  case round =>
    obtain ⟨k, hk, rfl, hno, hbel⟩ := hrel
    have HNO := hide hno
    clear hno
    by_cases hlt : k < 9
    · have hki : (k : Int) < 9 := by omega
      go_wp2_with fail
      go_loopw [13] (fun jv wz => ∃ j : Nat, j ≤ 3 ∧ jv = .int .i64 j ∧ (∀ i, i < 3 * k + j → fits (fit2 s hd) i = false) ∧ Below w1.heap.size w1 wz) (fun jv _ => 3 - (intOf jv).toNat)
      case atStart => exact ⟨0, by omega, rfl, unhide HNO, hbel⟩
      case round =>
        rename World => w2x
        obtain ⟨j, hj, rfl, hno, hbz⟩ := hrel
        have HNO := hide hno
        clear hno hbel
        by_cases hlj : j < 3
        · have hji : (j : Int) < 3 := by omega
          have hx := nodeI_at k j hlj
          have HF := hide (show fits (fit2 s hd) (3 * k + j) = (isN ⟨(k : Int), (j : Int)⟩ && (fit2 s hd) ⟨(k : Int), (j : Int)⟩) by unfold fits; rw [hx])
          have HX := hide hx
          have HLJ := hide hlj
          have hRz := h1.on hbz
          have hb3 := (Below.refl w2x.heap.size w2x).alloc (Nat.le_refl _) (.cells #[.int .i64 (k : Int), .int .i64 (j : Int)] 93)
          obtain ⟨y1, y2, y0⟩ := pairT w2x (.int .i64 (k : Int)) (.int .i64 (j : Int)) 93
          have hR3 := hRz.on hb3
          have B3 := bstep hbz hb3
          obtain ⟨a1, a2, a3, hLK, hA⟩ := look_gen m (k : Int) (j : Int)
          have HLK := hide hLK
          have HA := hide hA
          clear hx hRz hbz hb3 hLK hA
          go_upto_region 8 with fail
          generalize w2x.alloc (.cells #[.int .i64 (k : Int), .int .i64 (j : Int)] 93) = w3 at *
          generalize w2x.heap.size = g at *
          obtain ⟨qn, hqn⟩ : ∃ qn, isN ⟨(k : Int), (j : Int)⟩ = qn := ⟨_, rfl⟩
          rw [hqn] at HF HA
          simp only [hqn] at HLK
          clear hqn
          have z2 := hR3.box.cell 2
          have zl := hR3.box.lt
          have HS : ∀ W, Below w3.heap.size w3 W → PhrOf W m isN ∧ W.cell? ⟨b, 2, none⟩ = some (.map (some m)) ∧ W.cell? ⟨g, 0, none⟩ = some (.int .i64 (k : Int)) ∧ W.cell? ⟨g, 1, none⟩ = some (.int .i64 (j : Int)) := fun W hW =>
            ⟨hR3.phr.same (hW.block _ hR3.phr.lt), (hW.cell (p := ⟨b, 2, none⟩) zl).trans z2, (hW.cell (p := ⟨g, 0, none⟩) y0).trans y1, (hW.cell (p := ⟨g, 1, none⟩) y0).trans y2⟩
          have hbd : Below w3.heap.size w3 w3.drew := (Below.refl _ _).drew
          refine wp_region_held_drew (S := fun W => PhrOf W m isN ∧ W.cell? ⟨b, 2, none⟩ = some (.map (some m)) ∧ W.cell? ⟨g, 0, none⟩ = some (.int .i64 (k : Int)) ∧ W.cell? ⟨g, 1, none⟩ = some (.int .i64 (j : Int))) (by kernel_rfl) ?_ (fun hHeld => ?_)
          · exact HS _ hbd
          refine wpAnyH_take (i := 0) (oi := { dst := some 20, op := Go.Op.move (Go.Operand.tmp 0), type := 143, pos := "read.go:63", after := #[], guard := none }) (v := ?_) rfl (by kernel_rfl) (by kernel_rfl) (by kernel_rfl) (fun _ _ _ h => h) (Or.inl ⟨by rfl, ?_⟩) (by assumption) ?_
          rotate_left
          · intro w hSw; (try dsimp only at hSw); go_simp; (try (with_reducible rfl))
          try simp only [Act.put, List.setIfInBounds_toArray, List.set_cons_zero, List.set_cons_succ]
          refine wpAnyH_take (i := 1) (oi := { dst := some 21, op := Go.Op.nilCheck (Go.Operand.tmp 20), type := 0, pos := "read.go:63", after := #[{ on := 0, ground := Go.Ground.data }], guard := none }) (v := ?_) rfl (by kernel_rfl) (by kernel_rfl) (by kernel_rfl) (fun _ _ _ h => h) (Or.inl ⟨by rfl, ?_⟩) (by assumption) ?_
          rotate_left
          · intro w hSw; (try dsimp only at hSw); go_simp; (try (with_reducible rfl))
          try simp only [Act.put, List.setIfInBounds_toArray, List.set_cons_zero, List.set_cons_succ]
          refine wpAnyH_take (i := 2) (oi := { dst := some 22, op := Go.Op.fieldAddr 117 (Go.Operand.tmp 21) 2, type := 0, pos := "read.go:63", after := #[{ on := 1, ground := Go.Ground.data }], guard := none }) (v := ?_) rfl (by kernel_rfl) (by kernel_rfl) (by kernel_rfl) (fun _ _ _ h => h) (Or.inl ⟨by rfl, ?_⟩) (by assumption) ?_
          rotate_left
          · intro w hSw; (try dsimp only at hSw); go_simp; (try (with_reducible rfl))
          try simp only [Act.put, List.setIfInBounds_toArray, List.set_cons_zero, List.set_cons_succ]
          refine wpAnyH_take (i := 3) (oi := { dst := some 23, op := Go.Op.load 63 (Go.Operand.tmp 22), type := 63, pos := "read.go:63", after := #[{ on := 2, ground := Go.Ground.data }], guard := none }) (v := ?_) rfl (by kernel_rfl) (by kernel_rfl) (by kernel_rfl) (fun _ _ _ h => h) (Or.inl ⟨by rfl, ?_⟩) (by assumption) ?_
          rotate_left
          · intro w hSw; (try dsimp only at hSw); go_simp; (try (with_reducible rfl))
          try simp only [Act.put, List.setIfInBounds_toArray, List.set_cons_zero, List.set_cons_succ]
          refine wpAnyH_take (i := 4) (oi := { dst := some 24, op := Go.Op.load 93 (Go.Operand.tmp 7), type := 93, pos := "read.go:63", after := #[], guard := none }) (v := ?_) rfl (by kernel_rfl) (by kernel_rfl) (by kernel_rfl) (fun _ _ _ h => h) (Or.inl ⟨by rfl, ?_⟩) (by assumption) ?_
          rotate_left
          · intro w hSw; (try dsimp only at hSw); go_simp; (try (with_reducible rfl))
          try simp only [Act.put, List.setIfInBounds_toArray, List.set_cons_zero, List.set_cons_succ]
          refine wpAnyH_take (i := 5) (oi := { dst := some 25, op := Go.Op.lookup 63 (Go.Operand.tmp 23) (Go.Operand.tmp 24) true, type := 164, pos := "read.go:63", after := #[{ on := 3, ground := Go.Ground.data }, { on := 4, ground := Go.Ground.data }], guard := none }) (v := ?_) rfl (by kernel_rfl) (by kernel_rfl) (by kernel_rfl) (fun _ _ _ h => h) (Or.inl ⟨by rfl, ?_⟩) (by assumption) ?_
          rotate_left
          · intro w hSw; (try dsimp only at hSw); have hLK := unhide HLK _ hSw.1; go_simp; (try (with_reducible rfl))
          try simp only [Act.put, List.setIfInBounds_toArray, List.set_cons_zero, List.set_cons_succ]
          refine wpAnyH_take (i := 6) (oi := { dst := some 19, op := Go.Op.move (Go.Operand.tmp 25), type := 164, pos := "read.go:63", after := #[{ on := 5, ground := Go.Ground.data }], guard := none }) (v := ?_) rfl (by kernel_rfl) (by kernel_rfl) (by kernel_rfl) (fun _ _ _ h => h) (Or.inl ⟨by rfl, ?_⟩) (by assumption) ?_
          rotate_left
          · intro w hSw; (try dsimp only at hSw); go_simp; (try (with_reducible rfl))
          try simp only [Act.put, List.setIfInBounds_toArray, List.set_cons_zero, List.set_cons_succ]
          refine wpAnyH_take (i := 7) (oi := { dst := some 26, op := Go.Op.extract (Go.Operand.tmp 19) 0, type := 98, pos := "read.go:63", after := #[{ on := 6, ground := Go.Ground.data }], guard := none }) (v := ?_) rfl (by kernel_rfl) (by kernel_rfl) (by kernel_rfl) (fun _ _ _ h => h) (Or.inl ⟨by rfl, ?_⟩) (by assumption) ?_
          rotate_left
          · intro w hSw; (try dsimp only at hSw); go_simp; (try (with_reducible rfl))
          try simp only [Act.put, List.setIfInBounds_toArray, List.set_cons_zero, List.set_cons_succ]
          refine wpAnyH_take (i := 8) (oi := { dst := some 27, op := Go.Op.extract (Go.Operand.tmp 19) 1, type := 4, pos := "read.go:63", after := #[{ on := 6, ground := Go.Ground.data }, { on := 10, ground := Go.Ground.gcOnly Go.Departure.lateStores }], guard := none }) (v := ?_) rfl (by kernel_rfl) (by kernel_rfl) (by kernel_rfl) (fun _ _ _ h => h) (Or.inl ⟨by rfl, ?_⟩) (by assumption) ?_
          rotate_left
          · intro w hSw; (try dsimp only at hSw); go_simp; (try (with_reducible rfl))
          try simp only [Act.put, List.setIfInBounds_toArray, List.set_cons_zero, List.set_cons_succ]
          refine wpAnyH_ready (rs := [9]) (by kernel_rfl) (by simp) ?_
          refine AllReadyH.cons (o := { dst := some 8, op := Go.Op.alloc 98, type := 0, pos := "read.go:63", after := #[], guard := none }) rfl (fun K hK => ?_) ?_
          · have hbA := hbd.alloc hbd.size (.cells #[.string ⟨#[]⟩, .string ⟨#[]⟩, .string ⟨#[]⟩] 98)
            go_simp
            refine hK.out _ _ ?_ (fun hHeld => ?_)
            · (try dsimp only)
              (first | exact HS _ hbA | exact HS _ hbS)
            clear hK K
            try simp only [Act.put, List.setIfInBounds_toArray, List.set_cons_zero, List.set_cons_succ]
            refine wpAnyH_ready (rs := [10]) (by kernel_rfl) (by simp) ?_
            refine AllReadyH.cons (o := { dst := none, op := Go.Op.store 98 (Go.Operand.tmp 8) (Go.Operand.tmp 26), type := 0, pos := "read.go:63", after := #[{ on := 9, ground := Go.Ground.data }, { on := 7, ground := Go.Ground.data }, { on := 0, ground := Go.Ground.phase }, { on := 1, ground := Go.Ground.phase }, { on := 2, ground := Go.Ground.phase }, { on := 3, ground := Go.Ground.phase }, { on := 4, ground := Go.Ground.phase }, { on := 5, ground := Go.Ground.phase }, { on := 6, ground := Go.Ground.phase }, { on := 7, ground := Go.Ground.phase }, { on := 8, ground := Go.Ground.textOnly Go.Departure.lateStores }, { on := 9, ground := Go.Ground.phase }], guard := none }) rfl (fun K hK => ?_) ?_
            · have hbS := ((Below.refl w3.heap.size w3).alloc (Nat.le_refl _) (.cells #[.string ⟨a1.toArray⟩, .string ⟨a2.toArray⟩, .string ⟨a3.toArray⟩] 98)).drew
              have hc9 := Cells.new w3 [.string ⟨a1.toArray⟩, .string ⟨a2.toArray⟩, .string ⟨a3.toArray⟩] 98
              go_simp
              refine hK.out _ _ ?_ (fun hHeld => ?_)
              · (try dsimp only)
                (first | exact HS _ hbA | exact HS _ hbS)
              clear hK K
              try simp only [Act.put, List.setIfInBounds_toArray, List.set_cons_zero, List.set_cons_succ]
              refine wpAnyH_ready (rs := [11]) (by kernel_rfl) (by simp) ?_
              refine AllReadyH.cons (o := { dst := some 9, op := Go.Op.assign (Go.Operand.tmp 27), type := 4, pos := "read.go:63", after := #[{ on := 8, ground := Go.Ground.data }, { on := 10, ground := Go.Ground.chain }, { on := 0, ground := Go.Ground.phase }, { on := 1, ground := Go.Ground.phase }, { on := 2, ground := Go.Ground.phase }, { on := 3, ground := Go.Ground.phase }, { on := 4, ground := Go.Ground.phase }, { on := 5, ground := Go.Ground.phase }, { on := 6, ground := Go.Ground.phase }, { on := 7, ground := Go.Ground.phase }, { on := 8, ground := Go.Ground.phase }, { on := 9, ground := Go.Ground.phase }, { on := 10, ground := Go.Ground.phase }], guard := none }) rfl (fun K hK => ?_) ?_
              · go_simp
                refine hK.out _ _ ?_ (fun hHeld => ?_)
                · (try dsimp only)
                  (first | exact HS _ hbA | exact HS _ hbS)
                clear hK K
                try simp only [Act.put]
                refine wpAnyH_done (by kernel_rfl) ?_ _
                have hR4 := hR3.on hbS
                obtain ⟨_, _, g0, g1⟩ := HS _ hbS
                have gl := Nat.lt_of_lt_of_le y0 hbS.size
                have B4 := bstep B3 hbS
                have hc4 : Cells (w3.alloc (.cells #[.string ⟨a1.toArray⟩, .string ⟨a2.toArray⟩, .string ⟨a3.toArray⟩] 98)).drew w3.heap.size _ _ := hc9
                clear hbA hbd HS hR3 hHeld hc9 hbS y0 y1 y2 z2 zl B3
                generalize (w3.alloc (.cells #[.string ⟨a1.toArray⟩, .string ⟨a2.toArray⟩, .string ⟨a3.toArray⟩] 98)).drew = w4 at *
                generalize w3.heap.size = g2 at *
                cases qn
                · have HN := hide (show fits (fit2 s hd) (3 * k + j) = false by rw [unhide HF]; rfl)
                  clear HF
                  go_wp2_with fail
                  exact ⟨⟨j + 1, by omega, by go_num, more_no (unhide HNO) (unhide HN), B4⟩, by simp [intOf]; omega⟩
                · have x0 := hc4.cell 0
                  have x1 := hc4.cell 1
                  have x2 := hc4.cell 2
                  obtain ⟨rfl, rfl, rfl⟩ := unhide HA rfl
                  have HF2 := hide (show fits (fit2 s hd) (3 * k + j) = (fit2 s hd) ⟨(k : Int), (j : Int)⟩ by rw [unhide HF]; rfl)
                  have hq4 : q3 < w4.heap.size ∧ w4.cell? ⟨q3, 0, none⟩ = some (.pointer (some ⟨b, 0, none⟩)) := ⟨Nat.lt_of_lt_of_le hq1.1 B4.size, (B4.cell (p := ⟨q3, 0, none⟩) hq1.1).trans hq1.2⟩
                  have hp4 : q5 < w4.heap.size ∧ w4.cell? ⟨q5, 0, none⟩ = some (.string ⟨hd.toArray⟩) := ⟨Nat.lt_of_lt_of_le hp1.1 B4.size, (B4.cell (p := ⟨q5, 0, none⟩) hp1.1).trans hp1.2⟩
                  clear HF
                  go_wp2_with fail
                  refine (ask2F_any s hd _ q5 q3 b _ hp4 hq4 ⟨hR4.box.lt, hR4.box.cell 0⟩).mono ?_
                  rintro e w5 ⟨rfl, hb5⟩
                  have B5 := bstep B4 hb5
                  have gl5 := Nat.lt_of_lt_of_le gl hb5.size
                  have g05 := (hb5.cell (p := ⟨g, 0, none⟩) gl).trans g0
                  have g15 := (hb5.cell (p := ⟨g, 1, none⟩) gl).trans g1
                  clear x0 x1 x2 hb5 B4 gl g0 g1 hc4 hR4
                  obtain ⟨fb, hfb⟩ : ∃ fb, (fit2 s hd) ⟨(k : Int), (j : Int)⟩ = fb := ⟨_, rfl⟩
                  rw [hfb] at HF2
                  rw [hfb]
                  clear hfb
                  cases fb
                  · go_wp2_with fail
                    exact ⟨⟨j + 1, by omega, by go_num, more_no (unhide HNO) (unhide HF2), B5⟩, by simp [intOf]; omega⟩
                  · have hc5 := (show Cells w5 w.heap.size _ _ from (B5.block _ hcR.lt).trans hcR)
                    have r0 := hc5.cell 0
                    have r1 := hc5.cell 1
                    have e0 := hc5.frozen 0
                    have e1 := hc5.frozen 1
                    have rl := hc5.lt
                    have hc6 := (hc5.set 0 (.int .i64 (k : Int))).set 1 (.int .i64 (j : Int))
                    have v0 := hc6.cell 0
                    have v1 := hc6.cell 1
                    have B6 := ((bstep hb0 B5).setCell (p := ⟨w.heap.size, 0, none⟩) (Nat.le_refl _) (.int .i64 (k : Int))).setCell (p := ⟨w.heap.size, 1, none⟩) (Nat.le_refl _) (.int .i64 (j : Int))
                    go_wp2_with fail
                    exact bodyPost_ret (v := .agg #[.int .i64 (k : Int), .int .i64 (j : Int)]) (by simp [results, Tryz.results108, go_sem, v0, v1]) rfl ⟨by rw [findN_some (by have := unhide HLJ; omega) (unhide HF2) (unhide HNO), unhide HX], B6⟩
              exact AllReadyH.nil
            exact AllReadyH.nil
          exact AllReadyH.nil
        · have hj3 : j = 3 := by omega
          subst hj3
          go_wp2_with fail
          exact ⟨⟨k + 1, by omega, by go_num, fun i hi => unhide HNO i (by omega), hbz⟩, by simp [intOf]; omega⟩
    · go_wp2_with fail
      exact ⟨rfl, by rw [findN_none (fun i hi => unhide HNO i (by omega))]; rfl, bstep hb0 hbel⟩
end Go.Proofs.YtongajonecgdpagGreatDoor
