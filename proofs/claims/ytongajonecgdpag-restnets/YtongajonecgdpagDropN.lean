/- The document's DropOf. -/
import Derived.Test.YtongajonecgdpagOwnN
import Derived.Test.YtongajonecgdpagKeptP
import Derived.Test.YtongajonecgdpagSweepB
namespace Go.Proofs.Ytongajonecgdpag
open Go.RowKit

theorem regsV_snoc : ∀ (rs : List (Bool × Int)) (r : Bool × Int), regsV (rs ++ [r]) = regsV rs ++ [.bool r.1, .int .i64 r.2]
  | [], _ => rfl
  | x :: rs, r => by simp [regsV, regsV_snoc rs r]
theorem pick_kTo (bs : List Bool) (n : Nat) (l : List Int) (h : ∀ x ∈ l, 0 ≤ x ∧ x.toNat < n) : pickV (kTo bs n) l = movedV bs l := by
  unfold pickV movedV
  refine List.map_congr_left (fun x hx => ?_)
  have := (h x hx).2
  simp [kTo, List.getD_eq_getElem?_getD, this]
theorem OInv.gates {w2 W : World} {bm : Nat} {ins : Int} {ra : Option Addr} {rn rc : Nat} {rs : List (Bool × Int)} {oa : Option Addr} {on oc : Nat} {os : List Int} {pa : Option Addr} {pn pc : Nat} {cs : List Value} {gs : List GateD} (h : OInv w2 W bm ins ra rn rc rs oa on oc os pa pn pc cs gs) (hm : pn ≤ maxLen) : Kp (bm :: List.range w2.heap.size) W (fun V => Gates V pa pn gs) := by
  obtain ⟨h0, h1, h2, h3, h4, h5, h6⟩ := h
  intro V hK
  have hsub : ∀ g ∈ bm :: List.range w2.heap.size, g ∈ GB w2 bm (.slice pa pn pc) := fun g hg => by
    rcases List.mem_cons.1 hg with h9 | h9
    · exact List.mem_cons.2 (Or.inl h9)
    · exact List.mem_cons.2 (Or.inr (List.mem_append.2 (Or.inr h9)))
  refine own_gatesK (own_kept h4 hK (fun b hb hm' => ?_)) (h5.step (hK.mono hsub) (fun _ hg => Or.inl hg)) h0 hm
  rcases List.mem_cons.1 hm' with h9 | h9
  · exact own_ne h4 h1 (by decide) (by rw [hb, h9])
  · exact own_base h4 (List.mem_range.1 h9) hb
/-- A net of the call's own, under way: its registers. -/
def RInv (w2 W : World) (bm : Nat) (ins : Int) (pa : Option Addr) (pn pc : Nat) (gs : List GateD) (oa : Option Addr) (on oc : Nat) (os : List Int) (qa : Option Addr) (qn qc : Nat) (rs : List (Bool × Int)) : Prop :=
  qn = rs.length ∧ Cells W bm [.int .i64 ins, .slice pa pn pc, .slice qa qn qc, .slice oa on oc] 39 ∧ Kp (GB w2 bm (.slice qa qn qc)) W (fun V => Gates V pa pn gs) ∧ Kp (GB w2 bm (.slice qa qn qc)) W (fun V => Ints V oa on os) ∧ W.ownsRow w2.heap.size 48 2 (.slice qa qn qc) qn (regsV rs) ∧ Below w2.heap.size w2 W
theorem RInv.on {w2 W W' : World} {bm : Nat} {ins : Int} {pa : Option Addr} {pn pc : Nat} {gs : List GateD} {oa : Option Addr} {on oc : Nat} {os : List Int} {qa : Option Addr} {qn qc : Nat} {rs : List (Bool × Int)} (h : RInv w2 W bm ins pa pn pc gs oa on oc os qa qn qc rs) (hb : Below W.heap.size W W') : RInv w2 W' bm ins pa pn pc gs oa on oc os qa qn qc rs := by
  obtain ⟨h0, h1, h2, h3, h4, h6⟩ := h
  exact ⟨h0, h1.below hb h1.lt, h2.on hb, h3.on hb, own_on h4 hb, bstep h6 hb⟩
theorem RInv.cells8 {w2 w6 w8 : World} {bm : Nat} {ins : Int} {pa : Option Addr} {pn pc : Nat} {gs : List GateD} {oa : Option Addr} {on oc : Nat} {os : List Int} {qa : Option Addr} {qn qc : Nat} {rs : List (Bool × Int)} (h : RInv w2 w6 bm ins pa pn pc gs oa on oc os qa qn qc rs) (hgr : w6.grownBy w8 (Value.slice qa qn qc).ownBlock) : Cells w8 bm [.int .i64 ins, .slice pa pn pc, .slice qa qn qc, .slice oa on oc] 39 ∧ Below w2.heap.size w2 w8 := by
  obtain ⟨h0, h1, h2, h3, h4, h6⟩ := h
  exact ⟨(hgr.block bm h1.lt (Ne.symm (own_ne h4 h1 (by decide)))).trans h1, h6.grown hgr h6.size (fun k hk => own_base_of h4 k hk)⟩
theorem RInv.more {w2 w6 w8 : World} {bm : Nat} {ins : Int} {pa : Option Addr} {pn pc : Nat} {gs : List GateD} {oa : Option Addr} {on oc : Nat} {os : List Int} {qa : Option Addr} {qn qc : Nat} {rs : List (Bool × Int)} (h : RInv w2 w6 bm ins pa pn pc gs oa on oc os qa qn qc rs) (r : Bool × Int) {g8 cap8 : Nat}
    (hown : w8.ownsRow w2.heap.size 48 2 (.slice (some ⟨g8, 0, none⟩) (qn + 1) cap8) (qn + 1) (regsV rs ++ [.bool r.1, .int .i64 r.2])) (hgr : w6.grownBy w8 (Value.slice qa qn qc).ownBlock) (hat : (Value.slice qa qn qc).ownBlock = some g8 ∨ g8 = w6.heap.size) (hbm : w2.heap.size ≤ bm) :
    RInv w2 (w8.setCell ⟨bm, 2, none⟩ (.slice (some ⟨g8, 0, none⟩) (qn + 1) cap8)) bm ins pa pn pc gs oa on oc os (some ⟨g8, 0, none⟩) (qn + 1) cap8 (rs ++ [r]) := by
  obtain ⟨c1, hb8⟩ := h.cells8 hgr
  obtain ⟨h0, h1, h2, h3, h4, h6⟩ := h
  have m1 := own_ne hown c1 (by decide)
  have hk : KeptG (GB w2 bm (.slice qa qn qc)) w6 (w8.setCell ⟨bm, 2, none⟩ (.slice (some ⟨g8, 0, none⟩) (qn + 1) cap8)) := (KeptG.grown hgr (fun b hb => by simp [GB, ownL, hb])).trans (KeptG.set _ (by simp [GB]))
  have hG := gb_turn (w2 := w2) (bm := bm) (n8 := qn + 1) (cap8 := cap8) hat
  exact ⟨by simp [h0], c1.set 2 _, h2.step hk hG, h3.step hk hG, by rw [regsV_snoc]; exact own_set hown m1, hb8.setCell hbm _⟩

set_option maxRecDepth 100000 in
set_option maxHeartbeats 20000000 in
theorem DropOf_any (d : NetD) (ins0 : Int) (ga ra oa : Option Addr) (gn gc rn rc on oc : Nat) (w : World) (h : NetAt w d ins0 ga gn ra rn oa on) (hck : checkE d = 0) (hnil : oa = none → oc = 0) :
    Calls Try.prog 22 #[.agg #[.int .i64 ins0, .slice ga gn gc, .slice ra rn rc, .slice oa on oc]] w fun e w' => ∃ bs, Marks d.gates (needL d) bs ∧ NetKp (dropW d bs) w w' e := by
  have hb0 : Below w.heap.size w (w.alloc (.cells #[.int .i64 ins0, .slice ga gn gc, .slice ra rn rc, .slice oa on oc] 39)) := (Below.refl _ _).alloc (Nat.le_refl _) _
  have hbox : Boxed (w.alloc (.cells #[.int .i64 ins0, .slice ga gn gc, .slice ra rn rc, .slice oa on oc] 39)) w.heap.size ins0 ga gn gc ra rn rc oa on oc := Boxed.new _ _ _ _ _ _ _ _ _ _ _ _
  have hb1 := (Below.refl _ (w.alloc (.cells #[.int .i64 ins0, .slice ga gn gc, .slice ra rn rc, .slice oa on oc] 39))).alloc (Nat.le_refl _) (.cells #[.int .i64 0, .slice none 0 0, .slice none 0 0, .slice none 0 0] 39)
  have hc0 := Cells.new (w.alloc (.cells #[.int .i64 ins0, .slice ga gn gc, .slice ra rn rc, .slice oa on oc] 39)) [.int .i64 0, .slice none 0 0, .slice none 0 0, .slice none 0 0] 39
  have hsz : (w.alloc (.cells #[.int .i64 ins0, .slice ga gn gc, .slice ra rn rc, .slice oa on oc] 39)).heap.size = w.heap.size + 1 := by simp
  rw [hsz] at hc0
  have hN := (h.below hb0).below hb1
  have hx := hbox.below hb1
  have B0 := bstep hb0 hb1
  have HG : Hid (d.gates.length = gn) := h.gates.1.symm
  have hok := ok_of hck
  have hrn : rn ≤ 20 := by have := hok.regs; have := h.regs.1; omega
  have hon : on ≤ 3 := by have := hok.outs; have := h.outs.1; omega
  have hgn : gn ≤ 200 := by have := hok.gates; have := HG.out; omega
  have HII := hide h.ins
  have HRL := hide (show d.regs.length = rn from h.regs.1.symm)
  have HOK := hide hok
  have HFW := hide (show ∀ k (hk : k < d.gates.length), d.gates[k].args.length ≤ 16 from fun k hk => (hok.each _ (List.getElem_mem hk)).few)
  clear h hb0 hb1 hbox hsz hok
  go_enter Try.func22, Try.ntmps22
  go_wp2_with fail
  generalize hw2 : (w.alloc (.cells #[.int .i64 ins0, .slice ga gn gc, .slice ra rn rc, .slice oa on oc] 39)).alloc (.cells #[.int .i64 0, .slice none 0 0, .slice none 0 0, .slice none 0 0] 39) = w2 at *
  clear hw2
  refine (KeptOf_any d _ _ _ _ _ _ _ _ _ _ _ hN hck hnil).mono ?_
  rintro e w3 ⟨ta, tn, tc, bs, rfl, hT, htn, hM, hb⟩
  have hclo := clo_of hM hck
  obtain rfl : tn = gn := by rw [htn, hclo.len]; exact HG.out
  have HM := hide hM
  have HBL := hide htn.symm
  have HIO := hide (show ∀ x ∈ d.outs, 0 ≤ x ∧ x.toNat < tn from fun x hx => ⟨((unhide HOK).out x hx).1, by have := ((unhide HOK).out x hx); have := HG.out; omega⟩)
  have HIA := hide (show ∀ k (hk : k < d.gates.length), ∀ x ∈ d.gates[k].args, 0 ≤ x ∧ x.toNat < tn from fun k hk x hx => ⟨(((unhide HOK).each _ (List.getElem_mem hk)).args x hx).1, by have := (((unhide HOK).each _ (List.getElem_mem hk)).args x hx); have := HG.out; omega⟩)
  have HIR := hide (show ∀ r ∈ d.regs, 0 ≤ r.2 ∧ r.2.toNat < tn ∧ bs.getD r.2.toNat false = true from fun x hx => ⟨((unhide HOK).nexts x hx).1, by have := ((unhide HOK).nexts x hx); have := HG.out; omega, hclo.regs x hx⟩)
  have HIN := hide (show ∀ l : List Int, (∀ x ∈ l, 0 ≤ x ∧ x.toNat < tn) → ∀ k (hk : k < l.length), 0 ≤ l[k] ∧ l[k] < (kTo bs tn).length from fun l hl k hk => by
    have := hl l[k] (List.getElem_mem hk)
    rw [kTo_len]; omega)
  have hx0 := hx.below hb
  have hN3 := hN.below hb
  have hc3 := hc0.below hb hc0.lt
  have B3 := bstep B0 hb
  clear hb hx hN hc0 B0 hM htn hclo hck hnil
  have hrz := hc3.lt
  have hx0' := hx0
  obtain ⟨x0, x1, x2, x3, x4⟩ := hx0'
  go_upto_region 2 with fail
  go_cut [4] (fun p wx => ∃ bm ob on1 od, p = .pointer (some ⟨bm, 0, none⟩) ∧ Cells wx bm [.int .i64 ins0, .slice none 0 0, .slice none 0 0, .slice ob on1 od] 39 ∧ Kp (bm :: List.range w3.heap.size) wx (fun V => Ints V ob on1 (movedV bs d.outs)) ∧ w3.heap.size ≤ bm ∧ Below w3.heap.size w3 wx)
  case first =>
    have hB := (Below.refl w3.heap.size w3).drew
    refine wp_region_held_drew (S := fun W => Below w3.heap.size w3 W ∧ W.cell? ⟨w.heap.size, 0, none⟩ = some (.int .i64 ins0) ∧ W.cell? ⟨w.heap.size, 2, none⟩ = some (.slice ra rn rc) ∧ W.cell? ⟨w.heap.size, 3, none⟩ = some (.slice oa on oc)) (by kernel_rfl) ?_ (fun hHeld => ?_)
    · exact heldr_of x0 x1 x3 x4 hB
    generalize w3.drew = wd at hB hHeld ⊢
    refine wpAnyH_take (i := 0) (oi := { dst := some 9, op := Go.Op.fieldAddr 39 (Go.Operand.tmp 1) 0, type := 0, pos := "net.go:520", after := #[], guard := none }) (v := ?_) rfl (by kernel_rfl) (by kernel_rfl) (by kernel_rfl) (fun _ _ _ h => h) (Or.inl ⟨by rfl, ?_⟩) (by assumption) ?_
    rotate_left
    · intro w hSw; (try dsimp only at hSw); go_simp; (try (with_reducible rfl))
    try simp only [Act.put, List.setIfInBounds_toArray, List.set_cons_zero, List.set_cons_succ]
    refine wpAnyH_take (i := 1) (oi := { dst := some 10, op := Go.Op.load 3 (Go.Operand.tmp 9), type := 3, pos := "net.go:520", after := #[{ on := 0, ground := Go.Ground.data }], guard := none }) (v := ?_) rfl (by kernel_rfl) (by kernel_rfl) (by kernel_rfl) (fun _ _ _ h => h) (Or.inl ⟨by rfl, ?_⟩) (by assumption) ?_
    rotate_left
    · intro w hSw; (try dsimp only at hSw); go_simp; (try (with_reducible rfl))
    try simp only [Act.put, List.setIfInBounds_toArray, List.set_cons_zero, List.set_cons_succ]
    refine wpAnyH_take (i := 2) (oi := { dst := some 11, op := Go.Op.move (Go.Operand.tmp 3), type := 37, pos := "net.go:520", after := #[], guard := none }) (v := ?_) rfl (by kernel_rfl) (by kernel_rfl) (by kernel_rfl) (fun _ _ _ h => h) (Or.inl ⟨by rfl, ?_⟩) (by assumption) ?_
    rotate_left
    · intro w hSw; (try dsimp only at hSw); go_simp; (try (with_reducible rfl))
    try simp only [Act.put, List.setIfInBounds_toArray, List.set_cons_zero, List.set_cons_succ]
    refine wpAnyH_take (i := 3) (oi := { dst := some 12, op := Go.Op.fieldAddr 39 (Go.Operand.tmp 1) 3, type := 0, pos := "net.go:520", after := #[], guard := none }) (v := ?_) rfl (by kernel_rfl) (by kernel_rfl) (by kernel_rfl) (fun _ _ _ h => h) (Or.inl ⟨by rfl, ?_⟩) (by assumption) ?_
    rotate_left
    · intro w hSw; (try dsimp only at hSw); go_simp; (try (with_reducible rfl))
    try simp only [Act.put, List.setIfInBounds_toArray, List.set_cons_zero, List.set_cons_succ]
    refine wpAnyH_take (i := 4) (oi := { dst := some 13, op := Go.Op.load 37 (Go.Operand.tmp 12), type := 37, pos := "net.go:520", after := #[{ on := 3, ground := Go.Ground.data }], guard := none }) (v := ?_) rfl (by kernel_rfl) (by kernel_rfl) (by kernel_rfl) (fun _ _ _ h => h) (Or.inl ⟨by rfl, ?_⟩) (by assumption) ?_
    rotate_left
    · intro w hSw; (try dsimp only at hSw); go_simp; (try (with_reducible rfl))
    try simp only [Act.put, List.setIfInBounds_toArray, List.set_cons_zero, List.set_cons_succ]
    refine wpAnyH_ready (rs := [5, 7]) (by kernel_rfl) (by simp) ?_
    refine AllReadyH.cons (o := { dst := some 14, op := Go.Op.call { callee := Go.Callee.value (Go.Operand.func 53), args := #[Go.Operand.tmp 11, Go.Operand.tmp 13], argTypes := #[37, 37] }, type := 37, pos := "net.go:520", after := #[{ on := 2, ground := Go.Ground.data }, { on := 4, ground := Go.Ground.data }], guard := none }) rfl (fun K hK => ?_) ?_
    · go_simp
      refine (picked_any (kTo bs tn) d.outs ta oa tn tc on oc _ (hT.below hB) (hN3.outs.below hB) (by omega) (unhide HIN _ (unhide HIO))).mono ?_
      rintro e wn ⟨ob, on1, od, rfl, hIO, hFO, hb⟩
      rw [pick_kTo bs tn d.outs (unhide HIO)] at hIO
      (first | have hKO := Kp.ints hIO hFO (box_lt hcM hB) | have hKO := Kp.ints hIO hFO (rng_lt hB))
      have hB := bstep hB hb
      (try have hcM := hcM.below hb hcM.lt)
      try go_wp2_with fail
      refine hK.out _ _ ?_ (fun hHeld => ?_)
      · (try dsimp only)
        (first | with_reducible exact heldr_of x0 x1 x3 x4 hB | with_reducible exact heldr_of x0 x1 x3 x4 ((((hB.setCell hbm _).setCell hbm _).setCell hbm _).setCell hbm _) | exact heldr_of x0 x1 x3 x4 ((((hB.setCell hbm _).setCell hbm _).setCell hbm _).setCell hbm _))
      clear hK K
      try simp only [Act.put, List.setIfInBounds_toArray, List.set_cons_zero, List.set_cons_succ]
      refine wpAnyH_take (i := 6) (oi := { dst := some 15, op := Go.Op.build 39 #[(0, Go.Operand.tmp 10), (3, Go.Operand.tmp 14)], type := 39, pos := "net.go:520", after := #[{ on := 1, ground := Go.Ground.data }, { on := 5, ground := Go.Ground.data }], guard := none }) (v := ?_) rfl (by kernel_rfl) (by kernel_rfl) (by kernel_rfl) (fun _ _ _ h => h) (Or.inl ⟨by rfl, ?_⟩) (by assumption) ?_
      rotate_left
      · intro w hSw; (try dsimp only at hSw); go_simp; (try (with_reducible rfl))
      try simp only [Act.put, List.setIfInBounds_toArray, List.set_cons_zero, List.set_cons_succ]
      refine wpAnyH_ready (rs := [7]) (by kernel_rfl) (by simp) ?_
      refine AllReadyH.cons (o := { dst := some 4, op := Go.Op.alloc 39, type := 0, pos := "net.go:520", after := #[], guard := none }) rfl (fun K hK => ?_) ?_
      · go_simp
        refine alloc_on (K := K) _ _ (fun wn hb ho => ?_)
        have hcM : Cells wn _ zeroN 39 := ho
        have hbm := hB.size
        (try have hKO := hKO.box hb)
        have hB := bstep hB hb
        clear ho
        refine hK.out _ _ ?_ (fun hHeld => ?_)
        · (try dsimp only)
          (first | with_reducible exact heldr_of x0 x1 x3 x4 hB | with_reducible exact heldr_of x0 x1 x3 x4 ((((hB.setCell hbm _).setCell hbm _).setCell hbm _).setCell hbm _) | exact heldr_of x0 x1 x3 x4 ((((hB.setCell hbm _).setCell hbm _).setCell hbm _).setCell hbm _))
        clear hK K
        try simp only [Act.put, List.setIfInBounds_toArray, List.set_cons_zero, List.set_cons_succ]
        refine wpAnyH_ready (rs := [8]) (by kernel_rfl) (by simp) ?_
        refine AllReadyH.cons (o := { dst := none, op := Go.Op.store 39 (Go.Operand.tmp 4) (Go.Operand.tmp 15), type := 0, pos := "net.go:520", after := #[{ on := 7, ground := Go.Ground.data }, { on := 6, ground := Go.Ground.data }, { on := 5, ground := Go.Ground.chain }, { on := 0, ground := Go.Ground.phase }, { on := 1, ground := Go.Ground.phase }, { on := 2, ground := Go.Ground.phase }, { on := 3, ground := Go.Ground.phase }, { on := 4, ground := Go.Ground.phase }, { on := 5, ground := Go.Ground.phase }, { on := 6, ground := Go.Ground.phase }, { on := 7, ground := Go.Ground.phase }], guard := none }) rfl (fun K hK => ?_) ?_
        · have z0 := hcM.cell 0
          have z1 := hcM.cell 1
          have z2 := hcM.cell 2
          have z3 := hcM.cell 3
          have f0 := hcM.frozen 0
          have f1 := hcM.frozen 1
          have f2 := hcM.frozen 2
          have f3 := hcM.frozen 3
          have hlM := hcM.lt
          have hneM := Nat.ne_of_lt hlM
          go_simp
          refine hK.out _ _ ?_ (fun hHeld => ?_)
          · (try dsimp only)
            (first | with_reducible exact heldr_of x0 x1 x3 x4 hB | with_reducible exact heldr_of x0 x1 x3 x4 ((((hB.setCell hbm _).setCell hbm _).setCell hbm _).setCell hbm _) | exact heldr_of x0 x1 x3 x4 ((((hB.setCell hbm _).setCell hbm _).setCell hbm _).setCell hbm _))
          clear hK K
          try simp only [Act.put, List.setIfInBounds_toArray, List.set_cons_zero, List.set_cons_succ]
          refine wpAnyH_done (by kernel_rfl) ?_ _
          go_wp2_with fail
          go_meet
          exact ⟨_, _, _, _, rfl, (((hcM.set 0 (.int .i64 ins0)).set 1 (.slice none 0 0)).set 2 (.slice none 0 0)).set 3 (.slice ob on1 od), hKO.step (kept4 _ _ _ _) (fun _ hg => Or.inl hg), hbm, (((hB.setCell hbm _).setCell hbm _).setCell hbm _).setCell hbm _⟩
        exact AllReadyH.nil
      exact AllReadyH.nil
    refine AllReadyH.cons (o := { dst := some 4, op := Go.Op.alloc 39, type := 0, pos := "net.go:520", after := #[], guard := none }) rfl (fun K hK => ?_) ?_
    · go_simp
      refine alloc_on (K := K) _ _ (fun wn hb ho => ?_)
      have hcM : Cells wn _ zeroN 39 := ho
      have hbm := hB.size
      (try have hKO := hKO.box hb)
      have hB := bstep hB hb
      clear ho
      refine hK.out _ _ ?_ (fun hHeld => ?_)
      · (try dsimp only)
        (first | with_reducible exact heldr_of x0 x1 x3 x4 hB | with_reducible exact heldr_of x0 x1 x3 x4 ((((hB.setCell hbm _).setCell hbm _).setCell hbm _).setCell hbm _) | exact heldr_of x0 x1 x3 x4 ((((hB.setCell hbm _).setCell hbm _).setCell hbm _).setCell hbm _))
      clear hK K
      try simp only [Act.put, List.setIfInBounds_toArray, List.set_cons_zero, List.set_cons_succ]
      refine wpAnyH_ready (rs := [5]) (by kernel_rfl) (by simp) ?_
      refine AllReadyH.cons (o := { dst := some 14, op := Go.Op.call { callee := Go.Callee.value (Go.Operand.func 53), args := #[Go.Operand.tmp 11, Go.Operand.tmp 13], argTypes := #[37, 37] }, type := 37, pos := "net.go:520", after := #[{ on := 2, ground := Go.Ground.data }, { on := 4, ground := Go.Ground.data }], guard := none }) rfl (fun K hK => ?_) ?_
      · go_simp
        refine (picked_any (kTo bs tn) d.outs ta oa tn tc on oc _ (hT.below hB) (hN3.outs.below hB) (by omega) (unhide HIN _ (unhide HIO))).mono ?_
        rintro e wn ⟨ob, on1, od, rfl, hIO, hFO, hb⟩
        rw [pick_kTo bs tn d.outs (unhide HIO)] at hIO
        (first | have hKO := Kp.ints hIO hFO (box_lt hcM hB) | have hKO := Kp.ints hIO hFO (rng_lt hB))
        have hB := bstep hB hb
        (try have hcM := hcM.below hb hcM.lt)
        try go_wp2_with fail
        refine hK.out _ _ ?_ (fun hHeld => ?_)
        · (try dsimp only)
          (first | with_reducible exact heldr_of x0 x1 x3 x4 hB | with_reducible exact heldr_of x0 x1 x3 x4 ((((hB.setCell hbm _).setCell hbm _).setCell hbm _).setCell hbm _) | exact heldr_of x0 x1 x3 x4 ((((hB.setCell hbm _).setCell hbm _).setCell hbm _).setCell hbm _))
        clear hK K
        try simp only [Act.put, List.setIfInBounds_toArray, List.set_cons_zero, List.set_cons_succ]
        refine wpAnyH_take (i := 6) (oi := { dst := some 15, op := Go.Op.build 39 #[(0, Go.Operand.tmp 10), (3, Go.Operand.tmp 14)], type := 39, pos := "net.go:520", after := #[{ on := 1, ground := Go.Ground.data }, { on := 5, ground := Go.Ground.data }], guard := none }) (v := ?_) rfl (by kernel_rfl) (by kernel_rfl) (by kernel_rfl) (fun _ _ _ h => h) (Or.inl ⟨by rfl, ?_⟩) (by assumption) ?_
        rotate_left
        · intro w hSw; (try dsimp only at hSw); go_simp; (try (with_reducible rfl))
        try simp only [Act.put, List.setIfInBounds_toArray, List.set_cons_zero, List.set_cons_succ]
        refine wpAnyH_ready (rs := [8]) (by kernel_rfl) (by simp) ?_
        refine AllReadyH.cons (o := { dst := none, op := Go.Op.store 39 (Go.Operand.tmp 4) (Go.Operand.tmp 15), type := 0, pos := "net.go:520", after := #[{ on := 7, ground := Go.Ground.data }, { on := 6, ground := Go.Ground.data }, { on := 5, ground := Go.Ground.chain }, { on := 0, ground := Go.Ground.phase }, { on := 1, ground := Go.Ground.phase }, { on := 2, ground := Go.Ground.phase }, { on := 3, ground := Go.Ground.phase }, { on := 4, ground := Go.Ground.phase }, { on := 5, ground := Go.Ground.phase }, { on := 6, ground := Go.Ground.phase }, { on := 7, ground := Go.Ground.phase }], guard := none }) rfl (fun K hK => ?_) ?_
        · have z0 := hcM.cell 0
          have z1 := hcM.cell 1
          have z2 := hcM.cell 2
          have z3 := hcM.cell 3
          have f0 := hcM.frozen 0
          have f1 := hcM.frozen 1
          have f2 := hcM.frozen 2
          have f3 := hcM.frozen 3
          have hlM := hcM.lt
          have hneM := Nat.ne_of_lt hlM
          go_simp
          refine hK.out _ _ ?_ (fun hHeld => ?_)
          · (try dsimp only)
            (first | with_reducible exact heldr_of x0 x1 x3 x4 hB | with_reducible exact heldr_of x0 x1 x3 x4 ((((hB.setCell hbm _).setCell hbm _).setCell hbm _).setCell hbm _) | exact heldr_of x0 x1 x3 x4 ((((hB.setCell hbm _).setCell hbm _).setCell hbm _).setCell hbm _))
          clear hK K
          try simp only [Act.put, List.setIfInBounds_toArray, List.set_cons_zero, List.set_cons_succ]
          refine wpAnyH_done (by kernel_rfl) ?_ _
          go_wp2_with fail
          go_meet
          exact ⟨_, _, _, _, rfl, (((hcM.set 0 (.int .i64 ins0)).set 1 (.slice none 0 0)).set 2 (.slice none 0 0)).set 3 (.slice ob on1 od), hKO.step (kept4 _ _ _ _) (fun _ hg => Or.inl hg), hbm, (((hB.setCell hbm _).setCell hbm _).setCell hbm _).setCell hbm _⟩
        exact AllReadyH.nil
      exact AllReadyH.nil
    exact AllReadyH.nil
  case rest =>
    obtain ⟨bm, ob, on1, od, rfl, hcM, hKO, hbm, hB4⟩ := hcut
    obtain ⟨i0, hi, hz0, hz1, hz2⟩ := info_parts Try.infoGate
    obtain ⟨j0, hj, hy0, hy1, hy2⟩ := info_parts Try.infoStore
    rename World => w4
    have hx4 := hx0.below hB4
    clear x0 x1 x2 x3 x4
    obtain ⟨x0, x1, x2, x3, x4⟩ := hx4
    go_wp2_with fail
    clear x0 x1 x2 x3 x4
    go_loopw [5] (fun iv wr => ∃ (k pn pc : Nat) (pa : Option Addr) (cs : List Value), k ≤ tn ∧ iv = .int .i64 k ∧ OInv w3 wr bm ins0 none 0 0 [] ob on1 od (movedV bs d.outs) pa pn pc cs (gatesTo d bs k)) (fun iv _ => tn - (intOf iv).toNat)
    case atStart => exact ⟨0, 0, 0, none, [], Nat.zero_le _, rfl, rfl, hcM, fun V _ => ⟨rfl, Nat.zero_le _, Or.inl rfl⟩, hKO, ⟨rfl, Or.inl ⟨rfl, rfl⟩⟩, GK.nil _ _, hB4⟩
    case round =>
      clear hcM hKO hB4
      obtain ⟨k, pn, pc, pa, cs, hk, rfl, hV⟩ := hrel
      have hB := hV.2.2.2.2.2.2
      by_cases hlt : k < tn
      · have hki : (k : Int) < (tn : Int) := by omega
        have hkg : k < d.gates.length := by have := HG.out; omega
        obtain ⟨b, off, aa, an, ac, rfl, hbb, c1, c2, c3, hI⟩ := hN3.gates.at' hkg
        have hfew : an ≤ 16 := by have h1 := hI.1; have h2 := unhide HFW k hkg; omega
        have hkt : k < (kTo bs tn).length := by rw [kTo_len]; exact hlt
        obtain ⟨tb, tf, hta, htb, ct⟩ := (hT.below hB).at hkt
        have hte : (kTo bs tn)[k] = toV bs k := by simp [kTo]
        rw [hte] at ct
        clear hte hkt
        have hS : ∀ W, Below w3.heap.size w3 W → (Below w3.heap.size w3 W ∧ W.cell? ⟨w.heap.size, 1, none⟩ = some (.slice (some ⟨b, off, none⟩) tn gc) ∧ W.cell? ⟨b, off + k * 3, none⟩ = some (.int .i64 d.gates[k].kind) ∧ W.cell? ⟨b, off + k * 3 + 1, none⟩ = some (.int .i64 d.gates[k].n) ∧ W.cell? ⟨b, off + k * 3 + 2, none⟩ = some (.slice aa an ac)) := fun W hW => by
          obtain ⟨_, _, y2, _, _⟩ := hx0.below hW
          exact ⟨hW, y2, (hW.cell (p := ⟨b, off + k * 3, none⟩) hbb).trans c1, (hW.cell (p := ⟨b, off + k * 3 + 1, none⟩) hbb).trans c2, (hW.cell (p := ⟨b, off + k * 3 + 2, none⟩) hbb).trans c3⟩
        obtain ⟨_, y2, _, _, _⟩ := hS wr hB
        clear c1 c2 c3
        cases eb : bs.getD k false
        · rw [show toV bs k = -1 by unfold toV; rw [eb]; rfl] at ct
          subst hta
          have R := hide (show OInv w3 wr bm ins0 none 0 0 [] ob on1 od (movedV bs d.outs) pa pn pc cs (gatesTo d bs (k + 1)) by rw [gatesTo_no d bs k eb]; exact hV)
          clear hV eb
          go_wp2_with fail
          exact ⟨⟨k + 1, pn, pc, pa, cs, by omega, by go_num, unhide R⟩, by simp [intOf]; omega⟩
        · rw [toV_of eb] at ct
          have HTK := hide (gatesTo_yes d bs k hkg eb)
          have hat := at_le bs k
          have hpn : pn ≤ 200 := by
            have h1 := hV.1
            rw [gatesTo_len] at h1
            omega
          have HPK := hide (pick_kTo bs tn d.gates[k].args (unhide HIA k hkg))
          clear eb
          generalize atN bs k = q at *
          have hq0 : (0 : Int) ≤ (q : Int) := by omega
          subst hta
          go_upto_region 7 with fail
          clear y2 ct
          have hB := hB.drew
          have hV := hV.on (Below.refl _ _).drew
          refine wp_region_held_drew (S := fun W => Below w3.heap.size w3 W ∧ W.cell? ⟨w.heap.size, 1, none⟩ = some (.slice (some ⟨b, off, none⟩) tn gc) ∧ W.cell? ⟨b, off + k * 3, none⟩ = some (.int .i64 d.gates[k].kind) ∧ W.cell? ⟨b, off + k * 3 + 1, none⟩ = some (.int .i64 d.gates[k].n) ∧ W.cell? ⟨b, off + k * 3 + 2, none⟩ = some (.slice aa an ac)) (by kernel_rfl) ?_ (fun hHeld => ?_)
          · exact hS _ hB
          generalize wr.drew = wd at hB hV hHeld ⊢
          refine wpAnyH_take (i := 0) (oi := { dst := some 28, op := Go.Op.fieldAddr 39 (Go.Operand.tmp 4) 1, type := 0, pos := "net.go:523", after := #[], guard := none }) (v := ?_) rfl (by kernel_rfl) (by kernel_rfl) (by kernel_rfl) (fun _ _ _ h => h) (Or.inl ⟨by rfl, ?_⟩) (by assumption) ?_
          rotate_left
          · intro w hSw; (try dsimp only at hSw); go_simp; (try (with_reducible rfl))
          try simp only [Act.put, List.setIfInBounds_toArray, List.set_cons_zero, List.set_cons_succ]
          refine wpAnyH_take (i := 2) (oi := { dst := some 30, op := Go.Op.fieldAddr 39 (Go.Operand.tmp 1) 1, type := 0, pos := "net.go:523", after := #[], guard := none }) (v := ?_) rfl (by kernel_rfl) (by kernel_rfl) (by kernel_rfl) (fun _ _ _ h => h) (Or.inl ⟨by rfl, ?_⟩) (by assumption) ?_
          rotate_left
          · intro w hSw; (try dsimp only at hSw); go_simp; (try (with_reducible rfl))
          try simp only [Act.put, List.setIfInBounds_toArray, List.set_cons_zero, List.set_cons_succ]
          refine wpAnyH_take (i := 3) (oi := { dst := some 31, op := Go.Op.load 35 (Go.Operand.tmp 30), type := 35, pos := "net.go:523", after := #[{ on := 2, ground := Go.Ground.data }], guard := none }) (v := ?_) rfl (by kernel_rfl) (by kernel_rfl) (by kernel_rfl) (fun _ _ _ h => h) (Or.inl ⟨by rfl, ?_⟩) (by assumption) ?_
          rotate_left
          · intro w hSw; (try dsimp only at hSw); go_simp; (try (with_reducible rfl))
          try simp only [Act.put, List.setIfInBounds_toArray, List.set_cons_zero, List.set_cons_succ]
          refine wpAnyH_take (i := 4) (oi := { dst := some 32, op := Go.Op.move (Go.Operand.tmp 5), type := 3, pos := "net.go:523", after := #[], guard := none }) (v := ?_) rfl (by kernel_rfl) (by kernel_rfl) (by kernel_rfl) (fun _ _ _ h => h) (Or.inl ⟨by rfl, ?_⟩) (by assumption) ?_
          rotate_left
          · intro w hSw; (try dsimp only at hSw); go_simp; (try (with_reducible rfl))
          try simp only [Act.put, List.setIfInBounds_toArray, List.set_cons_zero, List.set_cons_succ]
          refine wpAnyH_take (i := 5) (oi := { dst := some 33, op := Go.Op.indexAddr 35 (Go.Operand.tmp 31) (Go.Operand.tmp 32), type := 0, pos := "net.go:523", after := #[{ on := 3, ground := Go.Ground.data }, { on := 4, ground := Go.Ground.data }], guard := none }) (v := ?_) rfl (by kernel_rfl) (by kernel_rfl) (by kernel_rfl) (fun _ _ _ h => h) (Or.inl ⟨by rfl, ?_⟩) (by assumption) ?_
          rotate_left
          · intro w hSw; (try dsimp only at hSw); go_simp; (try (with_reducible rfl))
          try simp only [Act.put, List.setIfInBounds_toArray, List.set_cons_zero, List.set_cons_succ]
          refine wpAnyH_take (i := 6) (oi := { dst := some 34, op := Go.Op.fieldAddr 46 (Go.Operand.tmp 33) 0, type := 0, pos := "net.go:523", after := #[{ on := 5, ground := Go.Ground.data }], guard := none }) (v := ?_) rfl (by kernel_rfl) (by kernel_rfl) (by kernel_rfl) (fun _ _ _ h => h) (Or.inl ⟨by rfl, ?_⟩) (by assumption) ?_
          rotate_left
          · intro w hSw; (try dsimp only at hSw); go_simp; (try (with_reducible rfl))
          try simp only [Act.put, List.setIfInBounds_toArray, List.set_cons_zero, List.set_cons_succ]
          refine wpAnyH_take (i := 7) (oi := { dst := some 35, op := Go.Op.load 3 (Go.Operand.tmp 34), type := 3, pos := "net.go:523", after := #[{ on := 6, ground := Go.Ground.data }], guard := none }) (v := ?_) rfl (by kernel_rfl) (by kernel_rfl) (by kernel_rfl) (fun _ _ _ h => h) (Or.inl ⟨by rfl, ?_⟩) (by assumption) ?_
          rotate_left
          · intro w hSw; (try dsimp only at hSw); go_simp; (try (with_reducible rfl))
          try simp only [Act.put, List.setIfInBounds_toArray, List.set_cons_zero, List.set_cons_succ]
          refine wpAnyH_take (i := 8) (oi := { dst := some 36, op := Go.Op.fieldAddr 39 (Go.Operand.tmp 1) 1, type := 0, pos := "net.go:523", after := #[], guard := none }) (v := ?_) rfl (by kernel_rfl) (by kernel_rfl) (by kernel_rfl) (fun _ _ _ h => h) (Or.inl ⟨by rfl, ?_⟩) (by assumption) ?_
          rotate_left
          · intro w hSw; (try dsimp only at hSw); go_simp; (try (with_reducible rfl))
          try simp only [Act.put, List.setIfInBounds_toArray, List.set_cons_zero, List.set_cons_succ]
          refine wpAnyH_take (i := 9) (oi := { dst := some 37, op := Go.Op.load 35 (Go.Operand.tmp 36), type := 35, pos := "net.go:523", after := #[{ on := 8, ground := Go.Ground.data }], guard := none }) (v := ?_) rfl (by kernel_rfl) (by kernel_rfl) (by kernel_rfl) (fun _ _ _ h => h) (Or.inl ⟨by rfl, ?_⟩) (by assumption) ?_
          rotate_left
          · intro w hSw; (try dsimp only at hSw); go_simp; (try (with_reducible rfl))
          try simp only [Act.put, List.setIfInBounds_toArray, List.set_cons_zero, List.set_cons_succ]
          refine wpAnyH_take (i := 10) (oi := { dst := some 38, op := Go.Op.move (Go.Operand.tmp 5), type := 3, pos := "net.go:523", after := #[], guard := none }) (v := ?_) rfl (by kernel_rfl) (by kernel_rfl) (by kernel_rfl) (fun _ _ _ h => h) (Or.inl ⟨by rfl, ?_⟩) (by assumption) ?_
          rotate_left
          · intro w hSw; (try dsimp only at hSw); go_simp; (try (with_reducible rfl))
          try simp only [Act.put, List.setIfInBounds_toArray, List.set_cons_zero, List.set_cons_succ]
          refine wpAnyH_take (i := 11) (oi := { dst := some 39, op := Go.Op.indexAddr 35 (Go.Operand.tmp 37) (Go.Operand.tmp 38), type := 0, pos := "net.go:523", after := #[{ on := 9, ground := Go.Ground.data }, { on := 10, ground := Go.Ground.data }], guard := none }) (v := ?_) rfl (by kernel_rfl) (by kernel_rfl) (by kernel_rfl) (fun _ _ _ h => h) (Or.inl ⟨by rfl, ?_⟩) (by assumption) ?_
          rotate_left
          · intro w hSw; (try dsimp only at hSw); go_simp; (try (with_reducible rfl))
          try simp only [Act.put, List.setIfInBounds_toArray, List.set_cons_zero, List.set_cons_succ]
          refine wpAnyH_take (i := 12) (oi := { dst := some 40, op := Go.Op.fieldAddr 46 (Go.Operand.tmp 39) 1, type := 0, pos := "net.go:523", after := #[{ on := 11, ground := Go.Ground.data }], guard := none }) (v := ?_) rfl (by kernel_rfl) (by kernel_rfl) (by kernel_rfl) (fun _ _ _ h => h) (Or.inl ⟨by rfl, ?_⟩) (by assumption) ?_
          rotate_left
          · intro w hSw; (try dsimp only at hSw); go_simp; (try (with_reducible rfl))
          try simp only [Act.put, List.setIfInBounds_toArray, List.set_cons_zero, List.set_cons_succ]
          refine wpAnyH_take (i := 13) (oi := { dst := some 41, op := Go.Op.load 3 (Go.Operand.tmp 40), type := 3, pos := "net.go:523", after := #[{ on := 12, ground := Go.Ground.data }], guard := none }) (v := ?_) rfl (by kernel_rfl) (by kernel_rfl) (by kernel_rfl) (fun _ _ _ h => h) (Or.inl ⟨by rfl, ?_⟩) (by assumption) ?_
          rotate_left
          · intro w hSw; (try dsimp only at hSw); go_simp; (try (with_reducible rfl))
          try simp only [Act.put, List.setIfInBounds_toArray, List.set_cons_zero, List.set_cons_succ]
          refine wpAnyH_take (i := 14) (oi := { dst := some 42, op := Go.Op.move (Go.Operand.tmp 3), type := 37, pos := "net.go:523", after := #[], guard := none }) (v := ?_) rfl (by kernel_rfl) (by kernel_rfl) (by kernel_rfl) (fun _ _ _ h => h) (Or.inl ⟨by rfl, ?_⟩) (by assumption) ?_
          rotate_left
          · intro w hSw; (try dsimp only at hSw); go_simp; (try (with_reducible rfl))
          try simp only [Act.put, List.setIfInBounds_toArray, List.set_cons_zero, List.set_cons_succ]
          refine wpAnyH_take (i := 15) (oi := { dst := some 43, op := Go.Op.fieldAddr 39 (Go.Operand.tmp 1) 1, type := 0, pos := "net.go:523", after := #[], guard := none }) (v := ?_) rfl (by kernel_rfl) (by kernel_rfl) (by kernel_rfl) (fun _ _ _ h => h) (Or.inl ⟨by rfl, ?_⟩) (by assumption) ?_
          rotate_left
          · intro w hSw; (try dsimp only at hSw); go_simp; (try (with_reducible rfl))
          try simp only [Act.put, List.setIfInBounds_toArray, List.set_cons_zero, List.set_cons_succ]
          refine wpAnyH_take (i := 16) (oi := { dst := some 44, op := Go.Op.load 35 (Go.Operand.tmp 43), type := 35, pos := "net.go:523", after := #[{ on := 15, ground := Go.Ground.data }], guard := none }) (v := ?_) rfl (by kernel_rfl) (by kernel_rfl) (by kernel_rfl) (fun _ _ _ h => h) (Or.inl ⟨by rfl, ?_⟩) (by assumption) ?_
          rotate_left
          · intro w hSw; (try dsimp only at hSw); go_simp; (try (with_reducible rfl))
          try simp only [Act.put, List.setIfInBounds_toArray, List.set_cons_zero, List.set_cons_succ]
          refine wpAnyH_take (i := 17) (oi := { dst := some 45, op := Go.Op.move (Go.Operand.tmp 5), type := 3, pos := "net.go:523", after := #[], guard := none }) (v := ?_) rfl (by kernel_rfl) (by kernel_rfl) (by kernel_rfl) (fun _ _ _ h => h) (Or.inl ⟨by rfl, ?_⟩) (by assumption) ?_
          rotate_left
          · intro w hSw; (try dsimp only at hSw); go_simp; (try (with_reducible rfl))
          try simp only [Act.put, List.setIfInBounds_toArray, List.set_cons_zero, List.set_cons_succ]
          refine wpAnyH_take (i := 18) (oi := { dst := some 46, op := Go.Op.indexAddr 35 (Go.Operand.tmp 44) (Go.Operand.tmp 45), type := 0, pos := "net.go:523", after := #[{ on := 16, ground := Go.Ground.data }, { on := 17, ground := Go.Ground.data }], guard := none }) (v := ?_) rfl (by kernel_rfl) (by kernel_rfl) (by kernel_rfl) (fun _ _ _ h => h) (Or.inl ⟨by rfl, ?_⟩) (by assumption) ?_
          rotate_left
          · intro w hSw; (try dsimp only at hSw); go_simp; (try (with_reducible rfl))
          try simp only [Act.put, List.setIfInBounds_toArray, List.set_cons_zero, List.set_cons_succ]
          refine wpAnyH_take (i := 19) (oi := { dst := some 47, op := Go.Op.fieldAddr 46 (Go.Operand.tmp 46) 2, type := 0, pos := "net.go:523", after := #[{ on := 18, ground := Go.Ground.data }], guard := none }) (v := ?_) rfl (by kernel_rfl) (by kernel_rfl) (by kernel_rfl) (fun _ _ _ h => h) (Or.inl ⟨by rfl, ?_⟩) (by assumption) ?_
          rotate_left
          · intro w hSw; (try dsimp only at hSw); go_simp; (try (with_reducible rfl))
          try simp only [Act.put, List.setIfInBounds_toArray, List.set_cons_zero, List.set_cons_succ]
          refine wpAnyH_take (i := 20) (oi := { dst := some 48, op := Go.Op.load 37 (Go.Operand.tmp 47), type := 37, pos := "net.go:523", after := #[{ on := 19, ground := Go.Ground.data }], guard := none }) (v := ?_) rfl (by kernel_rfl) (by kernel_rfl) (by kernel_rfl) (fun _ _ _ h => h) (Or.inl ⟨by rfl, ?_⟩) (by assumption) ?_
          rotate_left
          · intro w hSw; (try dsimp only at hSw); go_simp; (try (with_reducible rfl))
          try simp only [Act.put, List.setIfInBounds_toArray, List.set_cons_zero, List.set_cons_succ]
          refine wpAnyH_ready (rs := [1, 21]) (by kernel_rfl) (by simp) ?_
          refine AllReadyH.cons (o := { dst := some 29, op := Go.Op.load 35 (Go.Operand.tmp 28), type := 35, pos := "net.go:523", after := #[{ on := 0, ground := Go.Ground.data }], guard := none }) rfl (fun K hK => ?_) ?_
          · have d1 := hV.2.1.cell 1
            go_simp
            refine hK.out _ _ ?_ (fun hHeld => ?_)
            · (try dsimp only)
              (first | with_reducible exact hS _ hB | with_reducible exact hS _ (hB.setCell hbm _) | exact hS _ (hB.setCell hbm _))
            clear hK K
            try simp only [Act.put, List.setIfInBounds_toArray, List.set_cons_zero, List.set_cons_succ]
            refine wpAnyH_ready (rs := [21]) (by kernel_rfl) (by simp) ?_
            refine AllReadyH.cons (o := { dst := some 49, op := Go.Op.call { callee := Go.Callee.value (Go.Operand.func 53), args := #[Go.Operand.tmp 42, Go.Operand.tmp 48], argTypes := #[37, 37] }, type := 37, pos := "net.go:523", after := #[{ on := 14, ground := Go.Ground.data }, { on := 20, ground := Go.Ground.data }], guard := none }) rfl (fun K hK => ?_) ?_
            · go_simp
              refine (picked_any (kTo bs tn) d.gates[k].args (some ⟨tb, tf, none⟩) aa tn tc an ac _ (hT.below hB) (hI.below hB) (by omega) (unhide HIN _ (unhide HIA k hkg))).mono ?_
              rintro e wn ⟨aA, nA, cA, rfl, hIA, hFA, hb⟩
              rw [unhide HPK] at hIA
              have hKA := Kp.ints hIA hFA hV.lt
              have hB := bstep hB hb
              have hV := hV.on hb
              try go_wp2_with fail
              refine hK.out _ _ ?_ (fun hHeld => ?_)
              · (try dsimp only)
                (first | with_reducible exact hS _ hB | with_reducible exact hS _ (hB.setCell hbm _) | exact hS _ (hB.setCell hbm _))
              clear hK K
              try simp only [Act.put, List.setIfInBounds_toArray, List.set_cons_zero, List.set_cons_succ]
              refine wpAnyH_take (i := 22) (oi := { dst := some 50, op := Go.Op.build 46 #[(0, Go.Operand.tmp 35), (1, Go.Operand.tmp 41), (2, Go.Operand.tmp 49)], type := 46, pos := "net.go:523", after := #[{ on := 7, ground := Go.Ground.data }, { on := 13, ground := Go.Ground.data }, { on := 21, ground := Go.Ground.data }], guard := none }) (v := ?_) rfl (by kernel_rfl) (by kernel_rfl) (by kernel_rfl) (fun _ _ _ h => h) (Or.inl ⟨by rfl, ?_⟩) (by assumption) ?_
              rotate_left
              · intro w hSw; (try dsimp only at hSw); go_simp; (try (with_reducible rfl))
              try simp only [Act.put, List.setIfInBounds_toArray, List.set_cons_zero, List.set_cons_succ]
              refine wpAnyH_ready (rs := [23]) (by kernel_rfl) (by simp) ?_
              refine AllReadyH.cons (o := { dst := some 51, op := Go.Op.buildSlice 35 1 #[(0, Go.Operand.tmp 50)], type := 35, pos := "net.go:523", after := #[{ on := 22, ground := Go.Ground.data }], guard := none }) rfl (fun K hK => ?_) ?_
              · go_simp
                refine alloc_on (K := K) _ _ (fun wn hb ho => ?_)
                have hB := bstep hB hb
                have hV := hV.on hb
                have hKA := hKA.on hb
                refine hK.out _ _ ?_ (fun hHeld => ?_)
                · (try dsimp only)
                  (first | with_reducible exact hS _ hB | with_reducible exact hS _ (hB.setCell hbm _) | exact hS _ (hB.setCell hbm _))
                clear hK K
                try simp only [Act.put, List.setIfInBounds_toArray, List.set_cons_zero, List.set_cons_succ]
                refine wpAnyH_ready (rs := [24]) (by kernel_rfl) (by simp) ?_
                refine AllReadyH.cons (o := { dst := some 52, op := Go.Op.call { callee := Go.Callee.builtin Go.Builtin.append, args := #[Go.Operand.tmp 29, Go.Operand.tmp 51], argTypes := #[35, 35] }, type := 35, pos := "net.go:523", after := #[{ on := 1, ground := Go.Ground.data }, { on := 23, ground := Go.Ground.data }, { on := 21, ground := Go.Ground.chain }], guard := none }) rfl (fun K hK => ?_) ?_
                · refine step_append_lies _ (by rfl) _ _ 35 (by rfl) w3.heap.size 46 i0 (.agg #[.int .i64 0, .int .i64 0, .slice none 0 0]) 3 40 Try.underlying35 hi hz0 hz1 hz2 rfl (by decide) (.slice pa pn pc) pn cs (by rfl) hV.2.2.2.2.1 _ 1 1 [.int .i64 d.gates[k].kind, .int .i64 d.gates[k].n, .slice aA nA cA] (by rfl) (by rfl) (World.news_of_block (cs := #[.int .i64 d.gates[k].kind, .int .i64 d.gates[k].n, .slice aA nA cA]) (t := 46) (fr := (0, 0)) ho) (by simp [Value.oneCell']) (by omega) (by unfold maxLen; omega) (by omega) hB.size _ rfl ?_
                  intro g8 cap8 w8 hown8 hgr8 hat8 hlt8
                  have hB6 := hB
                  have hB := (hV.cells8 hgr8).2
                  have hc8 := (hV.cells8 hgr8).1
                  have d8 := hc8.cell 1
                  have f8 := hc8.frozen 1
                  refine hK.out _ _ ?_ (fun hHeld => ?_)
                  · (try dsimp only)
                    (first | with_reducible exact hS _ hB | with_reducible exact hS _ (hB.setCell hbm _) | exact hS _ (hB.setCell hbm _))
                  clear hK K
                  try simp only [Act.put, List.setIfInBounds_toArray, List.set_cons_zero, List.set_cons_succ]
                  refine wpAnyH_take (i := 25) (oi := { dst := some 53, op := Go.Op.fieldAddr 39 (Go.Operand.tmp 4) 1, type := 0, pos := "net.go:523", after := #[{ on := 0, ground := Go.Ground.phase }, { on := 1, ground := Go.Ground.phase }, { on := 2, ground := Go.Ground.phase }, { on := 3, ground := Go.Ground.phase }, { on := 4, ground := Go.Ground.phase }, { on := 5, ground := Go.Ground.phase }, { on := 6, ground := Go.Ground.phase }, { on := 7, ground := Go.Ground.phase }, { on := 8, ground := Go.Ground.phase }, { on := 9, ground := Go.Ground.phase }, { on := 10, ground := Go.Ground.phase }, { on := 11, ground := Go.Ground.phase }, { on := 12, ground := Go.Ground.phase }, { on := 13, ground := Go.Ground.phase }, { on := 14, ground := Go.Ground.phase }, { on := 15, ground := Go.Ground.phase }, { on := 16, ground := Go.Ground.phase }, { on := 17, ground := Go.Ground.phase }, { on := 18, ground := Go.Ground.phase }, { on := 19, ground := Go.Ground.phase }, { on := 20, ground := Go.Ground.phase }, { on := 21, ground := Go.Ground.phase }, { on := 22, ground := Go.Ground.phase }, { on := 23, ground := Go.Ground.phase }, { on := 24, ground := Go.Ground.phase }], guard := none }) (v := ?_) rfl (by kernel_rfl) (by kernel_rfl) (by kernel_rfl) (fun _ _ _ h => h) (Or.inl ⟨by rfl, ?_⟩) (by assumption) ?_
                  rotate_left
                  · intro w hSw; (try dsimp only at hSw); go_simp; (try (with_reducible rfl))
                  try simp only [Act.put, List.setIfInBounds_toArray, List.set_cons_zero, List.set_cons_succ]
                  refine wpAnyH_ready (rs := [26]) (by kernel_rfl) (by simp) ?_
                  refine AllReadyH.cons (o := { dst := none, op := Go.Op.store 35 (Go.Operand.tmp 53) (Go.Operand.tmp 52), type := 0, pos := "net.go:523", after := #[{ on := 25, ground := Go.Ground.data }, { on := 24, ground := Go.Ground.data }, { on := 24, ground := Go.Ground.chain }, { on := 0, ground := Go.Ground.phase }, { on := 1, ground := Go.Ground.phase }, { on := 2, ground := Go.Ground.phase }, { on := 3, ground := Go.Ground.phase }, { on := 4, ground := Go.Ground.phase }, { on := 5, ground := Go.Ground.phase }, { on := 6, ground := Go.Ground.phase }, { on := 7, ground := Go.Ground.phase }, { on := 8, ground := Go.Ground.phase }, { on := 9, ground := Go.Ground.phase }, { on := 10, ground := Go.Ground.phase }, { on := 11, ground := Go.Ground.phase }, { on := 12, ground := Go.Ground.phase }, { on := 13, ground := Go.Ground.phase }, { on := 14, ground := Go.Ground.phase }, { on := 15, ground := Go.Ground.phase }, { on := 16, ground := Go.Ground.phase }, { on := 17, ground := Go.Ground.phase }, { on := 18, ground := Go.Ground.phase }, { on := 19, ground := Go.Ground.phase }, { on := 20, ground := Go.Ground.phase }, { on := 21, ground := Go.Ground.phase }, { on := 22, ground := Go.Ground.phase }, { on := 23, ground := Go.Ground.phase }, { on := 24, ground := Go.Ground.phase }], guard := none }) rfl (fun K hK => ?_) ?_
                  · go_simp
                    refine hK.out _ _ ?_ (fun hHeld => ?_)
                    · (try dsimp only)
                      (first | with_reducible exact hS _ hB | with_reducible exact hS _ (hB.setCell hbm _) | exact hS _ (hB.setCell hbm _))
                    clear hK K
                    try simp only [Act.put, List.setIfInBounds_toArray, List.set_cons_zero, List.set_cons_succ]
                    refine wpAnyH_done (by kernel_rfl) ?_ _
                    have R := hide (hV.more (dropG bs d.gates[k]) hKA hown8 hgr8 hat8 hbm)
                    rw [← unhide HTK] at R
                    clear hV hKA hown8 hgr8 hat8 hc8 d8 f8 hB hB6
                    go_wp2_with fail
                    exact ⟨⟨k + 1, _, _, _, _, by omega, by go_num, unhide R⟩, by simp [intOf]; omega⟩
                  exact AllReadyH.nil
                exact AllReadyH.nil
              exact AllReadyH.nil
            exact AllReadyH.nil
          refine AllReadyH.cons (o := { dst := some 49, op := Go.Op.call { callee := Go.Callee.value (Go.Operand.func 53), args := #[Go.Operand.tmp 42, Go.Operand.tmp 48], argTypes := #[37, 37] }, type := 37, pos := "net.go:523", after := #[{ on := 14, ground := Go.Ground.data }, { on := 20, ground := Go.Ground.data }], guard := none }) rfl (fun K hK => ?_) ?_
          · go_simp
            refine (picked_any (kTo bs tn) d.gates[k].args (some ⟨tb, tf, none⟩) aa tn tc an ac _ (hT.below hB) (hI.below hB) (by omega) (unhide HIN _ (unhide HIA k hkg))).mono ?_
            rintro e wn ⟨aA, nA, cA, rfl, hIA, hFA, hb⟩
            rw [unhide HPK] at hIA
            have hKA := Kp.ints hIA hFA hV.lt
            have hB := bstep hB hb
            have hV := hV.on hb
            try go_wp2_with fail
            refine hK.out _ _ ?_ (fun hHeld => ?_)
            · (try dsimp only)
              (first | with_reducible exact hS _ hB | with_reducible exact hS _ (hB.setCell hbm _) | exact hS _ (hB.setCell hbm _))
            clear hK K
            try simp only [Act.put, List.setIfInBounds_toArray, List.set_cons_zero, List.set_cons_succ]
            refine wpAnyH_take (i := 22) (oi := { dst := some 50, op := Go.Op.build 46 #[(0, Go.Operand.tmp 35), (1, Go.Operand.tmp 41), (2, Go.Operand.tmp 49)], type := 46, pos := "net.go:523", after := #[{ on := 7, ground := Go.Ground.data }, { on := 13, ground := Go.Ground.data }, { on := 21, ground := Go.Ground.data }], guard := none }) (v := ?_) rfl (by kernel_rfl) (by kernel_rfl) (by kernel_rfl) (fun _ _ _ h => h) (Or.inl ⟨by rfl, ?_⟩) (by assumption) ?_
            rotate_left
            · intro w hSw; (try dsimp only at hSw); go_simp; (try (with_reducible rfl))
            try simp only [Act.put, List.setIfInBounds_toArray, List.set_cons_zero, List.set_cons_succ]
            refine wpAnyH_ready (rs := [1, 23]) (by kernel_rfl) (by simp) ?_
            refine AllReadyH.cons (o := { dst := some 29, op := Go.Op.load 35 (Go.Operand.tmp 28), type := 35, pos := "net.go:523", after := #[{ on := 0, ground := Go.Ground.data }], guard := none }) rfl (fun K hK => ?_) ?_
            · have d1 := hV.2.1.cell 1
              go_simp
              refine hK.out _ _ ?_ (fun hHeld => ?_)
              · (try dsimp only)
                (first | with_reducible exact hS _ hB | with_reducible exact hS _ (hB.setCell hbm _) | exact hS _ (hB.setCell hbm _))
              clear hK K
              try simp only [Act.put, List.setIfInBounds_toArray, List.set_cons_zero, List.set_cons_succ]
              refine wpAnyH_ready (rs := [23]) (by kernel_rfl) (by simp) ?_
              refine AllReadyH.cons (o := { dst := some 51, op := Go.Op.buildSlice 35 1 #[(0, Go.Operand.tmp 50)], type := 35, pos := "net.go:523", after := #[{ on := 22, ground := Go.Ground.data }], guard := none }) rfl (fun K hK => ?_) ?_
              · go_simp
                refine alloc_on (K := K) _ _ (fun wn hb ho => ?_)
                have hB := bstep hB hb
                have hV := hV.on hb
                have hKA := hKA.on hb
                refine hK.out _ _ ?_ (fun hHeld => ?_)
                · (try dsimp only)
                  (first | with_reducible exact hS _ hB | with_reducible exact hS _ (hB.setCell hbm _) | exact hS _ (hB.setCell hbm _))
                clear hK K
                try simp only [Act.put, List.setIfInBounds_toArray, List.set_cons_zero, List.set_cons_succ]
                refine wpAnyH_ready (rs := [24]) (by kernel_rfl) (by simp) ?_
                refine AllReadyH.cons (o := { dst := some 52, op := Go.Op.call { callee := Go.Callee.builtin Go.Builtin.append, args := #[Go.Operand.tmp 29, Go.Operand.tmp 51], argTypes := #[35, 35] }, type := 35, pos := "net.go:523", after := #[{ on := 1, ground := Go.Ground.data }, { on := 23, ground := Go.Ground.data }, { on := 21, ground := Go.Ground.chain }], guard := none }) rfl (fun K hK => ?_) ?_
                · refine step_append_lies _ (by rfl) _ _ 35 (by rfl) w3.heap.size 46 i0 (.agg #[.int .i64 0, .int .i64 0, .slice none 0 0]) 3 40 Try.underlying35 hi hz0 hz1 hz2 rfl (by decide) (.slice pa pn pc) pn cs (by rfl) hV.2.2.2.2.1 _ 1 1 [.int .i64 d.gates[k].kind, .int .i64 d.gates[k].n, .slice aA nA cA] (by rfl) (by rfl) (World.news_of_block (cs := #[.int .i64 d.gates[k].kind, .int .i64 d.gates[k].n, .slice aA nA cA]) (t := 46) (fr := (0, 0)) ho) (by simp [Value.oneCell']) (by omega) (by unfold maxLen; omega) (by omega) hB.size _ rfl ?_
                  intro g8 cap8 w8 hown8 hgr8 hat8 hlt8
                  have hB6 := hB
                  have hB := (hV.cells8 hgr8).2
                  have hc8 := (hV.cells8 hgr8).1
                  have d8 := hc8.cell 1
                  have f8 := hc8.frozen 1
                  refine hK.out _ _ ?_ (fun hHeld => ?_)
                  · (try dsimp only)
                    (first | with_reducible exact hS _ hB | with_reducible exact hS _ (hB.setCell hbm _) | exact hS _ (hB.setCell hbm _))
                  clear hK K
                  try simp only [Act.put, List.setIfInBounds_toArray, List.set_cons_zero, List.set_cons_succ]
                  refine wpAnyH_take (i := 25) (oi := { dst := some 53, op := Go.Op.fieldAddr 39 (Go.Operand.tmp 4) 1, type := 0, pos := "net.go:523", after := #[{ on := 0, ground := Go.Ground.phase }, { on := 1, ground := Go.Ground.phase }, { on := 2, ground := Go.Ground.phase }, { on := 3, ground := Go.Ground.phase }, { on := 4, ground := Go.Ground.phase }, { on := 5, ground := Go.Ground.phase }, { on := 6, ground := Go.Ground.phase }, { on := 7, ground := Go.Ground.phase }, { on := 8, ground := Go.Ground.phase }, { on := 9, ground := Go.Ground.phase }, { on := 10, ground := Go.Ground.phase }, { on := 11, ground := Go.Ground.phase }, { on := 12, ground := Go.Ground.phase }, { on := 13, ground := Go.Ground.phase }, { on := 14, ground := Go.Ground.phase }, { on := 15, ground := Go.Ground.phase }, { on := 16, ground := Go.Ground.phase }, { on := 17, ground := Go.Ground.phase }, { on := 18, ground := Go.Ground.phase }, { on := 19, ground := Go.Ground.phase }, { on := 20, ground := Go.Ground.phase }, { on := 21, ground := Go.Ground.phase }, { on := 22, ground := Go.Ground.phase }, { on := 23, ground := Go.Ground.phase }, { on := 24, ground := Go.Ground.phase }], guard := none }) (v := ?_) rfl (by kernel_rfl) (by kernel_rfl) (by kernel_rfl) (fun _ _ _ h => h) (Or.inl ⟨by rfl, ?_⟩) (by assumption) ?_
                  rotate_left
                  · intro w hSw; (try dsimp only at hSw); go_simp; (try (with_reducible rfl))
                  try simp only [Act.put, List.setIfInBounds_toArray, List.set_cons_zero, List.set_cons_succ]
                  refine wpAnyH_ready (rs := [26]) (by kernel_rfl) (by simp) ?_
                  refine AllReadyH.cons (o := { dst := none, op := Go.Op.store 35 (Go.Operand.tmp 53) (Go.Operand.tmp 52), type := 0, pos := "net.go:523", after := #[{ on := 25, ground := Go.Ground.data }, { on := 24, ground := Go.Ground.data }, { on := 24, ground := Go.Ground.chain }, { on := 0, ground := Go.Ground.phase }, { on := 1, ground := Go.Ground.phase }, { on := 2, ground := Go.Ground.phase }, { on := 3, ground := Go.Ground.phase }, { on := 4, ground := Go.Ground.phase }, { on := 5, ground := Go.Ground.phase }, { on := 6, ground := Go.Ground.phase }, { on := 7, ground := Go.Ground.phase }, { on := 8, ground := Go.Ground.phase }, { on := 9, ground := Go.Ground.phase }, { on := 10, ground := Go.Ground.phase }, { on := 11, ground := Go.Ground.phase }, { on := 12, ground := Go.Ground.phase }, { on := 13, ground := Go.Ground.phase }, { on := 14, ground := Go.Ground.phase }, { on := 15, ground := Go.Ground.phase }, { on := 16, ground := Go.Ground.phase }, { on := 17, ground := Go.Ground.phase }, { on := 18, ground := Go.Ground.phase }, { on := 19, ground := Go.Ground.phase }, { on := 20, ground := Go.Ground.phase }, { on := 21, ground := Go.Ground.phase }, { on := 22, ground := Go.Ground.phase }, { on := 23, ground := Go.Ground.phase }, { on := 24, ground := Go.Ground.phase }], guard := none }) rfl (fun K hK => ?_) ?_
                  · go_simp
                    refine hK.out _ _ ?_ (fun hHeld => ?_)
                    · (try dsimp only)
                      (first | with_reducible exact hS _ hB | with_reducible exact hS _ (hB.setCell hbm _) | exact hS _ (hB.setCell hbm _))
                    clear hK K
                    try simp only [Act.put, List.setIfInBounds_toArray, List.set_cons_zero, List.set_cons_succ]
                    refine wpAnyH_done (by kernel_rfl) ?_ _
                    have R := hide (hV.more (dropG bs d.gates[k]) hKA hown8 hgr8 hat8 hbm)
                    rw [← unhide HTK] at R
                    clear hV hKA hown8 hgr8 hat8 hc8 d8 f8 hB hB6
                    go_wp2_with fail
                    exact ⟨⟨k + 1, _, _, _, _, by omega, by go_num, unhide R⟩, by simp [intOf]; omega⟩
                  exact AllReadyH.nil
                exact AllReadyH.nil
              exact AllReadyH.nil
            refine AllReadyH.cons (o := { dst := some 51, op := Go.Op.buildSlice 35 1 #[(0, Go.Operand.tmp 50)], type := 35, pos := "net.go:523", after := #[{ on := 22, ground := Go.Ground.data }], guard := none }) rfl (fun K hK => ?_) ?_
            · go_simp
              refine alloc_on (K := K) _ _ (fun wn hb ho => ?_)
              have hB := bstep hB hb
              have hV := hV.on hb
              have hKA := hKA.on hb
              refine hK.out _ _ ?_ (fun hHeld => ?_)
              · (try dsimp only)
                (first | with_reducible exact hS _ hB | with_reducible exact hS _ (hB.setCell hbm _) | exact hS _ (hB.setCell hbm _))
              clear hK K
              try simp only [Act.put, List.setIfInBounds_toArray, List.set_cons_zero, List.set_cons_succ]
              refine wpAnyH_ready (rs := [1]) (by kernel_rfl) (by simp) ?_
              refine AllReadyH.cons (o := { dst := some 29, op := Go.Op.load 35 (Go.Operand.tmp 28), type := 35, pos := "net.go:523", after := #[{ on := 0, ground := Go.Ground.data }], guard := none }) rfl (fun K hK => ?_) ?_
              · have d1 := hV.2.1.cell 1
                go_simp
                refine hK.out _ _ ?_ (fun hHeld => ?_)
                · (try dsimp only)
                  (first | with_reducible exact hS _ hB | with_reducible exact hS _ (hB.setCell hbm _) | exact hS _ (hB.setCell hbm _))
                clear hK K
                try simp only [Act.put, List.setIfInBounds_toArray, List.set_cons_zero, List.set_cons_succ]
                refine wpAnyH_ready (rs := [24]) (by kernel_rfl) (by simp) ?_
                refine AllReadyH.cons (o := { dst := some 52, op := Go.Op.call { callee := Go.Callee.builtin Go.Builtin.append, args := #[Go.Operand.tmp 29, Go.Operand.tmp 51], argTypes := #[35, 35] }, type := 35, pos := "net.go:523", after := #[{ on := 1, ground := Go.Ground.data }, { on := 23, ground := Go.Ground.data }, { on := 21, ground := Go.Ground.chain }], guard := none }) rfl (fun K hK => ?_) ?_
                · refine step_append_lies _ (by rfl) _ _ 35 (by rfl) w3.heap.size 46 i0 (.agg #[.int .i64 0, .int .i64 0, .slice none 0 0]) 3 40 Try.underlying35 hi hz0 hz1 hz2 rfl (by decide) (.slice pa pn pc) pn cs (by rfl) hV.2.2.2.2.1 _ 1 1 [.int .i64 d.gates[k].kind, .int .i64 d.gates[k].n, .slice aA nA cA] (by rfl) (by rfl) (World.news_of_block (cs := #[.int .i64 d.gates[k].kind, .int .i64 d.gates[k].n, .slice aA nA cA]) (t := 46) (fr := (0, 0)) ho) (by simp [Value.oneCell']) (by omega) (by unfold maxLen; omega) (by omega) hB.size _ rfl ?_
                  intro g8 cap8 w8 hown8 hgr8 hat8 hlt8
                  have hB6 := hB
                  have hB := (hV.cells8 hgr8).2
                  have hc8 := (hV.cells8 hgr8).1
                  have d8 := hc8.cell 1
                  have f8 := hc8.frozen 1
                  refine hK.out _ _ ?_ (fun hHeld => ?_)
                  · (try dsimp only)
                    (first | with_reducible exact hS _ hB | with_reducible exact hS _ (hB.setCell hbm _) | exact hS _ (hB.setCell hbm _))
                  clear hK K
                  try simp only [Act.put, List.setIfInBounds_toArray, List.set_cons_zero, List.set_cons_succ]
                  refine wpAnyH_take (i := 25) (oi := { dst := some 53, op := Go.Op.fieldAddr 39 (Go.Operand.tmp 4) 1, type := 0, pos := "net.go:523", after := #[{ on := 0, ground := Go.Ground.phase }, { on := 1, ground := Go.Ground.phase }, { on := 2, ground := Go.Ground.phase }, { on := 3, ground := Go.Ground.phase }, { on := 4, ground := Go.Ground.phase }, { on := 5, ground := Go.Ground.phase }, { on := 6, ground := Go.Ground.phase }, { on := 7, ground := Go.Ground.phase }, { on := 8, ground := Go.Ground.phase }, { on := 9, ground := Go.Ground.phase }, { on := 10, ground := Go.Ground.phase }, { on := 11, ground := Go.Ground.phase }, { on := 12, ground := Go.Ground.phase }, { on := 13, ground := Go.Ground.phase }, { on := 14, ground := Go.Ground.phase }, { on := 15, ground := Go.Ground.phase }, { on := 16, ground := Go.Ground.phase }, { on := 17, ground := Go.Ground.phase }, { on := 18, ground := Go.Ground.phase }, { on := 19, ground := Go.Ground.phase }, { on := 20, ground := Go.Ground.phase }, { on := 21, ground := Go.Ground.phase }, { on := 22, ground := Go.Ground.phase }, { on := 23, ground := Go.Ground.phase }, { on := 24, ground := Go.Ground.phase }], guard := none }) (v := ?_) rfl (by kernel_rfl) (by kernel_rfl) (by kernel_rfl) (fun _ _ _ h => h) (Or.inl ⟨by rfl, ?_⟩) (by assumption) ?_
                  rotate_left
                  · intro w hSw; (try dsimp only at hSw); go_simp; (try (with_reducible rfl))
                  try simp only [Act.put, List.setIfInBounds_toArray, List.set_cons_zero, List.set_cons_succ]
                  refine wpAnyH_ready (rs := [26]) (by kernel_rfl) (by simp) ?_
                  refine AllReadyH.cons (o := { dst := none, op := Go.Op.store 35 (Go.Operand.tmp 53) (Go.Operand.tmp 52), type := 0, pos := "net.go:523", after := #[{ on := 25, ground := Go.Ground.data }, { on := 24, ground := Go.Ground.data }, { on := 24, ground := Go.Ground.chain }, { on := 0, ground := Go.Ground.phase }, { on := 1, ground := Go.Ground.phase }, { on := 2, ground := Go.Ground.phase }, { on := 3, ground := Go.Ground.phase }, { on := 4, ground := Go.Ground.phase }, { on := 5, ground := Go.Ground.phase }, { on := 6, ground := Go.Ground.phase }, { on := 7, ground := Go.Ground.phase }, { on := 8, ground := Go.Ground.phase }, { on := 9, ground := Go.Ground.phase }, { on := 10, ground := Go.Ground.phase }, { on := 11, ground := Go.Ground.phase }, { on := 12, ground := Go.Ground.phase }, { on := 13, ground := Go.Ground.phase }, { on := 14, ground := Go.Ground.phase }, { on := 15, ground := Go.Ground.phase }, { on := 16, ground := Go.Ground.phase }, { on := 17, ground := Go.Ground.phase }, { on := 18, ground := Go.Ground.phase }, { on := 19, ground := Go.Ground.phase }, { on := 20, ground := Go.Ground.phase }, { on := 21, ground := Go.Ground.phase }, { on := 22, ground := Go.Ground.phase }, { on := 23, ground := Go.Ground.phase }, { on := 24, ground := Go.Ground.phase }], guard := none }) rfl (fun K hK => ?_) ?_
                  · go_simp
                    refine hK.out _ _ ?_ (fun hHeld => ?_)
                    · (try dsimp only)
                      (first | with_reducible exact hS _ hB | with_reducible exact hS _ (hB.setCell hbm _) | exact hS _ (hB.setCell hbm _))
                    clear hK K
                    try simp only [Act.put, List.setIfInBounds_toArray, List.set_cons_zero, List.set_cons_succ]
                    refine wpAnyH_done (by kernel_rfl) ?_ _
                    have R := hide (hV.more (dropG bs d.gates[k]) hKA hown8 hgr8 hat8 hbm)
                    rw [← unhide HTK] at R
                    clear hV hKA hown8 hgr8 hat8 hc8 d8 f8 hB hB6
                    go_wp2_with fail
                    exact ⟨⟨k + 1, _, _, _, _, by omega, by go_num, unhide R⟩, by simp [intOf]; omega⟩
                  exact AllReadyH.nil
                exact AllReadyH.nil
              exact AllReadyH.nil
            exact AllReadyH.nil
          exact AllReadyH.nil
      · have hkn : k = tn := by omega
        subst hkn
        rw [show gatesTo d bs k = (dropW d bs).gates by rw [gatesTo_full, unhide HBL]] at hV
        have hpm : pn ≤ 200 := by
          have h1 := hV.1
          rw [drop_len] at h1
          have h2 := kept_le bs
          have := unhide HBL
          omega
        have hR0 : RInv w3 wr bm ins0 pa pn pc (dropW d bs).gates ob on1 od (movedV bs d.outs) none 0 0 [] := by
          have hg := hV.gates (by unfold maxLen; omega)
          obtain ⟨g0, g1, g2, g3, g4, g5, g6⟩ := hV
          refine ⟨rfl, g1, hg, g3.less (fun g hg => ?_), ⟨rfl, Or.inl ⟨rfl, rfl⟩⟩, g6⟩
          rcases List.mem_cons.1 hg with h9 | h9
          · exact List.mem_cons.2 (Or.inl h9)
          · exact List.mem_cons.2 (Or.inr (List.mem_append.2 (Or.inr (by simpa [ownL, Value.ownBlock] using h9))))
        have HPN := hide hV.1
        obtain ⟨_, q1, q2, q3, q4⟩ := hx0.below hB
        clear hV
        go_wp2_with fail
        clear q1 q2 q3 q4
        go_loopw [6] (fun iv wr => ∃ (j qn qc : Nat) (qa : Option Addr), j ≤ rn ∧ iv = .int .i64 j ∧ RInv w3 wr bm ins0 pa pn pc (dropW d bs).gates ob on1 od (movedV bs d.outs) qa qn qc ((d.regs.map (dropR bs)).take j)) (fun iv _ => rn - (intOf iv).toNat)
        case atStart => exact ⟨0, 0, 0, none, Nat.zero_le _, rfl, hR0⟩
        case round =>
          clear hR0 hB
          obtain ⟨j, qn, qc, qa, hjl, rfl, hV⟩ := hrel
          have hB := hV.2.2.2.2.2
          by_cases hlj : j < rn
          · have hji : (j : Int) < (rn : Int) := by omega
            have hjd : j < d.regs.length := by have := unhide HRL; omega
            obtain ⟨b, off, rfl, hbb, c1, c2⟩ := hN3.regs.at hjd
            obtain ⟨hp, hq, hbt⟩ := (unhide HIR) d.regs[j] (List.getElem_mem hjd)
            obtain ⟨x, hx⟩ := Int.eq_ofNat_of_zero_le hp
            have hxg : x < k := by rw [hx] at hq; simpa using hq
            rw [hx, Int.toNat_natCast] at hbt
            have hxi : (x : Int) < (k : Int) := by omega
            have hx00 : (0 : Int) ≤ (x : Int) := by omega
            have hkt : x < (kTo bs k).length := by rw [kTo_len]; exact hxg
            obtain ⟨tb, tf, rfl, htb, ct⟩ := hT.at hkt
            have hte : (kTo bs k)[x] = (atN bs x : Int) := by rw [← toV_of hbt]; simp [kTo]
            rw [hte] at ct
            rw [hx] at c2
            have HTK := hide (show (d.regs.map (dropR bs)).take (j + 1) = (d.regs.map (dropR bs)).take j ++ [(d.regs[j].1, (atN bs x : Int))] by
              have hjm : j < (d.regs.map (dropR bs)).length := by simpa using hjd
              rw [List.take_succ_eq_append_getElem hjm, List.getElem_map]
              simp [dropR, hx, toV_of hbt])
            have hqn : qn ≤ 20 := by have h1 := hV.1; have h2 := List.length_take_le j (d.regs.map (dropR bs)); omega
            have hS : ∀ W, Below w3.heap.size w3 W → (Below w3.heap.size w3 W ∧ W.cell? ⟨w.heap.size, 2, none⟩ = some (.slice (some ⟨b, off, none⟩) rn rc) ∧ W.cell? ⟨b, off + j * 2, none⟩ = some (.bool d.regs[j].1) ∧ W.cell? ⟨b, off + j * 2 + 1, none⟩ = some (.int .i64 (x : Int)) ∧ W.cell? ⟨tb, tf + x, none⟩ = some (.int .i64 (atN bs x : Int))) := fun W hW => by
              obtain ⟨_, _, _, y3, _⟩ := hx0.below hW
              exact ⟨hW, y3, (hW.cell (p := ⟨b, off + j * 2, none⟩) hbb).trans c1, (hW.cell (p := ⟨b, off + j * 2 + 1, none⟩) hbb).trans c2, (hW.cell (p := ⟨tb, tf + x, none⟩) htb).trans ct⟩
            obtain ⟨_, y2, _, _, _⟩ := hS wr hB
            clear c1 c2 ct hp hq hbt hx hte hkt
            generalize atN bs x = ax at *
            go_upto_region 11 with fail
            clear y2
            have hB := hB.drew
            have hV := hV.on (Below.refl _ _).drew
            refine wp_region_held_drew (S := fun W => Below w3.heap.size w3 W ∧ W.cell? ⟨w.heap.size, 2, none⟩ = some (.slice (some ⟨b, off, none⟩) rn rc) ∧ W.cell? ⟨b, off + j * 2, none⟩ = some (.bool d.regs[j].1) ∧ W.cell? ⟨b, off + j * 2 + 1, none⟩ = some (.int .i64 (x : Int)) ∧ W.cell? ⟨tb, tf + x, none⟩ = some (.int .i64 (ax : Int))) (by kernel_rfl) ?_ (fun hHeld => ?_)
            · exact hS _ hB
            generalize wr.drew = wd at hB hV hHeld ⊢
            refine wpAnyH_take (i := 0) (oi := { dst := some 61, op := Go.Op.fieldAddr 39 (Go.Operand.tmp 4) 2, type := 0, pos := "net.go:527", after := #[], guard := none }) (v := ?_) rfl (by kernel_rfl) (by kernel_rfl) (by kernel_rfl) (fun _ _ _ h => h) (Or.inl ⟨by rfl, ?_⟩) (by assumption) ?_
            rotate_left
            · intro w hSw; (try dsimp only at hSw); go_simp; (try (with_reducible rfl))
            try simp only [Act.put, List.setIfInBounds_toArray, List.set_cons_zero, List.set_cons_succ]
            refine wpAnyH_take (i := 2) (oi := { dst := some 63, op := Go.Op.fieldAddr 39 (Go.Operand.tmp 1) 2, type := 0, pos := "net.go:527", after := #[], guard := none }) (v := ?_) rfl (by kernel_rfl) (by kernel_rfl) (by kernel_rfl) (fun _ _ _ h => h) (Or.inl ⟨by rfl, ?_⟩) (by assumption) ?_
            rotate_left
            · intro w hSw; (try dsimp only at hSw); go_simp; (try (with_reducible rfl))
            try simp only [Act.put, List.setIfInBounds_toArray, List.set_cons_zero, List.set_cons_succ]
            refine wpAnyH_take (i := 3) (oi := { dst := some 64, op := Go.Op.load 36 (Go.Operand.tmp 63), type := 36, pos := "net.go:527", after := #[{ on := 2, ground := Go.Ground.data }], guard := none }) (v := ?_) rfl (by kernel_rfl) (by kernel_rfl) (by kernel_rfl) (fun _ _ _ h => h) (Or.inl ⟨by rfl, ?_⟩) (by assumption) ?_
            rotate_left
            · intro w hSw; (try dsimp only at hSw); go_simp; (try (with_reducible rfl))
            try simp only [Act.put, List.setIfInBounds_toArray, List.set_cons_zero, List.set_cons_succ]
            refine wpAnyH_take (i := 4) (oi := { dst := some 65, op := Go.Op.move (Go.Operand.tmp 6), type := 3, pos := "net.go:527", after := #[], guard := none }) (v := ?_) rfl (by kernel_rfl) (by kernel_rfl) (by kernel_rfl) (fun _ _ _ h => h) (Or.inl ⟨by rfl, ?_⟩) (by assumption) ?_
            rotate_left
            · intro w hSw; (try dsimp only at hSw); go_simp; (try (with_reducible rfl))
            try simp only [Act.put, List.setIfInBounds_toArray, List.set_cons_zero, List.set_cons_succ]
            refine wpAnyH_take (i := 5) (oi := { dst := some 66, op := Go.Op.indexAddr 36 (Go.Operand.tmp 64) (Go.Operand.tmp 65), type := 0, pos := "net.go:527", after := #[{ on := 3, ground := Go.Ground.data }, { on := 4, ground := Go.Ground.data }], guard := none }) (v := ?_) rfl (by kernel_rfl) (by kernel_rfl) (by kernel_rfl) (fun _ _ _ h => h) (Or.inl ⟨by rfl, ?_⟩) (by assumption) ?_
            rotate_left
            · intro w hSw; (try dsimp only at hSw); go_simp; (try (with_reducible rfl))
            try simp only [Act.put, List.setIfInBounds_toArray, List.set_cons_zero, List.set_cons_succ]
            refine wpAnyH_take (i := 6) (oi := { dst := some 67, op := Go.Op.fieldAddr 48 (Go.Operand.tmp 66) 0, type := 0, pos := "net.go:527", after := #[{ on := 5, ground := Go.Ground.data }], guard := none }) (v := ?_) rfl (by kernel_rfl) (by kernel_rfl) (by kernel_rfl) (fun _ _ _ h => h) (Or.inl ⟨by rfl, ?_⟩) (by assumption) ?_
            rotate_left
            · intro w hSw; (try dsimp only at hSw); go_simp; (try (with_reducible rfl))
            try simp only [Act.put, List.setIfInBounds_toArray, List.set_cons_zero, List.set_cons_succ]
            refine wpAnyH_take (i := 7) (oi := { dst := some 68, op := Go.Op.load 4 (Go.Operand.tmp 67), type := 4, pos := "net.go:527", after := #[{ on := 6, ground := Go.Ground.data }], guard := none }) (v := ?_) rfl (by kernel_rfl) (by kernel_rfl) (by kernel_rfl) (fun _ _ _ h => h) (Or.inl ⟨by rfl, ?_⟩) (by assumption) ?_
            rotate_left
            · intro w hSw; (try dsimp only at hSw); go_simp; (try (with_reducible rfl))
            try simp only [Act.put, List.setIfInBounds_toArray, List.set_cons_zero, List.set_cons_succ]
            refine wpAnyH_take (i := 8) (oi := { dst := some 69, op := Go.Op.move (Go.Operand.tmp 3), type := 37, pos := "net.go:527", after := #[], guard := none }) (v := ?_) rfl (by kernel_rfl) (by kernel_rfl) (by kernel_rfl) (fun _ _ _ h => h) (Or.inl ⟨by rfl, ?_⟩) (by assumption) ?_
            rotate_left
            · intro w hSw; (try dsimp only at hSw); go_simp; (try (with_reducible rfl))
            try simp only [Act.put, List.setIfInBounds_toArray, List.set_cons_zero, List.set_cons_succ]
            refine wpAnyH_take (i := 9) (oi := { dst := some 70, op := Go.Op.fieldAddr 39 (Go.Operand.tmp 1) 2, type := 0, pos := "net.go:527", after := #[], guard := none }) (v := ?_) rfl (by kernel_rfl) (by kernel_rfl) (by kernel_rfl) (fun _ _ _ h => h) (Or.inl ⟨by rfl, ?_⟩) (by assumption) ?_
            rotate_left
            · intro w hSw; (try dsimp only at hSw); go_simp; (try (with_reducible rfl))
            try simp only [Act.put, List.setIfInBounds_toArray, List.set_cons_zero, List.set_cons_succ]
            refine wpAnyH_take (i := 10) (oi := { dst := some 71, op := Go.Op.load 36 (Go.Operand.tmp 70), type := 36, pos := "net.go:527", after := #[{ on := 9, ground := Go.Ground.data }], guard := none }) (v := ?_) rfl (by kernel_rfl) (by kernel_rfl) (by kernel_rfl) (fun _ _ _ h => h) (Or.inl ⟨by rfl, ?_⟩) (by assumption) ?_
            rotate_left
            · intro w hSw; (try dsimp only at hSw); go_simp; (try (with_reducible rfl))
            try simp only [Act.put, List.setIfInBounds_toArray, List.set_cons_zero, List.set_cons_succ]
            refine wpAnyH_take (i := 11) (oi := { dst := some 72, op := Go.Op.move (Go.Operand.tmp 6), type := 3, pos := "net.go:527", after := #[], guard := none }) (v := ?_) rfl (by kernel_rfl) (by kernel_rfl) (by kernel_rfl) (fun _ _ _ h => h) (Or.inl ⟨by rfl, ?_⟩) (by assumption) ?_
            rotate_left
            · intro w hSw; (try dsimp only at hSw); go_simp; (try (with_reducible rfl))
            try simp only [Act.put, List.setIfInBounds_toArray, List.set_cons_zero, List.set_cons_succ]
            refine wpAnyH_take (i := 12) (oi := { dst := some 73, op := Go.Op.indexAddr 36 (Go.Operand.tmp 71) (Go.Operand.tmp 72), type := 0, pos := "net.go:527", after := #[{ on := 10, ground := Go.Ground.data }, { on := 11, ground := Go.Ground.data }], guard := none }) (v := ?_) rfl (by kernel_rfl) (by kernel_rfl) (by kernel_rfl) (fun _ _ _ h => h) (Or.inl ⟨by rfl, ?_⟩) (by assumption) ?_
            rotate_left
            · intro w hSw; (try dsimp only at hSw); go_simp; (try (with_reducible rfl))
            try simp only [Act.put, List.setIfInBounds_toArray, List.set_cons_zero, List.set_cons_succ]
            refine wpAnyH_take (i := 13) (oi := { dst := some 74, op := Go.Op.fieldAddr 48 (Go.Operand.tmp 73) 1, type := 0, pos := "net.go:527", after := #[{ on := 12, ground := Go.Ground.data }], guard := none }) (v := ?_) rfl (by kernel_rfl) (by kernel_rfl) (by kernel_rfl) (fun _ _ _ h => h) (Or.inl ⟨by rfl, ?_⟩) (by assumption) ?_
            rotate_left
            · intro w hSw; (try dsimp only at hSw); go_simp; (try (with_reducible rfl))
            try simp only [Act.put, List.setIfInBounds_toArray, List.set_cons_zero, List.set_cons_succ]
            refine wpAnyH_take (i := 14) (oi := { dst := some 75, op := Go.Op.load 3 (Go.Operand.tmp 74), type := 3, pos := "net.go:527", after := #[{ on := 13, ground := Go.Ground.data }], guard := none }) (v := ?_) rfl (by kernel_rfl) (by kernel_rfl) (by kernel_rfl) (fun _ _ _ h => h) (Or.inl ⟨by rfl, ?_⟩) (by assumption) ?_
            rotate_left
            · intro w hSw; (try dsimp only at hSw); go_simp; (try (with_reducible rfl))
            try simp only [Act.put, List.setIfInBounds_toArray, List.set_cons_zero, List.set_cons_succ]
            refine wpAnyH_take (i := 15) (oi := { dst := some 76, op := Go.Op.indexAddr 37 (Go.Operand.tmp 69) (Go.Operand.tmp 75), type := 0, pos := "net.go:527", after := #[{ on := 8, ground := Go.Ground.data }, { on := 14, ground := Go.Ground.data }], guard := none }) (v := ?_) rfl (by kernel_rfl) (by kernel_rfl) (by kernel_rfl) (fun _ _ _ h => h) (Or.inl ⟨by rfl, ?_⟩) (by assumption) ?_
            rotate_left
            · intro w hSw; (try dsimp only at hSw); go_simp; (try (with_reducible rfl))
            try simp only [Act.put, List.setIfInBounds_toArray, List.set_cons_zero, List.set_cons_succ]
            refine wpAnyH_take (i := 16) (oi := { dst := some 77, op := Go.Op.load 3 (Go.Operand.tmp 76), type := 3, pos := "net.go:527", after := #[{ on := 15, ground := Go.Ground.data }], guard := none }) (v := ?_) rfl (by kernel_rfl) (by kernel_rfl) (by kernel_rfl) (fun _ _ _ h => h) (Or.inl ⟨by rfl, ?_⟩) (by assumption) ?_
            rotate_left
            · intro w hSw; (try dsimp only at hSw); go_simp; (try (with_reducible rfl))
            try simp only [Act.put, List.setIfInBounds_toArray, List.set_cons_zero, List.set_cons_succ]
            refine wpAnyH_take (i := 17) (oi := { dst := some 78, op := Go.Op.build 48 #[(0, Go.Operand.tmp 68), (1, Go.Operand.tmp 77)], type := 48, pos := "net.go:527", after := #[{ on := 7, ground := Go.Ground.data }, { on := 16, ground := Go.Ground.data }], guard := none }) (v := ?_) rfl (by kernel_rfl) (by kernel_rfl) (by kernel_rfl) (fun _ _ _ h => h) (Or.inl ⟨by rfl, ?_⟩) (by assumption) ?_
            rotate_left
            · intro w hSw; (try dsimp only at hSw); go_simp; (try (with_reducible rfl))
            try simp only [Act.put, List.setIfInBounds_toArray, List.set_cons_zero, List.set_cons_succ]
            refine wpAnyH_ready (rs := [1, 18]) (by kernel_rfl) (by simp) ?_
            refine AllReadyH.cons (o := { dst := some 62, op := Go.Op.load 36 (Go.Operand.tmp 61), type := 36, pos := "net.go:527", after := #[{ on := 0, ground := Go.Ground.data }], guard := none }) rfl (fun K hK => ?_) ?_
            · have d1 := hV.2.1.cell 2
              go_simp
              refine hK.out _ _ ?_ (fun hHeld => ?_)
              · (try dsimp only)
                (first | with_reducible exact hS _ hB | with_reducible exact hS _ (hB.setCell hbm _) | exact hS _ (hB.setCell hbm _))
              clear hK K
              try simp only [Act.put, List.setIfInBounds_toArray, List.set_cons_zero, List.set_cons_succ]
              refine wpAnyH_ready (rs := [18]) (by kernel_rfl) (by simp) ?_
              refine AllReadyH.cons (o := { dst := some 79, op := Go.Op.buildSlice 36 1 #[(0, Go.Operand.tmp 78)], type := 36, pos := "net.go:527", after := #[{ on := 17, ground := Go.Ground.data }], guard := none }) rfl (fun K hK => ?_) ?_
              · go_simp
                refine alloc_on (K := K) _ _ (fun wn hb ho => ?_)
                have hB := bstep hB hb
                have hV := hV.on hb
                refine hK.out _ _ ?_ (fun hHeld => ?_)
                · (try dsimp only)
                  (first | with_reducible exact hS _ hB | with_reducible exact hS _ (hB.setCell hbm _) | exact hS _ (hB.setCell hbm _))
                clear hK K
                try simp only [Act.put, List.setIfInBounds_toArray, List.set_cons_zero, List.set_cons_succ]
                refine wpAnyH_ready (rs := [19]) (by kernel_rfl) (by simp) ?_
                refine AllReadyH.cons (o := { dst := some 80, op := Go.Op.call { callee := Go.Callee.builtin Go.Builtin.append, args := #[Go.Operand.tmp 62, Go.Operand.tmp 79], argTypes := #[36, 36] }, type := 36, pos := "net.go:527", after := #[{ on := 1, ground := Go.Ground.data }, { on := 18, ground := Go.Ground.data }], guard := none }) rfl (fun K hK => ?_) ?_
                · refine step_append_lies _ (by rfl) _ _ 36 (by rfl) w3.heap.size 48 j0 (.agg #[.bool false, .int .i64 0]) 2 16 Try.underlying36 hj hy0 hy1 hy2 rfl (by decide) (.slice qa qn qc) qn (regsV ((d.regs.map (dropR bs)).take j)) (by rfl) hV.2.2.2.2.1 _ 1 1 [.bool d.regs[j].1, .int .i64 (ax : Int)] (by rfl) (by rfl) (World.news_of_block (cs := #[.bool d.regs[j].1, .int .i64 (ax : Int)]) (t := 48) (fr := (0, 0)) ho) (by simp [Value.oneCell']) (by omega) (by unfold maxLen; omega) (by omega) hB.size _ rfl ?_
                  intro g8 cap8 w8 hown8 hgr8 hat8 hlt8
                  have hB6 := hB
                  have hB := (hV.cells8 hgr8).2
                  have hc8 := (hV.cells8 hgr8).1
                  have d8 := hc8.cell 2
                  have f8 := hc8.frozen 2
                  refine hK.out _ _ ?_ (fun hHeld => ?_)
                  · (try dsimp only)
                    (first | with_reducible exact hS _ hB | with_reducible exact hS _ (hB.setCell hbm _) | exact hS _ (hB.setCell hbm _))
                  clear hK K
                  try simp only [Act.put, List.setIfInBounds_toArray, List.set_cons_zero, List.set_cons_succ]
                  refine wpAnyH_take (i := 20) (oi := { dst := some 81, op := Go.Op.fieldAddr 39 (Go.Operand.tmp 4) 2, type := 0, pos := "net.go:527", after := #[{ on := 0, ground := Go.Ground.phase }, { on := 1, ground := Go.Ground.phase }, { on := 2, ground := Go.Ground.phase }, { on := 3, ground := Go.Ground.phase }, { on := 4, ground := Go.Ground.phase }, { on := 5, ground := Go.Ground.phase }, { on := 6, ground := Go.Ground.phase }, { on := 7, ground := Go.Ground.phase }, { on := 8, ground := Go.Ground.phase }, { on := 9, ground := Go.Ground.phase }, { on := 10, ground := Go.Ground.phase }, { on := 11, ground := Go.Ground.phase }, { on := 12, ground := Go.Ground.phase }, { on := 13, ground := Go.Ground.phase }, { on := 14, ground := Go.Ground.phase }, { on := 15, ground := Go.Ground.phase }, { on := 16, ground := Go.Ground.phase }, { on := 17, ground := Go.Ground.phase }, { on := 18, ground := Go.Ground.phase }, { on := 19, ground := Go.Ground.phase }], guard := none }) (v := ?_) rfl (by kernel_rfl) (by kernel_rfl) (by kernel_rfl) (fun _ _ _ h => h) (Or.inl ⟨by rfl, ?_⟩) (by assumption) ?_
                  rotate_left
                  · intro w hSw; (try dsimp only at hSw); go_simp; (try (with_reducible rfl))
                  try simp only [Act.put, List.setIfInBounds_toArray, List.set_cons_zero, List.set_cons_succ]
                  refine wpAnyH_ready (rs := [21]) (by kernel_rfl) (by simp) ?_
                  refine AllReadyH.cons (o := { dst := none, op := Go.Op.store 36 (Go.Operand.tmp 81) (Go.Operand.tmp 80), type := 0, pos := "net.go:527", after := #[{ on := 20, ground := Go.Ground.data }, { on := 19, ground := Go.Ground.data }, { on := 19, ground := Go.Ground.chain }, { on := 0, ground := Go.Ground.phase }, { on := 1, ground := Go.Ground.phase }, { on := 2, ground := Go.Ground.phase }, { on := 3, ground := Go.Ground.phase }, { on := 4, ground := Go.Ground.phase }, { on := 5, ground := Go.Ground.phase }, { on := 6, ground := Go.Ground.phase }, { on := 7, ground := Go.Ground.phase }, { on := 8, ground := Go.Ground.phase }, { on := 9, ground := Go.Ground.phase }, { on := 10, ground := Go.Ground.phase }, { on := 11, ground := Go.Ground.phase }, { on := 12, ground := Go.Ground.phase }, { on := 13, ground := Go.Ground.phase }, { on := 14, ground := Go.Ground.phase }, { on := 15, ground := Go.Ground.phase }, { on := 16, ground := Go.Ground.phase }, { on := 17, ground := Go.Ground.phase }, { on := 18, ground := Go.Ground.phase }, { on := 19, ground := Go.Ground.phase }], guard := none }) rfl (fun K hK => ?_) ?_
                  · go_simp
                    refine hK.out _ _ ?_ (fun hHeld => ?_)
                    · (try dsimp only)
                      (first | with_reducible exact hS _ hB | with_reducible exact hS _ (hB.setCell hbm _) | exact hS _ (hB.setCell hbm _))
                    clear hK K
                    try simp only [Act.put, List.setIfInBounds_toArray, List.set_cons_zero, List.set_cons_succ]
                    refine wpAnyH_done (by kernel_rfl) ?_ _
                    have R := hide (hV.more (d.regs[j].1, (ax : Int)) hown8 hgr8 hat8 hbm)
                    rw [← unhide HTK] at R
                    clear hV hown8 hgr8 hat8 hc8 d8 f8 hB hB6
                    go_wp2_with fail
                    exact ⟨⟨j + 1, _, _, _, by omega, by go_num, unhide R⟩, by simp [intOf]; omega⟩
                  exact AllReadyH.nil
                exact AllReadyH.nil
              exact AllReadyH.nil
            refine AllReadyH.cons (o := { dst := some 79, op := Go.Op.buildSlice 36 1 #[(0, Go.Operand.tmp 78)], type := 36, pos := "net.go:527", after := #[{ on := 17, ground := Go.Ground.data }], guard := none }) rfl (fun K hK => ?_) ?_
            · go_simp
              refine alloc_on (K := K) _ _ (fun wn hb ho => ?_)
              have hB := bstep hB hb
              have hV := hV.on hb
              refine hK.out _ _ ?_ (fun hHeld => ?_)
              · (try dsimp only)
                (first | with_reducible exact hS _ hB | with_reducible exact hS _ (hB.setCell hbm _) | exact hS _ (hB.setCell hbm _))
              clear hK K
              try simp only [Act.put, List.setIfInBounds_toArray, List.set_cons_zero, List.set_cons_succ]
              refine wpAnyH_ready (rs := [1]) (by kernel_rfl) (by simp) ?_
              refine AllReadyH.cons (o := { dst := some 62, op := Go.Op.load 36 (Go.Operand.tmp 61), type := 36, pos := "net.go:527", after := #[{ on := 0, ground := Go.Ground.data }], guard := none }) rfl (fun K hK => ?_) ?_
              · have d1 := hV.2.1.cell 2
                go_simp
                refine hK.out _ _ ?_ (fun hHeld => ?_)
                · (try dsimp only)
                  (first | with_reducible exact hS _ hB | with_reducible exact hS _ (hB.setCell hbm _) | exact hS _ (hB.setCell hbm _))
                clear hK K
                try simp only [Act.put, List.setIfInBounds_toArray, List.set_cons_zero, List.set_cons_succ]
                refine wpAnyH_ready (rs := [19]) (by kernel_rfl) (by simp) ?_
                refine AllReadyH.cons (o := { dst := some 80, op := Go.Op.call { callee := Go.Callee.builtin Go.Builtin.append, args := #[Go.Operand.tmp 62, Go.Operand.tmp 79], argTypes := #[36, 36] }, type := 36, pos := "net.go:527", after := #[{ on := 1, ground := Go.Ground.data }, { on := 18, ground := Go.Ground.data }], guard := none }) rfl (fun K hK => ?_) ?_
                · refine step_append_lies _ (by rfl) _ _ 36 (by rfl) w3.heap.size 48 j0 (.agg #[.bool false, .int .i64 0]) 2 16 Try.underlying36 hj hy0 hy1 hy2 rfl (by decide) (.slice qa qn qc) qn (regsV ((d.regs.map (dropR bs)).take j)) (by rfl) hV.2.2.2.2.1 _ 1 1 [.bool d.regs[j].1, .int .i64 (ax : Int)] (by rfl) (by rfl) (World.news_of_block (cs := #[.bool d.regs[j].1, .int .i64 (ax : Int)]) (t := 48) (fr := (0, 0)) ho) (by simp [Value.oneCell']) (by omega) (by unfold maxLen; omega) (by omega) hB.size _ rfl ?_
                  intro g8 cap8 w8 hown8 hgr8 hat8 hlt8
                  have hB6 := hB
                  have hB := (hV.cells8 hgr8).2
                  have hc8 := (hV.cells8 hgr8).1
                  have d8 := hc8.cell 2
                  have f8 := hc8.frozen 2
                  refine hK.out _ _ ?_ (fun hHeld => ?_)
                  · (try dsimp only)
                    (first | with_reducible exact hS _ hB | with_reducible exact hS _ (hB.setCell hbm _) | exact hS _ (hB.setCell hbm _))
                  clear hK K
                  try simp only [Act.put, List.setIfInBounds_toArray, List.set_cons_zero, List.set_cons_succ]
                  refine wpAnyH_take (i := 20) (oi := { dst := some 81, op := Go.Op.fieldAddr 39 (Go.Operand.tmp 4) 2, type := 0, pos := "net.go:527", after := #[{ on := 0, ground := Go.Ground.phase }, { on := 1, ground := Go.Ground.phase }, { on := 2, ground := Go.Ground.phase }, { on := 3, ground := Go.Ground.phase }, { on := 4, ground := Go.Ground.phase }, { on := 5, ground := Go.Ground.phase }, { on := 6, ground := Go.Ground.phase }, { on := 7, ground := Go.Ground.phase }, { on := 8, ground := Go.Ground.phase }, { on := 9, ground := Go.Ground.phase }, { on := 10, ground := Go.Ground.phase }, { on := 11, ground := Go.Ground.phase }, { on := 12, ground := Go.Ground.phase }, { on := 13, ground := Go.Ground.phase }, { on := 14, ground := Go.Ground.phase }, { on := 15, ground := Go.Ground.phase }, { on := 16, ground := Go.Ground.phase }, { on := 17, ground := Go.Ground.phase }, { on := 18, ground := Go.Ground.phase }, { on := 19, ground := Go.Ground.phase }], guard := none }) (v := ?_) rfl (by kernel_rfl) (by kernel_rfl) (by kernel_rfl) (fun _ _ _ h => h) (Or.inl ⟨by rfl, ?_⟩) (by assumption) ?_
                  rotate_left
                  · intro w hSw; (try dsimp only at hSw); go_simp; (try (with_reducible rfl))
                  try simp only [Act.put, List.setIfInBounds_toArray, List.set_cons_zero, List.set_cons_succ]
                  refine wpAnyH_ready (rs := [21]) (by kernel_rfl) (by simp) ?_
                  refine AllReadyH.cons (o := { dst := none, op := Go.Op.store 36 (Go.Operand.tmp 81) (Go.Operand.tmp 80), type := 0, pos := "net.go:527", after := #[{ on := 20, ground := Go.Ground.data }, { on := 19, ground := Go.Ground.data }, { on := 19, ground := Go.Ground.chain }, { on := 0, ground := Go.Ground.phase }, { on := 1, ground := Go.Ground.phase }, { on := 2, ground := Go.Ground.phase }, { on := 3, ground := Go.Ground.phase }, { on := 4, ground := Go.Ground.phase }, { on := 5, ground := Go.Ground.phase }, { on := 6, ground := Go.Ground.phase }, { on := 7, ground := Go.Ground.phase }, { on := 8, ground := Go.Ground.phase }, { on := 9, ground := Go.Ground.phase }, { on := 10, ground := Go.Ground.phase }, { on := 11, ground := Go.Ground.phase }, { on := 12, ground := Go.Ground.phase }, { on := 13, ground := Go.Ground.phase }, { on := 14, ground := Go.Ground.phase }, { on := 15, ground := Go.Ground.phase }, { on := 16, ground := Go.Ground.phase }, { on := 17, ground := Go.Ground.phase }, { on := 18, ground := Go.Ground.phase }, { on := 19, ground := Go.Ground.phase }], guard := none }) rfl (fun K hK => ?_) ?_
                  · go_simp
                    refine hK.out _ _ ?_ (fun hHeld => ?_)
                    · (try dsimp only)
                      (first | with_reducible exact hS _ hB | with_reducible exact hS _ (hB.setCell hbm _) | exact hS _ (hB.setCell hbm _))
                    clear hK K
                    try simp only [Act.put, List.setIfInBounds_toArray, List.set_cons_zero, List.set_cons_succ]
                    refine wpAnyH_done (by kernel_rfl) ?_ _
                    have R := hide (hV.more (d.regs[j].1, (ax : Int)) hown8 hgr8 hat8 hbm)
                    rw [← unhide HTK] at R
                    clear hV hown8 hgr8 hat8 hc8 d8 f8 hB hB6
                    go_wp2_with fail
                    exact ⟨⟨j + 1, _, _, _, by omega, by go_num, unhide R⟩, by simp [intOf]; omega⟩
                  exact AllReadyH.nil
                exact AllReadyH.nil
              exact AllReadyH.nil
            exact AllReadyH.nil
          · have hjn : j = rn := by omega
            subst hjn
            rw [List.take_of_length_le (by have := unhide HRL; simp; omega)] at hV
            obtain ⟨_, q1, q2, q3, q4⟩ := hx0.below hB
            have hcM := hV.2.1
            have hcr := hc3.below hB hrz
            have e0 := hcM.cell 0
            have e1 := hcM.cell 1
            have e2 := hcM.cell 2
            have e3 := hcM.cell 3
            have z0 := hcr.cell 0
            have z1 := hcr.cell 1
            have z2 := hcr.cell 2
            have z3 := hcr.cell 3
            have f0 := hcr.frozen 0
            have f1 := hcr.frozen 1
            have f2 := hcr.frozen 2
            have f3 := hcr.frozen 3
            have hc9 := (((hcr.set 0 (.int .i64 ins0)).set 1 (.slice pa pn pc)).set 2 (.slice qa qn qc)).set 3 (.slice ob on1 od)
            have y0 := hc9.cell 0
            have y1 := hc9.cell 1
            have y2 := hc9.cell 2
            have y3 := hc9.cell 3
            have hbw := ((((B3.trans (hB.mono B3.size)).setCell (p := ⟨w.heap.size + 1, 0, none⟩) (Nat.le_succ _) (.int .i64 ins0)).setCell (p := ⟨w.heap.size + 1, 1, none⟩) (Nat.le_succ _) (.slice pa pn pc)).setCell (p := ⟨w.heap.size + 1, 2, none⟩) (Nat.le_succ _) (.slice qa qn qc)).setCell (p := ⟨w.heap.size + 1, 3, none⟩) (Nat.le_succ _) (.slice ob on1 od)
            have R : NetKp (dropW d bs) w ((((wr.setCell ⟨w.heap.size + 1, 0, none⟩ (.int .i64 ins0)).setCell ⟨w.heap.size + 1, 1, none⟩ (.slice pa pn pc)).setCell ⟨w.heap.size + 1, 2, none⟩ (.slice qa qn qc)).setCell ⟨w.heap.size + 1, 3, none⟩ (.slice ob on1 od)) (.returned (.agg #[.int .i64 ins0, .slice pa pn pc, .slice qa qn qc, .slice ob on1 od])) := by
              obtain ⟨g0, g1, g2, g3, g4, g6⟩ := hV
              have hsub : ∀ g ∈ List.range w3.heap.size, g ∈ GB w3 bm (.slice qa qn qc) := fun g hg => List.mem_cons.2 (Or.inr (List.mem_append.2 (Or.inr hg)))
              have k0 : Kp (List.range w3.heap.size) wr (fun V => NetAt V (dropW d bs) ins0 pa pn qa qn ob on1) := fun V hK => by
                have hKG := hK.mono hsub
                have ho := own_kept g4 hK (fun b hb hm => own_base g4 (List.mem_range.1 hm) hb)
                obtain ⟨a9, c9, e9, hR9, _⟩ := own_regs ho g0 (by have := unhide HRL; rw [g0]; unfold maxLen; simp; omega)
                injection e9 with e9 _ _
                subst e9
                exact ⟨unhide HII, g2 V hKG, hR9, g3 V hKG⟩
              have hBs := B3.size
              exact ⟨_, pa, pn, pc, qa, qn, qc, ob, on1, od, rfl, k0.step (kept4m (List.mem_range.2 hrz) _ _ _ _) (fun g hg => Or.inl (List.mem_range.2 (by have := List.mem_range.1 hg; omega))), hbw⟩
            have R9 := hide R
            clear R hbw hc9 hcr hcM hV hB
            go_wp2_with fail
            exact bodyPost_ret (v := .agg #[.int .i64 ins0, .slice pa pn pc, .slice qa qn qc, .slice ob on1 od]) (by simp [results, Try.results22, go_sem, y0, y1, y2, y3]) rfl ⟨bs, unhide HM, unhide R9⟩

end Go.Proofs.Ytongajonecgdpag
