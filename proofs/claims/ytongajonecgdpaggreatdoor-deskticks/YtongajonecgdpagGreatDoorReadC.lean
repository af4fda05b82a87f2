/- reader.partsOf: the two parts of a node, behind its head. -/
import Derived.Test.YtongajonecgdpagGreatDoorReadB
import Derived.Laws.OwnMore
namespace Go.Proofs.YtongajonecgdpagGreatDoor
open Go.RowKit

/-- What is read behind a node's head. -/
def partsF (n : Nat) (s : List UInt8) (acc : List NodeD) (x : NodeD) : Option (List UInt8 × List NodeD) :=
  match readF n s (acc ++ [x]) with
  | none => none
  | some (s2, acc2) =>
    match findN (fit2 s2 (headT x)) with
    | none => none
    | some y =>
      match readF n (s2.drop (betwT y).length) (acc2.set acc.length y) with
      | none => none
      | some (s4, acc4) => if (afterL s4 (endT y)).2 then some (s4.drop (endT y).length, acc4) else none
def lastF (y : NodeD) (r : Option (List UInt8 × List NodeD)) : Option (List UInt8 × List NodeD) :=
  match r with
  | none => none
  | some (s4, acc4) => if (afterL s4 (endT y)).2 then some (s4.drop (endT y).length, acc4) else none
theorem readF_succ (n : Nat) (s : List UInt8) (acc : List NodeD) : readF (n + 1) s acc = if 14 ≤ acc.length then none else match findN (fit1 s) with | none => none | some x => if betwT x = [] then some (s.drop (headT x).length, acc ++ [x]) else partsF n (s.drop (headT x).length) acc x := rfl
def RdRet (w w' : World) (b m : Nat) (nv : Value) (r : Option (List UInt8 × List NodeD)) (e : Ending) : Prop :=
  match r with
  | some (s', acc') => e = .returned (.tuple #[]) ∧ RdPost w w' b m nv s' acc'
  | none => e = fell 1 ∧ KeptT (b :: ownT nv) w w'
def NodeC (n : Nat) : Prop := ∀ (w : World) (b m : Nat) (s : List UInt8) (acc : List NodeD) (nv : Value), RdAt w b m s acc nv → acc.length ≤ 14 → 15 ≤ acc.length + n → Calls Tryz.prog 76 #[.pointer (some ⟨b, 0, none⟩)] w fun e w' => RdRet w w' b m nv (readF n s acc) e
def PartsC (n : Nat) : Prop := ∀ (w : World) (b m : Nat) (s : List UInt8) (acc : List NodeD) (x : NodeD) (nv : Value), RdAt w b m s (acc ++ [x]) nv → acc.length + 1 ≤ 14 → 15 ≤ acc.length + 1 + n → Calls Tryz.prog 112 #[.pointer (some ⟨b, 0, none⟩), .int .i64 (acc.length : Nat), .string ⟨(headT x).toArray⟩] w fun e w' => RdRet w w' b m nv (partsF n s acc x) e

theorem cellsN_at : ∀ (l : List NodeD) (k : Nat) (hk : k < l.length), (cellsN l)[k * 2]? = some (.int .i64 l[k].kind) ∧ (cellsN l)[k * 2 + 1]? = some (.int .i64 l[k].sig)
  | [], k, hk => by simp at hk
  | x :: l, 0, hk => ⟨rfl, rfl⟩
  | x :: l, k + 1, hk => by
    obtain ⟨h1, h2⟩ := cellsN_at l k (by simpa using hk)
    have e : cellsN (x :: l) = [.int .i64 x.kind, .int .i64 x.sig] ++ cellsN l := rfl
    rw [e, show (k + 1) * 2 = k * 2 + 2 by omega, show k * 2 + 2 + 1 = k * 2 + 1 + 2 by omega]
    exact ⟨h1, h2⟩
theorem cellsN_set : ∀ (l : List NodeD) (k : Nat) (y : NodeD), cellsN (l.set k y) = if k < l.length then ((cellsN l).set (k * 2) (.int .i64 y.kind)).set (k * 2 + 1) (.int .i64 y.sig) else cellsN l
  | [], k, y => rfl
  | x :: l, 0, y => rfl
  | x :: l, k + 1, y => by
    have ih := cellsN_set l k y
    have e : ∀ z (l : List NodeD), cellsN (z :: l) = .int .i64 z.kind :: .int .i64 z.sig :: cellsN l := fun _ _ => rfl
    rw [List.set_cons_succ, e, ih, e]
    by_cases h : k < l.length
    · rw [if_pos h, if_pos (by simp; omega), show (k + 1) * 2 = k * 2 + 1 + 1 by omega, List.set_cons_succ, List.set_cons_succ, List.set_cons_succ, List.set_cons_succ]
    · rw [if_neg h, if_neg (by simp; omega)]
theorem cellsN_snoc (l : List NodeD) (x : NodeD) : cellsN (l ++ [x]) = cellsN l ++ [.int .i64 x.kind, .int .i64 x.sig] := by simp [cellsN]
theorem row_form {w : World} {base n : Nat} {e : TypeId} {v : Value} {xs : List Value} (h : w.ownsRow base e 2 v n xs) (hn : 0 < n) : ∃ g c, v = .slice (some ⟨g, 0, none⟩) n c ∧ n ≤ c := by
  rcases h.2 with ⟨_, h2⟩ | ⟨g, c, cur, h1, _, _, h4, _⟩
  · omega
  · exact ⟨g, c, h1, h4⟩
theorem KeptT.cells {G : List Nat} {w w' : World} (h : KeptT G w w') {g : Nat} {vs : List Value} {T : TypeId} (hc : Cells w g vs T) (hG : g ∉ G) : Cells w' g vs T := (h.1.2 g hc.lt hG).trans hc
theorem own_next {q : Nat} {nv nv' : Value} {w : World} (h : q ∉ ownT nv) (hq : q < w.heap.size) (ho : ∀ g ∈ ownT nv', g ∈ ownT nv ∨ w.heap.size ≤ g) : q ∉ ownT nv' := fun hm => by
  rcases ho q hm with e | e
  · exact h e
  · omega
theorem own_old {w : World} {b m : Nat} {s : List UInt8} {acc : List NodeD} {nv : Value} (h : RdAt w b m s acc nv) {q : Nat} (hq : w.heap.size ≤ q) : q ∉ ownT nv := fun hm => by
  have := (h.row.lt q (ownT_mem.1 hm)).2
  omega
theorem read_len {m : Nat} {s s' : List UInt8} {acc acc' : List NodeD} (h : readF m s acc = some (s', acc')) : acc'.length ≤ 14 ∧ acc.length < acc'.length := by
  obtain ⟨q, t, hS, he, _, hl⟩ := read_sound m s acc s' acc' h
  have := hS.pos
  rw [he] at hl ⊢
  simp at hl ⊢
  omega
/-- Node k is another. -/
theorem RdAt.turn {w : World} {b m : Nat} {s : List UInt8} {acc : List NodeD} {g c : Nat} (h : RdAt w b m s acc (.slice (some ⟨g, 0, none⟩) acc.length c)) {k : Nat} (hk : k < acc.length) (y : NodeD) :
    RdAt ((w.setCell ⟨g, k * 2, none⟩ (.int .i64 y.kind)).setCell ⟨g, k * 2 + 1, none⟩ (.int .i64 y.sig)) b m s (acc.set k y) (.slice (some ⟨g, 0, none⟩) acc.length c) ∧ KeptT (b :: ownT (.slice (some ⟨g, 0, none⟩) acc.length c)) w ((w.setCell ⟨g, k * 2, none⟩ (.int .i64 y.kind)).setCell ⟨g, k * 2 + 1, none⟩ (.int .i64 y.sig)) := by
  have hgb : b < g := (h.row.lt g rfl).1
  obtain ⟨h1, k1⟩ := h.row.stored (k * 2) (.int .i64 y.kind)
  obtain ⟨h2, k2⟩ := h1.stored (k * 2 + 1) (.int .i64 y.sig)
  have hn : b ≠ g := by omega
  have hm : m ≠ g := by have := h.mb; omega
  have hG : ∀ x, some g = some x → x ∈ b :: ownT (.slice (some ⟨g, 0, none⟩) acc.length c) := fun x e => by injection e with e; subst e; exact List.mem_cons_of_mem _ (ownT_mem.2 rfl)
  refine ⟨⟨(k2.block b (by have := h.box.lt; simp; omega) (fun e => hn (by injection e))).trans ((k1.block b h.box.lt (fun e => hn (by injection e))).trans h.box), ?_, (h.phr.same (k1.block m h.phr.lt (fun e => hm (by injection e)))).same (k2.block m (by have := h.phr.lt; simp; omega) (fun e => hm (by injection e))), h.mb⟩, (KeptT.grown k1 hG).trans (KeptT.grown k2 hG)⟩
  have e : cellsN (acc.set k y) = ((cellsN acc).set (k * 2) (.int .i64 y.kind)).set (k * 2 + 1) (.int .i64 y.sig) := by rw [cellsN_set, if_pos hk]
  rw [e, List.length_set]
  exact h2

theorem rd_none {w w' : World} {b m : Nat} {nv : Value} {r : Option (List UInt8 × List NodeD)} {e : Ending} (h : r = none) (he : e = fell 1) (hk : KeptT (b :: ownT nv) w w') : RdRet w w' b m nv r e := by
  subst h; exact ⟨he, hk⟩
theorem rd_some {w w' : World} {b m : Nat} {nv : Value} {r : Option (List UInt8 × List NodeD)} {e : Ending} {s' : List UInt8} {acc' : List NodeD} (h : r = some (s', acc')) (he : e = .returned (.tuple #[])) (hp : RdPost w w' b m nv s' acc') : RdRet w w' b m nv r e := by
  subst h; exact ⟨he, hp⟩

set_option maxRecDepth 100000 in
set_option maxHeartbeats 8000000 in
theorem partsOf_any (n : Nat) (IH : NodeC n) : PartsC n := by
  intro w b m s acc x nv h hfew hfuel
  have hb0 : Below w.heap.size w (w.alloc (.cells #[.pointer (some ⟨b, 0, none⟩)] 143)) := (Below.refl _ _).alloc (Nat.le_refl _) _
  have hb1 := (Below.refl _ (w.alloc (.cells #[.pointer (some ⟨b, 0, none⟩)] 143))).alloc (Nat.le_refl _) (.cells #[.string ⟨(headT x).toArray⟩] 9)
  have hc3 := (Cells.new w [.pointer (some ⟨b, 0, none⟩)] 143)
  have hc5 := Cells.new (w.alloc (.cells #[.pointer (some ⟨b, 0, none⟩)] 143)) [.string ⟨(headT x).toArray⟩] 9
  have hc3 := (hb1.block _ hc3.lt).trans hc3
  have hsz : (w.alloc (.cells #[.pointer (some ⟨b, 0, none⟩)] 143)).heap.size = w.heap.size + 1 := by simp
  have hR1 := (h.on hb0).on hb1
  have B1 := bstep hb0 hb1
  have ho3 := own_old h (Nat.le_refl _)
  have ho5 := own_old h (Nat.le_succ _)
  have hbl := h.box.lt
  rw [hsz] at hc5
  clear hb0 hb1 hsz h
  go_enter Tryz.func112, Tryz.ntmps112
  go_wp2_with fail
  generalize hw1 : (w.alloc (.cells #[.pointer (some ⟨b, 0, none⟩)] 143)).alloc (.cells #[.string ⟨(headT x).toArray⟩] 9) = w1 at *
  clear hw1
  have hc3 : Cells w1 w.heap.size [.pointer (some ⟨b, 0, none⟩)] 143 := hc3
  have K1 : KeptT (b :: ownT nv) w w1 := KeptT.of B1
  refine (IH w1 b m s (acc ++ [x]) nv hR1 (by simp; omega) (by simp; omega)).mono ?_
  intro e w2 hret
  obtain ⟨r1, hr1⟩ : ∃ r, readF n s (acc ++ [x]) = r := ⟨_, rfl⟩
  rw [hr1] at hret
  cases r1 with
  | none =>
    obtain ⟨rfl, hK2⟩ := hret
    have HP := hide (show partsF n s acc x = none by unfold partsF; rw [hr1])
    have HK := hide (K1.trans hK2)
    clear hr1 hR1 hc3 hc5 ho3 ho5
    unfold fell
    go_wp2_with fail
    exact ⟨rfl, rd_none (unhide HP) rfl (unhide HK)⟩
  | some p =>
    obtain ⟨s2, acc2⟩ := p
    obtain ⟨rfl, nv2, hR2, hK2, hO2⟩ := hret
    have hlen := read_len hr1
    have hkl : acc.length < acc2.length := by have := hlen.2; simp at this; omega
    have hk14 := hlen.1
    have n3 : w.heap.size ∉ b :: ownT nv := fun hm => by rcases List.mem_cons.1 hm with e | e; omega; exact ho3 e
    have n5 : w.heap.size + 1 ∉ b :: ownT nv := fun hm => by rcases List.mem_cons.1 hm with e | e; omega; exact ho5 e
    have l3 := hc3.lt
    have l5 := hc5.lt
    have hc3b := hK2.cells hc3 n3
    have hc5b := hK2.cells hc5 n5
    have ho3b := own_next ho3 l3 hO2
    have ho5b := own_next ho5 l5 hO2
    have HO2 := hide (fun g hg => (hO2 g hg).imp id (fun h => Nat.le_trans B1.size h))
    have HK2 := hide (K1.trans hK2)
    have HR1 := hide hr1
    clear hr1 hR1 hK2 hO2 hc3 hc5 hlen n3 n5 ho3 ho5 K1
    obtain ⟨gr, cr, hnv, hnc⟩ := row_form hR2.row (by omega)
    subst hnv
    have hki : (acc.length : Int) < (acc2.length : Int) := by omega
    have x3 := hc3b.cell 0
    have z1 := hR2.box.cell 1
    have hbd := (Below.refl w2.heap.size w2).drew
    have hRd := hR2.on hbd
    have p5 : w.heap.size + 1 < w2.drew.heap.size ∧ w2.drew.cell? ⟨w.heap.size + 1, 0, none⟩ = some (.string ⟨(headT x).toArray⟩) := ⟨hc5b.lt, hc5b.cell 0⟩
    have p3 : w.heap.size < w2.drew.heap.size ∧ w2.drew.cell? ⟨w.heap.size, 0, none⟩ = some (.pointer (some ⟨b, 0, none⟩)) := ⟨hc3b.lt, hc3b.cell 0⟩
    go_upto_region 2 with fail
    cases hf : findN (fit2 s2 (headT x)) with
    | none =>
      have HP := hide (show partsF n s acc x = none by unfold partsF; rw [unhide HR1]; simp only [hf])
      refine wp_region_held_drew (S := fun W => W.cell? ⟨w.heap.size, 0, none⟩ = some (.pointer (some ⟨b, 0, none⟩)) ∧ W.cell? ⟨b, 1, none⟩ = some (.slice (some ⟨gr, 0, none⟩) acc2.length cr)) (by kernel_rfl) ?_ (fun hHeld => ?_)
      · exact ⟨x3, z1⟩
      refine wpAnyH_take (i := 0) (oi := { dst := some 9, op := Go.Op.load 143 (Go.Operand.tmp 3), type := 143, pos := "read.go:51", after := #[], guard := none }) (v := ?_) rfl (by kernel_rfl) (by kernel_rfl) (by kernel_rfl) (fun _ _ _ h => h) (Or.inl ⟨by rfl, ?_⟩) (by assumption) ?_
      rotate_left
      · intro w hSw; (try dsimp only at hSw); go_simp; (try (with_reducible rfl))
      try simp only [Act.put, List.setIfInBounds_toArray, List.set_cons_zero, List.set_cons_succ]
      refine wpAnyH_take (i := 1) (oi := { dst := some 10, op := Go.Op.nilCheck (Go.Operand.tmp 9), type := 0, pos := "read.go:51", after := #[{ on := 0, ground := Go.Ground.data }], guard := none }) (v := ?_) rfl (by kernel_rfl) (by kernel_rfl) (by kernel_rfl) (fun _ _ _ h => h) (Or.inl ⟨by rfl, ?_⟩) (by assumption) ?_
      rotate_left
      · intro w hSw; (try dsimp only at hSw); go_simp; (try (with_reducible rfl))
      try simp only [Act.put, List.setIfInBounds_toArray, List.set_cons_zero, List.set_cons_succ]
      refine wpAnyH_take (i := 2) (oi := { dst := some 11, op := Go.Op.fieldAddr 117 (Go.Operand.tmp 10) 1, type := 0, pos := "read.go:51", after := #[{ on := 1, ground := Go.Ground.data }], guard := none }) (v := ?_) rfl (by kernel_rfl) (by kernel_rfl) (by kernel_rfl) (fun _ _ _ h => h) (Or.inl ⟨by rfl, ?_⟩) (by assumption) ?_
      rotate_left
      · intro w hSw; (try dsimp only at hSw); go_simp; (try (with_reducible rfl))
      try simp only [Act.put, List.setIfInBounds_toArray, List.set_cons_zero, List.set_cons_succ]
      refine wpAnyH_take (i := 3) (oi := { dst := some 12, op := Go.Op.load 27 (Go.Operand.tmp 11), type := 27, pos := "read.go:51", after := #[{ on := 2, ground := Go.Ground.data }], guard := none }) (v := ?_) rfl (by kernel_rfl) (by kernel_rfl) (by kernel_rfl) (fun _ _ _ h => h) (Or.inl ⟨by rfl, ?_⟩) (by assumption) ?_
      rotate_left
      · intro w hSw; (try dsimp only at hSw); go_simp; (try (with_reducible rfl))
      try simp only [Act.put, List.setIfInBounds_toArray, List.set_cons_zero, List.set_cons_succ]
      refine wpAnyH_take (i := 4) (oi := { dst := some 13, op := Go.Op.move (Go.Operand.tmp 1), type := 3, pos := "read.go:51", after := #[], guard := none }) (v := ?_) rfl (by kernel_rfl) (by kernel_rfl) (by kernel_rfl) (fun _ _ _ h => h) (Or.inl ⟨by rfl, ?_⟩) (by assumption) ?_
      rotate_left
      · intro w hSw; (try dsimp only at hSw); go_simp; (try (with_reducible rfl))
      try simp only [Act.put, List.setIfInBounds_toArray, List.set_cons_zero, List.set_cons_succ]
      refine wpAnyH_take (i := 5) (oi := { dst := some 14, op := Go.Op.load 143 (Go.Operand.tmp 3), type := 143, pos := "read.go:51", after := #[], guard := none }) (v := ?_) rfl (by kernel_rfl) (by kernel_rfl) (by kernel_rfl) (fun _ _ _ h => h) (Or.inl ⟨by rfl, ?_⟩) (by assumption) ?_
      rotate_left
      · intro w hSw; (try dsimp only at hSw); go_simp; (try (with_reducible rfl))
      try simp only [Act.put, List.setIfInBounds_toArray, List.set_cons_zero, List.set_cons_succ]
      refine wpAnyH_take (i := 6) (oi := { dst := some 15, op := Go.Op.makeFunc (Go.Fn.func 132) #[] #[Go.Operand.tmp 5, Go.Operand.tmp 3], type := 145, pos := "read.go:51", after := #[], guard := none }) (v := ?_) rfl (by kernel_rfl) (by kernel_rfl) (by kernel_rfl) (fun _ _ _ h => h) (Or.inl ⟨by rfl, ?_⟩) (by assumption) ?_
      rotate_left
      · intro w hSw; (try dsimp only at hSw); go_simp; (try (with_reducible rfl))
      try simp only [Act.put, List.setIfInBounds_toArray, List.set_cons_zero, List.set_cons_succ]
      refine wpAnyH_ready (rs := [7]) (by kernel_rfl) (by simp) ?_
      refine AllReadyH.cons (o := { dst := some 16, op := Go.Op.call { callee := Go.Callee.value (Go.Operand.func 108), args := #[Go.Operand.tmp 14, Go.Operand.tmp 15], argTypes := #[143, 145] }, type := 93, pos := "read.go:51", after := #[{ on := 5, ground := Go.Ground.data }, { on := 6, ground := Go.Ground.data }], guard := none }) rfl (fun K hK => ?_) ?_
      · go_simp
        refine (find2_any hRd (headT x) (w.heap.size + 1) w.heap.size p5 p3).mono ?_
        rintro e w3 ⟨he, hb3⟩
        simp only [hf] at he
        subst he
        exact ⟨rfl, rd_none (unhide HP) rfl ((unhide HK2).next (unhide HO2) (KeptT.of (bstep hbd hb3)))⟩
      exact AllReadyH.nil
    | some y =>
      obtain ⟨hyn, hyf⟩ := find_is hf
      simp only [fit2, Bool.and_eq_true, beq_iff_eq] at hyf
      have HP := hide (show partsF n s acc x = lastF y (readF n (s2.drop (betwT y).length) (acc2.set acc.length y)) by unfold partsF lastF; rw [unhide HR1]; simp only [hf])
      have hyb := hyf.2
      refine wp_region_held_drew (S := fun W => W.cell? ⟨w.heap.size, 0, none⟩ = some (.pointer (some ⟨b, 0, none⟩)) ∧ W.cell? ⟨b, 1, none⟩ = some (.slice (some ⟨gr, 0, none⟩) acc2.length cr)) (by kernel_rfl) ?_ (fun hHeld => ?_)
      · exact ⟨x3, z1⟩
      refine wpAnyH_take (i := 0) (oi := { dst := some 9, op := Go.Op.load 143 (Go.Operand.tmp 3), type := 143, pos := "read.go:51", after := #[], guard := none }) (v := ?_) rfl (by kernel_rfl) (by kernel_rfl) (by kernel_rfl) (fun _ _ _ h => h) (Or.inl ⟨by rfl, ?_⟩) (by assumption) ?_
      rotate_left
      · intro w hSw; (try dsimp only at hSw); go_simp; (try (with_reducible rfl))
      try simp only [Act.put, List.setIfInBounds_toArray, List.set_cons_zero, List.set_cons_succ]
      refine wpAnyH_take (i := 1) (oi := { dst := some 10, op := Go.Op.nilCheck (Go.Operand.tmp 9), type := 0, pos := "read.go:51", after := #[{ on := 0, ground := Go.Ground.data }], guard := none }) (v := ?_) rfl (by kernel_rfl) (by kernel_rfl) (by kernel_rfl) (fun _ _ _ h => h) (Or.inl ⟨by rfl, ?_⟩) (by assumption) ?_
      rotate_left
      · intro w hSw; (try dsimp only at hSw); go_simp; (try (with_reducible rfl))
      try simp only [Act.put, List.setIfInBounds_toArray, List.set_cons_zero, List.set_cons_succ]
      refine wpAnyH_take (i := 2) (oi := { dst := some 11, op := Go.Op.fieldAddr 117 (Go.Operand.tmp 10) 1, type := 0, pos := "read.go:51", after := #[{ on := 1, ground := Go.Ground.data }], guard := none }) (v := ?_) rfl (by kernel_rfl) (by kernel_rfl) (by kernel_rfl) (fun _ _ _ h => h) (Or.inl ⟨by rfl, ?_⟩) (by assumption) ?_
      rotate_left
      · intro w hSw; (try dsimp only at hSw); go_simp; (try (with_reducible rfl))
      try simp only [Act.put, List.setIfInBounds_toArray, List.set_cons_zero, List.set_cons_succ]
      refine wpAnyH_take (i := 3) (oi := { dst := some 12, op := Go.Op.load 27 (Go.Operand.tmp 11), type := 27, pos := "read.go:51", after := #[{ on := 2, ground := Go.Ground.data }], guard := none }) (v := ?_) rfl (by kernel_rfl) (by kernel_rfl) (by kernel_rfl) (fun _ _ _ h => h) (Or.inl ⟨by rfl, ?_⟩) (by assumption) ?_
      rotate_left
      · intro w hSw; (try dsimp only at hSw); go_simp; (try (with_reducible rfl))
      try simp only [Act.put, List.setIfInBounds_toArray, List.set_cons_zero, List.set_cons_succ]
      refine wpAnyH_take (i := 4) (oi := { dst := some 13, op := Go.Op.move (Go.Operand.tmp 1), type := 3, pos := "read.go:51", after := #[], guard := none }) (v := ?_) rfl (by kernel_rfl) (by kernel_rfl) (by kernel_rfl) (fun _ _ _ h => h) (Or.inl ⟨by rfl, ?_⟩) (by assumption) ?_
      rotate_left
      · intro w hSw; (try dsimp only at hSw); go_simp; (try (with_reducible rfl))
      try simp only [Act.put, List.setIfInBounds_toArray, List.set_cons_zero, List.set_cons_succ]
      refine wpAnyH_take (i := 5) (oi := { dst := some 14, op := Go.Op.load 143 (Go.Operand.tmp 3), type := 143, pos := "read.go:51", after := #[], guard := none }) (v := ?_) rfl (by kernel_rfl) (by kernel_rfl) (by kernel_rfl) (fun _ _ _ h => h) (Or.inl ⟨by rfl, ?_⟩) (by assumption) ?_
      rotate_left
      · intro w hSw; (try dsimp only at hSw); go_simp; (try (with_reducible rfl))
      try simp only [Act.put, List.setIfInBounds_toArray, List.set_cons_zero, List.set_cons_succ]
      refine wpAnyH_take (i := 6) (oi := { dst := some 15, op := Go.Op.makeFunc (Go.Fn.func 132) #[] #[Go.Operand.tmp 5, Go.Operand.tmp 3], type := 145, pos := "read.go:51", after := #[], guard := none }) (v := ?_) rfl (by kernel_rfl) (by kernel_rfl) (by kernel_rfl) (fun _ _ _ h => h) (Or.inl ⟨by rfl, ?_⟩) (by assumption) ?_
      rotate_left
      · intro w hSw; (try dsimp only at hSw); go_simp; (try (with_reducible rfl))
      try simp only [Act.put, List.setIfInBounds_toArray, List.set_cons_zero, List.set_cons_succ]
      refine wpAnyH_ready (rs := [7]) (by kernel_rfl) (by simp) ?_
      refine AllReadyH.cons (o := { dst := some 16, op := Go.Op.call { callee := Go.Callee.value (Go.Operand.func 108), args := #[Go.Operand.tmp 14, Go.Operand.tmp 15], argTypes := #[143, 145] }, type := 93, pos := "read.go:51", after := #[{ on := 5, ground := Go.Ground.data }, { on := 6, ground := Go.Ground.data }], guard := none }) rfl (fun K hK => ?_) ?_
      · go_simp
        refine (find2_any hRd (headT x) (w.heap.size + 1) w.heap.size p5 p3).mono ?_
        rintro e w3 ⟨he, hb3⟩
        simp only [hf] at he
        subst he
        have hR3 := hRd.on hb3
        have B3 := bstep hbd hb3
        have x33 := (hb3.cell (p := ⟨w.heap.size, 0, none⟩) p3.1).trans p3.2
        have z13 := hR3.box.cell 1
        have u0 := hR3.row.cellAt (acc.length * 2) (by omega)
        have u1 := hR3.row.cellAt (acc.length * 2 + 1) (by omega)
        rw [(cellsN_at acc2 acc.length hkl).1] at u0
        rw [(cellsN_at acc2 acc.length hkl).2] at u1
        have f0 := hR3.row.frozenAt (acc.length * 2)
        have f1 := hR3.row.frozenAt (acc.length * 2 + 1)
        have ul := (hR3.row.lt gr rfl).2
        have hgb := (hR3.row.lt gr rfl).1
        obtain ⟨hR4, hK4⟩ := hR3.turn hkl y
        have hc34 := hK4.cells ((hb3.block _ hc3b.lt).trans (show Cells w2.drew _ _ _ from hc3b)) (show w.heap.size ∉ _ from fun hm => by rcases List.mem_cons.1 hm with e | e; omega; exact ho3b e)
        have x34 := hc34.cell 0
        have z14 := hR4.box.cell 1
        refine hK.out _ _ ?_ (fun hHeld => ?_)
        · (try dsimp only)
          (first | exact ⟨x33, z13⟩ | exact ⟨x34, z14⟩)
        clear hK K
        try simp only [Act.put, List.setIfInBounds_toArray, List.set_cons_zero, List.set_cons_succ]
        refine wpAnyH_take (i := 8) (oi := { dst := some 17, op := Go.Op.indexAddr 27 (Go.Operand.tmp 12) (Go.Operand.tmp 13), type := 0, pos := "read.go:51", after := #[{ on := 3, ground := Go.Ground.data }, { on := 4, ground := Go.Ground.data }, { on := 0, ground := Go.Ground.phase }, { on := 1, ground := Go.Ground.phase }, { on := 2, ground := Go.Ground.phase }, { on := 3, ground := Go.Ground.phase }, { on := 4, ground := Go.Ground.phase }, { on := 5, ground := Go.Ground.phase }, { on := 6, ground := Go.Ground.phase }, { on := 7, ground := Go.Ground.phase }], guard := none }) (v := ?_) rfl (by kernel_rfl) (by kernel_rfl) (by kernel_rfl) (fun _ _ _ h => h) (Or.inl ⟨by rfl, ?_⟩) (by assumption) ?_
        rotate_left
        · intro w hSw; (try dsimp only at hSw); go_simp; (try (with_reducible rfl))
        try simp only [Act.put, List.setIfInBounds_toArray, List.set_cons_zero, List.set_cons_succ]
        refine wpAnyH_ready (rs := [9]) (by kernel_rfl) (by simp) ?_
        refine AllReadyH.cons (o := { dst := none, op := Go.Op.store 93 (Go.Operand.tmp 17) (Go.Operand.tmp 16), type := 0, pos := "read.go:51", after := #[{ on := 8, ground := Go.Ground.data }, { on := 7, ground := Go.Ground.data }, { on := 7, ground := Go.Ground.chain }, { on := 0, ground := Go.Ground.phase }, { on := 1, ground := Go.Ground.phase }, { on := 2, ground := Go.Ground.phase }, { on := 3, ground := Go.Ground.phase }, { on := 4, ground := Go.Ground.phase }, { on := 5, ground := Go.Ground.phase }, { on := 6, ground := Go.Ground.phase }, { on := 7, ground := Go.Ground.phase }], guard := none }) rfl (fun K hK => ?_) ?_
        · go_simp
          refine hK.out _ _ ?_ (fun hHeld => ?_)
          · (try dsimp only)
            (first | exact ⟨x33, z13⟩ | exact ⟨x34, z14⟩)
          clear hK K
          try simp only [Act.put]
          refine wpAnyH_done (by kernel_rfl) ?_ _
          have HK4 := hide ((unhide HK2).next (unhide HO2) ((KeptT.of B3).trans hK4))
          have hrow := hR4.row
          rw [List.length_set] at hrow
          have hks : acc.length < (acc2.set acc.length y).length := by rw [List.length_set]; exact hkl
          have v0 := hrow.cellAt (acc.length * 2) (by omega)
          have v1 := hrow.cellAt (acc.length * 2 + 1) (by omega)
          rw [(cellsN_at _ acc.length hks).1] at v0
          rw [(cellsN_at _ acc.length hks).2] at v1
          simp only [List.getElem_set_self] at v0 v1
          have vl := (hrow.lt gr rfl).2
          have ho34 : w.heap.size ∉ ownT (.slice (some ⟨gr, 0, none⟩) acc2.length cr) := ho3b
          clear hRd hR3 B3 x33 z13 u0 u1 f0 f1 ul hK4 hb3 hbd p3 p5 x3 z1 hR2 hc3b hc5b hHeld hrow HK2 ho3b ho5b HR1 hf hyf
          generalize (w3.setCell ⟨gr, acc.length * 2, none⟩ (.int .i64 y.kind)).setCell ⟨gr, acc.length * 2 + 1, none⟩ (.int .i64 y.sig) = w4 at *
          have z14 := hR4.box.cell 1
          have z24 := hR4.box.cell 2
          have bl4 := hR4.box.lt
          have l34 := hc34.lt
          have HS : ∀ W, Below w4.heap.size w4 W → PhrOf W m isN ∧ W.cell? ⟨w.heap.size, 0, none⟩ = some (.pointer (some ⟨b, 0, none⟩)) ∧ W.cell? ⟨b, 1, none⟩ = some (.slice (some ⟨gr, 0, none⟩) acc2.length cr) ∧ W.cell? ⟨b, 2, none⟩ = some (.map (some m)) ∧ W.cell? ⟨gr, acc.length * 2, none⟩ = some (.int .i64 y.kind) ∧ W.cell? ⟨gr, acc.length * 2 + 1, none⟩ = some (.int .i64 y.sig) := fun W hW =>
            ⟨hR4.phr.same (hW.block _ hR4.phr.lt), (hW.cell (p := ⟨w.heap.size, 0, none⟩) l34).trans x34, (hW.cell (p := ⟨b, 1, none⟩) bl4).trans z14, (hW.cell (p := ⟨b, 2, none⟩) bl4).trans z24, (hW.cell (p := ⟨gr, acc.length * 2, none⟩) vl).trans v0, (hW.cell (p := ⟨gr, acc.length * 2 + 1, none⟩) vl).trans v1⟩
          have hbd : Below w4.heap.size w4 w4.drew := (Below.refl _ _).drew
          go_upto_region 3 with fail
          refine wp_region_held_drew (S := fun W => PhrOf W m isN ∧ W.cell? ⟨w.heap.size, 0, none⟩ = some (.pointer (some ⟨b, 0, none⟩)) ∧ W.cell? ⟨b, 1, none⟩ = some (.slice (some ⟨gr, 0, none⟩) acc2.length cr) ∧ W.cell? ⟨b, 2, none⟩ = some (.map (some m)) ∧ W.cell? ⟨gr, acc.length * 2, none⟩ = some (.int .i64 y.kind) ∧ W.cell? ⟨gr, acc.length * 2 + 1, none⟩ = some (.int .i64 y.sig)) (by kernel_rfl) ?_ (fun hHeld => ?_)
          · exact HS _ hbd
          refine wpAnyH_take (i := 0) (oi := { dst := some 18, op := Go.Op.load 143 (Go.Operand.tmp 3), type := 143, pos := "read.go:52", after := #[], guard := none }) (v := ?_) rfl (by kernel_rfl) (by kernel_rfl) (by kernel_rfl) (fun _ _ _ h => h) (Or.inl ⟨by rfl, ?_⟩) (by assumption) ?_
          rotate_left
          · intro w hSw; (try dsimp only at hSw); go_simp; (try (with_reducible rfl))
          try simp only [Act.put, List.setIfInBounds_toArray, List.set_cons_zero, List.set_cons_succ]
          refine wpAnyH_take (i := 1) (oi := { dst := some 19, op := Go.Op.nilCheck (Go.Operand.tmp 18), type := 0, pos := "read.go:52", after := #[{ on := 0, ground := Go.Ground.data }], guard := none }) (v := ?_) rfl (by kernel_rfl) (by kernel_rfl) (by kernel_rfl) (fun _ _ _ h => h) (Or.inl ⟨by rfl, ?_⟩) (by assumption) ?_
          rotate_left
          · intro w hSw; (try dsimp only at hSw); go_simp; (try (with_reducible rfl))
          try simp only [Act.put, List.setIfInBounds_toArray, List.set_cons_zero, List.set_cons_succ]
          refine wpAnyH_take (i := 2) (oi := { dst := some 20, op := Go.Op.fieldAddr 117 (Go.Operand.tmp 19) 2, type := 0, pos := "read.go:52", after := #[{ on := 1, ground := Go.Ground.data }], guard := none }) (v := ?_) rfl (by kernel_rfl) (by kernel_rfl) (by kernel_rfl) (fun _ _ _ h => h) (Or.inl ⟨by rfl, ?_⟩) (by assumption) ?_
          rotate_left
          · intro w hSw; (try dsimp only at hSw); go_simp; (try (with_reducible rfl))
          try simp only [Act.put, List.setIfInBounds_toArray, List.set_cons_zero, List.set_cons_succ]
          refine wpAnyH_take (i := 3) (oi := { dst := some 21, op := Go.Op.load 63 (Go.Operand.tmp 20), type := 63, pos := "read.go:52", after := #[{ on := 2, ground := Go.Ground.data }], guard := none }) (v := ?_) rfl (by kernel_rfl) (by kernel_rfl) (by kernel_rfl) (fun _ _ _ h => h) (Or.inl ⟨by rfl, ?_⟩) (by assumption) ?_
          rotate_left
          · intro w hSw; (try dsimp only at hSw); go_simp; (try (with_reducible rfl))
          try simp only [Act.put, List.setIfInBounds_toArray, List.set_cons_zero, List.set_cons_succ]
          refine wpAnyH_take (i := 4) (oi := { dst := some 22, op := Go.Op.load 143 (Go.Operand.tmp 3), type := 143, pos := "read.go:52", after := #[], guard := none }) (v := ?_) rfl (by kernel_rfl) (by kernel_rfl) (by kernel_rfl) (fun _ _ _ h => h) (Or.inl ⟨by rfl, ?_⟩) (by assumption) ?_
          rotate_left
          · intro w hSw; (try dsimp only at hSw); go_simp; (try (with_reducible rfl))
          try simp only [Act.put, List.setIfInBounds_toArray, List.set_cons_zero, List.set_cons_succ]
          refine wpAnyH_take (i := 5) (oi := { dst := some 23, op := Go.Op.nilCheck (Go.Operand.tmp 22), type := 0, pos := "read.go:52", after := #[{ on := 4, ground := Go.Ground.data }], guard := none }) (v := ?_) rfl (by kernel_rfl) (by kernel_rfl) (by kernel_rfl) (fun _ _ _ h => h) (Or.inl ⟨by rfl, ?_⟩) (by assumption) ?_
          rotate_left
          · intro w hSw; (try dsimp only at hSw); go_simp; (try (with_reducible rfl))
          try simp only [Act.put, List.setIfInBounds_toArray, List.set_cons_zero, List.set_cons_succ]
          refine wpAnyH_take (i := 6) (oi := { dst := some 24, op := Go.Op.fieldAddr 117 (Go.Operand.tmp 23) 1, type := 0, pos := "read.go:52", after := #[{ on := 5, ground := Go.Ground.data }], guard := none }) (v := ?_) rfl (by kernel_rfl) (by kernel_rfl) (by kernel_rfl) (fun _ _ _ h => h) (Or.inl ⟨by rfl, ?_⟩) (by assumption) ?_
          rotate_left
          · intro w hSw; (try dsimp only at hSw); go_simp; (try (with_reducible rfl))
          try simp only [Act.put, List.setIfInBounds_toArray, List.set_cons_zero, List.set_cons_succ]
          refine wpAnyH_take (i := 7) (oi := { dst := some 25, op := Go.Op.load 27 (Go.Operand.tmp 24), type := 27, pos := "read.go:52", after := #[{ on := 6, ground := Go.Ground.data }], guard := none }) (v := ?_) rfl (by kernel_rfl) (by kernel_rfl) (by kernel_rfl) (fun _ _ _ h => h) (Or.inl ⟨by rfl, ?_⟩) (by assumption) ?_
          rotate_left
          · intro w hSw; (try dsimp only at hSw); go_simp; (try (with_reducible rfl))
          try simp only [Act.put, List.setIfInBounds_toArray, List.set_cons_zero, List.set_cons_succ]
          refine wpAnyH_take (i := 8) (oi := { dst := some 26, op := Go.Op.move (Go.Operand.tmp 1), type := 3, pos := "read.go:52", after := #[], guard := none }) (v := ?_) rfl (by kernel_rfl) (by kernel_rfl) (by kernel_rfl) (fun _ _ _ h => h) (Or.inl ⟨by rfl, ?_⟩) (by assumption) ?_
          rotate_left
          · intro w hSw; (try dsimp only at hSw); go_simp; (try (with_reducible rfl))
          try simp only [Act.put, List.setIfInBounds_toArray, List.set_cons_zero, List.set_cons_succ]
          refine wpAnyH_take (i := 9) (oi := { dst := some 27, op := Go.Op.indexAddr 27 (Go.Operand.tmp 25) (Go.Operand.tmp 26), type := 0, pos := "read.go:52", after := #[{ on := 7, ground := Go.Ground.data }, { on := 8, ground := Go.Ground.data }], guard := none }) (v := ?_) rfl (by kernel_rfl) (by kernel_rfl) (by kernel_rfl) (fun _ _ _ h => h) (Or.inl ⟨by rfl, ?_⟩) (by assumption) ?_
          rotate_left
          · intro w hSw; (try dsimp only at hSw); go_simp; (try (with_reducible rfl))
          try simp only [Act.put, List.setIfInBounds_toArray, List.set_cons_zero, List.set_cons_succ]
          refine wpAnyH_take (i := 10) (oi := { dst := some 28, op := Go.Op.load 93 (Go.Operand.tmp 27), type := 93, pos := "read.go:52", after := #[{ on := 9, ground := Go.Ground.data }], guard := none }) (v := ?_) rfl (by kernel_rfl) (by kernel_rfl) (by kernel_rfl) (fun _ _ _ h => h) (Or.inl ⟨by rfl, ?_⟩) (by assumption) ?_
          rotate_left
          · intro w hSw; (try dsimp only at hSw); go_simp; (try (with_reducible rfl))
          try simp only [Act.put, List.setIfInBounds_toArray, List.set_cons_zero, List.set_cons_succ]
          refine wpAnyH_take (i := 11) (oi := { dst := some 29, op := Go.Op.lookup 63 (Go.Operand.tmp 21) (Go.Operand.tmp 28) false, type := 98, pos := "read.go:52", after := #[{ on := 3, ground := Go.Ground.data }, { on := 10, ground := Go.Ground.data }], guard := none }) (v := ?_) rfl (by kernel_rfl) (by kernel_rfl) (by kernel_rfl) (fun _ _ _ h => h) (Or.inl ⟨by rfl, ?_⟩) (by assumption) ?_
          rotate_left
          · intro w hSw; (try dsimp only at hSw); have hLK := look_is hSw.1 hyn; go_simp; (try (with_reducible rfl))
          try simp only [Act.put, List.setIfInBounds_toArray, List.set_cons_zero, List.set_cons_succ]
          refine wpAnyH_ready (rs := [12]) (by kernel_rfl) (by simp) ?_
          refine AllReadyH.cons (o := { dst := some 6, op := Go.Op.alloc 98, type := 0, pos := "read.go:52", after := #[], guard := none }) rfl (fun K hK => ?_) ?_
          · have hbA := hbd.alloc hbd.size (.cells #[.string ⟨#[]⟩, .string ⟨#[]⟩, .string ⟨#[]⟩] 98)
            go_simp
            refine hK.out _ _ ?_ (fun hHeld => ?_)
            · (try dsimp only)
              (first | exact HS _ hbA | exact HS _ hbS)
            clear hK K
            try simp only [Act.put, List.setIfInBounds_toArray, List.set_cons_zero, List.set_cons_succ]
            refine wpAnyH_ready (rs := [13]) (by kernel_rfl) (by simp) ?_
            refine AllReadyH.cons (o := { dst := none, op := Go.Op.store 98 (Go.Operand.tmp 6) (Go.Operand.tmp 29), type := 0, pos := "read.go:52", after := #[{ on := 12, ground := Go.Ground.data }, { on := 11, ground := Go.Ground.data }, { on := 0, ground := Go.Ground.phase }, { on := 1, ground := Go.Ground.phase }, { on := 2, ground := Go.Ground.phase }, { on := 3, ground := Go.Ground.phase }, { on := 4, ground := Go.Ground.phase }, { on := 5, ground := Go.Ground.phase }, { on := 6, ground := Go.Ground.phase }, { on := 7, ground := Go.Ground.phase }, { on := 8, ground := Go.Ground.phase }, { on := 9, ground := Go.Ground.phase }, { on := 10, ground := Go.Ground.phase }, { on := 11, ground := Go.Ground.phase }, { on := 12, ground := Go.Ground.phase }], guard := none }) rfl (fun K hK => ?_) ?_
            · have hbS := ((Below.refl w4.heap.size w4).alloc (Nat.le_refl _) (.cells #[.string ⟨(headT y).toArray⟩, .string ⟨(betwT y).toArray⟩, .string ⟨(endT y).toArray⟩] 98)).drew
              have hc9 := Cells.new w4 [.string ⟨(headT y).toArray⟩, .string ⟨(betwT y).toArray⟩, .string ⟨(endT y).toArray⟩] 98
              go_simp
              refine hK.out _ _ ?_ (fun hHeld => ?_)
              · (try dsimp only)
                (first | exact HS _ hbA | exact HS _ hbS)
              clear hK K
              try simp only [Act.put]
              refine wpAnyH_done (by kernel_rfl) ?_ _
              have hR5 := hR4.on hbS
              have hc35 := (show Cells (w4.alloc (.cells #[.string ⟨(headT y).toArray⟩, .string ⟨(betwT y).toArray⟩, .string ⟨(endT y).toArray⟩] 98)).drew w.heap.size _ _ from (hbS.block _ hc34.lt).trans hc34)
              have hc65 : Cells (w4.alloc (.cells #[.string ⟨(headT y).toArray⟩, .string ⟨(betwT y).toArray⟩, .string ⟨(endT y).toArray⟩] 98)).drew w4.heap.size _ _ := hc9
              have ho65 := own_old hR4 (Nat.le_refl _)
              have hb6 : b < w4.heap.size := bl4
              have HK5 := hide ((unhide HK4).next (unhide HO2) (KeptT.of hbS))
              clear hbA hbd HS hHeld hc9 hbS x34 z14 z24 v0 v1 hR4 hc34 HK4
              generalize (w4.alloc (.cells #[.string ⟨(headT y).toArray⟩, .string ⟨(betwT y).toArray⟩, .string ⟨(endT y).toArray⟩] 98)).drew = w5 at *
              generalize w4.heap.size = g6 at *
              have x3 := hc35.cell 0
              have y1 := hc65.cell 1
              go_wp2_with fail
              clear x3 y1
              refine (skip_any hR5 (betwT y)).mono ?_
              intro e w6 hsk
              unfold SkipRet at hsk
              rw [if_pos hyb] at hsk
              obtain ⟨rfl, nv6, hR6, hK6, hO6⟩ := hsk
              have n3 : w.heap.size ∉ b :: ownT (.slice (some ⟨gr, 0, none⟩) acc2.length cr) := fun hm => by rcases List.mem_cons.1 hm with e | e; omega; exact ho34 e
              have n6 : g6 ∉ b :: ownT (.slice (some ⟨gr, 0, none⟩) acc2.length cr) := fun hm => by rcases List.mem_cons.1 hm with e | e; omega; exact ho65 e
              have hc36 := hK6.cells hc35 n3
              have hc66 := hK6.cells hc65 n6
              have ho36 := own_next ho34 hc35.lt hO6
              have ho66 := own_next ho65 hc65.lt hO6
              have HK6 := hide ((unhide HK5).next (unhide HO2) hK6)
              have hws : w.heap.size ≤ w5.heap.size := (unhide HK5).1.1
              have HO6 := hide (fun g hg => by rcases hO6 g hg with e | e; exact (unhide HO2) g e; exact Or.inr (Nat.le_trans hws e) : ∀ g ∈ ownT nv6, g ∈ ownT nv ∨ w.heap.size ≤ g)
              clear n3 n6 hc35 hc65 ho34 ho65 hO6 hK6 HK5 hR5 hws
              have x3 := hc36.cell 0
              go_wp2_with fail
              clear x3
              refine (IH w6 b m (s2.drop (betwT y).length) (acc2.set acc.length y) nv6 hR6 (by rw [List.length_set]; omega) (by rw [List.length_set]; omega)).mono ?_
              intro e w7 hret
              obtain ⟨r2, hr2⟩ : ∃ r, readF n (s2.drop (betwT y).length) (acc2.set acc.length y) = r := ⟨_, rfl⟩
              rw [hr2] at hret
              have HP2 := hide (show partsF n s acc x = lastF y r2 by rw [unhide HP, hr2])
              clear hr2 HP
              cases r2 with
              | none =>
                obtain ⟨rfl, hK7⟩ := hret
                have HK := hide ((unhide HK6).next (unhide HO6) hK7)
                clear hK7 hc36 hc66 ho36 ho66 hR6
                unfold fell
                go_wp2_with fail
                exact ⟨rfl, rd_none (unhide HP2) rfl (unhide HK)⟩
              | some p =>
                obtain ⟨s4, acc4⟩ := p
                obtain ⟨rfl, nv7, hR7, hK7, hO7⟩ := hret
                have n3 : w.heap.size ∉ b :: ownT nv6 := fun hm => by rcases List.mem_cons.1 hm with e | e; omega; exact ho36 e
                have n6 : g6 ∉ b :: ownT nv6 := fun hm => by rcases List.mem_cons.1 hm with e | e; omega; exact ho66 e
                have hc37 := hK7.cells hc36 n3
                have hc67 := hK7.cells hc66 n6
                have hws : w.heap.size ≤ w6.heap.size := (unhide HK6).1.1
                have HK7 := hide ((unhide HK6).next (unhide HO6) hK7)
                have HO7 := hide (fun g hg => by rcases hO7 g hg with e | e; exact (unhide HO6) g e; exact Or.inr (Nat.le_trans hws e) : ∀ g ∈ ownT nv7, g ∈ ownT nv ∨ w.heap.size ≤ g)
                clear n3 n6 hc36 hc66 ho36 ho66 hO7 hK7 HK6 HO6 hR6 hws
                have x3 := hc37.cell 0
                have y2 := hc67.cell 2
                go_wp2_with fail
                clear x3 y2
                refine (skip_any hR7 (endT y)).mono ?_
                intro e w8 hsk
                unfold SkipRet at hsk
                by_cases he : (afterL s4 (endT y)).2 = true
                · rw [if_pos he] at hsk
                  obtain ⟨rfl, hp⟩ := hsk
                  have HP3 := hide (show partsF n s acc x = some (s4.drop (endT y).length, acc4) by rw [unhide HP2]; unfold lastF; simp only [he, if_true])
                  have HF := hide (RdPost.next (unhide HK7) (unhide HO7) hp)
                  clear he hp hc37 hc67 hR7
                  go_wp2_with fail
                  go_end0
                  exact rd_some (unhide HP3) rfl (unhide HF)
                · rw [if_neg he] at hsk
                  obtain ⟨rfl, rfl⟩ := hsk
                  have HP3 := hide (show partsF n s acc x = none by rw [unhide HP2]; unfold lastF; simp only [he]; rfl)
                  clear he hc37 hc67 hR7
                  unfold fell
                  go_wp2_with fail
                  exact ⟨rfl, rd_none (unhide HP3) rfl (unhide HK7)⟩
            exact AllReadyH.nil
          exact AllReadyH.nil
        exact AllReadyH.nil
      exact AllReadyH.nil
end Go.Proofs.YtongajonecgdpagGreatDoor
