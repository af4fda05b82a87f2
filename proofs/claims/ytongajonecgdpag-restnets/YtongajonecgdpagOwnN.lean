/- Laws for lists of a call's own: append onto an empty list; what stays whatever else is written. -/
import Derived.Test.YtongajonecgdpagDropP
import Derived.Deep.Upon
import Derived.Deep.DeepCutAuto
import Derived.Deep.CutBlock
import Derived.Test.YtongajonecgdpagSweepA
namespace Go.Proofs.Ytongajonecgdpag
open Go.RowKit

theorem Kp.ints {G : List Nat} {W : World} {a : Option Addr} {n B : Nat} {xs : List Int} (h : Ints W a n xs) (hF : Fresh B a n) (hG : ∀ g ∈ G, g < B) : Kp G W (fun V => Ints V a n xs) := fun _ hk => ((OffI.of h hF hG).keep hk).1
theorem Kp.regs {G : List Nat} {W : World} {a : Option Addr} {n B : Nat} {xs : List (Bool × Int)} (h : Regs W a n xs) (hF : Fresh B a n) (hG : ∀ g ∈ G, g < B) : Kp G W (fun V => Regs V a n xs) := fun _ hk => by
  refine h.keep hF hk.1 (fun k h1 h2 => hk.2 k h2 (fun hm => by have := hG k hm; omega))

theorem step_append_run {P : Program} {w : World} {ops : Array Oper} {o : Oper} {a : Act} {K : Act → World → Prop} {Q : Exit → Act → World → Prop} {E : Prop} (hgd : o.guard = none) (s x : Operand) (t tn : TypeId)
    (ho : o.op = .call { callee := .builtin .append, args := #[s, x], argTypes := #[t, tn] }) (v u : Value) (hs : a.eval s = v) (hx : a.eval x = u) {v' : Value} {w' : World} (hr : (Builtin.append_ #[t, tn] o.type #[v, u]).run P w = .ok v' w')
    (h : K (a.put o.dst v') w') : if Region.wanted o (yielded ops a.tmps) = true then Oper.wp P o a w K Q else E := by
  have hw : Region.wanted o (yielded ops a.tmps) = true := by simp [Region.wanted, hgd]
  rw [if_pos hw]
  unfold Oper.wp execOp
  simp only [ho, resolve, invoke, builtin, Sem.run_bind, Sem.run_pure, Result.andThen_ok, List.map_toArray, List.map_cons, List.map_nil, hs, hx, hr]
  exact h

/-- append of cells onto an empty list. -/
theorem lit_grow (w : World) (t ty e : TypeId) (i : TypeInfo) (z : Value) (ht : Try.prog.underlying t = some (.slice e)) (hi : Try.prog.info? e = some i) (hz : i.zero = some z) (g : Nat) (ad : Addr) (m c : Nat) (news : List Value) (hl : news.length = m * i.size) (hnews : ∀ j v, news[j]? = some v → w.cell? (ad.add j) = some v) (hm : 0 < m) (hb : m * i.bytes ≤ 281474976710656) (h63 : m ≤ 9223372036854775807) :
    ∃ c' w', (Builtin.append_ #[t, t] ty #[.slice (some ⟨g, 0, none⟩) 0 0, .slice (some ad) m c]).run Try.prog w = .ok (.slice (some ⟨w.heap.size, 0, none⟩) m c') w' ∧ (∀ j u, news[j]? = some u → w'.cell? ⟨w.heap.size, j, none⟩ = some u) ∧ w.heap.size < w'.heap.size ∧ Below w.heap.size w w' := by
  have hr := run_append_grow (P := Try.prog) w t ty e i z ht hi hz ⟨g, 0, none⟩ 0 0 [] (by simp) (by simp) ad m c news hl hnews (by omega) (by omega) (by
    have : Builtin.nextslicecap (0 + m) 0 = m := by unfold Builtin.nextslicecap; rw [if_pos (by omega)]; omega
    rw [this]; exact hb)
  rw [Nat.zero_add] at hr
  refine ⟨_, _, hr, fun j u hj => ?_, by simp, (Below.refl _ w).drew.alloc (by simp) _⟩
  have hjl : j < news.length := by
    rcases Nat.lt_or_ge j news.length with h | h
    · exact h
    · rw [List.getElem?_eq_none h] at hj; simp at hj
  have h1 : (w.drew.alloc (.cells (([] : List Value).toArray ++ news.toArray ++ Builtin.zeroCells z.cells (grownCap w m 0 e - m)) e)).cell? ⟨w.drew.heap.size, j, none⟩ = (([] : List Value).toArray ++ news.toArray ++ Builtin.zeroCells z.cells (grownCap w m 0 e - m))[j]? := by
    rw [World.cell?_alloc_new]
  have h2 : (([] : List Value).toArray ++ news.toArray ++ Builtin.zeroCells z.cells (grownCap w m 0 e - m))[j]? = news[j]? := by
    rw [Array.getElem?_append_left (by simpa using hjl)]
    simp
  exact (h1.trans h2).trans hj
theorem lit_none (w : World) (t ty e : TypeId) (i : TypeInfo) (ht : Try.prog.underlying t = some (.slice e)) (hi : Try.prog.info? e = some i) (g : Nat) (la : Option Addr) (c : Nat) :
    (Builtin.append_ #[t, t] ty #[.slice (some ⟨g, 0, none⟩) 0 0, .slice la 0 c]).run Try.prog w = .ok (.slice (some ⟨g, 0, none⟩) 0 0) w := by
  cases la <;> simp [Builtin.append_, run_underlying ht, sizeOf, typeInfo, hi, Builtin.lenOf, Builtin.firstCells, loadCells, loadCellsFrom, storeCells]

theorem lit_ints (w : World) (ty : TypeId) (g : Nat) (xs : List Int) (la : Option Addr) (m c : Nat) (hI : Ints w la m xs) (hb : m * 8 ≤ 281474976710656) :
    ∃ a' c' w', (Builtin.append_ #[37, 37] ty #[.slice (some ⟨g, 0, none⟩) 0 0, .slice la m c]).run Try.prog w = .ok (.slice a' m c') w' ∧ (∀ G, (∀ b ∈ G, b < w.heap.size) → Kp G w' (fun V => Ints V a' m xs)) ∧ Below w.heap.size w w' := by
  obtain ⟨i0, hi, hz0, hz1, hz2⟩ := info_parts Try.infoInt
  have h1 := hI.1
  by_cases hm : m = 0
  · subst hm
    obtain rfl : xs = [] := List.length_eq_zero_iff.1 h1.symm
    exact ⟨_, _, w, lit_none w _ ty _ i0 Try.underlying37 hi g la c, fun G _ W' _ => ⟨rfl, Nat.zero_le _, Or.inl rfl⟩, Below.refl _ _⟩
  · rcases hI.2.2 with h3 | ⟨b, off, rfl, hlt, hc⟩
    · rw [h3] at h1; exact absurd h1 hm
    · obtain ⟨c', w', hr, hcell, hsz, hbel⟩ := lit_grow w 37 ty 3 i0 _ Try.underlying37 hi hz0 g ⟨b, off, none⟩ m c (xs.map (fun x => Value.int .i64 x)) (by rw [hz1]; simp; omega) (ints_news hI) (by omega) (by rw [hz2]; exact hb) (by omega)
      refine ⟨_, _, w', hr, fun G hG => Kp.ints (B := w.heap.size) ⟨h1, hI.2.1, Or.inr ⟨w.heap.size, 0, rfl, hsz, fun i hi' => ?_⟩⟩ (Or.inr ⟨_, _, rfl, Nat.le_refl _⟩) hG, hbel⟩
      rw [Nat.zero_add]
      exact hcell i _ (by simp [hi'])
theorem lit_regs (w : World) (ty : TypeId) (g : Nat) (rs : List (Bool × Int)) (la : Option Addr) (m c : Nat) (hI : Regs w la m rs) (hb : m * 16 ≤ 281474976710656) :
    ∃ a' c' w', (Builtin.append_ #[36, 36] ty #[.slice (some ⟨g, 0, none⟩) 0 0, .slice la m c]).run Try.prog w = .ok (.slice a' m c') w' ∧ (∀ G, (∀ b ∈ G, b < w.heap.size) → Kp G w' (fun V => Regs V a' m rs)) ∧ Below w.heap.size w w' := by
  obtain ⟨i0, hi, hz0, hz1, hz2⟩ := info_parts Try.infoStore
  have h1 := hI.1
  by_cases hm : m = 0
  · subst hm
    obtain rfl : rs = [] := List.length_eq_zero_iff.1 h1.symm
    exact ⟨_, _, w, lit_none w _ ty _ i0 Try.underlying36 hi g la c, fun G _ W' _ => ⟨rfl, Nat.zero_le _, Or.inl rfl⟩, Below.refl _ _⟩
  · have hI0 := hI
    rcases hI.2.2 with h3 | ⟨b, off, rfl, hlt, hc⟩
    · rw [h3] at h1; exact absurd h1 hm
    · obtain ⟨c', w', hr, hcell, hsz, hbel⟩ := lit_grow w 36 ty 48 i0 _ Try.underlying36 hi hz0 g ⟨b, off, none⟩ m c (regsV rs) (by rw [hz1, regsV_len]; omega) (fun j u hj => hI0.cells j u hj) (by omega) (by rw [hz2]; exact hb) (by omega)
      refine ⟨_, _, w', hr, fun G hG => Kp.regs (B := w.heap.size) ⟨h1, hI.2.1, Or.inr ⟨w.heap.size, 0, rfl, hsz, fun i hi' => ?_⟩⟩ (Or.inr ⟨_, _, rfl, Nat.le_refl _⟩) hG, hbel⟩
      obtain ⟨e1, e2⟩ := regsV_at rs i hi'
      rw [Nat.zero_add]
      exact ⟨hcell _ _ e1, hcell _ _ e2⟩

theorem step_lit_ints {w : World} {ops : Array Oper} {o : Oper} {a : Act} {K : Act → World → Prop} {Q : Exit → Act → World → Prop} {E : Prop} (hgd : o.guard = none) (s x : Operand)
    (ho : o.op = .call { callee := .builtin .append, args := #[s, x], argTypes := #[37, 37] }) {g : Nat} (hs : a.eval s = .slice (some ⟨g, 0, none⟩) 0 0) (xs : List Int) (la : Option Addr) (m c : Nat) (hx : a.eval x = .slice la m c) (hI : Ints w la m xs) (hb : m * 8 ≤ 281474976710656)
    (hK : ∀ a' c' w', (∀ G, (∀ b ∈ G, b < w.heap.size) → Kp G w' (fun V => Ints V a' m xs)) → Below w.heap.size w w' → K (a.put o.dst (.slice a' m c')) w') : if Region.wanted o (yielded ops a.tmps) = true then Oper.wp Try.prog o a w K Q else E := by
  obtain ⟨a', c', w', hr, h1, h2⟩ := lit_ints w o.type g xs la m c hI hb
  exact step_append_run hgd s x _ _ ho _ _ hs hx hr (hK a' c' w' h1 h2)
theorem step_lit_regs {w : World} {ops : Array Oper} {o : Oper} {a : Act} {K : Act → World → Prop} {Q : Exit → Act → World → Prop} {E : Prop} (hgd : o.guard = none) (s x : Operand)
    (ho : o.op = .call { callee := .builtin .append, args := #[s, x], argTypes := #[36, 36] }) {g : Nat} (hs : a.eval s = .slice (some ⟨g, 0, none⟩) 0 0) (rs : List (Bool × Int)) (la : Option Addr) (m c : Nat) (hx : a.eval x = .slice la m c) (hI : Regs w la m rs) (hb : m * 16 ≤ 281474976710656)
    (hK : ∀ a' c' w', (∀ G, (∀ b ∈ G, b < w.heap.size) → Kp G w' (fun V => Regs V a' m rs)) → Below w.heap.size w w' → K (a.put o.dst (.slice a' m c')) w') : if Region.wanted o (yielded ops a.tmps) = true then Oper.wp Try.prog o a w K Q else E := by
  obtain ⟨a', c', w', hr, h1, h2⟩ := lit_regs w o.type g rs la m c hI hb
  exact step_append_run hgd s x _ _ ho _ _ hs hx hr (hK a' c' w' h1 h2)
theorem alloc_on {A : Type} {K : A → World → Prop} {x : A} (w : World) (o : Obj) (h : ∀ w1, Below w.heap.size w w1 → w1.heap[w.heap.size]? = some o → K x w1) : K x (w.alloc o) :=
  h _ ((Below.refl _ w).alloc (Nat.le_refl _) o) (heap_alloc_new w o)
theorem rng_lt {w2 W : World} (hB : Below w2.heap.size w2 W) : ∀ b ∈ List.range w2.heap.size, b < W.heap.size := fun _ hb => Nat.lt_of_lt_of_le (List.mem_range.1 hb) hB.size
theorem box_lt {w2 W : World} {bm : Nat} {vs : List Value} {T : TypeId} (hc : Cells W bm vs T) (hB : Below w2.heap.size w2 W) : ∀ b ∈ bm :: List.range w2.heap.size, b < W.heap.size := fun b hb => by
  rcases List.mem_cons.1 hb with h1 | h1
  · rw [h1]; exact hc.lt
  · exact rng_lt hB b h1

/-- What a row of gates holds, its lists so that they stay whatever is written into the blocks G. -/
def GK (G : List Nat) (W : World) (cs : List Value) (gs : List GateD) : Prop := cs.length = gs.length * 3 ∧ ∀ j (hj : j < gs.length), ∃ aa an ac, cs[j * 3]? = some (.int .i64 gs[j].kind) ∧ cs[j * 3 + 1]? = some (.int .i64 gs[j].n) ∧ cs[j * 3 + 2]? = some (.slice aa an ac) ∧ Kp G W (fun V => Ints V aa an gs[j].args)
theorem GK.nil (G : List Nat) (W : World) : GK G W [] [] := ⟨rfl, fun j hj => by simp at hj⟩
theorem GK.step {G G' : List Nat} {W W1 : World} {cs : List Value} {gs : List GateD} (h : GK G W cs gs) (hk : KeptG G W W1) (hG : ∀ g ∈ G', g ∈ G ∨ W.heap.size ≤ g) : GK G' W1 cs gs :=
  ⟨h.1, fun j hj => by obtain ⟨aa, an, ac, h1, h2, h3, h4⟩ := h.2 j hj; exact ⟨aa, an, ac, h1, h2, h3, h4.step hk hG⟩⟩
theorem GK.more {G : List Nat} {W : World} {cs : List Value} {gs : List GateD} (h : GK G W cs gs) {x : GateD} {aa : Option Addr} {an ac : Nat} (hI : Kp G W (fun V => Ints V aa an x.args)) : GK G W (cs ++ [.int .i64 x.kind, .int .i64 x.n, .slice aa an ac]) (gs ++ [x]) := by
  have hl := h.1
  refine ⟨by simp [hl]; omega, fun j hj => ?_⟩
  by_cases e : j < gs.length
  · obtain ⟨a', n', c', h1, h2, h3, h4⟩ := h.2 j e
    refine ⟨a', n', c', ?_, ?_, ?_, ?_⟩
    · rw [List.getElem?_append_left (by omega), List.getElem_append_left e]; exact h1
    · rw [List.getElem?_append_left (by omega), List.getElem_append_left e]; exact h2
    · rw [List.getElem?_append_left (by omega)]; exact h3
    · rw [List.getElem_append_left e]; exact h4
  · have ej : j = gs.length := by simp at hj; omega
    subst ej
    refine ⟨aa, an, ac, ?_, ?_, ?_, by simpa using hI⟩
    · rw [List.getElem?_append_right (by omega), show gs.length * 3 - cs.length = 0 by omega]; simp
    · rw [List.getElem?_append_right (by omega), show gs.length * 3 + 1 - cs.length = 1 by omega]; simp
    · rw [List.getElem?_append_right (by omega), show gs.length * 3 + 2 - cs.length = 2 by omega]; simp
theorem GK.set {G : List Nat} {W : World} {cs : List Value} {gs : List GateD} (h : GK G W cs gs) (j : Nat) (hj : j < gs.length) {x : GateD} {aa : Option Addr} {an ac : Nat} (hI : Kp G W (fun V => Ints V aa an x.args)) : GK G W (((cs.set (j * 3) (.int .i64 x.kind)).set (j * 3 + 1) (.int .i64 x.n)).set (j * 3 + 2) (.slice aa an ac)) (gs.set j x) := by
  have hl := h.1
  refine ⟨by simp [hl], fun k hk => ?_⟩
  have hk' : k < gs.length := by simpa using hk
  by_cases e : k = j
  · subst e
    refine ⟨aa, an, ac, ?_, ?_, ?_, by simpa using hI⟩
    · rw [List.getElem?_set_ne (by omega), List.getElem?_set_ne (by omega), List.getElem?_set_self (by omega)]; simp
    · rw [List.getElem?_set_ne (by omega), List.getElem?_set_self (by simp; omega)]; simp
    · rw [List.getElem?_set_self (by simp; omega)]
  · obtain ⟨a', n', c', h1, h2, h3, h4⟩ := h.2 k hk'
    have e1 : (gs.set j x)[k] = gs[k] := List.getElem_set_ne (Ne.symm e) _
    refine ⟨a', n', c', ?_, ?_, ?_, ?_⟩
    · rw [List.getElem?_set_ne (by omega), List.getElem?_set_ne (by omega), List.getElem?_set_ne (by omega), e1]; exact h1
    · rw [List.getElem?_set_ne (by omega), List.getElem?_set_ne (by omega), List.getElem?_set_ne (by omega), e1]; exact h2
    · rw [List.getElem?_set_ne (by omega), List.getElem?_set_ne (by omega), List.getElem?_set_ne (by omega)]; exact h3
    · rw [e1]; exact h4
theorem own_gatesK {w : World} {base : Nat} {e : TypeId} {a : Option Addr} {c n : Nat} {G : List Nat} {cs : List Value} {gs : List GateD} (h : w.ownsRow base e 3 (.slice a n c) n cs) (hG : GK G w cs gs) (hn : n = gs.length) (hm : n ≤ maxLen) : Gates w a n gs := by
  rcases h.2 with ⟨h1, h2⟩ | ⟨g, cap, cur, hv, hg, hh, r⟩
  · subst h2
    exact ⟨hn, by omega, Or.inl (List.eq_nil_of_length_eq_zero hn.symm)⟩
  · injection hv with hv1 hv2 hv3
    subst hv1
    refine ⟨hn, by omega, Or.inr ⟨g, 0, rfl, (Array.getElem?_eq_some_iff.1 hh).1, fun i hi => ?_⟩⟩
    obtain ⟨aa, an, ac, h1, h2, h3, h4⟩ := hG.2 i hi
    have c1 := h.cells (g := g) rfl _ _ h1
    have c2 := h.cells (g := g) rfl _ _ h2
    have c3 := h.cells (g := g) rfl _ _ h3
    rw [addr_plus] at c1 c2 c3
    exact ⟨c1, by rw [← Nat.add_assoc] at c2; exact c2, aa, an, ac, by rw [← Nat.add_assoc] at c3; exact c3, h4.now⟩
theorem own_down {w : World} {base base' size n : Nat} {e : TypeId} {v : Value} {xs : List Value} (h : w.ownsRow base e size v n xs) (hb : base' ≤ base) : w.ownsRow base' e size v n xs := by
  refine ⟨h.1, ?_⟩
  rcases h.2 with hn | ⟨g', cap, cur, hv, hbs, rest⟩
  · exact .inl hn
  · exact .inr ⟨g', cap, cur, hv, Nat.le_trans hb hbs, rest⟩

theorem kept4 {W : World} {bm : Nat} {G : List Nat} (u0 u1 u2 u3 : Value) : KeptG (bm :: G) W ((((W.setCell ⟨bm, 0, none⟩ u0).setCell ⟨bm, 1, none⟩ u1).setCell ⟨bm, 2, none⟩ u2).setCell ⟨bm, 3, none⟩ u3) :=
  (((KeptG.set (k := 0) u0 List.mem_cons_self).trans (KeptG.set (k := 1) u1 List.mem_cons_self)).trans (KeptG.set (k := 2) u2 List.mem_cons_self)).trans (KeptG.set (k := 3) u3 List.mem_cons_self)

theorem kept4m {W : World} {bm : Nat} {G : List Nat} (hm : bm ∈ G) (u0 u1 u2 u3 : Value) : KeptG G W ((((W.setCell ⟨bm, 0, none⟩ u0).setCell ⟨bm, 1, none⟩ u1).setCell ⟨bm, 2, none⟩ u2).setCell ⟨bm, 3, none⟩ u3) :=
  (((KeptG.set (k := 0) u0 hm).trans (KeptG.set (k := 1) u1 hm)).trans (KeptG.set (k := 2) u2 hm)).trans (KeptG.set (k := 3) u3 hm)
/-- A net of the call's own, under way: its gates. -/
def GB (w2 : World) (bm : Nat) (v : Value) : List Nat := bm :: (ownL v ++ List.range w2.heap.size)
def OInv (w2 W : World) (bm : Nat) (ins : Int) (ra : Option Addr) (rn rc : Nat) (rs : List (Bool × Int)) (oa : Option Addr) (on oc : Nat) (os : List Int) (pa : Option Addr) (pn pc : Nat) (cs : List Value) (gs : List GateD) : Prop :=
  pn = gs.length ∧ Cells W bm [.int .i64 ins, .slice pa pn pc, .slice ra rn rc, .slice oa on oc] 39 ∧ Kp (GB w2 bm (.slice pa pn pc)) W (fun V => Regs V ra rn rs) ∧ Kp (GB w2 bm (.slice pa pn pc)) W (fun V => Ints V oa on os) ∧ W.ownsRow w2.heap.size 46 3 (.slice pa pn pc) pn cs ∧ GK (GB w2 bm (.slice pa pn pc)) W cs gs ∧ Below w2.heap.size w2 W
theorem OInv.on {w2 W W' : World} {bm : Nat} {ins : Int} {ra : Option Addr} {rn rc : Nat} {rs : List (Bool × Int)} {oa : Option Addr} {on oc : Nat} {os : List Int} {pa : Option Addr} {pn pc : Nat} {cs : List Value} {gs : List GateD} (h : OInv w2 W bm ins ra rn rc rs oa on oc os pa pn pc cs gs) (hb : Below W.heap.size W W') : OInv w2 W' bm ins ra rn rc rs oa on oc os pa pn pc cs gs := by
  obtain ⟨h0, h1, h2, h3, h4, h5, h6⟩ := h
  exact ⟨h0, h1.below hb h1.lt, h2.on hb, h3.on hb, own_on h4 hb, h5.step (KeptG.of hb) (fun _ hg => Or.inl hg), bstep h6 hb⟩
theorem OInv.lt {w2 W : World} {bm : Nat} {ins : Int} {ra : Option Addr} {rn rc : Nat} {rs : List (Bool × Int)} {oa : Option Addr} {on oc : Nat} {os : List Int} {pa : Option Addr} {pn pc : Nat} {cs : List Value} {gs : List GateD} (h : OInv w2 W bm ins ra rn rc rs oa on oc os pa pn pc cs gs) : ∀ b ∈ GB w2 bm (.slice pa pn pc), b < W.heap.size := by
  obtain ⟨h0, h1, h2, h3, h4, h5, h6⟩ := h
  intro b hb
  simp only [GB, List.mem_cons, List.mem_append] at hb
  rcases hb with rfl | hb | hb
  · exact h1.lt
  · exact own_lt h4 b (by simpa [ownL] using hb)
  · exact rng_lt h6 b hb
theorem gb_turn {w2 w6 : World} {bm g8 n8 cap8 : Nat} {v : Value} (hat : v.ownBlock = some g8 ∨ g8 = w6.heap.size) : ∀ g ∈ GB w2 bm (.slice (some ⟨g8, 0, none⟩) n8 cap8), g ∈ GB w2 bm v ∨ w6.heap.size ≤ g := by
  intro g hg
  rcases List.mem_cons.1 hg with h1 | h1
  · exact Or.inl (List.mem_cons.2 (Or.inl h1))
  · rcases List.mem_append.1 h1 with h2 | h2
    · have h3 : g = g8 := by simpa [ownL, Value.ownBlock] using h2
      rcases hat with e | e
      · exact Or.inl (List.mem_cons.2 (Or.inr (List.mem_append.2 (Or.inl (by rw [h3]; unfold ownL; rw [e]; simp)))))
      · exact Or.inr (by omega)
    · exact Or.inl (List.mem_cons.2 (Or.inr (List.mem_append.2 (Or.inr h2))))
theorem OInv.more {w2 w6 w8 : World} {bm : Nat} {ins : Int} {ra : Option Addr} {rn rc : Nat} {rs : List (Bool × Int)} {oa : Option Addr} {on oc : Nat} {os : List Int} {pa : Option Addr} {pn pc : Nat} {cs : List Value} {gs : List GateD} (h : OInv w2 w6 bm ins ra rn rc rs oa on oc os pa pn pc cs gs) (x : GateD) {aa : Option Addr} {an ac g8 cap8 : Nat}
    (hI : Kp (GB w2 bm (.slice pa pn pc)) w6 (fun V => Ints V aa an x.args)) (hown : w8.ownsRow w2.heap.size 46 3 (.slice (some ⟨g8, 0, none⟩) (pn + 1) cap8) (pn + 1) (cs ++ [.int .i64 x.kind, .int .i64 x.n, .slice aa an ac])) (hgr : w6.grownBy w8 (Value.slice pa pn pc).ownBlock) (hat : (Value.slice pa pn pc).ownBlock = some g8 ∨ g8 = w6.heap.size) (hbm : w2.heap.size ≤ bm) :
    OInv w2 (w8.setCell ⟨bm, 1, none⟩ (.slice (some ⟨g8, 0, none⟩) (pn + 1) cap8)) bm ins ra rn rc rs oa on oc os (some ⟨g8, 0, none⟩) (pn + 1) cap8 (cs ++ [.int .i64 x.kind, .int .i64 x.n, .slice aa an ac]) (gs ++ [x]) := by
  obtain ⟨h0, h1, h2, h3, h4, h5, h6⟩ := h
  have n1 := own_ne h4 h1 (by decide)
  have c1 : Cells w8 bm _ 39 := (hgr.block bm h1.lt (Ne.symm n1)).trans h1
  have m1 := own_ne hown c1 (by decide)
  have hk : KeptG (GB w2 bm (.slice pa pn pc)) w6 (w8.setCell ⟨bm, 1, none⟩ (.slice (some ⟨g8, 0, none⟩) (pn + 1) cap8)) := (KeptG.grown hgr (fun b hb => by simp [GB, ownL, hb])).trans (KeptG.set _ (by simp [GB]))
  have hG := gb_turn (w2 := w2) (bm := bm) (n8 := pn + 1) (cap8 := cap8) hat
  have hb8 : Below w2.heap.size w2 w8 := h6.grown hgr h6.size (fun k hk => own_base_of h4 k hk)
  exact ⟨by simp [h0], c1.set 1 _, h2.step hk hG, h3.step hk hG, own_set hown m1, (h5.step hk hG).more (hI.step hk hG), hb8.setCell hbm _⟩
theorem OInv.cells8 {w2 w6 w8 : World} {bm : Nat} {ins : Int} {ra : Option Addr} {rn rc : Nat} {rs : List (Bool × Int)} {oa : Option Addr} {on oc : Nat} {os : List Int} {pa : Option Addr} {pn pc : Nat} {cs : List Value} {gs : List GateD} (h : OInv w2 w6 bm ins ra rn rc rs oa on oc os pa pn pc cs gs) (hgr : w6.grownBy w8 (Value.slice pa pn pc).ownBlock) : Cells w8 bm [.int .i64 ins, .slice pa pn pc, .slice ra rn rc, .slice oa on oc] 39 ∧ Below w2.heap.size w2 w8 := by
  obtain ⟨h0, h1, h2, h3, h4, h5, h6⟩ := h
  exact ⟨(hgr.block bm h1.lt (Ne.symm (own_ne h4 h1 (by decide)))).trans h1, h6.grown hgr h6.size (fun k hk => own_base_of h4 k hk)⟩

/-- A net of its own: all of it stays whatever is written elsewhere, or into the row of its gates. -/
def GO (w : World) (v : Value) : List Nat := ownL v ++ List.range w.heap.size
def OwnPost (d : NetD) (ins0 : Int) (rn on : Nat) (w w' : World) (e : Ending) : Prop := ∃ pa pn pc ra rc oa oc cs, e = .returned (.agg #[.int .i64 ins0, .slice pa pn pc, .slice ra rn rc, .slice oa on oc]) ∧ pn = d.gates.length ∧ Kp (GO w (.slice pa pn pc)) w' (fun V => Regs V ra rn d.regs) ∧ Kp (GO w (.slice pa pn pc)) w' (fun V => Ints V oa on d.outs) ∧ w'.ownsRow w.heap.size 46 3 (.slice pa pn pc) pn cs ∧ GK (GO w (.slice pa pn pc)) w' cs d.gates ∧ Below w.heap.size w w'

set_option maxRecDepth 100000 in
set_option maxHeartbeats 20000000 in
theorem OwnNet_any (d : NetD) (ins0 : Int) (ga ra oa : Option Addr) (gn gc rn rc on oc : Nat) (w : World) (h : NetAt w d ins0 ga gn ra rn oa on) (hck : checkE d = 0) :
    Calls Try.prog 15 #[.agg #[.int .i64 ins0, .slice ga gn gc, .slice ra rn rc, .slice oa on oc]] w fun e w' => OwnPost d ins0 rn on w w' e := by
  have hb0 : Below w.heap.size w (w.alloc (.cells #[.int .i64 ins0, .slice ga gn gc, .slice ra rn rc, .slice oa on oc] 39)) := (Below.refl _ _).alloc (Nat.le_refl _) _
  have hbox : Boxed (w.alloc (.cells #[.int .i64 ins0, .slice ga gn gc, .slice ra rn rc, .slice oa on oc] 39)) w.heap.size ins0 ga gn gc ra rn rc oa on oc := Boxed.new _ _ _ _ _ _ _ _ _ _ _ _
  have hb1 := (Below.refl _ (w.alloc (.cells #[.int .i64 ins0, .slice ga gn gc, .slice ra rn rc, .slice oa on oc] 39))).alloc (Nat.le_refl _) (.cells #[.int .i64 0, .slice none 0 0, .slice none 0 0, .slice none 0 0] 39)
  have hc0 := Cells.new (w.alloc (.cells #[.int .i64 ins0, .slice ga gn gc, .slice ra rn rc, .slice oa on oc] 39)) [.int .i64 0, .slice none 0 0, .slice none 0 0, .slice none 0 0] 39
  have hsz : (w.alloc (.cells #[.int .i64 ins0, .slice ga gn gc, .slice ra rn rc, .slice oa on oc] 39)).heap.size = w.heap.size + 1 := by simp
  rw [hsz] at hc0
  have hN := (h.below hb0).below hb1
  have hx := hbox.below hb1
  have B0 := bstep hb0 hb1
  have HG : Hid (d.gates.length = gn) := h.gates.1.symm
  have hok := ok_of hck
  have hrn : rn ≤ 20 := by have := hok.regs; have := h.regs.1; omega
  have hon : on ≤ 3 := by have := hok.outs; have := h.outs.1; omega
  have hgn : gn ≤ 200 := by have := hok.gates; have := HG.out; omega
  have HFW := hide (show ∀ k (hk : k < d.gates.length), d.gates[k].args.length ≤ 16 from fun k hk => (hok.each _ (List.getElem_mem hk)).few)
  clear h hb0 hb1 hbox hsz hok hck
  go_enter Try.func15, Try.ntmps15
  go_upto_region 1 with fail
  generalize hw2 : (w.alloc (.cells #[.int .i64 ins0, .slice ga gn gc, .slice ra rn rc, .slice oa on oc] 39)).alloc (.cells #[.int .i64 0, .slice none 0 0, .slice none 0 0, .slice none 0 0] 39) = w2 at *
  clear hw2
  have hx0 := hx
  obtain ⟨x0, x1, x2, x3, x4⟩ := hx
  have hrz := hc0.lt
  go_cut [3] (fun p wx => ∃ bm rb rd ob od, p = .pointer (some ⟨bm, 0, none⟩) ∧ Cells wx bm [.int .i64 ins0, .slice none 0 0, .slice rb rn rd, .slice ob on od] 39 ∧ Kp (bm :: List.range w2.heap.size) wx (fun V => Regs V rb rn d.regs) ∧ Kp (bm :: List.range w2.heap.size) wx (fun V => Ints V ob on d.outs) ∧ w2.heap.size ≤ bm ∧ Below w2.heap.size w2 wx)
  case first =>
    have hB := (Below.refl w2.heap.size w2).drew
    refine wp_region_held_drew (S := fun W => Below w2.heap.size w2 W ∧ W.cell? ⟨w.heap.size, 0, none⟩ = some (.int .i64 ins0) ∧ W.cell? ⟨w.heap.size, 2, none⟩ = some (.slice ra rn rc) ∧ W.cell? ⟨w.heap.size, 3, none⟩ = some (.slice oa on oc)) (by kernel_rfl) ?_ (fun hHeld => ?_)
    · exact heldr_of x0 x1 x3 x4 hB
    generalize w2.drew = wd at hB hHeld ⊢
    refine wpAnyH_take (i := 0) (oi := { dst := some 5, op := Go.Op.fieldAddr 39 (Go.Operand.tmp 1) 0, type := 0, pos := "net.go:158", after := #[], guard := none }) (v := ?_) rfl (by kernel_rfl) (by kernel_rfl) (by kernel_rfl) (fun _ _ _ h => h) (Or.inl ⟨by rfl, ?_⟩) (by assumption) ?_
    rotate_left
    · intro w hSw; (try dsimp only at hSw); go_simp; (try (with_reducible rfl))
    try simp only [Act.put, List.setIfInBounds_toArray, List.set_cons_zero, List.set_cons_succ]
    refine wpAnyH_take (i := 1) (oi := { dst := some 6, op := Go.Op.load 3 (Go.Operand.tmp 5), type := 3, pos := "net.go:158", after := #[{ on := 0, ground := Go.Ground.data }], guard := none }) (v := ?_) rfl (by kernel_rfl) (by kernel_rfl) (by kernel_rfl) (fun _ _ _ h => h) (Or.inl ⟨by rfl, ?_⟩) (by assumption) ?_
    rotate_left
    · intro w hSw; (try dsimp only at hSw); go_simp; (try (with_reducible rfl))
    try simp only [Act.put, List.setIfInBounds_toArray, List.set_cons_zero, List.set_cons_succ]
    refine wpAnyH_take (i := 3) (oi := { dst := some 8, op := Go.Op.fieldAddr 39 (Go.Operand.tmp 1) 2, type := 0, pos := "net.go:158", after := #[], guard := none }) (v := ?_) rfl (by kernel_rfl) (by kernel_rfl) (by kernel_rfl) (fun _ _ _ h => h) (Or.inl ⟨by rfl, ?_⟩) (by assumption) ?_
    rotate_left
    · intro w hSw; (try dsimp only at hSw); go_simp; (try (with_reducible rfl))
    try simp only [Act.put, List.setIfInBounds_toArray, List.set_cons_zero, List.set_cons_succ]
    refine wpAnyH_take (i := 4) (oi := { dst := some 9, op := Go.Op.load 36 (Go.Operand.tmp 8), type := 36, pos := "net.go:158", after := #[{ on := 3, ground := Go.Ground.data }], guard := none }) (v := ?_) rfl (by kernel_rfl) (by kernel_rfl) (by kernel_rfl) (fun _ _ _ h => h) (Or.inl ⟨by rfl, ?_⟩) (by assumption) ?_
    rotate_left
    · intro w hSw; (try dsimp only at hSw); go_simp; (try (with_reducible rfl))
    try simp only [Act.put, List.setIfInBounds_toArray, List.set_cons_zero, List.set_cons_succ]
    refine wpAnyH_take (i := 7) (oi := { dst := some 12, op := Go.Op.fieldAddr 39 (Go.Operand.tmp 1) 3, type := 0, pos := "net.go:158", after := #[], guard := none }) (v := ?_) rfl (by kernel_rfl) (by kernel_rfl) (by kernel_rfl) (fun _ _ _ h => h) (Or.inl ⟨by rfl, ?_⟩) (by assumption) ?_
    rotate_left
    · intro w hSw; (try dsimp only at hSw); go_simp; (try (with_reducible rfl))
    try simp only [Act.put, List.setIfInBounds_toArray, List.set_cons_zero, List.set_cons_succ]
    refine wpAnyH_take (i := 8) (oi := { dst := some 13, op := Go.Op.load 37 (Go.Operand.tmp 12), type := 37, pos := "net.go:158", after := #[{ on := 7, ground := Go.Ground.data }], guard := none }) (v := ?_) rfl (by kernel_rfl) (by kernel_rfl) (by kernel_rfl) (fun _ _ _ h => h) (Or.inl ⟨by rfl, ?_⟩) (by assumption) ?_
    rotate_left
    · intro w hSw; (try dsimp only at hSw); go_simp; (try (with_reducible rfl))
    try simp only [Act.put, List.setIfInBounds_toArray, List.set_cons_zero, List.set_cons_succ]
    refine wpAnyH_ready (rs := [2, 6, 11]) (by kernel_rfl) (by simp) ?_
    refine AllReadyH.cons (o := { dst := some 7, op := Go.Op.buildSlice 36 0 #[], type := 36, pos := "net.go:158", after := #[], guard := none }) rfl (fun K hK => ?_) ?_
    · go_simp
      refine alloc_on (K := K) _ _ (fun wn hb ho => ?_)
      have hB := bstep hB hb
      (try have hcM := hcM.below hb hcM.lt)
      (try have hKR := hKR.on hb)
      (try have hKO := hKO.on hb)
      clear ho
      refine hK.out _ _ ?_ (fun hHeld => ?_)
      · (try dsimp only)
        (first | with_reducible exact heldr_of x0 x1 x3 x4 hB | with_reducible exact heldr_of x0 x1 x3 x4 ((((hB.setCell hbm _).setCell hbm _).setCell hbm _).setCell hbm _) | exact heldr_of x0 x1 x3 x4 ((((hB.setCell hbm _).setCell hbm _).setCell hbm _).setCell hbm _))
      clear hK K
      try simp only [Act.put, List.setIfInBounds_toArray, List.set_cons_zero, List.set_cons_succ]
      refine wpAnyH_ready (rs := [5, 6, 11]) (by kernel_rfl) (by simp) ?_
      refine AllReadyH.cons (o := { dst := some 10, op := Go.Op.call { callee := Go.Callee.builtin Go.Builtin.append, args := #[Go.Operand.tmp 7, Go.Operand.tmp 9], argTypes := #[36, 36] }, type := 36, pos := "net.go:158", after := #[{ on := 2, ground := Go.Ground.data }, { on := 4, ground := Go.Ground.data }], guard := none }) rfl (fun K hK => ?_) ?_
      · refine step_lit_regs (by rfl) _ _ (by rfl) (by rfl) d.regs ra rn rc (by rfl) (hN.regs.below hB) (by omega) ?_
        intro rb rd wn hKR0 hb
        (first | have hKR := hKR0 _ (box_lt hcM hB) | have hKR := hKR0 _ (rng_lt hB))
        have hB := bstep hB hb
        (try have hcM := hcM.below hb hcM.lt)
        clear hKR0
        refine hK.out _ _ ?_ (fun hHeld => ?_)
        · (try dsimp only)
          (first | with_reducible exact heldr_of x0 x1 x3 x4 hB | with_reducible exact heldr_of x0 x1 x3 x4 ((((hB.setCell hbm _).setCell hbm _).setCell hbm _).setCell hbm _) | exact heldr_of x0 x1 x3 x4 ((((hB.setCell hbm _).setCell hbm _).setCell hbm _).setCell hbm _))
        clear hK K
        try simp only [Act.put, List.setIfInBounds_toArray, List.set_cons_zero, List.set_cons_succ]
        refine wpAnyH_ready (rs := [6, 11]) (by kernel_rfl) (by simp) ?_
        refine AllReadyH.cons (o := { dst := some 11, op := Go.Op.buildSlice 37 0 #[], type := 37, pos := "net.go:158", after := #[], guard := none }) rfl (fun K hK => ?_) ?_
        · go_simp
          refine alloc_on (K := K) _ _ (fun wn hb ho => ?_)
          have hB := bstep hB hb
          (try have hcM := hcM.below hb hcM.lt)
          (try have hKR := hKR.on hb)
          (try have hKO := hKO.on hb)
          clear ho
          refine hK.out _ _ ?_ (fun hHeld => ?_)
          · (try dsimp only)
            (first | with_reducible exact heldr_of x0 x1 x3 x4 hB | with_reducible exact heldr_of x0 x1 x3 x4 ((((hB.setCell hbm _).setCell hbm _).setCell hbm _).setCell hbm _) | exact heldr_of x0 x1 x3 x4 ((((hB.setCell hbm _).setCell hbm _).setCell hbm _).setCell hbm _))
          clear hK K
          try simp only [Act.put, List.setIfInBounds_toArray, List.set_cons_zero, List.set_cons_succ]
          refine wpAnyH_ready (rs := [9, 11]) (by kernel_rfl) (by simp) ?_
          refine AllReadyH.cons (o := { dst := some 14, op := Go.Op.call { callee := Go.Callee.builtin Go.Builtin.append, args := #[Go.Operand.tmp 11, Go.Operand.tmp 13], argTypes := #[37, 37] }, type := 37, pos := "net.go:158", after := #[{ on := 6, ground := Go.Ground.data }, { on := 8, ground := Go.Ground.data }, { on := 5, ground := Go.Ground.chain }], guard := none }) rfl (fun K hK => ?_) ?_
          · refine step_lit_ints (by rfl) _ _ (by rfl) (by rfl) d.outs oa on oc (by rfl) (hN.outs.below hB) (by omega) ?_
            intro ob od wn hKO0 hb
            (first | have hKO := hKO0 _ (box_lt hcM hB) | have hKO := hKO0 _ (rng_lt hB))
            have hKR := hKR.on hb
            have hB := bstep hB hb
            (try have hcM := hcM.below hb hcM.lt)
            clear hKO0
            refine hK.out _ _ ?_ (fun hHeld => ?_)
            · (try dsimp only)
              (first | with_reducible exact heldr_of x0 x1 x3 x4 hB | with_reducible exact heldr_of x0 x1 x3 x4 ((((hB.setCell hbm _).setCell hbm _).setCell hbm _).setCell hbm _) | exact heldr_of x0 x1 x3 x4 ((((hB.setCell hbm _).setCell hbm _).setCell hbm _).setCell hbm _))
            clear hK K
            try simp only [Act.put, List.setIfInBounds_toArray, List.set_cons_zero, List.set_cons_succ]
            refine wpAnyH_take (i := 10) (oi := { dst := some 15, op := Go.Op.build 39 #[(0, Go.Operand.tmp 6), (2, Go.Operand.tmp 10), (3, Go.Operand.tmp 14)], type := 39, pos := "net.go:158", after := #[{ on := 1, ground := Go.Ground.data }, { on := 5, ground := Go.Ground.data }, { on := 9, ground := Go.Ground.data }], guard := none }) (v := ?_) rfl (by kernel_rfl) (by kernel_rfl) (by kernel_rfl) (fun _ _ _ h => h) (Or.inl ⟨by rfl, ?_⟩) (by assumption) ?_
            rotate_left
            · intro w hSw; (try dsimp only at hSw); go_simp; (try (with_reducible rfl))
            try simp only [Act.put, List.setIfInBounds_toArray, List.set_cons_zero, List.set_cons_succ]
            refine wpAnyH_ready (rs := [11]) (by kernel_rfl) (by simp) ?_
            refine AllReadyH.cons (o := { dst := some 3, op := Go.Op.alloc 39, type := 0, pos := "net.go:158", after := #[], guard := none }) rfl (fun K hK => ?_) ?_
            · go_simp
              refine alloc_on (K := K) _ _ (fun wn hb ho => ?_)
              have hcM : Cells wn _ zeroN 39 := ho
              have hbm := hB.size
              (try have hKR := hKR.box hb)
              (try have hKO := hKO.box hb)
              have hB := bstep hB hb
              clear ho
              refine hK.out _ _ ?_ (fun hHeld => ?_)
              · (try dsimp only)
                (first | with_reducible exact heldr_of x0 x1 x3 x4 hB | with_reducible exact heldr_of x0 x1 x3 x4 ((((hB.setCell hbm _).setCell hbm _).setCell hbm _).setCell hbm _) | exact heldr_of x0 x1 x3 x4 ((((hB.setCell hbm _).setCell hbm _).setCell hbm _).setCell hbm _))
              clear hK K
              try simp only [Act.put, List.setIfInBounds_toArray, List.set_cons_zero, List.set_cons_succ]
              refine wpAnyH_ready (rs := [12]) (by kernel_rfl) (by simp) ?_
              refine AllReadyH.cons (o := { dst := none, op := Go.Op.store 39 (Go.Operand.tmp 3) (Go.Operand.tmp 15), type := 0, pos := "net.go:158", after := #[{ on := 11, ground := Go.Ground.data }, { on := 10, ground := Go.Ground.data }, { on := 9, ground := Go.Ground.chain }, { on := 0, ground := Go.Ground.phase }, { on := 1, ground := Go.Ground.phase }, { on := 2, ground := Go.Ground.phase }, { on := 3, ground := Go.Ground.phase }, { on := 4, ground := Go.Ground.phase }, { on := 5, ground := Go.Ground.phase }, { on := 6, ground := Go.Ground.phase }, { on := 7, ground := Go.Ground.phase }, { on := 8, ground := Go.Ground.phase }, { on := 9, ground := Go.Ground.phase }, { on := 10, ground := Go.Ground.phase }, { on := 11, ground := Go.Ground.phase }], guard := none }) rfl (fun K hK => ?_) ?_
              · have z0 := hcM.cell 0
                have z1 := hcM.cell 1
                have z2 := hcM.cell 2
                have z3 := hcM.cell 3
                have f0 := hcM.frozen 0
                have f1 := hcM.frozen 1
                have f2 := hcM.frozen 2
                have f3 := hcM.frozen 3
                have hlM := hcM.lt
                have hneM := Nat.ne_of_lt hlM
                go_simp
                refine hK.out _ _ ?_ (fun hHeld => ?_)
                · (try dsimp only)
                  (first | with_reducible exact heldr_of x0 x1 x3 x4 hB | with_reducible exact heldr_of x0 x1 x3 x4 ((((hB.setCell hbm _).setCell hbm _).setCell hbm _).setCell hbm _) | exact heldr_of x0 x1 x3 x4 ((((hB.setCell hbm _).setCell hbm _).setCell hbm _).setCell hbm _))
                clear hK K
                try simp only [Act.put, List.setIfInBounds_toArray, List.set_cons_zero, List.set_cons_succ]
                refine wpAnyH_done (by kernel_rfl) ?_ _
                go_wp2_with fail
                go_meet
                exact ⟨_, _, _, _, _, rfl, (((hcM.set 0 (.int .i64 ins0)).set 1 (.slice none 0 0)).set 2 (.slice rb rn rd)).set 3 (.slice ob on od), hKR.step (kept4 _ _ _ _) (fun _ hg => Or.inl hg), hKO.step (kept4 _ _ _ _) (fun _ hg => Or.inl hg), hbm, (((hB.setCell hbm _).setCell hbm _).setCell hbm _).setCell hbm _⟩
              exact AllReadyH.nil
            exact AllReadyH.nil
          refine AllReadyH.cons (o := { dst := some 3, op := Go.Op.alloc 39, type := 0, pos := "net.go:158", after := #[], guard := none }) rfl (fun K hK => ?_) ?_
          · go_simp
            refine alloc_on (K := K) _ _ (fun wn hb ho => ?_)
            have hcM : Cells wn _ zeroN 39 := ho
            have hbm := hB.size
            (try have hKR := hKR.box hb)
            (try have hKO := hKO.box hb)
            have hB := bstep hB hb
            clear ho
            refine hK.out _ _ ?_ (fun hHeld => ?_)
            · (try dsimp only)
              (first | with_reducible exact heldr_of x0 x1 x3 x4 hB | with_reducible exact heldr_of x0 x1 x3 x4 ((((hB.setCell hbm _).setCell hbm _).setCell hbm _).setCell hbm _) | exact heldr_of x0 x1 x3 x4 ((((hB.setCell hbm _).setCell hbm _).setCell hbm _).setCell hbm _))
            clear hK K
            try simp only [Act.put, List.setIfInBounds_toArray, List.set_cons_zero, List.set_cons_succ]
            refine wpAnyH_ready (rs := [9]) (by kernel_rfl) (by simp) ?_
            refine AllReadyH.cons (o := { dst := some 14, op := Go.Op.call { callee := Go.Callee.builtin Go.Builtin.append, args := #[Go.Operand.tmp 11, Go.Operand.tmp 13], argTypes := #[37, 37] }, type := 37, pos := "net.go:158", after := #[{ on := 6, ground := Go.Ground.data }, { on := 8, ground := Go.Ground.data }, { on := 5, ground := Go.Ground.chain }], guard := none }) rfl (fun K hK => ?_) ?_
            · refine step_lit_ints (by rfl) _ _ (by rfl) (by rfl) d.outs oa on oc (by rfl) (hN.outs.below hB) (by omega) ?_
              intro ob od wn hKO0 hb
              (first | have hKO := hKO0 _ (box_lt hcM hB) | have hKO := hKO0 _ (rng_lt hB))
              have hKR := hKR.on hb
              have hB := bstep hB hb
              (try have hcM := hcM.below hb hcM.lt)
              clear hKO0
              refine hK.out _ _ ?_ (fun hHeld => ?_)
              · (try dsimp only)
                (first | with_reducible exact heldr_of x0 x1 x3 x4 hB | with_reducible exact heldr_of x0 x1 x3 x4 ((((hB.setCell hbm _).setCell hbm _).setCell hbm _).setCell hbm _) | exact heldr_of x0 x1 x3 x4 ((((hB.setCell hbm _).setCell hbm _).setCell hbm _).setCell hbm _))
              clear hK K
              try simp only [Act.put, List.setIfInBounds_toArray, List.set_cons_zero, List.set_cons_succ]
              refine wpAnyH_take (i := 10) (oi := { dst := some 15, op := Go.Op.build 39 #[(0, Go.Operand.tmp 6), (2, Go.Operand.tmp 10), (3, Go.Operand.tmp 14)], type := 39, pos := "net.go:158", after := #[{ on := 1, ground := Go.Ground.data }, { on := 5, ground := Go.Ground.data }, { on := 9, ground := Go.Ground.data }], guard := none }) (v := ?_) rfl (by kernel_rfl) (by kernel_rfl) (by kernel_rfl) (fun _ _ _ h => h) (Or.inl ⟨by rfl, ?_⟩) (by assumption) ?_
              rotate_left
              · intro w hSw; (try dsimp only at hSw); go_simp; (try (with_reducible rfl))
              try simp only [Act.put, List.setIfInBounds_toArray, List.set_cons_zero, List.set_cons_succ]
              refine wpAnyH_ready (rs := [12]) (by kernel_rfl) (by simp) ?_
              refine AllReadyH.cons (o := { dst := none, op := Go.Op.store 39 (Go.Operand.tmp 3) (Go.Operand.tmp 15), type := 0, pos := "net.go:158", after := #[{ on := 11, ground := Go.Ground.data }, { on := 10, ground := Go.Ground.data }, { on := 9, ground := Go.Ground.chain }, { on := 0, ground := Go.Ground.phase }, { on := 1, ground := Go.Ground.phase }, { on := 2, ground := Go.Ground.phase }, { on := 3, ground := Go.Ground.phase }, { on := 4, ground := Go.Ground.phase }, { on := 5, ground := Go.Ground.phase }, { on := 6, ground := Go.Ground.phase }, { on := 7, ground := Go.Ground.phase }, { on := 8, ground := Go.Ground.phase }, { on := 9, ground := Go.Ground.phase }, { on := 10, ground := Go.Ground.phase }, { on := 11, ground := Go.Ground.phase }], guard := none }) rfl (fun K hK => ?_) ?_
              · have z0 := hcM.cell 0
                have z1 := hcM.cell 1
                have z2 := hcM.cell 2
                have z3 := hcM.cell 3
                have f0 := hcM.frozen 0
                have f1 := hcM.frozen 1
                have f2 := hcM.frozen 2
                have f3 := hcM.frozen 3
                have hlM := hcM.lt
                have hneM := Nat.ne_of_lt hlM
                go_simp
                refine hK.out _ _ ?_ (fun hHeld => ?_)
                · (try dsimp only)
                  (first | with_reducible exact heldr_of x0 x1 x3 x4 hB | with_reducible exact heldr_of x0 x1 x3 x4 ((((hB.setCell hbm _).setCell hbm _).setCell hbm _).setCell hbm _) | exact heldr_of x0 x1 x3 x4 ((((hB.setCell hbm _).setCell hbm _).setCell hbm _).setCell hbm _))
                clear hK K
                try simp only [Act.put, List.setIfInBounds_toArray, List.set_cons_zero, List.set_cons_succ]
                refine wpAnyH_done (by kernel_rfl) ?_ _
                go_wp2_with fail
                go_meet
                exact ⟨_, _, _, _, _, rfl, (((hcM.set 0 (.int .i64 ins0)).set 1 (.slice none 0 0)).set 2 (.slice rb rn rd)).set 3 (.slice ob on od), hKR.step (kept4 _ _ _ _) (fun _ hg => Or.inl hg), hKO.step (kept4 _ _ _ _) (fun _ hg => Or.inl hg), hbm, (((hB.setCell hbm _).setCell hbm _).setCell hbm _).setCell hbm _⟩
              exact AllReadyH.nil
            exact AllReadyH.nil
          exact AllReadyH.nil
        refine AllReadyH.cons (o := { dst := some 3, op := Go.Op.alloc 39, type := 0, pos := "net.go:158", after := #[], guard := none }) rfl (fun K hK => ?_) ?_
        · go_simp
          refine alloc_on (K := K) _ _ (fun wn hb ho => ?_)
          have hcM : Cells wn _ zeroN 39 := ho
          have hbm := hB.size
          (try have hKR := hKR.box hb)
          (try have hKO := hKO.box hb)
          have hB := bstep hB hb
          clear ho
          refine hK.out _ _ ?_ (fun hHeld => ?_)
          · (try dsimp only)
            (first | with_reducible exact heldr_of x0 x1 x3 x4 hB | with_reducible exact heldr_of x0 x1 x3 x4 ((((hB.setCell hbm _).setCell hbm _).setCell hbm _).setCell hbm _) | exact heldr_of x0 x1 x3 x4 ((((hB.setCell hbm _).setCell hbm _).setCell hbm _).setCell hbm _))
          clear hK K
          try simp only [Act.put, List.setIfInBounds_toArray, List.set_cons_zero, List.set_cons_succ]
          refine wpAnyH_ready (rs := [6]) (by kernel_rfl) (by simp) ?_
          refine AllReadyH.cons (o := { dst := some 11, op := Go.Op.buildSlice 37 0 #[], type := 37, pos := "net.go:158", after := #[], guard := none }) rfl (fun K hK => ?_) ?_
          · go_simp
            refine alloc_on (K := K) _ _ (fun wn hb ho => ?_)
            have hB := bstep hB hb
            (try have hcM := hcM.below hb hcM.lt)
            (try have hKR := hKR.on hb)
            (try have hKO := hKO.on hb)
            clear ho
            refine hK.out _ _ ?_ (fun hHeld => ?_)
            · (try dsimp only)
              (first | with_reducible exact heldr_of x0 x1 x3 x4 hB | with_reducible exact heldr_of x0 x1 x3 x4 ((((hB.setCell hbm _).setCell hbm _).setCell hbm _).setCell hbm _) | exact heldr_of x0 x1 x3 x4 ((((hB.setCell hbm _).setCell hbm _).setCell hbm _).setCell hbm _))
            clear hK K
            try simp only [Act.put, List.setIfInBounds_toArray, List.set_cons_zero, List.set_cons_succ]
            refine wpAnyH_ready (rs := [9]) (by kernel_rfl) (by simp) ?_
            refine AllReadyH.cons (o := { dst := some 14, op := Go.Op.call { callee := Go.Callee.builtin Go.Builtin.append, args := #[Go.Operand.tmp 11, Go.Operand.tmp 13], argTypes := #[37, 37] }, type := 37, pos := "net.go:158", after := #[{ on := 6, ground := Go.Ground.data }, { on := 8, ground := Go.Ground.data }, { on := 5, ground := Go.Ground.chain }], guard := none }) rfl (fun K hK => ?_) ?_
            · refine step_lit_ints (by rfl) _ _ (by rfl) (by rfl) d.outs oa on oc (by rfl) (hN.outs.below hB) (by omega) ?_
              intro ob od wn hKO0 hb
              (first | have hKO := hKO0 _ (box_lt hcM hB) | have hKO := hKO0 _ (rng_lt hB))
              have hKR := hKR.on hb
              have hB := bstep hB hb
              (try have hcM := hcM.below hb hcM.lt)
              clear hKO0
              refine hK.out _ _ ?_ (fun hHeld => ?_)
              · (try dsimp only)
                (first | with_reducible exact heldr_of x0 x1 x3 x4 hB | with_reducible exact heldr_of x0 x1 x3 x4 ((((hB.setCell hbm _).setCell hbm _).setCell hbm _).setCell hbm _) | exact heldr_of x0 x1 x3 x4 ((((hB.setCell hbm _).setCell hbm _).setCell hbm _).setCell hbm _))
              clear hK K
              try simp only [Act.put, List.setIfInBounds_toArray, List.set_cons_zero, List.set_cons_succ]
              refine wpAnyH_take (i := 10) (oi := { dst := some 15, op := Go.Op.build 39 #[(0, Go.Operand.tmp 6), (2, Go.Operand.tmp 10), (3, Go.Operand.tmp 14)], type := 39, pos := "net.go:158", after := #[{ on := 1, ground := Go.Ground.data }, { on := 5, ground := Go.Ground.data }, { on := 9, ground := Go.Ground.data }], guard := none }) (v := ?_) rfl (by kernel_rfl) (by kernel_rfl) (by kernel_rfl) (fun _ _ _ h => h) (Or.inl ⟨by rfl, ?_⟩) (by assumption) ?_
              rotate_left
              · intro w hSw; (try dsimp only at hSw); go_simp; (try (with_reducible rfl))
              try simp only [Act.put, List.setIfInBounds_toArray, List.set_cons_zero, List.set_cons_succ]
              refine wpAnyH_ready (rs := [12]) (by kernel_rfl) (by simp) ?_
              refine AllReadyH.cons (o := { dst := none, op := Go.Op.store 39 (Go.Operand.tmp 3) (Go.Operand.tmp 15), type := 0, pos := "net.go:158", after := #[{ on := 11, ground := Go.Ground.data }, { on := 10, ground := Go.Ground.data }, { on := 9, ground := Go.Ground.chain }, { on := 0, ground := Go.Ground.phase }, { on := 1, ground := Go.Ground.phase }, { on := 2, ground := Go.Ground.phase }, { on := 3, ground := Go.Ground.phase }, { on := 4, ground := Go.Ground.phase }, { on := 5, ground := Go.Ground.phase }, { on := 6, ground := Go.Ground.phase }, { on := 7, ground := Go.Ground.phase }, { on := 8, ground := Go.Ground.phase }, { on := 9, ground := Go.Ground.phase }, { on := 10, ground := Go.Ground.phase }, { on := 11, ground := Go.Ground.phase }], guard := none }) rfl (fun K hK => ?_) ?_
              · have z0 := hcM.cell 0
                have z1 := hcM.cell 1
                have z2 := hcM.cell 2
                have z3 := hcM.cell 3
                have f0 := hcM.frozen 0
                have f1 := hcM.frozen 1
                have f2 := hcM.frozen 2
                have f3 := hcM.frozen 3
                have hlM := hcM.lt
                have hneM := Nat.ne_of_lt hlM
                go_simp
                refine hK.out _ _ ?_ (fun hHeld => ?_)
                · (try dsimp only)
                  (first | with_reducible exact heldr_of x0 x1 x3 x4 hB | with_reducible exact heldr_of x0 x1 x3 x4 ((((hB.setCell hbm _).setCell hbm _).setCell hbm _).setCell hbm _) | exact heldr_of x0 x1 x3 x4 ((((hB.setCell hbm _).setCell hbm _).setCell hbm _).setCell hbm _))
                clear hK K
                try simp only [Act.put, List.setIfInBounds_toArray, List.set_cons_zero, List.set_cons_succ]
                refine wpAnyH_done (by kernel_rfl) ?_ _
                go_wp2_with fail
                go_meet
                exact ⟨_, _, _, _, _, rfl, (((hcM.set 0 (.int .i64 ins0)).set 1 (.slice none 0 0)).set 2 (.slice rb rn rd)).set 3 (.slice ob on od), hKR.step (kept4 _ _ _ _) (fun _ hg => Or.inl hg), hKO.step (kept4 _ _ _ _) (fun _ hg => Or.inl hg), hbm, (((hB.setCell hbm _).setCell hbm _).setCell hbm _).setCell hbm _⟩
              exact AllReadyH.nil
            exact AllReadyH.nil
          exact AllReadyH.nil
        exact AllReadyH.nil
      refine AllReadyH.cons (o := { dst := some 11, op := Go.Op.buildSlice 37 0 #[], type := 37, pos := "net.go:158", after := #[], guard := none }) rfl (fun K hK => ?_) ?_
      · go_simp
        refine alloc_on (K := K) _ _ (fun wn hb ho => ?_)
        have hB := bstep hB hb
        (try have hcM := hcM.below hb hcM.lt)
        (try have hKR := hKR.on hb)
        (try have hKO := hKO.on hb)
        clear ho
        refine hK.out _ _ ?_ (fun hHeld => ?_)
        · (try dsimp only)
          (first | with_reducible exact heldr_of x0 x1 x3 x4 hB | with_reducible exact heldr_of x0 x1 x3 x4 ((((hB.setCell hbm _).setCell hbm _).setCell hbm _).setCell hbm _) | exact heldr_of x0 x1 x3 x4 ((((hB.setCell hbm _).setCell hbm _).setCell hbm _).setCell hbm _))
        clear hK K
        try simp only [Act.put, List.setIfInBounds_toArray, List.set_cons_zero, List.set_cons_succ]
        refine wpAnyH_ready (rs := [5, 11]) (by kernel_rfl) (by simp) ?_
        refine AllReadyH.cons (o := { dst := some 10, op := Go.Op.call { callee := Go.Callee.builtin Go.Builtin.append, args := #[Go.Operand.tmp 7, Go.Operand.tmp 9], argTypes := #[36, 36] }, type := 36, pos := "net.go:158", after := #[{ on := 2, ground := Go.Ground.data }, { on := 4, ground := Go.Ground.data }], guard := none }) rfl (fun K hK => ?_) ?_
        · refine step_lit_regs (by rfl) _ _ (by rfl) (by rfl) d.regs ra rn rc (by rfl) (hN.regs.below hB) (by omega) ?_
          intro rb rd wn hKR0 hb
          (first | have hKR := hKR0 _ (box_lt hcM hB) | have hKR := hKR0 _ (rng_lt hB))
          have hB := bstep hB hb
          (try have hcM := hcM.below hb hcM.lt)
          clear hKR0
          refine hK.out _ _ ?_ (fun hHeld => ?_)
          · (try dsimp only)
            (first | with_reducible exact heldr_of x0 x1 x3 x4 hB | with_reducible exact heldr_of x0 x1 x3 x4 ((((hB.setCell hbm _).setCell hbm _).setCell hbm _).setCell hbm _) | exact heldr_of x0 x1 x3 x4 ((((hB.setCell hbm _).setCell hbm _).setCell hbm _).setCell hbm _))
          clear hK K
          try simp only [Act.put, List.setIfInBounds_toArray, List.set_cons_zero, List.set_cons_succ]
          refine wpAnyH_ready (rs := [9, 11]) (by kernel_rfl) (by simp) ?_
          refine AllReadyH.cons (o := { dst := some 14, op := Go.Op.call { callee := Go.Callee.builtin Go.Builtin.append, args := #[Go.Operand.tmp 11, Go.Operand.tmp 13], argTypes := #[37, 37] }, type := 37, pos := "net.go:158", after := #[{ on := 6, ground := Go.Ground.data }, { on := 8, ground := Go.Ground.data }, { on := 5, ground := Go.Ground.chain }], guard := none }) rfl (fun K hK => ?_) ?_
          · refine step_lit_ints (by rfl) _ _ (by rfl) (by rfl) d.outs oa on oc (by rfl) (hN.outs.below hB) (by omega) ?_
            intro ob od wn hKO0 hb
            (first | have hKO := hKO0 _ (box_lt hcM hB) | have hKO := hKO0 _ (rng_lt hB))
            have hKR := hKR.on hb
            have hB := bstep hB hb
            (try have hcM := hcM.below hb hcM.lt)
            clear hKO0
            refine hK.out _ _ ?_ (fun hHeld => ?_)
            · (try dsimp only)
              (first | with_reducible exact heldr_of x0 x1 x3 x4 hB | with_reducible exact heldr_of x0 x1 x3 x4 ((((hB.setCell hbm _).setCell hbm _).setCell hbm _).setCell hbm _) | exact heldr_of x0 x1 x3 x4 ((((hB.setCell hbm _).setCell hbm _).setCell hbm _).setCell hbm _))
            clear hK K
            try simp only [Act.put, List.setIfInBounds_toArray, List.set_cons_zero, List.set_cons_succ]
            refine wpAnyH_take (i := 10) (oi := { dst := some 15, op := Go.Op.build 39 #[(0, Go.Operand.tmp 6), (2, Go.Operand.tmp 10), (3, Go.Operand.tmp 14)], type := 39, pos := "net.go:158", after := #[{ on := 1, ground := Go.Ground.data }, { on := 5, ground := Go.Ground.data }, { on := 9, ground := Go.Ground.data }], guard := none }) (v := ?_) rfl (by kernel_rfl) (by kernel_rfl) (by kernel_rfl) (fun _ _ _ h => h) (Or.inl ⟨by rfl, ?_⟩) (by assumption) ?_
            rotate_left
            · intro w hSw; (try dsimp only at hSw); go_simp; (try (with_reducible rfl))
            try simp only [Act.put, List.setIfInBounds_toArray, List.set_cons_zero, List.set_cons_succ]
            refine wpAnyH_ready (rs := [11]) (by kernel_rfl) (by simp) ?_
            refine AllReadyH.cons (o := { dst := some 3, op := Go.Op.alloc 39, type := 0, pos := "net.go:158", after := #[], guard := none }) rfl (fun K hK => ?_) ?_
            · go_simp
              refine alloc_on (K := K) _ _ (fun wn hb ho => ?_)
              have hcM : Cells wn _ zeroN 39 := ho
              have hbm := hB.size
              (try have hKR := hKR.box hb)
              (try have hKO := hKO.box hb)
              have hB := bstep hB hb
              clear ho
              refine hK.out _ _ ?_ (fun hHeld => ?_)
              · (try dsimp only)
                (first | with_reducible exact heldr_of x0 x1 x3 x4 hB | with_reducible exact heldr_of x0 x1 x3 x4 ((((hB.setCell hbm _).setCell hbm _).setCell hbm _).setCell hbm _) | exact heldr_of x0 x1 x3 x4 ((((hB.setCell hbm _).setCell hbm _).setCell hbm _).setCell hbm _))
              clear hK K
              try simp only [Act.put, List.setIfInBounds_toArray, List.set_cons_zero, List.set_cons_succ]
              refine wpAnyH_ready (rs := [12]) (by kernel_rfl) (by simp) ?_
              refine AllReadyH.cons (o := { dst := none, op := Go.Op.store 39 (Go.Operand.tmp 3) (Go.Operand.tmp 15), type := 0, pos := "net.go:158", after := #[{ on := 11, ground := Go.Ground.data }, { on := 10, ground := Go.Ground.data }, { on := 9, ground := Go.Ground.chain }, { on := 0, ground := Go.Ground.phase }, { on := 1, ground := Go.Ground.phase }, { on := 2, ground := Go.Ground.phase }, { on := 3, ground := Go.Ground.phase }, { on := 4, ground := Go.Ground.phase }, { on := 5, ground := Go.Ground.phase }, { on := 6, ground := Go.Ground.phase }, { on := 7, ground := Go.Ground.phase }, { on := 8, ground := Go.Ground.phase }, { on := 9, ground := Go.Ground.phase }, { on := 10, ground := Go.Ground.phase }, { on := 11, ground := Go.Ground.phase }], guard := none }) rfl (fun K hK => ?_) ?_
              · have z0 := hcM.cell 0
                have z1 := hcM.cell 1
                have z2 := hcM.cell 2
                have z3 := hcM.cell 3
                have f0 := hcM.frozen 0
                have f1 := hcM.frozen 1
                have f2 := hcM.frozen 2
                have f3 := hcM.frozen 3
                have hlM := hcM.lt
                have hneM := Nat.ne_of_lt hlM
                go_simp
                refine hK.out _ _ ?_ (fun hHeld => ?_)
                · (try dsimp only)
                  (first | with_reducible exact heldr_of x0 x1 x3 x4 hB | with_reducible exact heldr_of x0 x1 x3 x4 ((((hB.setCell hbm _).setCell hbm _).setCell hbm _).setCell hbm _) | exact heldr_of x0 x1 x3 x4 ((((hB.setCell hbm _).setCell hbm _).setCell hbm _).setCell hbm _))
                clear hK K
                try simp only [Act.put, List.setIfInBounds_toArray, List.set_cons_zero, List.set_cons_succ]
                refine wpAnyH_done (by kernel_rfl) ?_ _
                go_wp2_with fail
                go_meet
                exact ⟨_, _, _, _, _, rfl, (((hcM.set 0 (.int .i64 ins0)).set 1 (.slice none 0 0)).set 2 (.slice rb rn rd)).set 3 (.slice ob on od), hKR.step (kept4 _ _ _ _) (fun _ hg => Or.inl hg), hKO.step (kept4 _ _ _ _) (fun _ hg => Or.inl hg), hbm, (((hB.setCell hbm _).setCell hbm _).setCell hbm _).setCell hbm _⟩
              exact AllReadyH.nil
            exact AllReadyH.nil
          refine AllReadyH.cons (o := { dst := some 3, op := Go.Op.alloc 39, type := 0, pos := "net.go:158", after := #[], guard := none }) rfl (fun K hK => ?_) ?_
          · go_simp
            refine alloc_on (K := K) _ _ (fun wn hb ho => ?_)
            have hcM : Cells wn _ zeroN 39 := ho
            have hbm := hB.size
            (try have hKR := hKR.box hb)
            (try have hKO := hKO.box hb)
            have hB := bstep hB hb
            clear ho
            refine hK.out _ _ ?_ (fun hHeld => ?_)
            · (try dsimp only)
              (first | with_reducible exact heldr_of x0 x1 x3 x4 hB | with_reducible exact heldr_of x0 x1 x3 x4 ((((hB.setCell hbm _).setCell hbm _).setCell hbm _).setCell hbm _) | exact heldr_of x0 x1 x3 x4 ((((hB.setCell hbm _).setCell hbm _).setCell hbm _).setCell hbm _))
            clear hK K
            try simp only [Act.put, List.setIfInBounds_toArray, List.set_cons_zero, List.set_cons_succ]
            refine wpAnyH_ready (rs := [9]) (by kernel_rfl) (by simp) ?_
            refine AllReadyH.cons (o := { dst := some 14, op := Go.Op.call { callee := Go.Callee.builtin Go.Builtin.append, args := #[Go.Operand.tmp 11, Go.Operand.tmp 13], argTypes := #[37, 37] }, type := 37, pos := "net.go:158", after := #[{ on := 6, ground := Go.Ground.data }, { on := 8, ground := Go.Ground.data }, { on := 5, ground := Go.Ground.chain }], guard := none }) rfl (fun K hK => ?_) ?_
            · refine step_lit_ints (by rfl) _ _ (by rfl) (by rfl) d.outs oa on oc (by rfl) (hN.outs.below hB) (by omega) ?_
              intro ob od wn hKO0 hb
              (first | have hKO := hKO0 _ (box_lt hcM hB) | have hKO := hKO0 _ (rng_lt hB))
              have hKR := hKR.on hb
              have hB := bstep hB hb
              (try have hcM := hcM.below hb hcM.lt)
              clear hKO0
              refine hK.out _ _ ?_ (fun hHeld => ?_)
              · (try dsimp only)
                (first | with_reducible exact heldr_of x0 x1 x3 x4 hB | with_reducible exact heldr_of x0 x1 x3 x4 ((((hB.setCell hbm _).setCell hbm _).setCell hbm _).setCell hbm _) | exact heldr_of x0 x1 x3 x4 ((((hB.setCell hbm _).setCell hbm _).setCell hbm _).setCell hbm _))
              clear hK K
              try simp only [Act.put, List.setIfInBounds_toArray, List.set_cons_zero, List.set_cons_succ]
              refine wpAnyH_take (i := 10) (oi := { dst := some 15, op := Go.Op.build 39 #[(0, Go.Operand.tmp 6), (2, Go.Operand.tmp 10), (3, Go.Operand.tmp 14)], type := 39, pos := "net.go:158", after := #[{ on := 1, ground := Go.Ground.data }, { on := 5, ground := Go.Ground.data }, { on := 9, ground := Go.Ground.data }], guard := none }) (v := ?_) rfl (by kernel_rfl) (by kernel_rfl) (by kernel_rfl) (fun _ _ _ h => h) (Or.inl ⟨by rfl, ?_⟩) (by assumption) ?_
              rotate_left
              · intro w hSw; (try dsimp only at hSw); go_simp; (try (with_reducible rfl))
              try simp only [Act.put, List.setIfInBounds_toArray, List.set_cons_zero, List.set_cons_succ]
              refine wpAnyH_ready (rs := [12]) (by kernel_rfl) (by simp) ?_
              refine AllReadyH.cons (o := { dst := none, op := Go.Op.store 39 (Go.Operand.tmp 3) (Go.Operand.tmp 15), type := 0, pos := "net.go:158", after := #[{ on := 11, ground := Go.Ground.data }, { on := 10, ground := Go.Ground.data }, { on := 9, ground := Go.Ground.chain }, { on := 0, ground := Go.Ground.phase }, { on := 1, ground := Go.Ground.phase }, { on := 2, ground := Go.Ground.phase }, { on := 3, ground := Go.Ground.phase }, { on := 4, ground := Go.Ground.phase }, { on := 5, ground := Go.Ground.phase }, { on := 6, ground := Go.Ground.phase }, { on := 7, ground := Go.Ground.phase }, { on := 8, ground := Go.Ground.phase }, { on := 9, ground := Go.Ground.phase }, { on := 10, ground := Go.Ground.phase }, { on := 11, ground := Go.Ground.phase }], guard := none }) rfl (fun K hK => ?_) ?_
              · have z0 := hcM.cell 0
                have z1 := hcM.cell 1
                have z2 := hcM.cell 2
                have z3 := hcM.cell 3
                have f0 := hcM.frozen 0
                have f1 := hcM.frozen 1
                have f2 := hcM.frozen 2
                have f3 := hcM.frozen 3
                have hlM := hcM.lt
                have hneM := Nat.ne_of_lt hlM
                go_simp
                refine hK.out _ _ ?_ (fun hHeld => ?_)
                · (try dsimp only)
                  (first | with_reducible exact heldr_of x0 x1 x3 x4 hB | with_reducible exact heldr_of x0 x1 x3 x4 ((((hB.setCell hbm _).setCell hbm _).setCell hbm _).setCell hbm _) | exact heldr_of x0 x1 x3 x4 ((((hB.setCell hbm _).setCell hbm _).setCell hbm _).setCell hbm _))
                clear hK K
                try simp only [Act.put, List.setIfInBounds_toArray, List.set_cons_zero, List.set_cons_succ]
                refine wpAnyH_done (by kernel_rfl) ?_ _
                go_wp2_with fail
                go_meet
                exact ⟨_, _, _, _, _, rfl, (((hcM.set 0 (.int .i64 ins0)).set 1 (.slice none 0 0)).set 2 (.slice rb rn rd)).set 3 (.slice ob on od), hKR.step (kept4 _ _ _ _) (fun _ hg => Or.inl hg), hKO.step (kept4 _ _ _ _) (fun _ hg => Or.inl hg), hbm, (((hB.setCell hbm _).setCell hbm _).setCell hbm _).setCell hbm _⟩
              exact AllReadyH.nil
            exact AllReadyH.nil
          exact AllReadyH.nil
        refine AllReadyH.cons (o := { dst := some 3, op := Go.Op.alloc 39, type := 0, pos := "net.go:158", after := #[], guard := none }) rfl (fun K hK => ?_) ?_
        · go_simp
          refine alloc_on (K := K) _ _ (fun wn hb ho => ?_)
          have hcM : Cells wn _ zeroN 39 := ho
          have hbm := hB.size
          (try have hKR := hKR.box hb)
          (try have hKO := hKO.box hb)
          have hB := bstep hB hb
          clear ho
          refine hK.out _ _ ?_ (fun hHeld => ?_)
          · (try dsimp only)
            (first | with_reducible exact heldr_of x0 x1 x3 x4 hB | with_reducible exact heldr_of x0 x1 x3 x4 ((((hB.setCell hbm _).setCell hbm _).setCell hbm _).setCell hbm _) | exact heldr_of x0 x1 x3 x4 ((((hB.setCell hbm _).setCell hbm _).setCell hbm _).setCell hbm _))
          clear hK K
          try simp only [Act.put, List.setIfInBounds_toArray, List.set_cons_zero, List.set_cons_succ]
          refine wpAnyH_ready (rs := [5]) (by kernel_rfl) (by simp) ?_
          refine AllReadyH.cons (o := { dst := some 10, op := Go.Op.call { callee := Go.Callee.builtin Go.Builtin.append, args := #[Go.Operand.tmp 7, Go.Operand.tmp 9], argTypes := #[36, 36] }, type := 36, pos := "net.go:158", after := #[{ on := 2, ground := Go.Ground.data }, { on := 4, ground := Go.Ground.data }], guard := none }) rfl (fun K hK => ?_) ?_
          · refine step_lit_regs (by rfl) _ _ (by rfl) (by rfl) d.regs ra rn rc (by rfl) (hN.regs.below hB) (by omega) ?_
            intro rb rd wn hKR0 hb
            (first | have hKR := hKR0 _ (box_lt hcM hB) | have hKR := hKR0 _ (rng_lt hB))
            have hB := bstep hB hb
            (try have hcM := hcM.below hb hcM.lt)
            clear hKR0
            refine hK.out _ _ ?_ (fun hHeld => ?_)
            · (try dsimp only)
              (first | with_reducible exact heldr_of x0 x1 x3 x4 hB | with_reducible exact heldr_of x0 x1 x3 x4 ((((hB.setCell hbm _).setCell hbm _).setCell hbm _).setCell hbm _) | exact heldr_of x0 x1 x3 x4 ((((hB.setCell hbm _).setCell hbm _).setCell hbm _).setCell hbm _))
            clear hK K
            try simp only [Act.put, List.setIfInBounds_toArray, List.set_cons_zero, List.set_cons_succ]
            refine wpAnyH_ready (rs := [9]) (by kernel_rfl) (by simp) ?_
            refine AllReadyH.cons (o := { dst := some 14, op := Go.Op.call { callee := Go.Callee.builtin Go.Builtin.append, args := #[Go.Operand.tmp 11, Go.Operand.tmp 13], argTypes := #[37, 37] }, type := 37, pos := "net.go:158", after := #[{ on := 6, ground := Go.Ground.data }, { on := 8, ground := Go.Ground.data }, { on := 5, ground := Go.Ground.chain }], guard := none }) rfl (fun K hK => ?_) ?_
            · refine step_lit_ints (by rfl) _ _ (by rfl) (by rfl) d.outs oa on oc (by rfl) (hN.outs.below hB) (by omega) ?_
              intro ob od wn hKO0 hb
              (first | have hKO := hKO0 _ (box_lt hcM hB) | have hKO := hKO0 _ (rng_lt hB))
              have hKR := hKR.on hb
              have hB := bstep hB hb
              (try have hcM := hcM.below hb hcM.lt)
              clear hKO0
              refine hK.out _ _ ?_ (fun hHeld => ?_)
              · (try dsimp only)
                (first | with_reducible exact heldr_of x0 x1 x3 x4 hB | with_reducible exact heldr_of x0 x1 x3 x4 ((((hB.setCell hbm _).setCell hbm _).setCell hbm _).setCell hbm _) | exact heldr_of x0 x1 x3 x4 ((((hB.setCell hbm _).setCell hbm _).setCell hbm _).setCell hbm _))
              clear hK K
              try simp only [Act.put, List.setIfInBounds_toArray, List.set_cons_zero, List.set_cons_succ]
              refine wpAnyH_take (i := 10) (oi := { dst := some 15, op := Go.Op.build 39 #[(0, Go.Operand.tmp 6), (2, Go.Operand.tmp 10), (3, Go.Operand.tmp 14)], type := 39, pos := "net.go:158", after := #[{ on := 1, ground := Go.Ground.data }, { on := 5, ground := Go.Ground.data }, { on := 9, ground := Go.Ground.data }], guard := none }) (v := ?_) rfl (by kernel_rfl) (by kernel_rfl) (by kernel_rfl) (fun _ _ _ h => h) (Or.inl ⟨by rfl, ?_⟩) (by assumption) ?_
              rotate_left
              · intro w hSw; (try dsimp only at hSw); go_simp; (try (with_reducible rfl))
              try simp only [Act.put, List.setIfInBounds_toArray, List.set_cons_zero, List.set_cons_succ]
              refine wpAnyH_ready (rs := [12]) (by kernel_rfl) (by simp) ?_
              refine AllReadyH.cons (o := { dst := none, op := Go.Op.store 39 (Go.Operand.tmp 3) (Go.Operand.tmp 15), type := 0, pos := "net.go:158", after := #[{ on := 11, ground := Go.Ground.data }, { on := 10, ground := Go.Ground.data }, { on := 9, ground := Go.Ground.chain }, { on := 0, ground := Go.Ground.phase }, { on := 1, ground := Go.Ground.phase }, { on := 2, ground := Go.Ground.phase }, { on := 3, ground := Go.Ground.phase }, { on := 4, ground := Go.Ground.phase }, { on := 5, ground := Go.Ground.phase }, { on := 6, ground := Go.Ground.phase }, { on := 7, ground := Go.Ground.phase }, { on := 8, ground := Go.Ground.phase }, { on := 9, ground := Go.Ground.phase }, { on := 10, ground := Go.Ground.phase }, { on := 11, ground := Go.Ground.phase }], guard := none }) rfl (fun K hK => ?_) ?_
              · have z0 := hcM.cell 0
                have z1 := hcM.cell 1
                have z2 := hcM.cell 2
                have z3 := hcM.cell 3
                have f0 := hcM.frozen 0
                have f1 := hcM.frozen 1
                have f2 := hcM.frozen 2
                have f3 := hcM.frozen 3
                have hlM := hcM.lt
                have hneM := Nat.ne_of_lt hlM
                go_simp
                refine hK.out _ _ ?_ (fun hHeld => ?_)
                · (try dsimp only)
                  (first | with_reducible exact heldr_of x0 x1 x3 x4 hB | with_reducible exact heldr_of x0 x1 x3 x4 ((((hB.setCell hbm _).setCell hbm _).setCell hbm _).setCell hbm _) | exact heldr_of x0 x1 x3 x4 ((((hB.setCell hbm _).setCell hbm _).setCell hbm _).setCell hbm _))
                clear hK K
                try simp only [Act.put, List.setIfInBounds_toArray, List.set_cons_zero, List.set_cons_succ]
                refine wpAnyH_done (by kernel_rfl) ?_ _
                go_wp2_with fail
                go_meet
                exact ⟨_, _, _, _, _, rfl, (((hcM.set 0 (.int .i64 ins0)).set 1 (.slice none 0 0)).set 2 (.slice rb rn rd)).set 3 (.slice ob on od), hKR.step (kept4 _ _ _ _) (fun _ hg => Or.inl hg), hKO.step (kept4 _ _ _ _) (fun _ hg => Or.inl hg), hbm, (((hB.setCell hbm _).setCell hbm _).setCell hbm _).setCell hbm _⟩
              exact AllReadyH.nil
            exact AllReadyH.nil
          exact AllReadyH.nil
        exact AllReadyH.nil
      refine AllReadyH.cons (o := { dst := some 3, op := Go.Op.alloc 39, type := 0, pos := "net.go:158", after := #[], guard := none }) rfl (fun K hK => ?_) ?_
      · go_simp
        refine alloc_on (K := K) _ _ (fun wn hb ho => ?_)
        have hcM : Cells wn _ zeroN 39 := ho
        have hbm := hB.size
        (try have hKR := hKR.box hb)
        (try have hKO := hKO.box hb)
        have hB := bstep hB hb
        clear ho
        refine hK.out _ _ ?_ (fun hHeld => ?_)
        · (try dsimp only)
          (first | with_reducible exact heldr_of x0 x1 x3 x4 hB | with_reducible exact heldr_of x0 x1 x3 x4 ((((hB.setCell hbm _).setCell hbm _).setCell hbm _).setCell hbm _) | exact heldr_of x0 x1 x3 x4 ((((hB.setCell hbm _).setCell hbm _).setCell hbm _).setCell hbm _))
        clear hK K
        try simp only [Act.put, List.setIfInBounds_toArray, List.set_cons_zero, List.set_cons_succ]
        refine wpAnyH_ready (rs := [5, 6]) (by kernel_rfl) (by simp) ?_
        refine AllReadyH.cons (o := { dst := some 10, op := Go.Op.call { callee := Go.Callee.builtin Go.Builtin.append, args := #[Go.Operand.tmp 7, Go.Operand.tmp 9], argTypes := #[36, 36] }, type := 36, pos := "net.go:158", after := #[{ on := 2, ground := Go.Ground.data }, { on := 4, ground := Go.Ground.data }], guard := none }) rfl (fun K hK => ?_) ?_
        · refine step_lit_regs (by rfl) _ _ (by rfl) (by rfl) d.regs ra rn rc (by rfl) (hN.regs.below hB) (by omega) ?_
          intro rb rd wn hKR0 hb
          (first | have hKR := hKR0 _ (box_lt hcM hB) | have hKR := hKR0 _ (rng_lt hB))
          have hB := bstep hB hb
          (try have hcM := hcM.below hb hcM.lt)
          clear hKR0
          refine hK.out _ _ ?_ (fun hHeld => ?_)
          · (try dsimp only)
            (first | with_reducible exact heldr_of x0 x1 x3 x4 hB | with_reducible exact heldr_of x0 x1 x3 x4 ((((hB.setCell hbm _).setCell hbm _).setCell hbm _).setCell hbm _) | exact heldr_of x0 x1 x3 x4 ((((hB.setCell hbm _).setCell hbm _).setCell hbm _).setCell hbm _))
          clear hK K
          try simp only [Act.put, List.setIfInBounds_toArray, List.set_cons_zero, List.set_cons_succ]
          refine wpAnyH_ready (rs := [6]) (by kernel_rfl) (by simp) ?_
          refine AllReadyH.cons (o := { dst := some 11, op := Go.Op.buildSlice 37 0 #[], type := 37, pos := "net.go:158", after := #[], guard := none }) rfl (fun K hK => ?_) ?_
          · go_simp
            refine alloc_on (K := K) _ _ (fun wn hb ho => ?_)
            have hB := bstep hB hb
            (try have hcM := hcM.below hb hcM.lt)
            (try have hKR := hKR.on hb)
            (try have hKO := hKO.on hb)
            clear ho
            refine hK.out _ _ ?_ (fun hHeld => ?_)
            · (try dsimp only)
              (first | with_reducible exact heldr_of x0 x1 x3 x4 hB | with_reducible exact heldr_of x0 x1 x3 x4 ((((hB.setCell hbm _).setCell hbm _).setCell hbm _).setCell hbm _) | exact heldr_of x0 x1 x3 x4 ((((hB.setCell hbm _).setCell hbm _).setCell hbm _).setCell hbm _))
            clear hK K
            try simp only [Act.put, List.setIfInBounds_toArray, List.set_cons_zero, List.set_cons_succ]
            refine wpAnyH_ready (rs := [9]) (by kernel_rfl) (by simp) ?_
            refine AllReadyH.cons (o := { dst := some 14, op := Go.Op.call { callee := Go.Callee.builtin Go.Builtin.append, args := #[Go.Operand.tmp 11, Go.Operand.tmp 13], argTypes := #[37, 37] }, type := 37, pos := "net.go:158", after := #[{ on := 6, ground := Go.Ground.data }, { on := 8, ground := Go.Ground.data }, { on := 5, ground := Go.Ground.chain }], guard := none }) rfl (fun K hK => ?_) ?_
            · refine step_lit_ints (by rfl) _ _ (by rfl) (by rfl) d.outs oa on oc (by rfl) (hN.outs.below hB) (by omega) ?_
              intro ob od wn hKO0 hb
              (first | have hKO := hKO0 _ (box_lt hcM hB) | have hKO := hKO0 _ (rng_lt hB))
              have hKR := hKR.on hb
              have hB := bstep hB hb
              (try have hcM := hcM.below hb hcM.lt)
              clear hKO0
              refine hK.out _ _ ?_ (fun hHeld => ?_)
              · (try dsimp only)
                (first | with_reducible exact heldr_of x0 x1 x3 x4 hB | with_reducible exact heldr_of x0 x1 x3 x4 ((((hB.setCell hbm _).setCell hbm _).setCell hbm _).setCell hbm _) | exact heldr_of x0 x1 x3 x4 ((((hB.setCell hbm _).setCell hbm _).setCell hbm _).setCell hbm _))
              clear hK K
              try simp only [Act.put, List.setIfInBounds_toArray, List.set_cons_zero, List.set_cons_succ]
              refine wpAnyH_take (i := 10) (oi := { dst := some 15, op := Go.Op.build 39 #[(0, Go.Operand.tmp 6), (2, Go.Operand.tmp 10), (3, Go.Operand.tmp 14)], type := 39, pos := "net.go:158", after := #[{ on := 1, ground := Go.Ground.data }, { on := 5, ground := Go.Ground.data }, { on := 9, ground := Go.Ground.data }], guard := none }) (v := ?_) rfl (by kernel_rfl) (by kernel_rfl) (by kernel_rfl) (fun _ _ _ h => h) (Or.inl ⟨by rfl, ?_⟩) (by assumption) ?_
              rotate_left
              · intro w hSw; (try dsimp only at hSw); go_simp; (try (with_reducible rfl))
              try simp only [Act.put, List.setIfInBounds_toArray, List.set_cons_zero, List.set_cons_succ]
              refine wpAnyH_ready (rs := [12]) (by kernel_rfl) (by simp) ?_
              refine AllReadyH.cons (o := { dst := none, op := Go.Op.store 39 (Go.Operand.tmp 3) (Go.Operand.tmp 15), type := 0, pos := "net.go:158", after := #[{ on := 11, ground := Go.Ground.data }, { on := 10, ground := Go.Ground.data }, { on := 9, ground := Go.Ground.chain }, { on := 0, ground := Go.Ground.phase }, { on := 1, ground := Go.Ground.phase }, { on := 2, ground := Go.Ground.phase }, { on := 3, ground := Go.Ground.phase }, { on := 4, ground := Go.Ground.phase }, { on := 5, ground := Go.Ground.phase }, { on := 6, ground := Go.Ground.phase }, { on := 7, ground := Go.Ground.phase }, { on := 8, ground := Go.Ground.phase }, { on := 9, ground := Go.Ground.phase }, { on := 10, ground := Go.Ground.phase }, { on := 11, ground := Go.Ground.phase }], guard := none }) rfl (fun K hK => ?_) ?_
              · have z0 := hcM.cell 0
                have z1 := hcM.cell 1
                have z2 := hcM.cell 2
                have z3 := hcM.cell 3
                have f0 := hcM.frozen 0
                have f1 := hcM.frozen 1
                have f2 := hcM.frozen 2
                have f3 := hcM.frozen 3
                have hlM := hcM.lt
                have hneM := Nat.ne_of_lt hlM
                go_simp
                refine hK.out _ _ ?_ (fun hHeld => ?_)
                · (try dsimp only)
                  (first | with_reducible exact heldr_of x0 x1 x3 x4 hB | with_reducible exact heldr_of x0 x1 x3 x4 ((((hB.setCell hbm _).setCell hbm _).setCell hbm _).setCell hbm _) | exact heldr_of x0 x1 x3 x4 ((((hB.setCell hbm _).setCell hbm _).setCell hbm _).setCell hbm _))
                clear hK K
                try simp only [Act.put, List.setIfInBounds_toArray, List.set_cons_zero, List.set_cons_succ]
                refine wpAnyH_done (by kernel_rfl) ?_ _
                go_wp2_with fail
                go_meet
                exact ⟨_, _, _, _, _, rfl, (((hcM.set 0 (.int .i64 ins0)).set 1 (.slice none 0 0)).set 2 (.slice rb rn rd)).set 3 (.slice ob on od), hKR.step (kept4 _ _ _ _) (fun _ hg => Or.inl hg), hKO.step (kept4 _ _ _ _) (fun _ hg => Or.inl hg), hbm, (((hB.setCell hbm _).setCell hbm _).setCell hbm _).setCell hbm _⟩
              exact AllReadyH.nil
            exact AllReadyH.nil
          exact AllReadyH.nil
        refine AllReadyH.cons (o := { dst := some 11, op := Go.Op.buildSlice 37 0 #[], type := 37, pos := "net.go:158", after := #[], guard := none }) rfl (fun K hK => ?_) ?_
        · go_simp
          refine alloc_on (K := K) _ _ (fun wn hb ho => ?_)
          have hB := bstep hB hb
          (try have hcM := hcM.below hb hcM.lt)
          (try have hKR := hKR.on hb)
          (try have hKO := hKO.on hb)
          clear ho
          refine hK.out _ _ ?_ (fun hHeld => ?_)
          · (try dsimp only)
            (first | with_reducible exact heldr_of x0 x1 x3 x4 hB | with_reducible exact heldr_of x0 x1 x3 x4 ((((hB.setCell hbm _).setCell hbm _).setCell hbm _).setCell hbm _) | exact heldr_of x0 x1 x3 x4 ((((hB.setCell hbm _).setCell hbm _).setCell hbm _).setCell hbm _))
          clear hK K
          try simp only [Act.put, List.setIfInBounds_toArray, List.set_cons_zero, List.set_cons_succ]
          refine wpAnyH_ready (rs := [5]) (by kernel_rfl) (by simp) ?_
          refine AllReadyH.cons (o := { dst := some 10, op := Go.Op.call { callee := Go.Callee.builtin Go.Builtin.append, args := #[Go.Operand.tmp 7, Go.Operand.tmp 9], argTypes := #[36, 36] }, type := 36, pos := "net.go:158", after := #[{ on := 2, ground := Go.Ground.data }, { on := 4, ground := Go.Ground.data }], guard := none }) rfl (fun K hK => ?_) ?_
          · refine step_lit_regs (by rfl) _ _ (by rfl) (by rfl) d.regs ra rn rc (by rfl) (hN.regs.below hB) (by omega) ?_
            intro rb rd wn hKR0 hb
            (first | have hKR := hKR0 _ (box_lt hcM hB) | have hKR := hKR0 _ (rng_lt hB))
            have hB := bstep hB hb
            (try have hcM := hcM.below hb hcM.lt)
            clear hKR0
            refine hK.out _ _ ?_ (fun hHeld => ?_)
            · (try dsimp only)
              (first | with_reducible exact heldr_of x0 x1 x3 x4 hB | with_reducible exact heldr_of x0 x1 x3 x4 ((((hB.setCell hbm _).setCell hbm _).setCell hbm _).setCell hbm _) | exact heldr_of x0 x1 x3 x4 ((((hB.setCell hbm _).setCell hbm _).setCell hbm _).setCell hbm _))
            clear hK K
            try simp only [Act.put, List.setIfInBounds_toArray, List.set_cons_zero, List.set_cons_succ]
            refine wpAnyH_ready (rs := [9]) (by kernel_rfl) (by simp) ?_
            refine AllReadyH.cons (o := { dst := some 14, op := Go.Op.call { callee := Go.Callee.builtin Go.Builtin.append, args := #[Go.Operand.tmp 11, Go.Operand.tmp 13], argTypes := #[37, 37] }, type := 37, pos := "net.go:158", after := #[{ on := 6, ground := Go.Ground.data }, { on := 8, ground := Go.Ground.data }, { on := 5, ground := Go.Ground.chain }], guard := none }) rfl (fun K hK => ?_) ?_
            · refine step_lit_ints (by rfl) _ _ (by rfl) (by rfl) d.outs oa on oc (by rfl) (hN.outs.below hB) (by omega) ?_
              intro ob od wn hKO0 hb
              (first | have hKO := hKO0 _ (box_lt hcM hB) | have hKO := hKO0 _ (rng_lt hB))
              have hKR := hKR.on hb
              have hB := bstep hB hb
              (try have hcM := hcM.below hb hcM.lt)
              clear hKO0
              refine hK.out _ _ ?_ (fun hHeld => ?_)
              · (try dsimp only)
                (first | with_reducible exact heldr_of x0 x1 x3 x4 hB | with_reducible exact heldr_of x0 x1 x3 x4 ((((hB.setCell hbm _).setCell hbm _).setCell hbm _).setCell hbm _) | exact heldr_of x0 x1 x3 x4 ((((hB.setCell hbm _).setCell hbm _).setCell hbm _).setCell hbm _))
              clear hK K
              try simp only [Act.put, List.setIfInBounds_toArray, List.set_cons_zero, List.set_cons_succ]
              refine wpAnyH_take (i := 10) (oi := { dst := some 15, op := Go.Op.build 39 #[(0, Go.Operand.tmp 6), (2, Go.Operand.tmp 10), (3, Go.Operand.tmp 14)], type := 39, pos := "net.go:158", after := #[{ on := 1, ground := Go.Ground.data }, { on := 5, ground := Go.Ground.data }, { on := 9, ground := Go.Ground.data }], guard := none }) (v := ?_) rfl (by kernel_rfl) (by kernel_rfl) (by kernel_rfl) (fun _ _ _ h => h) (Or.inl ⟨by rfl, ?_⟩) (by assumption) ?_
              rotate_left
              · intro w hSw; (try dsimp only at hSw); go_simp; (try (with_reducible rfl))
              try simp only [Act.put, List.setIfInBounds_toArray, List.set_cons_zero, List.set_cons_succ]
              refine wpAnyH_ready (rs := [12]) (by kernel_rfl) (by simp) ?_
              refine AllReadyH.cons (o := { dst := none, op := Go.Op.store 39 (Go.Operand.tmp 3) (Go.Operand.tmp 15), type := 0, pos := "net.go:158", after := #[{ on := 11, ground := Go.Ground.data }, { on := 10, ground := Go.Ground.data }, { on := 9, ground := Go.Ground.chain }, { on := 0, ground := Go.Ground.phase }, { on := 1, ground := Go.Ground.phase }, { on := 2, ground := Go.Ground.phase }, { on := 3, ground := Go.Ground.phase }, { on := 4, ground := Go.Ground.phase }, { on := 5, ground := Go.Ground.phase }, { on := 6, ground := Go.Ground.phase }, { on := 7, ground := Go.Ground.phase }, { on := 8, ground := Go.Ground.phase }, { on := 9, ground := Go.Ground.phase }, { on := 10, ground := Go.Ground.phase }, { on := 11, ground := Go.Ground.phase }], guard := none }) rfl (fun K hK => ?_) ?_
              · have z0 := hcM.cell 0
                have z1 := hcM.cell 1
                have z2 := hcM.cell 2
                have z3 := hcM.cell 3
                have f0 := hcM.frozen 0
                have f1 := hcM.frozen 1
                have f2 := hcM.frozen 2
                have f3 := hcM.frozen 3
                have hlM := hcM.lt
                have hneM := Nat.ne_of_lt hlM
                go_simp
                refine hK.out _ _ ?_ (fun hHeld => ?_)
                · (try dsimp only)
                  (first | with_reducible exact heldr_of x0 x1 x3 x4 hB | with_reducible exact heldr_of x0 x1 x3 x4 ((((hB.setCell hbm _).setCell hbm _).setCell hbm _).setCell hbm _) | exact heldr_of x0 x1 x3 x4 ((((hB.setCell hbm _).setCell hbm _).setCell hbm _).setCell hbm _))
                clear hK K
                try simp only [Act.put, List.setIfInBounds_toArray, List.set_cons_zero, List.set_cons_succ]
                refine wpAnyH_done (by kernel_rfl) ?_ _
                go_wp2_with fail
                go_meet
                exact ⟨_, _, _, _, _, rfl, (((hcM.set 0 (.int .i64 ins0)).set 1 (.slice none 0 0)).set 2 (.slice rb rn rd)).set 3 (.slice ob on od), hKR.step (kept4 _ _ _ _) (fun _ hg => Or.inl hg), hKO.step (kept4 _ _ _ _) (fun _ hg => Or.inl hg), hbm, (((hB.setCell hbm _).setCell hbm _).setCell hbm _).setCell hbm _⟩
              exact AllReadyH.nil
            exact AllReadyH.nil
          exact AllReadyH.nil
        exact AllReadyH.nil
      exact AllReadyH.nil
    refine AllReadyH.cons (o := { dst := some 11, op := Go.Op.buildSlice 37 0 #[], type := 37, pos := "net.go:158", after := #[], guard := none }) rfl (fun K hK => ?_) ?_
    · go_simp
      refine alloc_on (K := K) _ _ (fun wn hb ho => ?_)
      have hB := bstep hB hb
      (try have hcM := hcM.below hb hcM.lt)
      (try have hKR := hKR.on hb)
      (try have hKO := hKO.on hb)
      clear ho
      refine hK.out _ _ ?_ (fun hHeld => ?_)
      · (try dsimp only)
        (first | with_reducible exact heldr_of x0 x1 x3 x4 hB | with_reducible exact heldr_of x0 x1 x3 x4 ((((hB.setCell hbm _).setCell hbm _).setCell hbm _).setCell hbm _) | exact heldr_of x0 x1 x3 x4 ((((hB.setCell hbm _).setCell hbm _).setCell hbm _).setCell hbm _))
      clear hK K
      try simp only [Act.put, List.setIfInBounds_toArray, List.set_cons_zero, List.set_cons_succ]
      refine wpAnyH_ready (rs := [2, 11]) (by kernel_rfl) (by simp) ?_
      refine AllReadyH.cons (o := { dst := some 7, op := Go.Op.buildSlice 36 0 #[], type := 36, pos := "net.go:158", after := #[], guard := none }) rfl (fun K hK => ?_) ?_
      · go_simp
        refine alloc_on (K := K) _ _ (fun wn hb ho => ?_)
        have hB := bstep hB hb
        (try have hcM := hcM.below hb hcM.lt)
        (try have hKR := hKR.on hb)
        (try have hKO := hKO.on hb)
        clear ho
        refine hK.out _ _ ?_ (fun hHeld => ?_)
        · (try dsimp only)
          (first | with_reducible exact heldr_of x0 x1 x3 x4 hB | with_reducible exact heldr_of x0 x1 x3 x4 ((((hB.setCell hbm _).setCell hbm _).setCell hbm _).setCell hbm _) | exact heldr_of x0 x1 x3 x4 ((((hB.setCell hbm _).setCell hbm _).setCell hbm _).setCell hbm _))
        clear hK K
        try simp only [Act.put, List.setIfInBounds_toArray, List.set_cons_zero, List.set_cons_succ]
        refine wpAnyH_ready (rs := [5, 11]) (by kernel_rfl) (by simp) ?_
        refine AllReadyH.cons (o := { dst := some 10, op := Go.Op.call { callee := Go.Callee.builtin Go.Builtin.append, args := #[Go.Operand.tmp 7, Go.Operand.tmp 9], argTypes := #[36, 36] }, type := 36, pos := "net.go:158", after := #[{ on := 2, ground := Go.Ground.data }, { on := 4, ground := Go.Ground.data }], guard := none }) rfl (fun K hK => ?_) ?_
        · refine step_lit_regs (by rfl) _ _ (by rfl) (by rfl) d.regs ra rn rc (by rfl) (hN.regs.below hB) (by omega) ?_
          intro rb rd wn hKR0 hb
          (first | have hKR := hKR0 _ (box_lt hcM hB) | have hKR := hKR0 _ (rng_lt hB))
          have hB := bstep hB hb
          (try have hcM := hcM.below hb hcM.lt)
          clear hKR0
          refine hK.out _ _ ?_ (fun hHeld => ?_)
          · (try dsimp only)
            (first | with_reducible exact heldr_of x0 x1 x3 x4 hB | with_reducible exact heldr_of x0 x1 x3 x4 ((((hB.setCell hbm _).setCell hbm _).setCell hbm _).setCell hbm _) | exact heldr_of x0 x1 x3 x4 ((((hB.setCell hbm _).setCell hbm _).setCell hbm _).setCell hbm _))
          clear hK K
          try simp only [Act.put, List.setIfInBounds_toArray, List.set_cons_zero, List.set_cons_succ]
          refine wpAnyH_ready (rs := [9, 11]) (by kernel_rfl) (by simp) ?_
          refine AllReadyH.cons (o := { dst := some 14, op := Go.Op.call { callee := Go.Callee.builtin Go.Builtin.append, args := #[Go.Operand.tmp 11, Go.Operand.tmp 13], argTypes := #[37, 37] }, type := 37, pos := "net.go:158", after := #[{ on := 6, ground := Go.Ground.data }, { on := 8, ground := Go.Ground.data }, { on := 5, ground := Go.Ground.chain }], guard := none }) rfl (fun K hK => ?_) ?_
          · refine step_lit_ints (by rfl) _ _ (by rfl) (by rfl) d.outs oa on oc (by rfl) (hN.outs.below hB) (by omega) ?_
            intro ob od wn hKO0 hb
            (first | have hKO := hKO0 _ (box_lt hcM hB) | have hKO := hKO0 _ (rng_lt hB))
            have hKR := hKR.on hb
            have hB := bstep hB hb
            (try have hcM := hcM.below hb hcM.lt)
            clear hKO0
            refine hK.out _ _ ?_ (fun hHeld => ?_)
            · (try dsimp only)
              (first | with_reducible exact heldr_of x0 x1 x3 x4 hB | with_reducible exact heldr_of x0 x1 x3 x4 ((((hB.setCell hbm _).setCell hbm _).setCell hbm _).setCell hbm _) | exact heldr_of x0 x1 x3 x4 ((((hB.setCell hbm _).setCell hbm _).setCell hbm _).setCell hbm _))
            clear hK K
            try simp only [Act.put, List.setIfInBounds_toArray, List.set_cons_zero, List.set_cons_succ]
            refine wpAnyH_take (i := 10) (oi := { dst := some 15, op := Go.Op.build 39 #[(0, Go.Operand.tmp 6), (2, Go.Operand.tmp 10), (3, Go.Operand.tmp 14)], type := 39, pos := "net.go:158", after := #[{ on := 1, ground := Go.Ground.data }, { on := 5, ground := Go.Ground.data }, { on := 9, ground := Go.Ground.data }], guard := none }) (v := ?_) rfl (by kernel_rfl) (by kernel_rfl) (by kernel_rfl) (fun _ _ _ h => h) (Or.inl ⟨by rfl, ?_⟩) (by assumption) ?_
            rotate_left
            · intro w hSw; (try dsimp only at hSw); go_simp; (try (with_reducible rfl))
            try simp only [Act.put, List.setIfInBounds_toArray, List.set_cons_zero, List.set_cons_succ]
            refine wpAnyH_ready (rs := [11]) (by kernel_rfl) (by simp) ?_
            refine AllReadyH.cons (o := { dst := some 3, op := Go.Op.alloc 39, type := 0, pos := "net.go:158", after := #[], guard := none }) rfl (fun K hK => ?_) ?_
            · go_simp
              refine alloc_on (K := K) _ _ (fun wn hb ho => ?_)
              have hcM : Cells wn _ zeroN 39 := ho
              have hbm := hB.size
              (try have hKR := hKR.box hb)
              (try have hKO := hKO.box hb)
              have hB := bstep hB hb
              clear ho
              refine hK.out _ _ ?_ (fun hHeld => ?_)
              · (try dsimp only)
                (first | with_reducible exact heldr_of x0 x1 x3 x4 hB | with_reducible exact heldr_of x0 x1 x3 x4 ((((hB.setCell hbm _).setCell hbm _).setCell hbm _).setCell hbm _) | exact heldr_of x0 x1 x3 x4 ((((hB.setCell hbm _).setCell hbm _).setCell hbm _).setCell hbm _))
              clear hK K
              try simp only [Act.put, List.setIfInBounds_toArray, List.set_cons_zero, List.set_cons_succ]
              refine wpAnyH_ready (rs := [12]) (by kernel_rfl) (by simp) ?_
              refine AllReadyH.cons (o := { dst := none, op := Go.Op.store 39 (Go.Operand.tmp 3) (Go.Operand.tmp 15), type := 0, pos := "net.go:158", after := #[{ on := 11, ground := Go.Ground.data }, { on := 10, ground := Go.Ground.data }, { on := 9, ground := Go.Ground.chain }, { on := 0, ground := Go.Ground.phase }, { on := 1, ground := Go.Ground.phase }, { on := 2, ground := Go.Ground.phase }, { on := 3, ground := Go.Ground.phase }, { on := 4, ground := Go.Ground.phase }, { on := 5, ground := Go.Ground.phase }, { on := 6, ground := Go.Ground.phase }, { on := 7, ground := Go.Ground.phase }, { on := 8, ground := Go.Ground.phase }, { on := 9, ground := Go.Ground.phase }, { on := 10, ground := Go.Ground.phase }, { on := 11, ground := Go.Ground.phase }], guard := none }) rfl (fun K hK => ?_) ?_
              · have z0 := hcM.cell 0
                have z1 := hcM.cell 1
                have z2 := hcM.cell 2
                have z3 := hcM.cell 3
                have f0 := hcM.frozen 0
                have f1 := hcM.frozen 1
                have f2 := hcM.frozen 2
                have f3 := hcM.frozen 3
                have hlM := hcM.lt
                have hneM := Nat.ne_of_lt hlM
                go_simp
                refine hK.out _ _ ?_ (fun hHeld => ?_)
                · (try dsimp only)
                  (first | with_reducible exact heldr_of x0 x1 x3 x4 hB | with_reducible exact heldr_of x0 x1 x3 x4 ((((hB.setCell hbm _).setCell hbm _).setCell hbm _).setCell hbm _) | exact heldr_of x0 x1 x3 x4 ((((hB.setCell hbm _).setCell hbm _).setCell hbm _).setCell hbm _))
                clear hK K
                try simp only [Act.put, List.setIfInBounds_toArray, List.set_cons_zero, List.set_cons_succ]
                refine wpAnyH_done (by kernel_rfl) ?_ _
                go_wp2_with fail
                go_meet
                exact ⟨_, _, _, _, _, rfl, (((hcM.set 0 (.int .i64 ins0)).set 1 (.slice none 0 0)).set 2 (.slice rb rn rd)).set 3 (.slice ob on od), hKR.step (kept4 _ _ _ _) (fun _ hg => Or.inl hg), hKO.step (kept4 _ _ _ _) (fun _ hg => Or.inl hg), hbm, (((hB.setCell hbm _).setCell hbm _).setCell hbm _).setCell hbm _⟩
              exact AllReadyH.nil
            exact AllReadyH.nil
          refine AllReadyH.cons (o := { dst := some 3, op := Go.Op.alloc 39, type := 0, pos := "net.go:158", after := #[], guard := none }) rfl (fun K hK => ?_) ?_
          · go_simp
            refine alloc_on (K := K) _ _ (fun wn hb ho => ?_)
            have hcM : Cells wn _ zeroN 39 := ho
            have hbm := hB.size
            (try have hKR := hKR.box hb)
            (try have hKO := hKO.box hb)
            have hB := bstep hB hb
            clear ho
            refine hK.out _ _ ?_ (fun hHeld => ?_)
            · (try dsimp only)
              (first | with_reducible exact heldr_of x0 x1 x3 x4 hB | with_reducible exact heldr_of x0 x1 x3 x4 ((((hB.setCell hbm _).setCell hbm _).setCell hbm _).setCell hbm _) | exact heldr_of x0 x1 x3 x4 ((((hB.setCell hbm _).setCell hbm _).setCell hbm _).setCell hbm _))
            clear hK K
            try simp only [Act.put, List.setIfInBounds_toArray, List.set_cons_zero, List.set_cons_succ]
            refine wpAnyH_ready (rs := [9]) (by kernel_rfl) (by simp) ?_
            refine AllReadyH.cons (o := { dst := some 14, op := Go.Op.call { callee := Go.Callee.builtin Go.Builtin.append, args := #[Go.Operand.tmp 11, Go.Operand.tmp 13], argTypes := #[37, 37] }, type := 37, pos := "net.go:158", after := #[{ on := 6, ground := Go.Ground.data }, { on := 8, ground := Go.Ground.data }, { on := 5, ground := Go.Ground.chain }], guard := none }) rfl (fun K hK => ?_) ?_
            · refine step_lit_ints (by rfl) _ _ (by rfl) (by rfl) d.outs oa on oc (by rfl) (hN.outs.below hB) (by omega) ?_
              intro ob od wn hKO0 hb
              (first | have hKO := hKO0 _ (box_lt hcM hB) | have hKO := hKO0 _ (rng_lt hB))
              have hKR := hKR.on hb
              have hB := bstep hB hb
              (try have hcM := hcM.below hb hcM.lt)
              clear hKO0
              refine hK.out _ _ ?_ (fun hHeld => ?_)
              · (try dsimp only)
                (first | with_reducible exact heldr_of x0 x1 x3 x4 hB | with_reducible exact heldr_of x0 x1 x3 x4 ((((hB.setCell hbm _).setCell hbm _).setCell hbm _).setCell hbm _) | exact heldr_of x0 x1 x3 x4 ((((hB.setCell hbm _).setCell hbm _).setCell hbm _).setCell hbm _))
              clear hK K
              try simp only [Act.put, List.setIfInBounds_toArray, List.set_cons_zero, List.set_cons_succ]
              refine wpAnyH_take (i := 10) (oi := { dst := some 15, op := Go.Op.build 39 #[(0, Go.Operand.tmp 6), (2, Go.Operand.tmp 10), (3, Go.Operand.tmp 14)], type := 39, pos := "net.go:158", after := #[{ on := 1, ground := Go.Ground.data }, { on := 5, ground := Go.Ground.data }, { on := 9, ground := Go.Ground.data }], guard := none }) (v := ?_) rfl (by kernel_rfl) (by kernel_rfl) (by kernel_rfl) (fun _ _ _ h => h) (Or.inl ⟨by rfl, ?_⟩) (by assumption) ?_
              rotate_left
              · intro w hSw; (try dsimp only at hSw); go_simp; (try (with_reducible rfl))
              try simp only [Act.put, List.setIfInBounds_toArray, List.set_cons_zero, List.set_cons_succ]
              refine wpAnyH_ready (rs := [12]) (by kernel_rfl) (by simp) ?_
              refine AllReadyH.cons (o := { dst := none, op := Go.Op.store 39 (Go.Operand.tmp 3) (Go.Operand.tmp 15), type := 0, pos := "net.go:158", after := #[{ on := 11, ground := Go.Ground.data }, { on := 10, ground := Go.Ground.data }, { on := 9, ground := Go.Ground.chain }, { on := 0, ground := Go.Ground.phase }, { on := 1, ground := Go.Ground.phase }, { on := 2, ground := Go.Ground.phase }, { on := 3, ground := Go.Ground.phase }, { on := 4, ground := Go.Ground.phase }, { on := 5, ground := Go.Ground.phase }, { on := 6, ground := Go.Ground.phase }, { on := 7, ground := Go.Ground.phase }, { on := 8, ground := Go.Ground.phase }, { on := 9, ground := Go.Ground.phase }, { on := 10, ground := Go.Ground.phase }, { on := 11, ground := Go.Ground.phase }], guard := none }) rfl (fun K hK => ?_) ?_
              · have z0 := hcM.cell 0
                have z1 := hcM.cell 1
                have z2 := hcM.cell 2
                have z3 := hcM.cell 3
                have f0 := hcM.frozen 0
                have f1 := hcM.frozen 1
                have f2 := hcM.frozen 2
                have f3 := hcM.frozen 3
                have hlM := hcM.lt
                have hneM := Nat.ne_of_lt hlM
                go_simp
                refine hK.out _ _ ?_ (fun hHeld => ?_)
                · (try dsimp only)
                  (first | with_reducible exact heldr_of x0 x1 x3 x4 hB | with_reducible exact heldr_of x0 x1 x3 x4 ((((hB.setCell hbm _).setCell hbm _).setCell hbm _).setCell hbm _) | exact heldr_of x0 x1 x3 x4 ((((hB.setCell hbm _).setCell hbm _).setCell hbm _).setCell hbm _))
                clear hK K
                try simp only [Act.put, List.setIfInBounds_toArray, List.set_cons_zero, List.set_cons_succ]
                refine wpAnyH_done (by kernel_rfl) ?_ _
                go_wp2_with fail
                go_meet
                exact ⟨_, _, _, _, _, rfl, (((hcM.set 0 (.int .i64 ins0)).set 1 (.slice none 0 0)).set 2 (.slice rb rn rd)).set 3 (.slice ob on od), hKR.step (kept4 _ _ _ _) (fun _ hg => Or.inl hg), hKO.step (kept4 _ _ _ _) (fun _ hg => Or.inl hg), hbm, (((hB.setCell hbm _).setCell hbm _).setCell hbm _).setCell hbm _⟩
              exact AllReadyH.nil
            exact AllReadyH.nil
          exact AllReadyH.nil
        refine AllReadyH.cons (o := { dst := some 3, op := Go.Op.alloc 39, type := 0, pos := "net.go:158", after := #[], guard := none }) rfl (fun K hK => ?_) ?_
        · go_simp
          refine alloc_on (K := K) _ _ (fun wn hb ho => ?_)
          have hcM : Cells wn _ zeroN 39 := ho
          have hbm := hB.size
          (try have hKR := hKR.box hb)
          (try have hKO := hKO.box hb)
          have hB := bstep hB hb
          clear ho
          refine hK.out _ _ ?_ (fun hHeld => ?_)
          · (try dsimp only)
            (first | with_reducible exact heldr_of x0 x1 x3 x4 hB | with_reducible exact heldr_of x0 x1 x3 x4 ((((hB.setCell hbm _).setCell hbm _).setCell hbm _).setCell hbm _) | exact heldr_of x0 x1 x3 x4 ((((hB.setCell hbm _).setCell hbm _).setCell hbm _).setCell hbm _))
          clear hK K
          try simp only [Act.put, List.setIfInBounds_toArray, List.set_cons_zero, List.set_cons_succ]
          refine wpAnyH_ready (rs := [5]) (by kernel_rfl) (by simp) ?_
          refine AllReadyH.cons (o := { dst := some 10, op := Go.Op.call { callee := Go.Callee.builtin Go.Builtin.append, args := #[Go.Operand.tmp 7, Go.Operand.tmp 9], argTypes := #[36, 36] }, type := 36, pos := "net.go:158", after := #[{ on := 2, ground := Go.Ground.data }, { on := 4, ground := Go.Ground.data }], guard := none }) rfl (fun K hK => ?_) ?_
          · refine step_lit_regs (by rfl) _ _ (by rfl) (by rfl) d.regs ra rn rc (by rfl) (hN.regs.below hB) (by omega) ?_
            intro rb rd wn hKR0 hb
            (first | have hKR := hKR0 _ (box_lt hcM hB) | have hKR := hKR0 _ (rng_lt hB))
            have hB := bstep hB hb
            (try have hcM := hcM.below hb hcM.lt)
            clear hKR0
            refine hK.out _ _ ?_ (fun hHeld => ?_)
            · (try dsimp only)
              (first | with_reducible exact heldr_of x0 x1 x3 x4 hB | with_reducible exact heldr_of x0 x1 x3 x4 ((((hB.setCell hbm _).setCell hbm _).setCell hbm _).setCell hbm _) | exact heldr_of x0 x1 x3 x4 ((((hB.setCell hbm _).setCell hbm _).setCell hbm _).setCell hbm _))
            clear hK K
            try simp only [Act.put, List.setIfInBounds_toArray, List.set_cons_zero, List.set_cons_succ]
            refine wpAnyH_ready (rs := [9]) (by kernel_rfl) (by simp) ?_
            refine AllReadyH.cons (o := { dst := some 14, op := Go.Op.call { callee := Go.Callee.builtin Go.Builtin.append, args := #[Go.Operand.tmp 11, Go.Operand.tmp 13], argTypes := #[37, 37] }, type := 37, pos := "net.go:158", after := #[{ on := 6, ground := Go.Ground.data }, { on := 8, ground := Go.Ground.data }, { on := 5, ground := Go.Ground.chain }], guard := none }) rfl (fun K hK => ?_) ?_
            · refine step_lit_ints (by rfl) _ _ (by rfl) (by rfl) d.outs oa on oc (by rfl) (hN.outs.below hB) (by omega) ?_
              intro ob od wn hKO0 hb
              (first | have hKO := hKO0 _ (box_lt hcM hB) | have hKO := hKO0 _ (rng_lt hB))
              have hKR := hKR.on hb
              have hB := bstep hB hb
              (try have hcM := hcM.below hb hcM.lt)
              clear hKO0
              refine hK.out _ _ ?_ (fun hHeld => ?_)
              · (try dsimp only)
                (first | with_reducible exact heldr_of x0 x1 x3 x4 hB | with_reducible exact heldr_of x0 x1 x3 x4 ((((hB.setCell hbm _).setCell hbm _).setCell hbm _).setCell hbm _) | exact heldr_of x0 x1 x3 x4 ((((hB.setCell hbm _).setCell hbm _).setCell hbm _).setCell hbm _))
              clear hK K
              try simp only [Act.put, List.setIfInBounds_toArray, List.set_cons_zero, List.set_cons_succ]
              refine wpAnyH_take (i := 10) (oi := { dst := some 15, op := Go.Op.build 39 #[(0, Go.Operand.tmp 6), (2, Go.Operand.tmp 10), (3, Go.Operand.tmp 14)], type := 39, pos := "net.go:158", after := #[{ on := 1, ground := Go.Ground.data }, { on := 5, ground := Go.Ground.data }, { on := 9, ground := Go.Ground.data }], guard := none }) (v := ?_) rfl (by kernel_rfl) (by kernel_rfl) (by kernel_rfl) (fun _ _ _ h => h) (Or.inl ⟨by rfl, ?_⟩) (by assumption) ?_
              rotate_left
              · intro w hSw; (try dsimp only at hSw); go_simp; (try (with_reducible rfl))
              try simp only [Act.put, List.setIfInBounds_toArray, List.set_cons_zero, List.set_cons_succ]
              refine wpAnyH_ready (rs := [12]) (by kernel_rfl) (by simp) ?_
              refine AllReadyH.cons (o := { dst := none, op := Go.Op.store 39 (Go.Operand.tmp 3) (Go.Operand.tmp 15), type := 0, pos := "net.go:158", after := #[{ on := 11, ground := Go.Ground.data }, { on := 10, ground := Go.Ground.data }, { on := 9, ground := Go.Ground.chain }, { on := 0, ground := Go.Ground.phase }, { on := 1, ground := Go.Ground.phase }, { on := 2, ground := Go.Ground.phase }, { on := 3, ground := Go.Ground.phase }, { on := 4, ground := Go.Ground.phase }, { on := 5, ground := Go.Ground.phase }, { on := 6, ground := Go.Ground.phase }, { on := 7, ground := Go.Ground.phase }, { on := 8, ground := Go.Ground.phase }, { on := 9, ground := Go.Ground.phase }, { on := 10, ground := Go.Ground.phase }, { on := 11, ground := Go.Ground.phase }], guard := none }) rfl (fun K hK => ?_) ?_
              · have z0 := hcM.cell 0
                have z1 := hcM.cell 1
                have z2 := hcM.cell 2
                have z3 := hcM.cell 3
                have f0 := hcM.frozen 0
                have f1 := hcM.frozen 1
                have f2 := hcM.frozen 2
                have f3 := hcM.frozen 3
                have hlM := hcM.lt
                have hneM := Nat.ne_of_lt hlM
                go_simp
                refine hK.out _ _ ?_ (fun hHeld => ?_)
                · (try dsimp only)
                  (first | with_reducible exact heldr_of x0 x1 x3 x4 hB | with_reducible exact heldr_of x0 x1 x3 x4 ((((hB.setCell hbm _).setCell hbm _).setCell hbm _).setCell hbm _) | exact heldr_of x0 x1 x3 x4 ((((hB.setCell hbm _).setCell hbm _).setCell hbm _).setCell hbm _))
                clear hK K
                try simp only [Act.put, List.setIfInBounds_toArray, List.set_cons_zero, List.set_cons_succ]
                refine wpAnyH_done (by kernel_rfl) ?_ _
                go_wp2_with fail
                go_meet
                exact ⟨_, _, _, _, _, rfl, (((hcM.set 0 (.int .i64 ins0)).set 1 (.slice none 0 0)).set 2 (.slice rb rn rd)).set 3 (.slice ob on od), hKR.step (kept4 _ _ _ _) (fun _ hg => Or.inl hg), hKO.step (kept4 _ _ _ _) (fun _ hg => Or.inl hg), hbm, (((hB.setCell hbm _).setCell hbm _).setCell hbm _).setCell hbm _⟩
              exact AllReadyH.nil
            exact AllReadyH.nil
          exact AllReadyH.nil
        exact AllReadyH.nil
      refine AllReadyH.cons (o := { dst := some 3, op := Go.Op.alloc 39, type := 0, pos := "net.go:158", after := #[], guard := none }) rfl (fun K hK => ?_) ?_
      · go_simp
        refine alloc_on (K := K) _ _ (fun wn hb ho => ?_)
        have hcM : Cells wn _ zeroN 39 := ho
        have hbm := hB.size
        (try have hKR := hKR.box hb)
        (try have hKO := hKO.box hb)
        have hB := bstep hB hb
        clear ho
        refine hK.out _ _ ?_ (fun hHeld => ?_)
        · (try dsimp only)
          (first | with_reducible exact heldr_of x0 x1 x3 x4 hB | with_reducible exact heldr_of x0 x1 x3 x4 ((((hB.setCell hbm _).setCell hbm _).setCell hbm _).setCell hbm _) | exact heldr_of x0 x1 x3 x4 ((((hB.setCell hbm _).setCell hbm _).setCell hbm _).setCell hbm _))
        clear hK K
        try simp only [Act.put, List.setIfInBounds_toArray, List.set_cons_zero, List.set_cons_succ]
        refine wpAnyH_ready (rs := [2]) (by kernel_rfl) (by simp) ?_
        refine AllReadyH.cons (o := { dst := some 7, op := Go.Op.buildSlice 36 0 #[], type := 36, pos := "net.go:158", after := #[], guard := none }) rfl (fun K hK => ?_) ?_
        · go_simp
          refine alloc_on (K := K) _ _ (fun wn hb ho => ?_)
          have hB := bstep hB hb
          (try have hcM := hcM.below hb hcM.lt)
          (try have hKR := hKR.on hb)
          (try have hKO := hKO.on hb)
          clear ho
          refine hK.out _ _ ?_ (fun hHeld => ?_)
          · (try dsimp only)
            (first | with_reducible exact heldr_of x0 x1 x3 x4 hB | with_reducible exact heldr_of x0 x1 x3 x4 ((((hB.setCell hbm _).setCell hbm _).setCell hbm _).setCell hbm _) | exact heldr_of x0 x1 x3 x4 ((((hB.setCell hbm _).setCell hbm _).setCell hbm _).setCell hbm _))
          clear hK K
          try simp only [Act.put, List.setIfInBounds_toArray, List.set_cons_zero, List.set_cons_succ]
          refine wpAnyH_ready (rs := [5]) (by kernel_rfl) (by simp) ?_
          refine AllReadyH.cons (o := { dst := some 10, op := Go.Op.call { callee := Go.Callee.builtin Go.Builtin.append, args := #[Go.Operand.tmp 7, Go.Operand.tmp 9], argTypes := #[36, 36] }, type := 36, pos := "net.go:158", after := #[{ on := 2, ground := Go.Ground.data }, { on := 4, ground := Go.Ground.data }], guard := none }) rfl (fun K hK => ?_) ?_
          · refine step_lit_regs (by rfl) _ _ (by rfl) (by rfl) d.regs ra rn rc (by rfl) (hN.regs.below hB) (by omega) ?_
            intro rb rd wn hKR0 hb
            (first | have hKR := hKR0 _ (box_lt hcM hB) | have hKR := hKR0 _ (rng_lt hB))
            have hB := bstep hB hb
            (try have hcM := hcM.below hb hcM.lt)
            clear hKR0
            refine hK.out _ _ ?_ (fun hHeld => ?_)
            · (try dsimp only)
              (first | with_reducible exact heldr_of x0 x1 x3 x4 hB | with_reducible exact heldr_of x0 x1 x3 x4 ((((hB.setCell hbm _).setCell hbm _).setCell hbm _).setCell hbm _) | exact heldr_of x0 x1 x3 x4 ((((hB.setCell hbm _).setCell hbm _).setCell hbm _).setCell hbm _))
            clear hK K
            try simp only [Act.put, List.setIfInBounds_toArray, List.set_cons_zero, List.set_cons_succ]
            refine wpAnyH_ready (rs := [9]) (by kernel_rfl) (by simp) ?_
            refine AllReadyH.cons (o := { dst := some 14, op := Go.Op.call { callee := Go.Callee.builtin Go.Builtin.append, args := #[Go.Operand.tmp 11, Go.Operand.tmp 13], argTypes := #[37, 37] }, type := 37, pos := "net.go:158", after := #[{ on := 6, ground := Go.Ground.data }, { on := 8, ground := Go.Ground.data }, { on := 5, ground := Go.Ground.chain }], guard := none }) rfl (fun K hK => ?_) ?_
            · refine step_lit_ints (by rfl) _ _ (by rfl) (by rfl) d.outs oa on oc (by rfl) (hN.outs.below hB) (by omega) ?_
              intro ob od wn hKO0 hb
              (first | have hKO := hKO0 _ (box_lt hcM hB) | have hKO := hKO0 _ (rng_lt hB))
              have hKR := hKR.on hb
              have hB := bstep hB hb
              (try have hcM := hcM.below hb hcM.lt)
              clear hKO0
              refine hK.out _ _ ?_ (fun hHeld => ?_)
              · (try dsimp only)
                (first | with_reducible exact heldr_of x0 x1 x3 x4 hB | with_reducible exact heldr_of x0 x1 x3 x4 ((((hB.setCell hbm _).setCell hbm _).setCell hbm _).setCell hbm _) | exact heldr_of x0 x1 x3 x4 ((((hB.setCell hbm _).setCell hbm _).setCell hbm _).setCell hbm _))
              clear hK K
              try simp only [Act.put, List.setIfInBounds_toArray, List.set_cons_zero, List.set_cons_succ]
              refine wpAnyH_take (i := 10) (oi := { dst := some 15, op := Go.Op.build 39 #[(0, Go.Operand.tmp 6), (2, Go.Operand.tmp 10), (3, Go.Operand.tmp 14)], type := 39, pos := "net.go:158", after := #[{ on := 1, ground := Go.Ground.data }, { on := 5, ground := Go.Ground.data }, { on := 9, ground := Go.Ground.data }], guard := none }) (v := ?_) rfl (by kernel_rfl) (by kernel_rfl) (by kernel_rfl) (fun _ _ _ h => h) (Or.inl ⟨by rfl, ?_⟩) (by assumption) ?_
              rotate_left
              · intro w hSw; (try dsimp only at hSw); go_simp; (try (with_reducible rfl))
              try simp only [Act.put, List.setIfInBounds_toArray, List.set_cons_zero, List.set_cons_succ]
              refine wpAnyH_ready (rs := [12]) (by kernel_rfl) (by simp) ?_
              refine AllReadyH.cons (o := { dst := none, op := Go.Op.store 39 (Go.Operand.tmp 3) (Go.Operand.tmp 15), type := 0, pos := "net.go:158", after := #[{ on := 11, ground := Go.Ground.data }, { on := 10, ground := Go.Ground.data }, { on := 9, ground := Go.Ground.chain }, { on := 0, ground := Go.Ground.phase }, { on := 1, ground := Go.Ground.phase }, { on := 2, ground := Go.Ground.phase }, { on := 3, ground := Go.Ground.phase }, { on := 4, ground := Go.Ground.phase }, { on := 5, ground := Go.Ground.phase }, { on := 6, ground := Go.Ground.phase }, { on := 7, ground := Go.Ground.phase }, { on := 8, ground := Go.Ground.phase }, { on := 9, ground := Go.Ground.phase }, { on := 10, ground := Go.Ground.phase }, { on := 11, ground := Go.Ground.phase }], guard := none }) rfl (fun K hK => ?_) ?_
              · have z0 := hcM.cell 0
                have z1 := hcM.cell 1
                have z2 := hcM.cell 2
                have z3 := hcM.cell 3
                have f0 := hcM.frozen 0
                have f1 := hcM.frozen 1
                have f2 := hcM.frozen 2
                have f3 := hcM.frozen 3
                have hlM := hcM.lt
                have hneM := Nat.ne_of_lt hlM
                go_simp
                refine hK.out _ _ ?_ (fun hHeld => ?_)
                · (try dsimp only)
                  (first | with_reducible exact heldr_of x0 x1 x3 x4 hB | with_reducible exact heldr_of x0 x1 x3 x4 ((((hB.setCell hbm _).setCell hbm _).setCell hbm _).setCell hbm _) | exact heldr_of x0 x1 x3 x4 ((((hB.setCell hbm _).setCell hbm _).setCell hbm _).setCell hbm _))
                clear hK K
                try simp only [Act.put, List.setIfInBounds_toArray, List.set_cons_zero, List.set_cons_succ]
                refine wpAnyH_done (by kernel_rfl) ?_ _
                go_wp2_with fail
                go_meet
                exact ⟨_, _, _, _, _, rfl, (((hcM.set 0 (.int .i64 ins0)).set 1 (.slice none 0 0)).set 2 (.slice rb rn rd)).set 3 (.slice ob on od), hKR.step (kept4 _ _ _ _) (fun _ hg => Or.inl hg), hKO.step (kept4 _ _ _ _) (fun _ hg => Or.inl hg), hbm, (((hB.setCell hbm _).setCell hbm _).setCell hbm _).setCell hbm _⟩
              exact AllReadyH.nil
            exact AllReadyH.nil
          exact AllReadyH.nil
        exact AllReadyH.nil
      exact AllReadyH.nil
    refine AllReadyH.cons (o := { dst := some 3, op := Go.Op.alloc 39, type := 0, pos := "net.go:158", after := #[], guard := none }) rfl (fun K hK => ?_) ?_
    · go_simp
      refine alloc_on (K := K) _ _ (fun wn hb ho => ?_)
      have hcM : Cells wn _ zeroN 39 := ho
      have hbm := hB.size
      (try have hKR := hKR.box hb)
      (try have hKO := hKO.box hb)
      have hB := bstep hB hb
      clear ho
      refine hK.out _ _ ?_ (fun hHeld => ?_)
      · (try dsimp only)
        (first | with_reducible exact heldr_of x0 x1 x3 x4 hB | with_reducible exact heldr_of x0 x1 x3 x4 ((((hB.setCell hbm _).setCell hbm _).setCell hbm _).setCell hbm _) | exact heldr_of x0 x1 x3 x4 ((((hB.setCell hbm _).setCell hbm _).setCell hbm _).setCell hbm _))
      clear hK K
      try simp only [Act.put, List.setIfInBounds_toArray, List.set_cons_zero, List.set_cons_succ]
      refine wpAnyH_ready (rs := [2, 6]) (by kernel_rfl) (by simp) ?_
      refine AllReadyH.cons (o := { dst := some 7, op := Go.Op.buildSlice 36 0 #[], type := 36, pos := "net.go:158", after := #[], guard := none }) rfl (fun K hK => ?_) ?_
      · go_simp
        refine alloc_on (K := K) _ _ (fun wn hb ho => ?_)
        have hB := bstep hB hb
        (try have hcM := hcM.below hb hcM.lt)
        (try have hKR := hKR.on hb)
        (try have hKO := hKO.on hb)
        clear ho
        refine hK.out _ _ ?_ (fun hHeld => ?_)
        · (try dsimp only)
          (first | with_reducible exact heldr_of x0 x1 x3 x4 hB | with_reducible exact heldr_of x0 x1 x3 x4 ((((hB.setCell hbm _).setCell hbm _).setCell hbm _).setCell hbm _) | exact heldr_of x0 x1 x3 x4 ((((hB.setCell hbm _).setCell hbm _).setCell hbm _).setCell hbm _))
        clear hK K
        try simp only [Act.put, List.setIfInBounds_toArray, List.set_cons_zero, List.set_cons_succ]
        refine wpAnyH_ready (rs := [5, 6]) (by kernel_rfl) (by simp) ?_
        refine AllReadyH.cons (o := { dst := some 10, op := Go.Op.call { callee := Go.Callee.builtin Go.Builtin.append, args := #[Go.Operand.tmp 7, Go.Operand.tmp 9], argTypes := #[36, 36] }, type := 36, pos := "net.go:158", after := #[{ on := 2, ground := Go.Ground.data }, { on := 4, ground := Go.Ground.data }], guard := none }) rfl (fun K hK => ?_) ?_
        · refine step_lit_regs (by rfl) _ _ (by rfl) (by rfl) d.regs ra rn rc (by rfl) (hN.regs.below hB) (by omega) ?_
          intro rb rd wn hKR0 hb
          (first | have hKR := hKR0 _ (box_lt hcM hB) | have hKR := hKR0 _ (rng_lt hB))
          have hB := bstep hB hb
          (try have hcM := hcM.below hb hcM.lt)
          clear hKR0
          refine hK.out _ _ ?_ (fun hHeld => ?_)
          · (try dsimp only)
            (first | with_reducible exact heldr_of x0 x1 x3 x4 hB | with_reducible exact heldr_of x0 x1 x3 x4 ((((hB.setCell hbm _).setCell hbm _).setCell hbm _).setCell hbm _) | exact heldr_of x0 x1 x3 x4 ((((hB.setCell hbm _).setCell hbm _).setCell hbm _).setCell hbm _))
          clear hK K
          try simp only [Act.put, List.setIfInBounds_toArray, List.set_cons_zero, List.set_cons_succ]
          refine wpAnyH_ready (rs := [6]) (by kernel_rfl) (by simp) ?_
          refine AllReadyH.cons (o := { dst := some 11, op := Go.Op.buildSlice 37 0 #[], type := 37, pos := "net.go:158", after := #[], guard := none }) rfl (fun K hK => ?_) ?_
          · go_simp
            refine alloc_on (K := K) _ _ (fun wn hb ho => ?_)
            have hB := bstep hB hb
            (try have hcM := hcM.below hb hcM.lt)
            (try have hKR := hKR.on hb)
            (try have hKO := hKO.on hb)
            clear ho
            refine hK.out _ _ ?_ (fun hHeld => ?_)
            · (try dsimp only)
              (first | with_reducible exact heldr_of x0 x1 x3 x4 hB | with_reducible exact heldr_of x0 x1 x3 x4 ((((hB.setCell hbm _).setCell hbm _).setCell hbm _).setCell hbm _) | exact heldr_of x0 x1 x3 x4 ((((hB.setCell hbm _).setCell hbm _).setCell hbm _).setCell hbm _))
            clear hK K
            try simp only [Act.put, List.setIfInBounds_toArray, List.set_cons_zero, List.set_cons_succ]
            refine wpAnyH_ready (rs := [9]) (by kernel_rfl) (by simp) ?_
            refine AllReadyH.cons (o := { dst := some 14, op := Go.Op.call { callee := Go.Callee.builtin Go.Builtin.append, args := #[Go.Operand.tmp 11, Go.Operand.tmp 13], argTypes := #[37, 37] }, type := 37, pos := "net.go:158", after := #[{ on := 6, ground := Go.Ground.data }, { on := 8, ground := Go.Ground.data }, { on := 5, ground := Go.Ground.chain }], guard := none }) rfl (fun K hK => ?_) ?_
            · refine step_lit_ints (by rfl) _ _ (by rfl) (by rfl) d.outs oa on oc (by rfl) (hN.outs.below hB) (by omega) ?_
              intro ob od wn hKO0 hb
              (first | have hKO := hKO0 _ (box_lt hcM hB) | have hKO := hKO0 _ (rng_lt hB))
              have hKR := hKR.on hb
              have hB := bstep hB hb
              (try have hcM := hcM.below hb hcM.lt)
              clear hKO0
              refine hK.out _ _ ?_ (fun hHeld => ?_)
              · (try dsimp only)
                (first | with_reducible exact heldr_of x0 x1 x3 x4 hB | with_reducible exact heldr_of x0 x1 x3 x4 ((((hB.setCell hbm _).setCell hbm _).setCell hbm _).setCell hbm _) | exact heldr_of x0 x1 x3 x4 ((((hB.setCell hbm _).setCell hbm _).setCell hbm _).setCell hbm _))
              clear hK K
              try simp only [Act.put, List.setIfInBounds_toArray, List.set_cons_zero, List.set_cons_succ]
              refine wpAnyH_take (i := 10) (oi := { dst := some 15, op := Go.Op.build 39 #[(0, Go.Operand.tmp 6), (2, Go.Operand.tmp 10), (3, Go.Operand.tmp 14)], type := 39, pos := "net.go:158", after := #[{ on := 1, ground := Go.Ground.data }, { on := 5, ground := Go.Ground.data }, { on := 9, ground := Go.Ground.data }], guard := none }) (v := ?_) rfl (by kernel_rfl) (by kernel_rfl) (by kernel_rfl) (fun _ _ _ h => h) (Or.inl ⟨by rfl, ?_⟩) (by assumption) ?_
              rotate_left
              · intro w hSw; (try dsimp only at hSw); go_simp; (try (with_reducible rfl))
              try simp only [Act.put, List.setIfInBounds_toArray, List.set_cons_zero, List.set_cons_succ]
              refine wpAnyH_ready (rs := [12]) (by kernel_rfl) (by simp) ?_
              refine AllReadyH.cons (o := { dst := none, op := Go.Op.store 39 (Go.Operand.tmp 3) (Go.Operand.tmp 15), type := 0, pos := "net.go:158", after := #[{ on := 11, ground := Go.Ground.data }, { on := 10, ground := Go.Ground.data }, { on := 9, ground := Go.Ground.chain }, { on := 0, ground := Go.Ground.phase }, { on := 1, ground := Go.Ground.phase }, { on := 2, ground := Go.Ground.phase }, { on := 3, ground := Go.Ground.phase }, { on := 4, ground := Go.Ground.phase }, { on := 5, ground := Go.Ground.phase }, { on := 6, ground := Go.Ground.phase }, { on := 7, ground := Go.Ground.phase }, { on := 8, ground := Go.Ground.phase }, { on := 9, ground := Go.Ground.phase }, { on := 10, ground := Go.Ground.phase }, { on := 11, ground := Go.Ground.phase }], guard := none }) rfl (fun K hK => ?_) ?_
              · have z0 := hcM.cell 0
                have z1 := hcM.cell 1
                have z2 := hcM.cell 2
                have z3 := hcM.cell 3
                have f0 := hcM.frozen 0
                have f1 := hcM.frozen 1
                have f2 := hcM.frozen 2
                have f3 := hcM.frozen 3
                have hlM := hcM.lt
                have hneM := Nat.ne_of_lt hlM
                go_simp
                refine hK.out _ _ ?_ (fun hHeld => ?_)
                · (try dsimp only)
                  (first | with_reducible exact heldr_of x0 x1 x3 x4 hB | with_reducible exact heldr_of x0 x1 x3 x4 ((((hB.setCell hbm _).setCell hbm _).setCell hbm _).setCell hbm _) | exact heldr_of x0 x1 x3 x4 ((((hB.setCell hbm _).setCell hbm _).setCell hbm _).setCell hbm _))
                clear hK K
                try simp only [Act.put, List.setIfInBounds_toArray, List.set_cons_zero, List.set_cons_succ]
                refine wpAnyH_done (by kernel_rfl) ?_ _
                go_wp2_with fail
                go_meet
                exact ⟨_, _, _, _, _, rfl, (((hcM.set 0 (.int .i64 ins0)).set 1 (.slice none 0 0)).set 2 (.slice rb rn rd)).set 3 (.slice ob on od), hKR.step (kept4 _ _ _ _) (fun _ hg => Or.inl hg), hKO.step (kept4 _ _ _ _) (fun _ hg => Or.inl hg), hbm, (((hB.setCell hbm _).setCell hbm _).setCell hbm _).setCell hbm _⟩
              exact AllReadyH.nil
            exact AllReadyH.nil
          exact AllReadyH.nil
        refine AllReadyH.cons (o := { dst := some 11, op := Go.Op.buildSlice 37 0 #[], type := 37, pos := "net.go:158", after := #[], guard := none }) rfl (fun K hK => ?_) ?_
        · go_simp
          refine alloc_on (K := K) _ _ (fun wn hb ho => ?_)
          have hB := bstep hB hb
          (try have hcM := hcM.below hb hcM.lt)
          (try have hKR := hKR.on hb)
          (try have hKO := hKO.on hb)
          clear ho
          refine hK.out _ _ ?_ (fun hHeld => ?_)
          · (try dsimp only)
            (first | with_reducible exact heldr_of x0 x1 x3 x4 hB | with_reducible exact heldr_of x0 x1 x3 x4 ((((hB.setCell hbm _).setCell hbm _).setCell hbm _).setCell hbm _) | exact heldr_of x0 x1 x3 x4 ((((hB.setCell hbm _).setCell hbm _).setCell hbm _).setCell hbm _))
          clear hK K
          try simp only [Act.put, List.setIfInBounds_toArray, List.set_cons_zero, List.set_cons_succ]
          refine wpAnyH_ready (rs := [5]) (by kernel_rfl) (by simp) ?_
          refine AllReadyH.cons (o := { dst := some 10, op := Go.Op.call { callee := Go.Callee.builtin Go.Builtin.append, args := #[Go.Operand.tmp 7, Go.Operand.tmp 9], argTypes := #[36, 36] }, type := 36, pos := "net.go:158", after := #[{ on := 2, ground := Go.Ground.data }, { on := 4, ground := Go.Ground.data }], guard := none }) rfl (fun K hK => ?_) ?_
          · refine step_lit_regs (by rfl) _ _ (by rfl) (by rfl) d.regs ra rn rc (by rfl) (hN.regs.below hB) (by omega) ?_
            intro rb rd wn hKR0 hb
            (first | have hKR := hKR0 _ (box_lt hcM hB) | have hKR := hKR0 _ (rng_lt hB))
            have hB := bstep hB hb
            (try have hcM := hcM.below hb hcM.lt)
            clear hKR0
            refine hK.out _ _ ?_ (fun hHeld => ?_)
            · (try dsimp only)
              (first | with_reducible exact heldr_of x0 x1 x3 x4 hB | with_reducible exact heldr_of x0 x1 x3 x4 ((((hB.setCell hbm _).setCell hbm _).setCell hbm _).setCell hbm _) | exact heldr_of x0 x1 x3 x4 ((((hB.setCell hbm _).setCell hbm _).setCell hbm _).setCell hbm _))
            clear hK K
            try simp only [Act.put, List.setIfInBounds_toArray, List.set_cons_zero, List.set_cons_succ]
            refine wpAnyH_ready (rs := [9]) (by kernel_rfl) (by simp) ?_
            refine AllReadyH.cons (o := { dst := some 14, op := Go.Op.call { callee := Go.Callee.builtin Go.Builtin.append, args := #[Go.Operand.tmp 11, Go.Operand.tmp 13], argTypes := #[37, 37] }, type := 37, pos := "net.go:158", after := #[{ on := 6, ground := Go.Ground.data }, { on := 8, ground := Go.Ground.data }, { on := 5, ground := Go.Ground.chain }], guard := none }) rfl (fun K hK => ?_) ?_
            · refine step_lit_ints (by rfl) _ _ (by rfl) (by rfl) d.outs oa on oc (by rfl) (hN.outs.below hB) (by omega) ?_
              intro ob od wn hKO0 hb
              (first | have hKO := hKO0 _ (box_lt hcM hB) | have hKO := hKO0 _ (rng_lt hB))
              have hKR := hKR.on hb
              have hB := bstep hB hb
              (try have hcM := hcM.below hb hcM.lt)
              clear hKO0
              refine hK.out _ _ ?_ (fun hHeld => ?_)
              · (try dsimp only)
                (first | with_reducible exact heldr_of x0 x1 x3 x4 hB | with_reducible exact heldr_of x0 x1 x3 x4 ((((hB.setCell hbm _).setCell hbm _).setCell hbm _).setCell hbm _) | exact heldr_of x0 x1 x3 x4 ((((hB.setCell hbm _).setCell hbm _).setCell hbm _).setCell hbm _))
              clear hK K
              try simp only [Act.put, List.setIfInBounds_toArray, List.set_cons_zero, List.set_cons_succ]
              refine wpAnyH_take (i := 10) (oi := { dst := some 15, op := Go.Op.build 39 #[(0, Go.Operand.tmp 6), (2, Go.Operand.tmp 10), (3, Go.Operand.tmp 14)], type := 39, pos := "net.go:158", after := #[{ on := 1, ground := Go.Ground.data }, { on := 5, ground := Go.Ground.data }, { on := 9, ground := Go.Ground.data }], guard := none }) (v := ?_) rfl (by kernel_rfl) (by kernel_rfl) (by kernel_rfl) (fun _ _ _ h => h) (Or.inl ⟨by rfl, ?_⟩) (by assumption) ?_
              rotate_left
              · intro w hSw; (try dsimp only at hSw); go_simp; (try (with_reducible rfl))
              try simp only [Act.put, List.setIfInBounds_toArray, List.set_cons_zero, List.set_cons_succ]
              refine wpAnyH_ready (rs := [12]) (by kernel_rfl) (by simp) ?_
              refine AllReadyH.cons (o := { dst := none, op := Go.Op.store 39 (Go.Operand.tmp 3) (Go.Operand.tmp 15), type := 0, pos := "net.go:158", after := #[{ on := 11, ground := Go.Ground.data }, { on := 10, ground := Go.Ground.data }, { on := 9, ground := Go.Ground.chain }, { on := 0, ground := Go.Ground.phase }, { on := 1, ground := Go.Ground.phase }, { on := 2, ground := Go.Ground.phase }, { on := 3, ground := Go.Ground.phase }, { on := 4, ground := Go.Ground.phase }, { on := 5, ground := Go.Ground.phase }, { on := 6, ground := Go.Ground.phase }, { on := 7, ground := Go.Ground.phase }, { on := 8, ground := Go.Ground.phase }, { on := 9, ground := Go.Ground.phase }, { on := 10, ground := Go.Ground.phase }, { on := 11, ground := Go.Ground.phase }], guard := none }) rfl (fun K hK => ?_) ?_
              · have z0 := hcM.cell 0
                have z1 := hcM.cell 1
                have z2 := hcM.cell 2
                have z3 := hcM.cell 3
                have f0 := hcM.frozen 0
                have f1 := hcM.frozen 1
                have f2 := hcM.frozen 2
                have f3 := hcM.frozen 3
                have hlM := hcM.lt
                have hneM := Nat.ne_of_lt hlM
                go_simp
                refine hK.out _ _ ?_ (fun hHeld => ?_)
                · (try dsimp only)
                  (first | with_reducible exact heldr_of x0 x1 x3 x4 hB | with_reducible exact heldr_of x0 x1 x3 x4 ((((hB.setCell hbm _).setCell hbm _).setCell hbm _).setCell hbm _) | exact heldr_of x0 x1 x3 x4 ((((hB.setCell hbm _).setCell hbm _).setCell hbm _).setCell hbm _))
                clear hK K
                try simp only [Act.put, List.setIfInBounds_toArray, List.set_cons_zero, List.set_cons_succ]
                refine wpAnyH_done (by kernel_rfl) ?_ _
                go_wp2_with fail
                go_meet
                exact ⟨_, _, _, _, _, rfl, (((hcM.set 0 (.int .i64 ins0)).set 1 (.slice none 0 0)).set 2 (.slice rb rn rd)).set 3 (.slice ob on od), hKR.step (kept4 _ _ _ _) (fun _ hg => Or.inl hg), hKO.step (kept4 _ _ _ _) (fun _ hg => Or.inl hg), hbm, (((hB.setCell hbm _).setCell hbm _).setCell hbm _).setCell hbm _⟩
              exact AllReadyH.nil
            exact AllReadyH.nil
          exact AllReadyH.nil
        exact AllReadyH.nil
      refine AllReadyH.cons (o := { dst := some 11, op := Go.Op.buildSlice 37 0 #[], type := 37, pos := "net.go:158", after := #[], guard := none }) rfl (fun K hK => ?_) ?_
      · go_simp
        refine alloc_on (K := K) _ _ (fun wn hb ho => ?_)
        have hB := bstep hB hb
        (try have hcM := hcM.below hb hcM.lt)
        (try have hKR := hKR.on hb)
        (try have hKO := hKO.on hb)
        clear ho
        refine hK.out _ _ ?_ (fun hHeld => ?_)
        · (try dsimp only)
          (first | with_reducible exact heldr_of x0 x1 x3 x4 hB | with_reducible exact heldr_of x0 x1 x3 x4 ((((hB.setCell hbm _).setCell hbm _).setCell hbm _).setCell hbm _) | exact heldr_of x0 x1 x3 x4 ((((hB.setCell hbm _).setCell hbm _).setCell hbm _).setCell hbm _))
        clear hK K
        try simp only [Act.put, List.setIfInBounds_toArray, List.set_cons_zero, List.set_cons_succ]
        refine wpAnyH_ready (rs := [2]) (by kernel_rfl) (by simp) ?_
        refine AllReadyH.cons (o := { dst := some 7, op := Go.Op.buildSlice 36 0 #[], type := 36, pos := "net.go:158", after := #[], guard := none }) rfl (fun K hK => ?_) ?_
        · go_simp
          refine alloc_on (K := K) _ _ (fun wn hb ho => ?_)
          have hB := bstep hB hb
          (try have hcM := hcM.below hb hcM.lt)
          (try have hKR := hKR.on hb)
          (try have hKO := hKO.on hb)
          clear ho
          refine hK.out _ _ ?_ (fun hHeld => ?_)
          · (try dsimp only)
            (first | with_reducible exact heldr_of x0 x1 x3 x4 hB | with_reducible exact heldr_of x0 x1 x3 x4 ((((hB.setCell hbm _).setCell hbm _).setCell hbm _).setCell hbm _) | exact heldr_of x0 x1 x3 x4 ((((hB.setCell hbm _).setCell hbm _).setCell hbm _).setCell hbm _))
          clear hK K
          try simp only [Act.put, List.setIfInBounds_toArray, List.set_cons_zero, List.set_cons_succ]
          refine wpAnyH_ready (rs := [5]) (by kernel_rfl) (by simp) ?_
          refine AllReadyH.cons (o := { dst := some 10, op := Go.Op.call { callee := Go.Callee.builtin Go.Builtin.append, args := #[Go.Operand.tmp 7, Go.Operand.tmp 9], argTypes := #[36, 36] }, type := 36, pos := "net.go:158", after := #[{ on := 2, ground := Go.Ground.data }, { on := 4, ground := Go.Ground.data }], guard := none }) rfl (fun K hK => ?_) ?_
          · refine step_lit_regs (by rfl) _ _ (by rfl) (by rfl) d.regs ra rn rc (by rfl) (hN.regs.below hB) (by omega) ?_
            intro rb rd wn hKR0 hb
            (first | have hKR := hKR0 _ (box_lt hcM hB) | have hKR := hKR0 _ (rng_lt hB))
            have hB := bstep hB hb
            (try have hcM := hcM.below hb hcM.lt)
            clear hKR0
            refine hK.out _ _ ?_ (fun hHeld => ?_)
            · (try dsimp only)
              (first | with_reducible exact heldr_of x0 x1 x3 x4 hB | with_reducible exact heldr_of x0 x1 x3 x4 ((((hB.setCell hbm _).setCell hbm _).setCell hbm _).setCell hbm _) | exact heldr_of x0 x1 x3 x4 ((((hB.setCell hbm _).setCell hbm _).setCell hbm _).setCell hbm _))
            clear hK K
            try simp only [Act.put, List.setIfInBounds_toArray, List.set_cons_zero, List.set_cons_succ]
            refine wpAnyH_ready (rs := [9]) (by kernel_rfl) (by simp) ?_
            refine AllReadyH.cons (o := { dst := some 14, op := Go.Op.call { callee := Go.Callee.builtin Go.Builtin.append, args := #[Go.Operand.tmp 11, Go.Operand.tmp 13], argTypes := #[37, 37] }, type := 37, pos := "net.go:158", after := #[{ on := 6, ground := Go.Ground.data }, { on := 8, ground := Go.Ground.data }, { on := 5, ground := Go.Ground.chain }], guard := none }) rfl (fun K hK => ?_) ?_
            · refine step_lit_ints (by rfl) _ _ (by rfl) (by rfl) d.outs oa on oc (by rfl) (hN.outs.below hB) (by omega) ?_
              intro ob od wn hKO0 hb
              (first | have hKO := hKO0 _ (box_lt hcM hB) | have hKO := hKO0 _ (rng_lt hB))
              have hKR := hKR.on hb
              have hB := bstep hB hb
              (try have hcM := hcM.below hb hcM.lt)
              clear hKO0
              refine hK.out _ _ ?_ (fun hHeld => ?_)
              · (try dsimp only)
                (first | with_reducible exact heldr_of x0 x1 x3 x4 hB | with_reducible exact heldr_of x0 x1 x3 x4 ((((hB.setCell hbm _).setCell hbm _).setCell hbm _).setCell hbm _) | exact heldr_of x0 x1 x3 x4 ((((hB.setCell hbm _).setCell hbm _).setCell hbm _).setCell hbm _))
              clear hK K
              try simp only [Act.put, List.setIfInBounds_toArray, List.set_cons_zero, List.set_cons_succ]
              refine wpAnyH_take (i := 10) (oi := { dst := some 15, op := Go.Op.build 39 #[(0, Go.Operand.tmp 6), (2, Go.Operand.tmp 10), (3, Go.Operand.tmp 14)], type := 39, pos := "net.go:158", after := #[{ on := 1, ground := Go.Ground.data }, { on := 5, ground := Go.Ground.data }, { on := 9, ground := Go.Ground.data }], guard := none }) (v := ?_) rfl (by kernel_rfl) (by kernel_rfl) (by kernel_rfl) (fun _ _ _ h => h) (Or.inl ⟨by rfl, ?_⟩) (by assumption) ?_
              rotate_left
              · intro w hSw; (try dsimp only at hSw); go_simp; (try (with_reducible rfl))
              try simp only [Act.put, List.setIfInBounds_toArray, List.set_cons_zero, List.set_cons_succ]
              refine wpAnyH_ready (rs := [12]) (by kernel_rfl) (by simp) ?_
              refine AllReadyH.cons (o := { dst := none, op := Go.Op.store 39 (Go.Operand.tmp 3) (Go.Operand.tmp 15), type := 0, pos := "net.go:158", after := #[{ on := 11, ground := Go.Ground.data }, { on := 10, ground := Go.Ground.data }, { on := 9, ground := Go.Ground.chain }, { on := 0, ground := Go.Ground.phase }, { on := 1, ground := Go.Ground.phase }, { on := 2, ground := Go.Ground.phase }, { on := 3, ground := Go.Ground.phase }, { on := 4, ground := Go.Ground.phase }, { on := 5, ground := Go.Ground.phase }, { on := 6, ground := Go.Ground.phase }, { on := 7, ground := Go.Ground.phase }, { on := 8, ground := Go.Ground.phase }, { on := 9, ground := Go.Ground.phase }, { on := 10, ground := Go.Ground.phase }, { on := 11, ground := Go.Ground.phase }], guard := none }) rfl (fun K hK => ?_) ?_
              · have z0 := hcM.cell 0
                have z1 := hcM.cell 1
                have z2 := hcM.cell 2
                have z3 := hcM.cell 3
                have f0 := hcM.frozen 0
                have f1 := hcM.frozen 1
                have f2 := hcM.frozen 2
                have f3 := hcM.frozen 3
                have hlM := hcM.lt
                have hneM := Nat.ne_of_lt hlM
                go_simp
                refine hK.out _ _ ?_ (fun hHeld => ?_)
                · (try dsimp only)
                  (first | with_reducible exact heldr_of x0 x1 x3 x4 hB | with_reducible exact heldr_of x0 x1 x3 x4 ((((hB.setCell hbm _).setCell hbm _).setCell hbm _).setCell hbm _) | exact heldr_of x0 x1 x3 x4 ((((hB.setCell hbm _).setCell hbm _).setCell hbm _).setCell hbm _))
                clear hK K
                try simp only [Act.put, List.setIfInBounds_toArray, List.set_cons_zero, List.set_cons_succ]
                refine wpAnyH_done (by kernel_rfl) ?_ _
                go_wp2_with fail
                go_meet
                exact ⟨_, _, _, _, _, rfl, (((hcM.set 0 (.int .i64 ins0)).set 1 (.slice none 0 0)).set 2 (.slice rb rn rd)).set 3 (.slice ob on od), hKR.step (kept4 _ _ _ _) (fun _ hg => Or.inl hg), hKO.step (kept4 _ _ _ _) (fun _ hg => Or.inl hg), hbm, (((hB.setCell hbm _).setCell hbm _).setCell hbm _).setCell hbm _⟩
              exact AllReadyH.nil
            exact AllReadyH.nil
          exact AllReadyH.nil
        exact AllReadyH.nil
      exact AllReadyH.nil
    exact AllReadyH.nil
  case rest =>
    obtain ⟨bm, rb, rd, ob, od, rfl, hcM, hKR, hKO, hbm, hB3⟩ := hcut
    obtain ⟨i0, hi, hz0, hz1, hz2⟩ := info_parts Try.infoGate
    rename World => w3
    have hx3 := hx0.below hB3
    clear x0 x1 x2 x3 x4
    obtain ⟨x0, x1, x2, x3, x4⟩ := hx3
    have hx2l := hx0.1
    go_wp2_with fail
    clear x0 x1 x2 x3 x4
    go_loopw [4] (fun iv wr => ∃ (k pn pc : Nat) (pa : Option Addr) (cs : List Value), k ≤ gn ∧ iv = .int .i64 k ∧ OInv w2 wr bm ins0 rb rn rd d.regs ob on od d.outs pa pn pc cs (d.gates.take k)) (fun iv _ => gn - (intOf iv).toNat)
    case atStart => exact ⟨0, 0, 0, none, [], Nat.zero_le _, rfl, rfl, hcM, hKR, hKO, ⟨rfl, Or.inl ⟨rfl, rfl⟩⟩, GK.nil _ _, hB3⟩
    case round =>
      clear hcM hKR hKO hB3
      obtain ⟨k, pn, pc, pa, cs, hk, rfl, hV⟩ := hrel
      have hB := hV.2.2.2.2.2.2
      by_cases hlt : k < gn
      · have hki : (k : Int) < (gn : Int) := by omega
        have hkg : k < d.gates.length := by have := HG.out; omega
        obtain ⟨b, off, aa, an, ac, rfl, hbb, c1, c2, c3, hI⟩ := hN.gates.at' hkg
        have hfew : an ≤ 16 := by have h1 := hI.1; have h2 := unhide HFW k hkg; omega
        have HTK := hide (show d.gates.take (k + 1) = d.gates.take k ++ [d.gates[k]] from List.take_succ_eq_append_getElem hkg)
        have hpn : pn ≤ 200 := by have h1 := hV.1; have h2 := List.length_take_le k d.gates; omega
        have hS : ∀ W, Below w2.heap.size w2 W → (Below w2.heap.size w2 W ∧ W.cell? ⟨w.heap.size, 1, none⟩ = some (.slice (some ⟨b, off, none⟩) gn gc) ∧ W.cell? ⟨b, off + k * 3, none⟩ = some (.int .i64 d.gates[k].kind) ∧ W.cell? ⟨b, off + k * 3 + 1, none⟩ = some (.int .i64 d.gates[k].n) ∧ W.cell? ⟨b, off + k * 3 + 2, none⟩ = some (.slice aa an ac)) := fun W hW => by
          obtain ⟨_, _, y2, _, _⟩ := hx0.below hW
          exact ⟨hW, y2, (hW.cell (p := ⟨b, off + k * 3, none⟩) hbb).trans c1, (hW.cell (p := ⟨b, off + k * 3 + 1, none⟩) hbb).trans c2, (hW.cell (p := ⟨b, off + k * 3 + 2, none⟩) hbb).trans c3⟩
        obtain ⟨_, y2, _, _, _⟩ := hS wr hB
        clear c1 c2 c3
        go_upto_region 5 with fail
        clear y2
        have hB := hB.drew
        have hV := hV.on (Below.refl _ _).drew
        refine wp_region_held_drew (S := fun W => Below w2.heap.size w2 W ∧ W.cell? ⟨w.heap.size, 1, none⟩ = some (.slice (some ⟨b, off, none⟩) gn gc) ∧ W.cell? ⟨b, off + k * 3, none⟩ = some (.int .i64 d.gates[k].kind) ∧ W.cell? ⟨b, off + k * 3 + 1, none⟩ = some (.int .i64 d.gates[k].n) ∧ W.cell? ⟨b, off + k * 3 + 2, none⟩ = some (.slice aa an ac)) (by kernel_rfl) ?_ (fun hHeld => ?_)
        · exact hS _ hB
        generalize wr.drew = wd at hB hV hHeld ⊢
        refine wpAnyH_take (i := 0) (oi := { dst := some 23, op := Go.Op.fieldAddr 39 (Go.Operand.tmp 3) 1, type := 0, pos := "net.go:160", after := #[], guard := none }) (v := ?_) rfl (by kernel_rfl) (by kernel_rfl) (by kernel_rfl) (fun _ _ _ h => h) (Or.inl ⟨by rfl, ?_⟩) (by assumption) ?_
        rotate_left
        · intro w hSw; (try dsimp only at hSw); go_simp; (try (with_reducible rfl))
        try simp only [Act.put, List.setIfInBounds_toArray, List.set_cons_zero, List.set_cons_succ]
        refine wpAnyH_take (i := 2) (oi := { dst := some 25, op := Go.Op.fieldAddr 39 (Go.Operand.tmp 1) 1, type := 0, pos := "net.go:160", after := #[], guard := none }) (v := ?_) rfl (by kernel_rfl) (by kernel_rfl) (by kernel_rfl) (fun _ _ _ h => h) (Or.inl ⟨by rfl, ?_⟩) (by assumption) ?_
        rotate_left
        · intro w hSw; (try dsimp only at hSw); go_simp; (try (with_reducible rfl))
        try simp only [Act.put, List.setIfInBounds_toArray, List.set_cons_zero, List.set_cons_succ]
        refine wpAnyH_take (i := 3) (oi := { dst := some 26, op := Go.Op.load 35 (Go.Operand.tmp 25), type := 35, pos := "net.go:160", after := #[{ on := 2, ground := Go.Ground.data }], guard := none }) (v := ?_) rfl (by kernel_rfl) (by kernel_rfl) (by kernel_rfl) (fun _ _ _ h => h) (Or.inl ⟨by rfl, ?_⟩) (by assumption) ?_
        rotate_left
        · intro w hSw; (try dsimp only at hSw); go_simp; (try (with_reducible rfl))
        try simp only [Act.put, List.setIfInBounds_toArray, List.set_cons_zero, List.set_cons_succ]
        refine wpAnyH_take (i := 4) (oi := { dst := some 27, op := Go.Op.move (Go.Operand.tmp 4), type := 3, pos := "net.go:160", after := #[], guard := none }) (v := ?_) rfl (by kernel_rfl) (by kernel_rfl) (by kernel_rfl) (fun _ _ _ h => h) (Or.inl ⟨by rfl, ?_⟩) (by assumption) ?_
        rotate_left
        · intro w hSw; (try dsimp only at hSw); go_simp; (try (with_reducible rfl))
        try simp only [Act.put, List.setIfInBounds_toArray, List.set_cons_zero, List.set_cons_succ]
        refine wpAnyH_take (i := 5) (oi := { dst := some 28, op := Go.Op.indexAddr 35 (Go.Operand.tmp 26) (Go.Operand.tmp 27), type := 0, pos := "net.go:160", after := #[{ on := 3, ground := Go.Ground.data }, { on := 4, ground := Go.Ground.data }], guard := none }) (v := ?_) rfl (by kernel_rfl) (by kernel_rfl) (by kernel_rfl) (fun _ _ _ h => h) (Or.inl ⟨by rfl, ?_⟩) (by assumption) ?_
        rotate_left
        · intro w hSw; (try dsimp only at hSw); go_simp; (try (with_reducible rfl))
        try simp only [Act.put, List.setIfInBounds_toArray, List.set_cons_zero, List.set_cons_succ]
        refine wpAnyH_take (i := 6) (oi := { dst := some 29, op := Go.Op.fieldAddr 46 (Go.Operand.tmp 28) 0, type := 0, pos := "net.go:160", after := #[{ on := 5, ground := Go.Ground.data }], guard := none }) (v := ?_) rfl (by kernel_rfl) (by kernel_rfl) (by kernel_rfl) (fun _ _ _ h => h) (Or.inl ⟨by rfl, ?_⟩) (by assumption) ?_
        rotate_left
        · intro w hSw; (try dsimp only at hSw); go_simp; (try (with_reducible rfl))
        try simp only [Act.put, List.setIfInBounds_toArray, List.set_cons_zero, List.set_cons_succ]
        refine wpAnyH_take (i := 7) (oi := { dst := some 30, op := Go.Op.load 3 (Go.Operand.tmp 29), type := 3, pos := "net.go:160", after := #[{ on := 6, ground := Go.Ground.data }], guard := none }) (v := ?_) rfl (by kernel_rfl) (by kernel_rfl) (by kernel_rfl) (fun _ _ _ h => h) (Or.inl ⟨by rfl, ?_⟩) (by assumption) ?_
        rotate_left
        · intro w hSw; (try dsimp only at hSw); go_simp; (try (with_reducible rfl))
        try simp only [Act.put, List.setIfInBounds_toArray, List.set_cons_zero, List.set_cons_succ]
        refine wpAnyH_take (i := 8) (oi := { dst := some 31, op := Go.Op.fieldAddr 39 (Go.Operand.tmp 1) 1, type := 0, pos := "net.go:160", after := #[], guard := none }) (v := ?_) rfl (by kernel_rfl) (by kernel_rfl) (by kernel_rfl) (fun _ _ _ h => h) (Or.inl ⟨by rfl, ?_⟩) (by assumption) ?_
        rotate_left
        · intro w hSw; (try dsimp only at hSw); go_simp; (try (with_reducible rfl))
        try simp only [Act.put, List.setIfInBounds_toArray, List.set_cons_zero, List.set_cons_succ]
        refine wpAnyH_take (i := 9) (oi := { dst := some 32, op := Go.Op.load 35 (Go.Operand.tmp 31), type := 35, pos := "net.go:160", after := #[{ on := 8, ground := Go.Ground.data }], guard := none }) (v := ?_) rfl (by kernel_rfl) (by kernel_rfl) (by kernel_rfl) (fun _ _ _ h => h) (Or.inl ⟨by rfl, ?_⟩) (by assumption) ?_
        rotate_left
        · intro w hSw; (try dsimp only at hSw); go_simp; (try (with_reducible rfl))
        try simp only [Act.put, List.setIfInBounds_toArray, List.set_cons_zero, List.set_cons_succ]
        refine wpAnyH_take (i := 10) (oi := { dst := some 33, op := Go.Op.move (Go.Operand.tmp 4), type := 3, pos := "net.go:160", after := #[], guard := none }) (v := ?_) rfl (by kernel_rfl) (by kernel_rfl) (by kernel_rfl) (fun _ _ _ h => h) (Or.inl ⟨by rfl, ?_⟩) (by assumption) ?_
        rotate_left
        · intro w hSw; (try dsimp only at hSw); go_simp; (try (with_reducible rfl))
        try simp only [Act.put, List.setIfInBounds_toArray, List.set_cons_zero, List.set_cons_succ]
        refine wpAnyH_take (i := 11) (oi := { dst := some 34, op := Go.Op.indexAddr 35 (Go.Operand.tmp 32) (Go.Operand.tmp 33), type := 0, pos := "net.go:160", after := #[{ on := 9, ground := Go.Ground.data }, { on := 10, ground := Go.Ground.data }], guard := none }) (v := ?_) rfl (by kernel_rfl) (by kernel_rfl) (by kernel_rfl) (fun _ _ _ h => h) (Or.inl ⟨by rfl, ?_⟩) (by assumption) ?_
        rotate_left
        · intro w hSw; (try dsimp only at hSw); go_simp; (try (with_reducible rfl))
        try simp only [Act.put, List.setIfInBounds_toArray, List.set_cons_zero, List.set_cons_succ]
        refine wpAnyH_take (i := 12) (oi := { dst := some 35, op := Go.Op.fieldAddr 46 (Go.Operand.tmp 34) 1, type := 0, pos := "net.go:160", after := #[{ on := 11, ground := Go.Ground.data }], guard := none }) (v := ?_) rfl (by kernel_rfl) (by kernel_rfl) (by kernel_rfl) (fun _ _ _ h => h) (Or.inl ⟨by rfl, ?_⟩) (by assumption) ?_
        rotate_left
        · intro w hSw; (try dsimp only at hSw); go_simp; (try (with_reducible rfl))
        try simp only [Act.put, List.setIfInBounds_toArray, List.set_cons_zero, List.set_cons_succ]
        refine wpAnyH_take (i := 13) (oi := { dst := some 36, op := Go.Op.load 3 (Go.Operand.tmp 35), type := 3, pos := "net.go:160", after := #[{ on := 12, ground := Go.Ground.data }], guard := none }) (v := ?_) rfl (by kernel_rfl) (by kernel_rfl) (by kernel_rfl) (fun _ _ _ h => h) (Or.inl ⟨by rfl, ?_⟩) (by assumption) ?_
        rotate_left
        · intro w hSw; (try dsimp only at hSw); go_simp; (try (with_reducible rfl))
        try simp only [Act.put, List.setIfInBounds_toArray, List.set_cons_zero, List.set_cons_succ]
        refine wpAnyH_take (i := 15) (oi := { dst := some 38, op := Go.Op.fieldAddr 39 (Go.Operand.tmp 1) 1, type := 0, pos := "net.go:160", after := #[], guard := none }) (v := ?_) rfl (by kernel_rfl) (by kernel_rfl) (by kernel_rfl) (fun _ _ _ h => h) (Or.inl ⟨by rfl, ?_⟩) (by assumption) ?_
        rotate_left
        · intro w hSw; (try dsimp only at hSw); go_simp; (try (with_reducible rfl))
        try simp only [Act.put, List.setIfInBounds_toArray, List.set_cons_zero, List.set_cons_succ]
        refine wpAnyH_take (i := 16) (oi := { dst := some 39, op := Go.Op.load 35 (Go.Operand.tmp 38), type := 35, pos := "net.go:160", after := #[{ on := 15, ground := Go.Ground.data }], guard := none }) (v := ?_) rfl (by kernel_rfl) (by kernel_rfl) (by kernel_rfl) (fun _ _ _ h => h) (Or.inl ⟨by rfl, ?_⟩) (by assumption) ?_
        rotate_left
        · intro w hSw; (try dsimp only at hSw); go_simp; (try (with_reducible rfl))
        try simp only [Act.put, List.setIfInBounds_toArray, List.set_cons_zero, List.set_cons_succ]
        refine wpAnyH_take (i := 17) (oi := { dst := some 40, op := Go.Op.move (Go.Operand.tmp 4), type := 3, pos := "net.go:160", after := #[], guard := none }) (v := ?_) rfl (by kernel_rfl) (by kernel_rfl) (by kernel_rfl) (fun _ _ _ h => h) (Or.inl ⟨by rfl, ?_⟩) (by assumption) ?_
        rotate_left
        · intro w hSw; (try dsimp only at hSw); go_simp; (try (with_reducible rfl))
        try simp only [Act.put, List.setIfInBounds_toArray, List.set_cons_zero, List.set_cons_succ]
        refine wpAnyH_take (i := 18) (oi := { dst := some 41, op := Go.Op.indexAddr 35 (Go.Operand.tmp 39) (Go.Operand.tmp 40), type := 0, pos := "net.go:160", after := #[{ on := 16, ground := Go.Ground.data }, { on := 17, ground := Go.Ground.data }], guard := none }) (v := ?_) rfl (by kernel_rfl) (by kernel_rfl) (by kernel_rfl) (fun _ _ _ h => h) (Or.inl ⟨by rfl, ?_⟩) (by assumption) ?_
        rotate_left
        · intro w hSw; (try dsimp only at hSw); go_simp; (try (with_reducible rfl))
        try simp only [Act.put, List.setIfInBounds_toArray, List.set_cons_zero, List.set_cons_succ]
        refine wpAnyH_take (i := 19) (oi := { dst := some 42, op := Go.Op.fieldAddr 46 (Go.Operand.tmp 41) 2, type := 0, pos := "net.go:160", after := #[{ on := 18, ground := Go.Ground.data }], guard := none }) (v := ?_) rfl (by kernel_rfl) (by kernel_rfl) (by kernel_rfl) (fun _ _ _ h => h) (Or.inl ⟨by rfl, ?_⟩) (by assumption) ?_
        rotate_left
        · intro w hSw; (try dsimp only at hSw); go_simp; (try (with_reducible rfl))
        try simp only [Act.put, List.setIfInBounds_toArray, List.set_cons_zero, List.set_cons_succ]
        refine wpAnyH_take (i := 20) (oi := { dst := some 43, op := Go.Op.load 37 (Go.Operand.tmp 42), type := 37, pos := "net.go:160", after := #[{ on := 19, ground := Go.Ground.data }], guard := none }) (v := ?_) rfl (by kernel_rfl) (by kernel_rfl) (by kernel_rfl) (fun _ _ _ h => h) (Or.inl ⟨by rfl, ?_⟩) (by assumption) ?_
        rotate_left
        · intro w hSw; (try dsimp only at hSw); go_simp; (try (with_reducible rfl))
        try simp only [Act.put, List.setIfInBounds_toArray, List.set_cons_zero, List.set_cons_succ]
        refine wpAnyH_ready (rs := [1, 14]) (by kernel_rfl) (by simp) ?_
        refine AllReadyH.cons (o := { dst := some 24, op := Go.Op.load 35 (Go.Operand.tmp 23), type := 35, pos := "net.go:160", after := #[{ on := 0, ground := Go.Ground.data }], guard := none }) rfl (fun K hK => ?_) ?_
        · have d1 := hV.2.1.cell 1
          go_simp
          refine hK.out _ _ ?_ (fun hHeld => ?_)
          · (try dsimp only)
            (first | with_reducible exact hS _ hB | with_reducible exact hS _ (hB.setCell hbm _) | exact hS _ (hB.setCell hbm _))
          clear hK K
          try simp only [Act.put, List.setIfInBounds_toArray, List.set_cons_zero, List.set_cons_succ]
          refine wpAnyH_ready (rs := [14]) (by kernel_rfl) (by simp) ?_
          refine AllReadyH.cons (o := { dst := some 37, op := Go.Op.buildSlice 37 0 #[], type := 37, pos := "net.go:160", after := #[], guard := none }) rfl (fun K hK => ?_) ?_
          · go_simp
            refine alloc_on (K := K) _ _ (fun wn hb ho => ?_)
            have hB := bstep hB hb
            have hV := hV.on hb
            clear ho
            refine hK.out _ _ ?_ (fun hHeld => ?_)
            · (try dsimp only)
              (first | with_reducible exact hS _ hB | with_reducible exact hS _ (hB.setCell hbm _) | exact hS _ (hB.setCell hbm _))
            clear hK K
            try simp only [Act.put, List.setIfInBounds_toArray, List.set_cons_zero, List.set_cons_succ]
            refine wpAnyH_ready (rs := [21]) (by kernel_rfl) (by simp) ?_
            refine AllReadyH.cons (o := { dst := some 44, op := Go.Op.call { callee := Go.Callee.builtin Go.Builtin.append, args := #[Go.Operand.tmp 37, Go.Operand.tmp 43], argTypes := #[37, 37] }, type := 37, pos := "net.go:160", after := #[{ on := 14, ground := Go.Ground.data }, { on := 20, ground := Go.Ground.data }], guard := none }) rfl (fun K hK => ?_) ?_
            · refine step_lit_ints (by rfl) _ _ (by rfl) (by rfl) d.gates[k].args aa an ac (by rfl) (hI.below hB) (by omega) ?_
              intro aA cA wn hKA0 hb
              have hKA := hKA0 _ hV.lt
              have hB := bstep hB hb
              have hV := hV.on hb
              clear hKA0
              refine hK.out _ _ ?_ (fun hHeld => ?_)
              · (try dsimp only)
                (first | with_reducible exact hS _ hB | with_reducible exact hS _ (hB.setCell hbm _) | exact hS _ (hB.setCell hbm _))
              clear hK K
              try simp only [Act.put, List.setIfInBounds_toArray, List.set_cons_zero, List.set_cons_succ]
              refine wpAnyH_take (i := 22) (oi := { dst := some 45, op := Go.Op.build 46 #[(0, Go.Operand.tmp 30), (1, Go.Operand.tmp 36), (2, Go.Operand.tmp 44)], type := 46, pos := "net.go:160", after := #[{ on := 7, ground := Go.Ground.data }, { on := 13, ground := Go.Ground.data }, { on := 21, ground := Go.Ground.data }], guard := none }) (v := ?_) rfl (by kernel_rfl) (by kernel_rfl) (by kernel_rfl) (fun _ _ _ h => h) (Or.inl ⟨by rfl, ?_⟩) (by assumption) ?_
              rotate_left
              · intro w hSw; (try dsimp only at hSw); go_simp; (try (with_reducible rfl))
              try simp only [Act.put, List.setIfInBounds_toArray, List.set_cons_zero, List.set_cons_succ]
              refine wpAnyH_ready (rs := [23]) (by kernel_rfl) (by simp) ?_
              refine AllReadyH.cons (o := { dst := some 46, op := Go.Op.buildSlice 35 1 #[(0, Go.Operand.tmp 45)], type := 35, pos := "net.go:160", after := #[{ on := 22, ground := Go.Ground.data }], guard := none }) rfl (fun K hK => ?_) ?_
              · go_simp
                refine alloc_on (K := K) _ _ (fun wn hb ho => ?_)
                have hB := bstep hB hb
                have hV := hV.on hb
                have hKA := hKA.on hb
                refine hK.out _ _ ?_ (fun hHeld => ?_)
                · (try dsimp only)
                  (first | with_reducible exact hS _ hB | with_reducible exact hS _ (hB.setCell hbm _) | exact hS _ (hB.setCell hbm _))
                clear hK K
                try simp only [Act.put, List.setIfInBounds_toArray, List.set_cons_zero, List.set_cons_succ]
                refine wpAnyH_ready (rs := [24]) (by kernel_rfl) (by simp) ?_
                refine AllReadyH.cons (o := { dst := some 47, op := Go.Op.call { callee := Go.Callee.builtin Go.Builtin.append, args := #[Go.Operand.tmp 24, Go.Operand.tmp 46], argTypes := #[35, 35] }, type := 35, pos := "net.go:160", after := #[{ on := 1, ground := Go.Ground.data }, { on := 23, ground := Go.Ground.data }, { on := 21, ground := Go.Ground.chain }], guard := none }) rfl (fun K hK => ?_) ?_
                · refine step_append_lies _ (by rfl) _ _ 35 (by rfl) w2.heap.size 46 i0 (.agg #[.int .i64 0, .int .i64 0, .slice none 0 0]) 3 40 Try.underlying35 hi hz0 hz1 hz2 rfl (by decide) (.slice pa pn pc) pn cs (by rfl) hV.2.2.2.2.1 _ 1 1 [.int .i64 d.gates[k].kind, .int .i64 d.gates[k].n, .slice aA an cA] (by rfl) (by rfl) (World.news_of_block (cs := #[.int .i64 d.gates[k].kind, .int .i64 d.gates[k].n, .slice aA an cA]) (t := 46) (fr := (0, 0)) ho) (by simp [Value.oneCell']) (by omega) (by unfold maxLen; omega) (by omega) hB.size _ rfl ?_
                  intro g8 cap8 w8 hown8 hgr8 hat8 hlt8
                  have hB6 := hB
                  have hB := (hV.cells8 hgr8).2
                  have hc8 := (hV.cells8 hgr8).1
                  have d8 := hc8.cell 1
                  have f8 := hc8.frozen 1
                  refine hK.out _ _ ?_ (fun hHeld => ?_)
                  · (try dsimp only)
                    (first | with_reducible exact hS _ hB | with_reducible exact hS _ (hB.setCell hbm _) | exact hS _ (hB.setCell hbm _))
                  clear hK K
                  try simp only [Act.put, List.setIfInBounds_toArray, List.set_cons_zero, List.set_cons_succ]
                  refine wpAnyH_take (i := 25) (oi := { dst := some 48, op := Go.Op.fieldAddr 39 (Go.Operand.tmp 3) 1, type := 0, pos := "net.go:160", after := #[{ on := 0, ground := Go.Ground.phase }, { on := 1, ground := Go.Ground.phase }, { on := 2, ground := Go.Ground.phase }, { on := 3, ground := Go.Ground.phase }, { on := 4, ground := Go.Ground.phase }, { on := 5, ground := Go.Ground.phase }, { on := 6, ground := Go.Ground.phase }, { on := 7, ground := Go.Ground.phase }, { on := 8, ground := Go.Ground.phase }, { on := 9, ground := Go.Ground.phase }, { on := 10, ground := Go.Ground.phase }, { on := 11, ground := Go.Ground.phase }, { on := 12, ground := Go.Ground.phase }, { on := 13, ground := Go.Ground.phase }, { on := 14, ground := Go.Ground.phase }, { on := 15, ground := Go.Ground.phase }, { on := 16, ground := Go.Ground.phase }, { on := 17, ground := Go.Ground.phase }, { on := 18, ground := Go.Ground.phase }, { on := 19, ground := Go.Ground.phase }, { on := 20, ground := Go.Ground.phase }, { on := 21, ground := Go.Ground.phase }, { on := 22, ground := Go.Ground.phase }, { on := 23, ground := Go.Ground.phase }, { on := 24, ground := Go.Ground.phase }], guard := none }) (v := ?_) rfl (by kernel_rfl) (by kernel_rfl) (by kernel_rfl) (fun _ _ _ h => h) (Or.inl ⟨by rfl, ?_⟩) (by assumption) ?_
                  rotate_left
                  · intro w hSw; (try dsimp only at hSw); go_simp; (try (with_reducible rfl))
                  try simp only [Act.put, List.setIfInBounds_toArray, List.set_cons_zero, List.set_cons_succ]
                  refine wpAnyH_ready (rs := [26]) (by kernel_rfl) (by simp) ?_
                  refine AllReadyH.cons (o := { dst := none, op := Go.Op.store 35 (Go.Operand.tmp 48) (Go.Operand.tmp 47), type := 0, pos := "net.go:160", after := #[{ on := 25, ground := Go.Ground.data }, { on := 24, ground := Go.Ground.data }, { on := 24, ground := Go.Ground.chain }, { on := 0, ground := Go.Ground.phase }, { on := 1, ground := Go.Ground.phase }, { on := 2, ground := Go.Ground.phase }, { on := 3, ground := Go.Ground.phase }, { on := 4, ground := Go.Ground.phase }, { on := 5, ground := Go.Ground.phase }, { on := 6, ground := Go.Ground.phase }, { on := 7, ground := Go.Ground.phase }, { on := 8, ground := Go.Ground.phase }, { on := 9, ground := Go.Ground.phase }, { on := 10, ground := Go.Ground.phase }, { on := 11, ground := Go.Ground.phase }, { on := 12, ground := Go.Ground.phase }, { on := 13, ground := Go.Ground.phase }, { on := 14, ground := Go.Ground.phase }, { on := 15, ground := Go.Ground.phase }, { on := 16, ground := Go.Ground.phase }, { on := 17, ground := Go.Ground.phase }, { on := 18, ground := Go.Ground.phase }, { on := 19, ground := Go.Ground.phase }, { on := 20, ground := Go.Ground.phase }, { on := 21, ground := Go.Ground.phase }, { on := 22, ground := Go.Ground.phase }, { on := 23, ground := Go.Ground.phase }, { on := 24, ground := Go.Ground.phase }], guard := none }) rfl (fun K hK => ?_) ?_
                  · go_simp
                    refine hK.out _ _ ?_ (fun hHeld => ?_)
                    · (try dsimp only)
                      (first | with_reducible exact hS _ hB | with_reducible exact hS _ (hB.setCell hbm _) | exact hS _ (hB.setCell hbm _))
                    clear hK K
                    try simp only [Act.put, List.setIfInBounds_toArray, List.set_cons_zero, List.set_cons_succ]
                    refine wpAnyH_done (by kernel_rfl) ?_ _
                    have R := hide (hV.more d.gates[k] hKA hown8 hgr8 hat8 hbm)
                    rw [← unhide HTK] at R
                    clear hV hKA hown8 hgr8 hat8 hc8 d8 f8 hB hB6
                    go_wp2_with fail
                    exact ⟨⟨k + 1, _, _, _, _, by omega, by go_num, unhide R⟩, by simp [intOf]; omega⟩
                  exact AllReadyH.nil
                exact AllReadyH.nil
              exact AllReadyH.nil
            exact AllReadyH.nil
          exact AllReadyH.nil
        refine AllReadyH.cons (o := { dst := some 37, op := Go.Op.buildSlice 37 0 #[], type := 37, pos := "net.go:160", after := #[], guard := none }) rfl (fun K hK => ?_) ?_
        · go_simp
          refine alloc_on (K := K) _ _ (fun wn hb ho => ?_)
          have hB := bstep hB hb
          have hV := hV.on hb
          clear ho
          refine hK.out _ _ ?_ (fun hHeld => ?_)
          · (try dsimp only)
            (first | with_reducible exact hS _ hB | with_reducible exact hS _ (hB.setCell hbm _) | exact hS _ (hB.setCell hbm _))
          clear hK K
          try simp only [Act.put, List.setIfInBounds_toArray, List.set_cons_zero, List.set_cons_succ]
          refine wpAnyH_ready (rs := [1, 21]) (by kernel_rfl) (by simp) ?_
          refine AllReadyH.cons (o := { dst := some 24, op := Go.Op.load 35 (Go.Operand.tmp 23), type := 35, pos := "net.go:160", after := #[{ on := 0, ground := Go.Ground.data }], guard := none }) rfl (fun K hK => ?_) ?_
          · have d1 := hV.2.1.cell 1
            go_simp
            refine hK.out _ _ ?_ (fun hHeld => ?_)
            · (try dsimp only)
              (first | with_reducible exact hS _ hB | with_reducible exact hS _ (hB.setCell hbm _) | exact hS _ (hB.setCell hbm _))
            clear hK K
            try simp only [Act.put, List.setIfInBounds_toArray, List.set_cons_zero, List.set_cons_succ]
            refine wpAnyH_ready (rs := [21]) (by kernel_rfl) (by simp) ?_
            refine AllReadyH.cons (o := { dst := some 44, op := Go.Op.call { callee := Go.Callee.builtin Go.Builtin.append, args := #[Go.Operand.tmp 37, Go.Operand.tmp 43], argTypes := #[37, 37] }, type := 37, pos := "net.go:160", after := #[{ on := 14, ground := Go.Ground.data }, { on := 20, ground := Go.Ground.data }], guard := none }) rfl (fun K hK => ?_) ?_
            · refine step_lit_ints (by rfl) _ _ (by rfl) (by rfl) d.gates[k].args aa an ac (by rfl) (hI.below hB) (by omega) ?_
              intro aA cA wn hKA0 hb
              have hKA := hKA0 _ hV.lt
              have hB := bstep hB hb
              have hV := hV.on hb
              clear hKA0
              refine hK.out _ _ ?_ (fun hHeld => ?_)
              · (try dsimp only)
                (first | with_reducible exact hS _ hB | with_reducible exact hS _ (hB.setCell hbm _) | exact hS _ (hB.setCell hbm _))
              clear hK K
              try simp only [Act.put, List.setIfInBounds_toArray, List.set_cons_zero, List.set_cons_succ]
              refine wpAnyH_take (i := 22) (oi := { dst := some 45, op := Go.Op.build 46 #[(0, Go.Operand.tmp 30), (1, Go.Operand.tmp 36), (2, Go.Operand.tmp 44)], type := 46, pos := "net.go:160", after := #[{ on := 7, ground := Go.Ground.data }, { on := 13, ground := Go.Ground.data }, { on := 21, ground := Go.Ground.data }], guard := none }) (v := ?_) rfl (by kernel_rfl) (by kernel_rfl) (by kernel_rfl) (fun _ _ _ h => h) (Or.inl ⟨by rfl, ?_⟩) (by assumption) ?_
              rotate_left
              · intro w hSw; (try dsimp only at hSw); go_simp; (try (with_reducible rfl))
              try simp only [Act.put, List.setIfInBounds_toArray, List.set_cons_zero, List.set_cons_succ]
              refine wpAnyH_ready (rs := [23]) (by kernel_rfl) (by simp) ?_
              refine AllReadyH.cons (o := { dst := some 46, op := Go.Op.buildSlice 35 1 #[(0, Go.Operand.tmp 45)], type := 35, pos := "net.go:160", after := #[{ on := 22, ground := Go.Ground.data }], guard := none }) rfl (fun K hK => ?_) ?_
              · go_simp
                refine alloc_on (K := K) _ _ (fun wn hb ho => ?_)
                have hB := bstep hB hb
                have hV := hV.on hb
                have hKA := hKA.on hb
                refine hK.out _ _ ?_ (fun hHeld => ?_)
                · (try dsimp only)
                  (first | with_reducible exact hS _ hB | with_reducible exact hS _ (hB.setCell hbm _) | exact hS _ (hB.setCell hbm _))
                clear hK K
                try simp only [Act.put, List.setIfInBounds_toArray, List.set_cons_zero, List.set_cons_succ]
                refine wpAnyH_ready (rs := [24]) (by kernel_rfl) (by simp) ?_
                refine AllReadyH.cons (o := { dst := some 47, op := Go.Op.call { callee := Go.Callee.builtin Go.Builtin.append, args := #[Go.Operand.tmp 24, Go.Operand.tmp 46], argTypes := #[35, 35] }, type := 35, pos := "net.go:160", after := #[{ on := 1, ground := Go.Ground.data }, { on := 23, ground := Go.Ground.data }, { on := 21, ground := Go.Ground.chain }], guard := none }) rfl (fun K hK => ?_) ?_
                · refine step_append_lies _ (by rfl) _ _ 35 (by rfl) w2.heap.size 46 i0 (.agg #[.int .i64 0, .int .i64 0, .slice none 0 0]) 3 40 Try.underlying35 hi hz0 hz1 hz2 rfl (by decide) (.slice pa pn pc) pn cs (by rfl) hV.2.2.2.2.1 _ 1 1 [.int .i64 d.gates[k].kind, .int .i64 d.gates[k].n, .slice aA an cA] (by rfl) (by rfl) (World.news_of_block (cs := #[.int .i64 d.gates[k].kind, .int .i64 d.gates[k].n, .slice aA an cA]) (t := 46) (fr := (0, 0)) ho) (by simp [Value.oneCell']) (by omega) (by unfold maxLen; omega) (by omega) hB.size _ rfl ?_
                  intro g8 cap8 w8 hown8 hgr8 hat8 hlt8
                  have hB6 := hB
                  have hB := (hV.cells8 hgr8).2
                  have hc8 := (hV.cells8 hgr8).1
                  have d8 := hc8.cell 1
                  have f8 := hc8.frozen 1
                  refine hK.out _ _ ?_ (fun hHeld => ?_)
                  · (try dsimp only)
                    (first | with_reducible exact hS _ hB | with_reducible exact hS _ (hB.setCell hbm _) | exact hS _ (hB.setCell hbm _))
                  clear hK K
                  try simp only [Act.put, List.setIfInBounds_toArray, List.set_cons_zero, List.set_cons_succ]
                  refine wpAnyH_take (i := 25) (oi := { dst := some 48, op := Go.Op.fieldAddr 39 (Go.Operand.tmp 3) 1, type := 0, pos := "net.go:160", after := #[{ on := 0, ground := Go.Ground.phase }, { on := 1, ground := Go.Ground.phase }, { on := 2, ground := Go.Ground.phase }, { on := 3, ground := Go.Ground.phase }, { on := 4, ground := Go.Ground.phase }, { on := 5, ground := Go.Ground.phase }, { on := 6, ground := Go.Ground.phase }, { on := 7, ground := Go.Ground.phase }, { on := 8, ground := Go.Ground.phase }, { on := 9, ground := Go.Ground.phase }, { on := 10, ground := Go.Ground.phase }, { on := 11, ground := Go.Ground.phase }, { on := 12, ground := Go.Ground.phase }, { on := 13, ground := Go.Ground.phase }, { on := 14, ground := Go.Ground.phase }, { on := 15, ground := Go.Ground.phase }, { on := 16, ground := Go.Ground.phase }, { on := 17, ground := Go.Ground.phase }, { on := 18, ground := Go.Ground.phase }, { on := 19, ground := Go.Ground.phase }, { on := 20, ground := Go.Ground.phase }, { on := 21, ground := Go.Ground.phase }, { on := 22, ground := Go.Ground.phase }, { on := 23, ground := Go.Ground.phase }, { on := 24, ground := Go.Ground.phase }], guard := none }) (v := ?_) rfl (by kernel_rfl) (by kernel_rfl) (by kernel_rfl) (fun _ _ _ h => h) (Or.inl ⟨by rfl, ?_⟩) (by assumption) ?_
                  rotate_left
                  · intro w hSw; (try dsimp only at hSw); go_simp; (try (with_reducible rfl))
                  try simp only [Act.put, List.setIfInBounds_toArray, List.set_cons_zero, List.set_cons_succ]
                  refine wpAnyH_ready (rs := [26]) (by kernel_rfl) (by simp) ?_
                  refine AllReadyH.cons (o := { dst := none, op := Go.Op.store 35 (Go.Operand.tmp 48) (Go.Operand.tmp 47), type := 0, pos := "net.go:160", after := #[{ on := 25, ground := Go.Ground.data }, { on := 24, ground := Go.Ground.data }, { on := 24, ground := Go.Ground.chain }, { on := 0, ground := Go.Ground.phase }, { on := 1, ground := Go.Ground.phase }, { on := 2, ground := Go.Ground.phase }, { on := 3, ground := Go.Ground.phase }, { on := 4, ground := Go.Ground.phase }, { on := 5, ground := Go.Ground.phase }, { on := 6, ground := Go.Ground.phase }, { on := 7, ground := Go.Ground.phase }, { on := 8, ground := Go.Ground.phase }, { on := 9, ground := Go.Ground.phase }, { on := 10, ground := Go.Ground.phase }, { on := 11, ground := Go.Ground.phase }, { on := 12, ground := Go.Ground.phase }, { on := 13, ground := Go.Ground.phase }, { on := 14, ground := Go.Ground.phase }, { on := 15, ground := Go.Ground.phase }, { on := 16, ground := Go.Ground.phase }, { on := 17, ground := Go.Ground.phase }, { on := 18, ground := Go.Ground.phase }, { on := 19, ground := Go.Ground.phase }, { on := 20, ground := Go.Ground.phase }, { on := 21, ground := Go.Ground.phase }, { on := 22, ground := Go.Ground.phase }, { on := 23, ground := Go.Ground.phase }, { on := 24, ground := Go.Ground.phase }], guard := none }) rfl (fun K hK => ?_) ?_
                  · go_simp
                    refine hK.out _ _ ?_ (fun hHeld => ?_)
                    · (try dsimp only)
                      (first | with_reducible exact hS _ hB | with_reducible exact hS _ (hB.setCell hbm _) | exact hS _ (hB.setCell hbm _))
                    clear hK K
                    try simp only [Act.put, List.setIfInBounds_toArray, List.set_cons_zero, List.set_cons_succ]
                    refine wpAnyH_done (by kernel_rfl) ?_ _
                    have R := hide (hV.more d.gates[k] hKA hown8 hgr8 hat8 hbm)
                    rw [← unhide HTK] at R
                    clear hV hKA hown8 hgr8 hat8 hc8 d8 f8 hB hB6
                    go_wp2_with fail
                    exact ⟨⟨k + 1, _, _, _, _, by omega, by go_num, unhide R⟩, by simp [intOf]; omega⟩
                  exact AllReadyH.nil
                exact AllReadyH.nil
              exact AllReadyH.nil
            exact AllReadyH.nil
          refine AllReadyH.cons (o := { dst := some 44, op := Go.Op.call { callee := Go.Callee.builtin Go.Builtin.append, args := #[Go.Operand.tmp 37, Go.Operand.tmp 43], argTypes := #[37, 37] }, type := 37, pos := "net.go:160", after := #[{ on := 14, ground := Go.Ground.data }, { on := 20, ground := Go.Ground.data }], guard := none }) rfl (fun K hK => ?_) ?_
          · refine step_lit_ints (by rfl) _ _ (by rfl) (by rfl) d.gates[k].args aa an ac (by rfl) (hI.below hB) (by omega) ?_
            intro aA cA wn hKA0 hb
            have hKA := hKA0 _ hV.lt
            have hB := bstep hB hb
            have hV := hV.on hb
            clear hKA0
            refine hK.out _ _ ?_ (fun hHeld => ?_)
            · (try dsimp only)
              (first | with_reducible exact hS _ hB | with_reducible exact hS _ (hB.setCell hbm _) | exact hS _ (hB.setCell hbm _))
            clear hK K
            try simp only [Act.put, List.setIfInBounds_toArray, List.set_cons_zero, List.set_cons_succ]
            refine wpAnyH_take (i := 22) (oi := { dst := some 45, op := Go.Op.build 46 #[(0, Go.Operand.tmp 30), (1, Go.Operand.tmp 36), (2, Go.Operand.tmp 44)], type := 46, pos := "net.go:160", after := #[{ on := 7, ground := Go.Ground.data }, { on := 13, ground := Go.Ground.data }, { on := 21, ground := Go.Ground.data }], guard := none }) (v := ?_) rfl (by kernel_rfl) (by kernel_rfl) (by kernel_rfl) (fun _ _ _ h => h) (Or.inl ⟨by rfl, ?_⟩) (by assumption) ?_
            rotate_left
            · intro w hSw; (try dsimp only at hSw); go_simp; (try (with_reducible rfl))
            try simp only [Act.put, List.setIfInBounds_toArray, List.set_cons_zero, List.set_cons_succ]
            refine wpAnyH_ready (rs := [1, 23]) (by kernel_rfl) (by simp) ?_
            refine AllReadyH.cons (o := { dst := some 24, op := Go.Op.load 35 (Go.Operand.tmp 23), type := 35, pos := "net.go:160", after := #[{ on := 0, ground := Go.Ground.data }], guard := none }) rfl (fun K hK => ?_) ?_
            · have d1 := hV.2.1.cell 1
              go_simp
              refine hK.out _ _ ?_ (fun hHeld => ?_)
              · (try dsimp only)
                (first | with_reducible exact hS _ hB | with_reducible exact hS _ (hB.setCell hbm _) | exact hS _ (hB.setCell hbm _))
              clear hK K
              try simp only [Act.put, List.setIfInBounds_toArray, List.set_cons_zero, List.set_cons_succ]
              refine wpAnyH_ready (rs := [23]) (by kernel_rfl) (by simp) ?_
              refine AllReadyH.cons (o := { dst := some 46, op := Go.Op.buildSlice 35 1 #[(0, Go.Operand.tmp 45)], type := 35, pos := "net.go:160", after := #[{ on := 22, ground := Go.Ground.data }], guard := none }) rfl (fun K hK => ?_) ?_
              · go_simp
                refine alloc_on (K := K) _ _ (fun wn hb ho => ?_)
                have hB := bstep hB hb
                have hV := hV.on hb
                have hKA := hKA.on hb
                refine hK.out _ _ ?_ (fun hHeld => ?_)
                · (try dsimp only)
                  (first | with_reducible exact hS _ hB | with_reducible exact hS _ (hB.setCell hbm _) | exact hS _ (hB.setCell hbm _))
                clear hK K
                try simp only [Act.put, List.setIfInBounds_toArray, List.set_cons_zero, List.set_cons_succ]
                refine wpAnyH_ready (rs := [24]) (by kernel_rfl) (by simp) ?_
                refine AllReadyH.cons (o := { dst := some 47, op := Go.Op.call { callee := Go.Callee.builtin Go.Builtin.append, args := #[Go.Operand.tmp 24, Go.Operand.tmp 46], argTypes := #[35, 35] }, type := 35, pos := "net.go:160", after := #[{ on := 1, ground := Go.Ground.data }, { on := 23, ground := Go.Ground.data }, { on := 21, ground := Go.Ground.chain }], guard := none }) rfl (fun K hK => ?_) ?_
                · refine step_append_lies _ (by rfl) _ _ 35 (by rfl) w2.heap.size 46 i0 (.agg #[.int .i64 0, .int .i64 0, .slice none 0 0]) 3 40 Try.underlying35 hi hz0 hz1 hz2 rfl (by decide) (.slice pa pn pc) pn cs (by rfl) hV.2.2.2.2.1 _ 1 1 [.int .i64 d.gates[k].kind, .int .i64 d.gates[k].n, .slice aA an cA] (by rfl) (by rfl) (World.news_of_block (cs := #[.int .i64 d.gates[k].kind, .int .i64 d.gates[k].n, .slice aA an cA]) (t := 46) (fr := (0, 0)) ho) (by simp [Value.oneCell']) (by omega) (by unfold maxLen; omega) (by omega) hB.size _ rfl ?_
                  intro g8 cap8 w8 hown8 hgr8 hat8 hlt8
                  have hB6 := hB
                  have hB := (hV.cells8 hgr8).2
                  have hc8 := (hV.cells8 hgr8).1
                  have d8 := hc8.cell 1
                  have f8 := hc8.frozen 1
                  refine hK.out _ _ ?_ (fun hHeld => ?_)
                  · (try dsimp only)
                    (first | with_reducible exact hS _ hB | with_reducible exact hS _ (hB.setCell hbm _) | exact hS _ (hB.setCell hbm _))
                  clear hK K
                  try simp only [Act.put, List.setIfInBounds_toArray, List.set_cons_zero, List.set_cons_succ]
                  refine wpAnyH_take (i := 25) (oi := { dst := some 48, op := Go.Op.fieldAddr 39 (Go.Operand.tmp 3) 1, type := 0, pos := "net.go:160", after := #[{ on := 0, ground := Go.Ground.phase }, { on := 1, ground := Go.Ground.phase }, { on := 2, ground := Go.Ground.phase }, { on := 3, ground := Go.Ground.phase }, { on := 4, ground := Go.Ground.phase }, { on := 5, ground := Go.Ground.phase }, { on := 6, ground := Go.Ground.phase }, { on := 7, ground := Go.Ground.phase }, { on := 8, ground := Go.Ground.phase }, { on := 9, ground := Go.Ground.phase }, { on := 10, ground := Go.Ground.phase }, { on := 11, ground := Go.Ground.phase }, { on := 12, ground := Go.Ground.phase }, { on := 13, ground := Go.Ground.phase }, { on := 14, ground := Go.Ground.phase }, { on := 15, ground := Go.Ground.phase }, { on := 16, ground := Go.Ground.phase }, { on := 17, ground := Go.Ground.phase }, { on := 18, ground := Go.Ground.phase }, { on := 19, ground := Go.Ground.phase }, { on := 20, ground := Go.Ground.phase }, { on := 21, ground := Go.Ground.phase }, { on := 22, ground := Go.Ground.phase }, { on := 23, ground := Go.Ground.phase }, { on := 24, ground := Go.Ground.phase }], guard := none }) (v := ?_) rfl (by kernel_rfl) (by kernel_rfl) (by kernel_rfl) (fun _ _ _ h => h) (Or.inl ⟨by rfl, ?_⟩) (by assumption) ?_
                  rotate_left
                  · intro w hSw; (try dsimp only at hSw); go_simp; (try (with_reducible rfl))
                  try simp only [Act.put, List.setIfInBounds_toArray, List.set_cons_zero, List.set_cons_succ]
                  refine wpAnyH_ready (rs := [26]) (by kernel_rfl) (by simp) ?_
                  refine AllReadyH.cons (o := { dst := none, op := Go.Op.store 35 (Go.Operand.tmp 48) (Go.Operand.tmp 47), type := 0, pos := "net.go:160", after := #[{ on := 25, ground := Go.Ground.data }, { on := 24, ground := Go.Ground.data }, { on := 24, ground := Go.Ground.chain }, { on := 0, ground := Go.Ground.phase }, { on := 1, ground := Go.Ground.phase }, { on := 2, ground := Go.Ground.phase }, { on := 3, ground := Go.Ground.phase }, { on := 4, ground := Go.Ground.phase }, { on := 5, ground := Go.Ground.phase }, { on := 6, ground := Go.Ground.phase }, { on := 7, ground := Go.Ground.phase }, { on := 8, ground := Go.Ground.phase }, { on := 9, ground := Go.Ground.phase }, { on := 10, ground := Go.Ground.phase }, { on := 11, ground := Go.Ground.phase }, { on := 12, ground := Go.Ground.phase }, { on := 13, ground := Go.Ground.phase }, { on := 14, ground := Go.Ground.phase }, { on := 15, ground := Go.Ground.phase }, { on := 16, ground := Go.Ground.phase }, { on := 17, ground := Go.Ground.phase }, { on := 18, ground := Go.Ground.phase }, { on := 19, ground := Go.Ground.phase }, { on := 20, ground := Go.Ground.phase }, { on := 21, ground := Go.Ground.phase }, { on := 22, ground := Go.Ground.phase }, { on := 23, ground := Go.Ground.phase }, { on := 24, ground := Go.Ground.phase }], guard := none }) rfl (fun K hK => ?_) ?_
                  · go_simp
                    refine hK.out _ _ ?_ (fun hHeld => ?_)
                    · (try dsimp only)
                      (first | with_reducible exact hS _ hB | with_reducible exact hS _ (hB.setCell hbm _) | exact hS _ (hB.setCell hbm _))
                    clear hK K
                    try simp only [Act.put, List.setIfInBounds_toArray, List.set_cons_zero, List.set_cons_succ]
                    refine wpAnyH_done (by kernel_rfl) ?_ _
                    have R := hide (hV.more d.gates[k] hKA hown8 hgr8 hat8 hbm)
                    rw [← unhide HTK] at R
                    clear hV hKA hown8 hgr8 hat8 hc8 d8 f8 hB hB6
                    go_wp2_with fail
                    exact ⟨⟨k + 1, _, _, _, _, by omega, by go_num, unhide R⟩, by simp [intOf]; omega⟩
                  exact AllReadyH.nil
                exact AllReadyH.nil
              exact AllReadyH.nil
            refine AllReadyH.cons (o := { dst := some 46, op := Go.Op.buildSlice 35 1 #[(0, Go.Operand.tmp 45)], type := 35, pos := "net.go:160", after := #[{ on := 22, ground := Go.Ground.data }], guard := none }) rfl (fun K hK => ?_) ?_
            · go_simp
              refine alloc_on (K := K) _ _ (fun wn hb ho => ?_)
              have hB := bstep hB hb
              have hV := hV.on hb
              have hKA := hKA.on hb
              refine hK.out _ _ ?_ (fun hHeld => ?_)
              · (try dsimp only)
                (first | with_reducible exact hS _ hB | with_reducible exact hS _ (hB.setCell hbm _) | exact hS _ (hB.setCell hbm _))
              clear hK K
              try simp only [Act.put, List.setIfInBounds_toArray, List.set_cons_zero, List.set_cons_succ]
              refine wpAnyH_ready (rs := [1]) (by kernel_rfl) (by simp) ?_
              refine AllReadyH.cons (o := { dst := some 24, op := Go.Op.load 35 (Go.Operand.tmp 23), type := 35, pos := "net.go:160", after := #[{ on := 0, ground := Go.Ground.data }], guard := none }) rfl (fun K hK => ?_) ?_
              · have d1 := hV.2.1.cell 1
                go_simp
                refine hK.out _ _ ?_ (fun hHeld => ?_)
                · (try dsimp only)
                  (first | with_reducible exact hS _ hB | with_reducible exact hS _ (hB.setCell hbm _) | exact hS _ (hB.setCell hbm _))
                clear hK K
                try simp only [Act.put, List.setIfInBounds_toArray, List.set_cons_zero, List.set_cons_succ]
                refine wpAnyH_ready (rs := [24]) (by kernel_rfl) (by simp) ?_
                refine AllReadyH.cons (o := { dst := some 47, op := Go.Op.call { callee := Go.Callee.builtin Go.Builtin.append, args := #[Go.Operand.tmp 24, Go.Operand.tmp 46], argTypes := #[35, 35] }, type := 35, pos := "net.go:160", after := #[{ on := 1, ground := Go.Ground.data }, { on := 23, ground := Go.Ground.data }, { on := 21, ground := Go.Ground.chain }], guard := none }) rfl (fun K hK => ?_) ?_
                · refine step_append_lies _ (by rfl) _ _ 35 (by rfl) w2.heap.size 46 i0 (.agg #[.int .i64 0, .int .i64 0, .slice none 0 0]) 3 40 Try.underlying35 hi hz0 hz1 hz2 rfl (by decide) (.slice pa pn pc) pn cs (by rfl) hV.2.2.2.2.1 _ 1 1 [.int .i64 d.gates[k].kind, .int .i64 d.gates[k].n, .slice aA an cA] (by rfl) (by rfl) (World.news_of_block (cs := #[.int .i64 d.gates[k].kind, .int .i64 d.gates[k].n, .slice aA an cA]) (t := 46) (fr := (0, 0)) ho) (by simp [Value.oneCell']) (by omega) (by unfold maxLen; omega) (by omega) hB.size _ rfl ?_
                  intro g8 cap8 w8 hown8 hgr8 hat8 hlt8
                  have hB6 := hB
                  have hB := (hV.cells8 hgr8).2
                  have hc8 := (hV.cells8 hgr8).1
                  have d8 := hc8.cell 1
                  have f8 := hc8.frozen 1
                  refine hK.out _ _ ?_ (fun hHeld => ?_)
                  · (try dsimp only)
                    (first | with_reducible exact hS _ hB | with_reducible exact hS _ (hB.setCell hbm _) | exact hS _ (hB.setCell hbm _))
                  clear hK K
                  try simp only [Act.put, List.setIfInBounds_toArray, List.set_cons_zero, List.set_cons_succ]
                  refine wpAnyH_take (i := 25) (oi := { dst := some 48, op := Go.Op.fieldAddr 39 (Go.Operand.tmp 3) 1, type := 0, pos := "net.go:160", after := #[{ on := 0, ground := Go.Ground.phase }, { on := 1, ground := Go.Ground.phase }, { on := 2, ground := Go.Ground.phase }, { on := 3, ground := Go.Ground.phase }, { on := 4, ground := Go.Ground.phase }, { on := 5, ground := Go.Ground.phase }, { on := 6, ground := Go.Ground.phase }, { on := 7, ground := Go.Ground.phase }, { on := 8, ground := Go.Ground.phase }, { on := 9, ground := Go.Ground.phase }, { on := 10, ground := Go.Ground.phase }, { on := 11, ground := Go.Ground.phase }, { on := 12, ground := Go.Ground.phase }, { on := 13, ground := Go.Ground.phase }, { on := 14, ground := Go.Ground.phase }, { on := 15, ground := Go.Ground.phase }, { on := 16, ground := Go.Ground.phase }, { on := 17, ground := Go.Ground.phase }, { on := 18, ground := Go.Ground.phase }, { on := 19, ground := Go.Ground.phase }, { on := 20, ground := Go.Ground.phase }, { on := 21, ground := Go.Ground.phase }, { on := 22, ground := Go.Ground.phase }, { on := 23, ground := Go.Ground.phase }, { on := 24, ground := Go.Ground.phase }], guard := none }) (v := ?_) rfl (by kernel_rfl) (by kernel_rfl) (by kernel_rfl) (fun _ _ _ h => h) (Or.inl ⟨by rfl, ?_⟩) (by assumption) ?_
                  rotate_left
                  · intro w hSw; (try dsimp only at hSw); go_simp; (try (with_reducible rfl))
                  try simp only [Act.put, List.setIfInBounds_toArray, List.set_cons_zero, List.set_cons_succ]
                  refine wpAnyH_ready (rs := [26]) (by kernel_rfl) (by simp) ?_
                  refine AllReadyH.cons (o := { dst := none, op := Go.Op.store 35 (Go.Operand.tmp 48) (Go.Operand.tmp 47), type := 0, pos := "net.go:160", after := #[{ on := 25, ground := Go.Ground.data }, { on := 24, ground := Go.Ground.data }, { on := 24, ground := Go.Ground.chain }, { on := 0, ground := Go.Ground.phase }, { on := 1, ground := Go.Ground.phase }, { on := 2, ground := Go.Ground.phase }, { on := 3, ground := Go.Ground.phase }, { on := 4, ground := Go.Ground.phase }, { on := 5, ground := Go.Ground.phase }, { on := 6, ground := Go.Ground.phase }, { on := 7, ground := Go.Ground.phase }, { on := 8, ground := Go.Ground.phase }, { on := 9, ground := Go.Ground.phase }, { on := 10, ground := Go.Ground.phase }, { on := 11, ground := Go.Ground.phase }, { on := 12, ground := Go.Ground.phase }, { on := 13, ground := Go.Ground.phase }, { on := 14, ground := Go.Ground.phase }, { on := 15, ground := Go.Ground.phase }, { on := 16, ground := Go.Ground.phase }, { on := 17, ground := Go.Ground.phase }, { on := 18, ground := Go.Ground.phase }, { on := 19, ground := Go.Ground.phase }, { on := 20, ground := Go.Ground.phase }, { on := 21, ground := Go.Ground.phase }, { on := 22, ground := Go.Ground.phase }, { on := 23, ground := Go.Ground.phase }, { on := 24, ground := Go.Ground.phase }], guard := none }) rfl (fun K hK => ?_) ?_
                  · go_simp
                    refine hK.out _ _ ?_ (fun hHeld => ?_)
                    · (try dsimp only)
                      (first | with_reducible exact hS _ hB | with_reducible exact hS _ (hB.setCell hbm _) | exact hS _ (hB.setCell hbm _))
                    clear hK K
                    try simp only [Act.put, List.setIfInBounds_toArray, List.set_cons_zero, List.set_cons_succ]
                    refine wpAnyH_done (by kernel_rfl) ?_ _
                    have R := hide (hV.more d.gates[k] hKA hown8 hgr8 hat8 hbm)
                    rw [← unhide HTK] at R
                    clear hV hKA hown8 hgr8 hat8 hc8 d8 f8 hB hB6
                    go_wp2_with fail
                    exact ⟨⟨k + 1, _, _, _, _, by omega, by go_num, unhide R⟩, by simp [intOf]; omega⟩
                  exact AllReadyH.nil
                exact AllReadyH.nil
              exact AllReadyH.nil
            exact AllReadyH.nil
          exact AllReadyH.nil
        exact AllReadyH.nil
      · have hkn : k = gn := by omega
        subst hkn
        rw [List.take_of_length_le (by have := HG.out; omega)] at hV
        obtain ⟨_, q1, q2, q3, q4⟩ := hx0.below hB
        have hcM := hV.2.1
        have hcr := hc0.below hB hrz
        have e0 := hcM.cell 0
        have e1 := hcM.cell 1
        have e2 := hcM.cell 2
        have e3 := hcM.cell 3
        have z0 := hcr.cell 0
        have z1 := hcr.cell 1
        have z2 := hcr.cell 2
        have z3 := hcr.cell 3
        have f0 := hcr.frozen 0
        have f1 := hcr.frozen 1
        have f2 := hcr.frozen 2
        have f3 := hcr.frozen 3
        have hc9 := (((hcr.set 0 (.int .i64 ins0)).set 1 (.slice pa pn pc)).set 2 (.slice rb rn rd)).set 3 (.slice ob on od)
        have y0 := hc9.cell 0
        have y1 := hc9.cell 1
        have y2 := hc9.cell 2
        have y3 := hc9.cell 3
        have hbw := ((((B0.trans (hB.mono B0.size)).setCell (p := ⟨w.heap.size + 1, 0, none⟩) (Nat.le_succ _) (.int .i64 ins0)).setCell (p := ⟨w.heap.size + 1, 1, none⟩) (Nat.le_succ _) (.slice pa pn pc)).setCell (p := ⟨w.heap.size + 1, 2, none⟩) (Nat.le_succ _) (.slice rb rn rd)).setCell (p := ⟨w.heap.size + 1, 3, none⟩) (Nat.le_succ _) (.slice ob on od)
        have R : OwnPost d ins0 rn on w ((((wr.setCell ⟨w.heap.size + 1, 0, none⟩ (.int .i64 ins0)).setCell ⟨w.heap.size + 1, 1, none⟩ (.slice pa pn pc)).setCell ⟨w.heap.size + 1, 2, none⟩ (.slice rb rn rd)).setCell ⟨w.heap.size + 1, 3, none⟩ (.slice ob on od)) (.returned (.agg #[.int .i64 ins0, .slice pa pn pc, .slice rb rn rd, .slice ob on od])) := by
          obtain ⟨g0, g1, g2, g3, g4, g5, g6⟩ := hV
          have hBs := B0.size
          have hm : w.heap.size + 1 ∈ GB w2 bm (.slice pa pn pc) := List.mem_cons.2 (Or.inr (List.mem_append.2 (Or.inr (List.mem_range.2 hrz))))
          have hG : ∀ g ∈ GO w (.slice pa pn pc), g ∈ GB w2 bm (.slice pa pn pc) ∨ wr.heap.size ≤ g := fun g hg => by
            rcases List.mem_append.1 hg with h1 | h1
            · exact Or.inl (List.mem_cons.2 (Or.inr (List.mem_append.2 (Or.inl h1))))
            · exact Or.inl (List.mem_cons.2 (Or.inr (List.mem_append.2 (Or.inr (List.mem_range.2 (by have := List.mem_range.1 h1; omega))))))
          have n2 : (Value.slice pa pn pc).ownBlock ≠ some (w.heap.size + 1) := own_base g4 hrz
          exact ⟨pa, pn, pc, rb, rd, ob, od, cs, rfl, g0, g2.step (kept4m hm _ _ _ _) hG, g3.step (kept4m hm _ _ _ _) hG, own_down (own_set (own_set (own_set (own_set g4 n2) n2) n2) n2) hBs, g5.step (kept4m hm _ _ _ _) hG, hbw⟩
        have R9 := hide R
        clear R hbw hc9 hcr hcM hV hB
        go_wp2_with fail
        exact bodyPost_ret (v := .agg #[.int .i64 ins0, .slice pa pn pc, .slice rb rn rd, .slice ob on od]) (by simp [results, Try.results15, go_sem, y0, y1, y2, y3]) rfl (unhide R9)

/-- A row of gates that can be written. -/
def GP (G : List Nat) (W : World) (full : List Value) (gs : List GateD) : Prop := gs.length * 3 ≤ full.length ∧ ∀ j (hj : j < gs.length), ∃ aa an ac, full[j * 3]? = some (.int .i64 gs[j].kind) ∧ full[j * 3 + 1]? = some (.int .i64 gs[j].n) ∧ full[j * 3 + 2]? = some (.slice aa an ac) ∧ Kp G W (fun V => Ints V aa an gs[j].args)
theorem GP.step {G G' : List Nat} {W W1 : World} {cs : List Value} {gs : List GateD} (h : GP G W cs gs) (hk : KeptG G W W1) (hG : ∀ g ∈ G', g ∈ G ∨ W.heap.size ≤ g) : GP G' W1 cs gs :=
  ⟨h.1, fun j hj => by obtain ⟨aa, an, ac, h1, h2, h3, h4⟩ := h.2 j hj; exact ⟨aa, an, ac, h1, h2, h3, h4.step hk hG⟩⟩
theorem GP.set {G : List Nat} {W : World} {cs : List Value} {gs : List GateD} (h : GP G W cs gs) (j : Nat) (hj : j < gs.length) {x : GateD} {aa : Option Addr} {an ac : Nat} (hI : Kp G W (fun V => Ints V aa an x.args)) : GP G W (((cs.set (j * 3) (.int .i64 x.kind)).set (j * 3 + 1) (.int .i64 x.n)).set (j * 3 + 2) (.slice aa an ac)) (gs.set j x) := by
  have hl := h.1
  refine ⟨by simp; omega, fun k hk => ?_⟩
  have hk' : k < gs.length := by simpa using hk
  by_cases e : k = j
  · subst e
    refine ⟨aa, an, ac, ?_, ?_, ?_, by simpa using hI⟩
    · rw [List.getElem?_set_ne (by omega), List.getElem?_set_ne (by omega), List.getElem?_set_self (by omega)]; simp
    · rw [List.getElem?_set_ne (by omega), List.getElem?_set_self (by simp; omega)]; simp
    · rw [List.getElem?_set_self (by simp; omega)]
  · obtain ⟨a', n', c', h1, h2, h3, h4⟩ := h.2 k hk'
    have e1 : (gs.set j x)[k] = gs[k] := List.getElem_set_ne (Ne.symm e) _
    refine ⟨a', n', c', ?_, ?_, ?_, ?_⟩
    · rw [List.getElem?_set_ne (by omega), List.getElem?_set_ne (by omega), List.getElem?_set_ne (by omega), e1]; exact h1
    · rw [List.getElem?_set_ne (by omega), List.getElem?_set_ne (by omega), List.getElem?_set_ne (by omega), e1]; exact h2
    · rw [List.getElem?_set_ne (by omega), List.getElem?_set_ne (by omega), List.getElem?_set_ne (by omega)]; exact h3
    · rw [e1]; exact h4
theorem gp_of_own {w : World} {base pb n c : Nat} {G : List Nat} {cs : List Value} {gs : List GateD} (h : w.ownsRow base 46 3 (.slice (some ⟨pb, 0, none⟩) n c) n cs) (hG : GK G w cs gs) (hn : n = gs.length) : ∃ full, base ≤ pb ∧ Cells w pb full 46 ∧ GP G w full gs := by
  rcases h.2 with ⟨h1, _⟩ | ⟨g, cap, cur, hv, hg, hh, hle, _, hs, ht⟩
  · simp at h1
  · injection hv with hv1 hv2 hv3
    injection hv1 with hv1
    injection hv1 with hv1
    subst hv1
    subst hv3
    have hcl := hG.1
    have hfl : cur.toList.length = c * 3 := by simpa using hs
    refine ⟨cur.toList, hg, by unfold Cells; simpa using hh, ?_, fun j hj => ?_⟩
    · rw [hfl]; omega
    · obtain ⟨aa, an, ac, h1, h2, h3, h4⟩ := hG.2 j hj
      have hk : ∀ i, i < n * 3 → cur.toList[i]? = cs[i]? := fun i hi => by rw [← ht, List.getElem?_take]; simp [hi]
      exact ⟨aa, an, ac, (hk _ (by omega)).trans h1, (hk _ (by omega)).trans h2, (hk _ (by omega)).trans h3, h4⟩
def GAt (B : Nat) (G : List Nat) (W : World) (pa : Option Addr) (gs : List GateD) : Prop := gs = [] ∨ ∃ pb full, pa = some ⟨pb, 0, none⟩ ∧ B ≤ pb ∧ Cells W pb full 46 ∧ GP G W full gs
theorem GAt.of {w : World} {B n c : Nat} {pa : Option Addr} {G : List Nat} {cs : List Value} {gs : List GateD} (h : w.ownsRow B 46 3 (.slice pa n c) n cs) (hG : GK G w cs gs) (hn : n = gs.length) : GAt B G w pa gs := by
  have h0 := h
  rcases h0.2 with ⟨h1, h2⟩ | ⟨g, cap, cur, hv, _⟩
  · subst h2; exact Or.inl (List.eq_nil_of_length_eq_zero hn.symm)
  · injection hv with hv1 hv2 hv3
    subst hv1
    obtain ⟨full, h1, h2, h3⟩ := gp_of_own h hG hn
    exact Or.inr ⟨g, full, rfl, h1, h2, h3⟩
theorem GAt.on {B : Nat} {G : List Nat} {W W1 : World} {pa : Option Addr} {gs : List GateD} (h : GAt B G W pa gs) (hb : Below W.heap.size W W1) : GAt B G W1 pa gs := by
  rcases h with h | ⟨pb, full, h1, h2, h3, h4⟩
  · exact Or.inl h
  · exact Or.inr ⟨pb, full, h1, h2, h3.below hb h3.lt, h4.step (KeptG.of hb) (fun _ hg => Or.inl hg)⟩
theorem GAt.kp {B n : Nat} {G G' : List Nat} {W : World} {pa : Option Addr} {gs : List GateD} (h : GAt B G W pa gs) (hn : n = gs.length) (hm : n ≤ maxLen) (hG : ∀ g ∈ G', g ∈ G ∧ g < B) : Kp G' W (fun V => Gates V pa n gs) := by
  intro V hK
  rcases h with h | ⟨pb, full, rfl, h2, h3, h4⟩
  · subst h; exact ⟨hn, Nat.zero_le _, Or.inl rfl⟩
  · have hc : Cells V pb full 46 := hK.cells h3 (fun hm => by have := (hG pb hm).2; omega)
    refine ⟨hn, by omega, Or.inr ⟨pb, 0, rfl, hc.lt, fun i hi => ?_⟩⟩
    obtain ⟨aa, an, ac, e1, e2, e3, e4⟩ := h4.2 i hi
    rw [Nat.zero_add]
    exact ⟨(hc.cell _).trans e1, (hc.cell _).trans e2, aa, an, ac, (hc.cell _).trans e3, e4 V (hK.mono (fun b hb => (hG b hb).1))⟩
def g0D : GateD := ⟨0, 0, []⟩
def fTo (d : NetD) (k : Nat) : List GateD := (List.range d.gates.length).map (fun j => if j < k then (foldD d).gates.getD j g0D else d.gates.getD j g0D)
theorem fTo_len (d : NetD) (k : Nat) : (fTo d k).length = d.gates.length := by simp [fTo]
theorem fTo_zero (d : NetD) : fTo d 0 = d.gates := by
  apply List.ext_getElem (by simp [fTo])
  intro j h1 h2
  simp [fTo, List.getD_eq_getElem?_getD, h2]
theorem fTo_full (d : NetD) : fTo d d.gates.length = (foldD d).gates := by
  apply List.ext_getElem (by rw [fTo_len, fold_len])
  intro j h1 h2
  have h3 : j < d.gates.length := by rw [fTo_len] at h1; exact h1
  simp [fTo, List.getD_eq_getElem?_getD, h2, h3]
theorem fTo_succ (d : NetD) (k : Nat) : fTo d (k + 1) = (fTo d k).set k ((foldD d).gates.getD k g0D) := by
  apply List.ext_getElem (by simp [fTo])
  intro j h1 h2
  rw [List.getElem_set]
  by_cases e : k = j
  · subst e; simp [fTo]
  · rw [if_neg e]
    simp only [fTo, List.getElem_map, List.getElem_range]
    have : (j < k + 1) = (j < k) := by rw [eq_iff_iff]; omega
    simp only [this]
theorem fTo_same (d : NetD) (k : Nat) (hk : k < d.gates.length) (h : (foldD d).gates.getD k g0D = d.gates[k]) : fTo d (k + 1) = fTo d k := by
  rw [fTo_succ, h]
  have h1 : k < (fTo d k).length := by rw [fTo_len]; exact hk
  have h2 : (fTo d k)[k] = d.gates[k] := by simp [fTo, List.getD_eq_getElem?_getD, hk]
  rw [← h2, List.set_getElem_self]
theorem foldD_at (d : NetD) (k : Nat) (hk : k < d.gates.length) : (foldD d).gates.getD k g0D = foldG ((foldV d).getD k 2) d.gates[k] := by
  have hk' : k < (foldD d).gates.length := by rw [fold_len]; exact hk
  rw [← fold_at d k hk hk']
  simp [List.getD_eq_getElem?_getD, hk']
/-- A net that stays whatever is written into what lay there. -/
def NetKp (D : NetD) (w w' : World) (e : Ending) : Prop := ∃ ins1 pa pn pc ra rn rc oa on oc, e = .returned (.agg #[.int .i64 ins1, .slice pa pn pc, .slice ra rn rc, .slice oa on oc]) ∧ Kp (List.range w.heap.size) w' (fun V => NetAt V D ins1 pa pn ra rn oa on) ∧ Below w.heap.size w w'
/-- The loop of FoldOf. -/
def FInv (wD wr : World) (d : NetD) (bm : Nat) (ins : Int) (pa : Option Addr) (pn pc : Nat) (rb : Option Addr) (rn rd : Nat) (ob : Option Addr) (on od : Nat) (k : Nat) : Prop :=
  GAt wD.heap.size (GO wD (.slice pa pn pc)) wr pa (fTo d k) ∧ Cells wr bm [.int .i64 ins, .slice pa pn pc, .slice rb rn rd, .slice ob on od] 39 ∧ Kp (GO wD (.slice pa pn pc)) wr (fun V => Regs V rb rn d.regs) ∧ Kp (GO wD (.slice pa pn pc)) wr (fun V => Ints V ob on d.outs) ∧ Below wD.heap.size wD wr
theorem three_kept {W : World} {pb k : Nat} {G : List Nat} (hm : pb ∈ G) (u0 u1 u2 : Value) : KeptG G W (((W.setCell ⟨pb, k, none⟩ u0).setCell ⟨pb, k + 1, none⟩ u1).setCell ⟨pb, k + 2, none⟩ u2) :=
  ((KeptG.set (k := k) u0 hm).trans (KeptG.set (k := k + 1) u1 hm)).trans (KeptG.set (k := k + 2) u2 hm)
theorem FInv.write {wD wr : World} {d : NetD} {bm : Nat} {ins : Int} {pb pn pc : Nat} {rb : Option Addr} {rn rd : Nat} {ob : Option Addr} {on od k : Nat} {full : List Value} (h : FInv wD wr d bm ins (some ⟨pb, 0, none⟩) pn pc rb rn rd ob on od k) (hk : k < d.gates.length) (hB : wD.heap.size ≤ pb) (hc : Cells wr pb full 46) (hP : GP (GO wD (.slice (some ⟨pb, 0, none⟩) pn pc)) wr full (fTo d k)) (c : Int) (hv : (foldD d).gates.getD k g0D = ⟨c, 0, []⟩) :
    FInv wD (((wr.setCell ⟨pb, k * 3, none⟩ (.int .i64 c)).setCell ⟨pb, k * 3 + 1, none⟩ (.int .i64 0)).setCell ⟨pb, k * 3 + 2, none⟩ (.slice none 0 0)) d bm ins (some ⟨pb, 0, none⟩) pn pc rb rn rd ob on od (k + 1) := by
  obtain ⟨_, h1, h2, h3, h4⟩ := h
  have hm : pb ∈ GO wD (.slice (some ⟨pb, 0, none⟩) pn pc) := List.mem_append.2 (Or.inl (by simp [ownL, Value.ownBlock]))
  have hkk := three_kept (W := wr) (k := k * 3) hm (.int .i64 c) (.int .i64 0) (.slice none 0 0)
  have hne : bm ≠ pb := by
    intro e
    subst e
    unfold Cells at h1 hc
    rw [h1] at hc
    injection hc with hc
    injection hc with _ hc _
    exact absurd hc (by decide)
  refine ⟨Or.inr ⟨pb, _, rfl, hB, ((hc.set (k * 3) (.int .i64 c)).set (k * 3 + 1) (.int .i64 0)).set (k * 3 + 2) (.slice none 0 0), ?_⟩, ?_, h2.step hkk (fun _ hg => Or.inl hg), h3.step hkk (fun _ hg => Or.inl hg), ((h4.setCell hB _).setCell hB _).setCell hB _⟩
  · rw [fTo_succ, hv]
    exact (hP.set k (by rw [fTo_len]; exact hk) (x := ⟨c, 0, []⟩) (fun V _ => Ints.none V)).step hkk (fun _ hg => Or.inl hg)
  · exact (three_kept (G := [pb]) (k := k * 3) (by simp) (.int .i64 c) (.int .i64 0) (.slice none 0 0)).cells h1 (by simpa using hne)

set_option maxRecDepth 100000 in
set_option maxHeartbeats 8000000 in
theorem FoldOf_any (d : NetD) (ins0 : Int) (ga ra oa : Option Addr) (gn gc rn rc on oc : Nat) (w : World) (h : NetAt w d ins0 ga gn ra rn oa on) (hck : checkE d = 0) :
    Calls Try.prog 21 #[.agg #[.int .i64 ins0, .slice ga gn gc, .slice ra rn rc, .slice oa on oc]] w fun e w' => NetKp (foldD d) w w' e := by
  have hb0 : Below w.heap.size w (w.alloc (.cells #[.int .i64 ins0, .slice ga gn gc, .slice ra rn rc, .slice oa on oc] 39)) := (Below.refl _ _).alloc (Nat.le_refl _) _
  have hbox : Boxed (w.alloc (.cells #[.int .i64 ins0, .slice ga gn gc, .slice ra rn rc, .slice oa on oc] 39)) w.heap.size ins0 ga gn gc ra rn rc oa on oc := Boxed.new _ _ _ _ _ _ _ _ _ _ _ _
  have hb1 := (Below.refl _ (w.alloc (.cells #[.int .i64 ins0, .slice ga gn gc, .slice ra rn rc, .slice oa on oc] 39))).alloc (Nat.le_refl _) (.cells #[.int .i64 0, .slice none 0 0, .slice none 0 0, .slice none 0 0] 39)
  have hc0 := Cells.new (w.alloc (.cells #[.int .i64 ins0, .slice ga gn gc, .slice ra rn rc, .slice oa on oc] 39)) [.int .i64 0, .slice none 0 0, .slice none 0 0, .slice none 0 0] 39
  have hsz : (w.alloc (.cells #[.int .i64 ins0, .slice ga gn gc, .slice ra rn rc, .slice oa on oc] 39)).heap.size = w.heap.size + 1 := by simp
  rw [hsz] at hc0
  have hN := (h.below hb0).below hb1
  have hx := hbox.below hb1
  have B0 := bstep hb0 hb1
  have HG : Hid (d.gates.length = gn) := h.gates.1.symm
  have hok := ok_of hck
  have hii := h.ins
  obtain ⟨i, hie⟩ := Int.eq_ofNat_of_zero_le (show 0 ≤ ins0 by have := hok.ins.1; omega)
  subst hie
  have hi20 : i ≤ 20 := by have := hok.ins.2; omega
  have hrn : rn ≤ 20 := by have := hok.regs; have := h.regs.1; omega
  have hgn : gn ≤ 200 := by have := hok.gates; have := HG.out; omega
  have HCK := hide hck
  have HII := hide hii
  have HRL := hide (show d.regs.length = rn from h.regs.1.symm)
  have HIL := hide (show d.ins.toNat = i by omega)
  have HST := hide (show stepE d (openV rn) (openV i) = 0 by
    unfold stepE
    rw [if_pos hck, if_pos ⟨by simp [openV]; exact h.regs.1, by simp [openV]; omega⟩, show vals (openV rn) = true from vals_open _, show vals (openV i) = true from vals_open _]; rfl)
  clear h hb0 hb1 hbox hsz hok hck hii
  go_enter Try.func21, Try.ntmps21
  go_upto_region 1 with fail
  generalize hw2 : (w.alloc (.cells #[.int .i64 (i : Int), .slice ga gn gc, .slice ra rn rc, .slice oa on oc] 39)).alloc (.cells #[.int .i64 0, .slice none 0 0, .slice none 0 0, .slice none 0 0] 39) = w2 at *
  clear hw2
  have hx0 := hx
  obtain ⟨x0, x1, x2, x3, x4⟩ := hx
  have hrz := hc0.lt
  have hbd := (Below.refl w2.heap.size w2).drew
  go_region_held3 (fun W => Below w2.heap.size w2 W ∧ W.cell? ⟨w.heap.size, 0, none⟩ = some (.int .i64 (i : Int)) ∧ W.cell? ⟨w.heap.size, 1, none⟩ = some (.slice ga gn gc) ∧ W.cell? ⟨w.heap.size, 2, none⟩ = some (.slice ra rn rc) ∧ W.cell? ⟨w.heap.size, 3, none⟩ = some (.slice oa on oc))
    ((first | exact held_start hx0 | exact held_of hx0 hSA | exact held_of hx0 hSB | exact held_of hx0 hSD))
    ((first
      | (go_at_call_of 51 (Value.int IntKind.i64 (rn : Int)); refine (opens_any rn _ hrn).mono ?_; rintro e wA ⟨aA, nA, cA, rfl, hIA, hbA⟩; have hSA := bstep hbd hbA)
      | (go_at_call_of 51 (Value.int IntKind.i64 (i : Int)); refine (opens_any i _ hi20).mono ?_; rintro e wB ⟨aB, nB, cB, rfl, hIB, hbB⟩; have hSB := bstep hSA hbB)
      | (go_at_call 50; refine (settled_any d _ _ _ _ _ _ _ _ _ _ _ (hN.below hSB) (openV rn) (openV i) _ _ _ _ _ _ (hIA.below hbB) hIB (unhide HST)).mono ?_; rintro e wD ⟨va, vn, vc, v, rfl, hV, hL, _, hbD⟩; have hSD := bstep hSB hbD)))
  have hv : v = foldV d := by rw [hL.is]; unfold foldV; rw [unhide HRL, unhide HIL]
  have hvl : v.length = gn := by rw [hL.1]; exact HG.out
  have hvn : vn = gn := by rw [hV.1]; exact hvl
  subst hvn
  have HVF := hide hv
  have HVL := hide hvl
  have hxD := hx0.below hSD
  have hND := hN.below hSD
  have hcD := hc0.below hSD hrz
  have BD := bstep B0 hSD
  have hDs := hSD.size
  clear hIA hIB hbA hbB hbD hSA hSB hSD hL hv hvl hx0 hN hc0 hbd x0 x1 x2 x3 x4
  have hrzD := hcD.lt
  obtain ⟨x0, x1, x2, x3, x4⟩ := hxD
  go_wp2_with fail
  refine (OwnNet_any d _ _ _ _ _ _ _ _ _ _ _ hND (unhide HCK)).mono ?_
  intro e wB hO
  obtain ⟨pa, pn, pc, rb, rd, ob, od, cs, rfl, hpn, hKR, hKO, hown, hGK, hb⟩ := hO
  have hbC := (Below.refl _ wB).alloc (Nat.le_refl _) (.cells #[.int .i64 (i : Int), .slice pa pn pc, .slice rb rn rd, .slice ob on od] 39)
  have hcC := Cells.new wB [.int .i64 (i : Int), .slice pa pn pc, .slice rb rn rd, .slice ob on od] 39
  have hF0 : FInv wD (wB.alloc (.cells #[.int .i64 (i : Int), .slice pa pn pc, .slice rb rn rd, .slice ob on od] 39)) d wB.heap.size (i : Int) pa pn pc rb rn rd ob on od 0 := ⟨by rw [fTo_zero]; exact (GAt.of hown hGK hpn).on hbC, hcC, hKR.on hbC, hKO.on hbC, bstep hb hbC⟩
  have HPN := hide hpn
  clear hown hGK hKR hKO hb hbC hcC hND hpn x0 x1 x2 x3 x4
  go_wp2_with fail
  generalize wB.heap.size = bm at *
  go_loopw [5] (fun iv wr => ∃ k : Nat, k ≤ vn ∧ iv = .int .i64 k ∧ FInv wD wr d bm (i : Int) pa pn pc rb rn rd ob on od k) (fun iv _ => vn - (intOf iv).toNat)
  case atStart => exact ⟨0, Nat.zero_le _, rfl, hF0⟩
  case round =>
    clear hF0
    obtain ⟨k, hk, rfl, hF⟩ := hrel
    have hB := hF.2.2.2.2
    by_cases hlt : k < vn
    · have hki : (k : Int) < (vn : Int) := by omega
      have hkg : k < d.gates.length := by have := HG.out; omega
      have hkv : k < v.length := by have := unhide HVL; omega
      obtain ⟨bv, ov, rfl, hbv, cv⟩ := (hV.below hB).at hkv
      have hval : (foldV d).getD k 2 = v[k] := by rw [← unhide HVF]; simp [List.getD_eq_getElem?_getD, hkv]
      have hat := foldD_at d k hkg
      rw [hval] at hat
      have h012 := foldV_val d k
      rw [hval] at h012
      clear hval
      generalize v[k] = vk at *
      rcases h012 with rfl | rfl | rfl
      · rcases hF.1 with h9 | ⟨pb, full, rfl, hpB, hcF, hGP⟩
        · have := fTo_len d k; rw [h9] at this; simp at this; omega
        have hfl : d.gates.length * 3 ≤ full.length := by have := hGP.1; rw [fTo_len] at this; exact this
        have hpn1 : (k : Int) < (pn : Int) := by have := unhide HPN; omega
        have d1 := hF.2.1.cell 1
        obtain ⟨zz0, z0⟩ : ∃ z, wr.cell? ⟨pb, k * 3, none⟩ = some z := ⟨_, (hcF.cell _).trans (List.getElem?_eq_getElem (by omega))⟩
        obtain ⟨zz1, z1⟩ : ∃ z, wr.cell? ⟨pb, k * 3 + 1, none⟩ = some z := ⟨_, (hcF.cell _).trans (List.getElem?_eq_getElem (by omega))⟩
        obtain ⟨zz2, z2⟩ : ∃ z, wr.cell? ⟨pb, k * 3 + 2, none⟩ = some z := ⟨_, (hcF.cell _).trans (List.getElem?_eq_getElem (by omega))⟩
        have f0 := hcF.frozen (k * 3)
        have f1 := hcF.frozen (k * 3 + 1)
        have f2 := hcF.frozen (k * 3 + 2)
        have R := hide (hF.write hkg hpB hcF hGP 0 hat)
        have cv9 : (((wr.setCell ⟨pb, k * 3, none⟩ (.int .i64 0)).setCell ⟨pb, k * 3 + 1, none⟩ (.int .i64 0)).setCell ⟨pb, k * 3 + 2, none⟩ (.slice none 0 0)).cell? ⟨bv, ov + k, none⟩ = some (.int .i64 0) := by
          have hbvD : bv < wD.heap.size := by
            obtain ⟨bv', ov', h1, h2, _⟩ := hV.at hkv
            injection h1 with h1; injection h1 with h1; omega
          exact ((((hB.setCell hpB _).setCell hpB _).setCell hpB _).cell (p := ⟨bv, ov + k, none⟩) hbvD).trans ((hB.cell (p := ⟨bv, ov + k, none⟩) hbvD).symm.trans cv)
        clear hF hcF hGP hat
        go_wp2_with fail
        exact ⟨⟨k + 1, by omega, by go_num, unhide R⟩, by simp [intOf]; omega⟩
      · rcases hF.1 with h9 | ⟨pb, full, rfl, hpB, hcF, hGP⟩
        · have := fTo_len d k; rw [h9] at this; simp at this; omega
        have hfl : d.gates.length * 3 ≤ full.length := by have := hGP.1; rw [fTo_len] at this; exact this
        have hpn1 : (k : Int) < (pn : Int) := by have := unhide HPN; omega
        have d1 := hF.2.1.cell 1
        obtain ⟨zz0, z0⟩ : ∃ z, wr.cell? ⟨pb, k * 3, none⟩ = some z := ⟨_, (hcF.cell _).trans (List.getElem?_eq_getElem (by omega))⟩
        obtain ⟨zz1, z1⟩ : ∃ z, wr.cell? ⟨pb, k * 3 + 1, none⟩ = some z := ⟨_, (hcF.cell _).trans (List.getElem?_eq_getElem (by omega))⟩
        obtain ⟨zz2, z2⟩ : ∃ z, wr.cell? ⟨pb, k * 3 + 2, none⟩ = some z := ⟨_, (hcF.cell _).trans (List.getElem?_eq_getElem (by omega))⟩
        have f0 := hcF.frozen (k * 3)
        have f1 := hcF.frozen (k * 3 + 1)
        have f2 := hcF.frozen (k * 3 + 2)
        have R := hide (hF.write hkg hpB hcF hGP 1 hat)
        clear hF hcF hGP hat
        go_wp2_with fail
        exact ⟨⟨k + 1, by omega, by go_num, unhide R⟩, by simp [intOf]; omega⟩
      · have R := hide (show FInv wD wr d bm (i : Int) pa pn pc rb rn rd ob on od (k + 1) by
          obtain ⟨h1, h2⟩ := hF
          exact ⟨by rw [fTo_same d k hkg hat]; exact h1, h2⟩)
        clear hF hat
        go_wp2_with fail
        exact ⟨⟨k + 1, by omega, by go_num, unhide R⟩, by simp [intOf]; omega⟩
    · have hkn : k = vn := by omega
      subst hkn
      have hcM := hF.2.1
      have hcr := hcD.below hB hrzD
      have e0 := hcM.cell 0
      have e1 := hcM.cell 1
      have e2 := hcM.cell 2
      have e3 := hcM.cell 3
      have z0 := hcr.cell 0
      have z1 := hcr.cell 1
      have z2 := hcr.cell 2
      have z3 := hcr.cell 3
      have f0 := hcr.frozen 0
      have f1 := hcr.frozen 1
      have f2 := hcr.frozen 2
      have f3 := hcr.frozen 3
      have hc9 := (((hcr.set 0 (.int .i64 (i : Int))).set 1 (.slice pa pn pc)).set 2 (.slice rb rn rd)).set 3 (.slice ob on od)
      have y0 := hc9.cell 0
      have y1 := hc9.cell 1
      have y2 := hc9.cell 2
      have y3 := hc9.cell 3
      have hbw := ((((BD.trans (hB.mono BD.size)).setCell (p := ⟨w.heap.size + 1, 0, none⟩) (Nat.le_succ _) (.int .i64 (i : Int))).setCell (p := ⟨w.heap.size + 1, 1, none⟩) (Nat.le_succ _) (.slice pa pn pc)).setCell (p := ⟨w.heap.size + 1, 2, none⟩) (Nat.le_succ _) (.slice rb rn rd)).setCell (p := ⟨w.heap.size + 1, 3, none⟩) (Nat.le_succ _) (.slice ob on od)
      have R : NetKp (foldD d) w ((((wr.setCell ⟨w.heap.size + 1, 0, none⟩ (.int .i64 (i : Int))).setCell ⟨w.heap.size + 1, 1, none⟩ (.slice pa pn pc)).setCell ⟨w.heap.size + 1, 2, none⟩ (.slice rb rn rd)).setCell ⟨w.heap.size + 1, 3, none⟩ (.slice ob on od)) (.returned (.agg #[.int .i64 (i : Int), .slice pa pn pc, .slice rb rn rd, .slice ob on od])) := by
        obtain ⟨g1, g2, g3, g4, g5⟩ := hF
        rw [show fTo d k = (foldD d).gates by rw [← HG.out, fTo_full]] at g1
        have hG : ∀ g ∈ List.range wD.heap.size, g ∈ GO wD (.slice pa pn pc) ∧ g < wD.heap.size := fun g hg => ⟨List.mem_append.2 (Or.inr hg), List.mem_range.1 hg⟩
        have k1 := g1.kp (n := pn) (by rw [fold_len]; exact unhide HPN) (by have := unhide HPN; have := HG.out; unfold maxLen; omega) hG
        have k2 := g3.less (fun g hg => (hG g hg).1)
        have k3 := g4.less (fun g hg => (hG g hg).1)
        have k0 : Kp (List.range wD.heap.size) wr (fun V => NetAt V (foldD d) (i : Int) pa pn rb rn ob on) := fun V hK => ⟨unhide HII, k1 V hK, k2 V hK, k3 V hK⟩
        have hBs := BD.size
        exact ⟨_, pa, pn, pc, rb, rn, rd, ob, on, od, rfl, k0.step (kept4m (List.mem_range.2 hrzD) _ _ _ _) (fun g hg => Or.inl (List.mem_range.2 (by have := List.mem_range.1 hg; omega))), hbw⟩
      have R9 := hide R
      clear R hbw hc9 hcr hcM hF hB
      go_wp2_with fail
      exact bodyPost_ret (v := .agg #[.int .i64 (i : Int), .slice pa pn pc, .slice rb rn rd, .slice ob on od]) (by simp [results, Try.results21, go_sem, y0, y1, y2, y3]) rfl (unhide R9)
end Go.Proofs.Ytongajonecgdpag
