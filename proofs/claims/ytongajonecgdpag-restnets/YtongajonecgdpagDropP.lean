/- slices.Grow of nil, slices.Concat of two. -/
import Derived.Test.YtongajonecgdpagSweepW
import Derived.Lib.AppendZeros
import Derived.OwnWalk
namespace Go.Proofs.Ytongajonecgdpag
open Go.RowKit

theorem wpList_append_run2 {P : Program} {w : World} {ops : Array Oper} {rest : List Oper} {o : Oper} {a : Act} {Q : Exit → Act → World → Prop} (hgd : o.guard = none) (s x : Operand) (t tn : TypeId)
    (ho : o.op = .call { callee := .builtin .append, args := #[s, x], argTypes := #[t, tn] }) (v u : Value) (hs : a.eval s = v) (hx : a.eval x = u) {v' : Value} {w' : World} (hr : (Builtin.append_ #[t, tn] o.type #[v, u]).run P w = .ok v' w')
    (h : wpList P ops Q rest (a.put o.dst v') w') : wpList P ops Q (o :: rest) a w := by
  refine wpList_plain hgd fun K hK => ?_
  unfold Oper.wp execOp
  simp only [ho, resolve, invoke, builtin, Sem.run_bind, Sem.run_pure, Result.andThen_ok, List.map_toArray, List.map_cons, List.map_nil, hs, hx, hr]
  exact hK _ _ h

theorem grow_own (w : World) (n : Nat) (h0 : 0 < n) (h : n * 8 ≤ 281474976710656) : ∃ cap w', n ≤ cap ∧ (Builtin.append_ #[37, 3] 37 #[.slice none 0 0, .int .i64 n]).run Try.prog w = .ok (.slice (some ⟨w.heap.size, 0, none⟩) n cap) w' ∧ w'.ownsRow w.heap.size 3 1 (.slice (some ⟨w.heap.size, 0, none⟩) 0 cap) 0 [] ∧ Below w.heap.size w w' := by
  obtain ⟨i0, hi, hz0, hz1, hz2⟩ := info_parts Try.infoInt
  have hr := Go.Lib.run_append_nil_zeros (P := Try.prog) w 37 3 37 3 i0 (.int .i64 0) .i64 .i64 Try.underlying37 Try.underlying3 hi hz0 n h0 (by omega) (by omega) (by rw [hz2]; exact h)
  refine ⟨_, _, ?_, hr, ?_, (Below.refl _ w).drew.alloc (by simp) _⟩
  · exact grownCap_ge w n 0 _
  · have hcap := grownCap_ge w n 0 3
    refine ⟨rfl, Or.inr ⟨w.heap.size, _, Builtin.zeroCells (Value.int .i64 0).cells n ++ Builtin.zeroCells (Value.int .i64 0).cells (grownCap w n 0 3 - n), rfl, Nat.le_refl _, ?_, Nat.zero_le _, grownCap_le_maxLen w n 0 _ (by unfold maxLen; omega), ?_, by simp⟩⟩
    · exact (MapKept.heap_alloc w.drew _).1
    · have h1 : (Value.int .i64 0).cells.size = 1 := rfl
      simp [Builtin.zeroCells, h1]; omega

def Grown (n : Nat) (w w' : World) (e : Ending) : Prop := (n = 0 ∧ e = .returned (.slice none 0 0) ∧ w' = w) ∨ (0 < n ∧ ∃ cap, n ≤ cap ∧ e = .returned (.slice (some ⟨w.heap.size, 0, none⟩) 0 cap) ∧ w'.ownsRow w.heap.size 3 1 (.slice (some ⟨w.heap.size, 0, none⟩) 0 cap) 0 [] ∧ Below w.heap.size w w')
set_option maxHeartbeats 1000000 in
/-- Grow of nil: room for n. -/
theorem Grow_any (n : Nat) (h : n * 8 ≤ 281474976710656) (w : World) :
    Calls Try.prog 72 #[.slice none 0 0, .int .i64 (n : Int)] w fun e w' => Grown n w w' e := by
  have hneg : ¬ (n : Int) < 0 := by omega
  by_cases h0 : n = 0
  · subst h0
    go_enter Try.func72, Try.ntmps72
    go_wp2_with fail
    go_ret
    exact Or.inl ⟨rfl, rfl, rfl⟩
  · have hpos : 0 < n := by omega
    have hposi : (0 : Int) < (n : Int) := by omega
    obtain ⟨cap, w', hc, hr, hown, hb⟩ := grow_own w n hpos h
    have HO := hide hown
    clear hown h0
    go_enter Try.func72, Try.ntmps72
    go_wp2_with (at_builtin; refine wpList_append_run2 rfl _ _ 37 3 rfl _ _ rfl rfl hr ?_)
    go_ret
    exact Or.inr ⟨hpos, cap, hc, rfl, unhide HO, hb⟩

def Room (v : Value) (p tot : Nat) : Prop := tot = 0 ∨ ∃ g cap, v = .slice (some ⟨g, 0, none⟩) p cap ∧ tot ≤ cap
theorem ints_news {w : World} {ad : Addr} {q : Nat} {ys : List Int} (hI : Ints w (some ad) q ys) : ∀ (j : Nat) (u : Value), (ys.map (fun x => Value.int .i64 x))[j]? = some u → w.cell? (ad.add j) = some u := by
  intro j u hj
  obtain ⟨h1, h2, h3⟩ := hI
  rcases h3 with h3 | ⟨b, off, h4, _, hcell⟩
  · subst h3; simp at hj
  · simp at h4; subst h4
    have hj' : j < ys.length := by
      rcases Nat.lt_or_ge j ys.length with h | h
      · exact h
      · rw [List.getElem?_eq_none (by simpa using h)] at hj; simp at hj
    rw [addr_plus, hcell j hj']
    simpa [hj'] using hj
theorem own_base_of {w : World} {base size n : Nat} {e : TypeId} {v : Value} {xs : List Value} (h : w.ownsRow base e size v n xs) : ∀ k, v.ownBlock = some k → base ≤ k := by
  intro k hk
  rcases h.2 with ⟨hv, _⟩ | ⟨g', _, _, hv, hbs, _⟩
  · rw [hv] at hk; simp [Value.ownBlock] at hk
  · rw [hv] at hk; simp [Value.ownBlock] at hk; omega
theorem cat_app {w : World} (base : Nat) (v : Value) (p : Nat) (xs : List Int) (hown : w.ownsRow base 3 1 v p (xs.map (fun x => Value.int .i64 x))) (ys : List Int) (la : Option Addr) (q c : Nat) (hc : la = none → q = 0 ∧ c = 0) (hI : Ints w la q ys) (tot : Nat) (hp : p + q ≤ tot) (hR : Room v p tot) (hbase : base ≤ w.heap.size) :
    ∃ v' w', (Builtin.append_ #[37, 37] 37 #[v, .slice la q c]).run Try.prog w = .ok v' w' ∧ w'.ownsRow base 3 1 v' (p + q) ((xs ++ ys).map (fun x => Value.int .i64 x)) ∧ Room v' (p + q) tot ∧ Below base w w' := by
  obtain ⟨i0, hi, hz0, hz1, hz2⟩ := info_parts Try.infoInt
  cases la with
  | none =>
    obtain ⟨rfl, rfl⟩ := hc rfl
    have hx : ys = [] := List.length_eq_zero_iff.1 hI.1.symm
    subst hx
    exact ⟨v, w, run_append_owned_none (P := Try.prog) (w := w) base 37 37 3 i0 1 Try.underlying37 hi v p _ hown, by rw [List.append_nil]; exact hown, hR, Below.refl _ _⟩
  | some ad =>
    have hl : (ys.map (fun x => Value.int .i64 x)).length = q * 1 := by have := hI.1; simp; omega
    have h1 : ∀ u ∈ ys.map (fun x => Value.int .i64 x), u.oneCell' = true := by
      intro u hu
      obtain ⟨x, _, rfl⟩ := List.mem_map.1 hu
      rfl
    rcases hR with h0 | ⟨g, cap, rfl, hcap⟩
    · obtain ⟨v', w', hr, ho, hg, _⟩ := run_append_own (P := Try.prog) w base 37 37 3 i0 (.int .i64 0) 1 8 Try.underlying37 hi hz0 hz1 hz2 rfl (by decide) v p _ hown ad q c _ hl (ints_news hI) h1 (by unfold maxLen; omega) (by omega) hbase
      exact ⟨v', w', hr, by rw [List.map_append]; exact ho, Or.inl h0, (Below.refl _ _).grown hg hbase (own_base_of hown)⟩
    · obtain ⟨w', hr, ho, hg⟩ := run_append_fits (P := Try.prog) w base 37 37 3 i0 1 Try.underlying37 hi hz1 g p cap _ hown ad q c _ hl (ints_news hI) h1 (by omega)
      exact ⟨_, w', hr, by rw [List.map_append]; exact ho, Or.inr ⟨g, cap, rfl, hcap⟩, (Below.refl _ _).grown hg hbase (own_base_of hown)⟩

def partL (n m k : Nat) : Nat := if k = 0 then 0 else if k = 1 then n else n + m
def partX (xs ys : List Int) (k : Nat) : List Int := if k = 0 then [] else if k = 1 then xs else xs ++ ys
def Catted (w w' : World) (l : List Int) (n : Nat) (e : Ending) : Prop := ∃ a c, e = .returned (.slice a n c) ∧ Ints w' a n l ∧ Below w.heap.size w w'
def CatAt (w wr : World) (v : Value) (n m k : Nat) (xs ys : List Int) : Prop := wr.ownsRow w.heap.size 3 1 v (partL n m k) ((partX xs ys k).map (fun x => Value.int .i64 x)) ∧ Room v (partL n m k) (n + m) ∧ Below w.heap.size w wr

set_option maxRecDepth 100000 in
set_option maxHeartbeats 1000000 in
theorem Concat_any (xs ys : List Int) (la lb : Option Addr) (n m ca cb g : Nat) (w : World) (hA : Ints w la n xs) (hB : Ints w lb m ys) (hnA : la = none → n = 0 ∧ ca = 0) (hnB : lb = none → m = 0 ∧ cb = 0)
    (c0 : w.cell? ⟨g, 0, none⟩ = some (.slice la n ca)) (c1 : w.cell? ⟨g, 1, none⟩ = some (.slice lb m cb)) (hg : g < w.heap.size) (hs : (n + m) * 8 ≤ 281474976710656) :
    Calls Try.prog 44 #[.slice (some ⟨g, 0, none⟩) 2 2] w fun e w' => Catted w w' (xs ++ ys) (n + m) e := by
  have HA := hide hnA
  have HB := hide hnB
  clear hnA hnB
  go_enter Try.func44, Try.ntmps44
  go_wp2_with fail
  go_loopw [3, 11] (fun s i wr => wr = w ∧ ∃ k : Nat, k ≤ 2 ∧ i = .int .i64 k ∧ s = .int .i64 (partL n m k : Nat)) (fun _ i _ => 2 - (intOf i).toNat)
  case atStart => exact ⟨rfl, 0, by omega, rfl, rfl⟩
  case round =>
    obtain ⟨rfl, k, hk, rfl, rfl⟩ := hrel
    match k, hk with
    | 0, _ =>
      have e1 : partL n m 0 = 0 := rfl
      have hn0 : ¬ (n : Int) < 0 := by omega
      have hw : IntKind.i64.wrap (n : Int) = n := by rw [IntKind.wrap_i64]; omega
      rw [e1]
      go_wp2_with fail
      exact ⟨⟨trivial, 1, by omega, by go_num, by first | rfl | (simp [partL]; done) | (simp [partL, hw]; done)⟩, by simp [intOf]⟩
    | 1, _ =>
      have e1 : partL n m 1 = n := rfl
      have hw : IntKind.i64.wrap ((n : Int) + (m : Int)) = ((n + m : Nat) : Int) := by rw [IntKind.wrap_i64]; omega
      have hn0 : ¬ ((n + m : Nat) : Int) < 0 := by omega
      rw [e1]
      go_wp2_with fail
      exact ⟨⟨trivial, 2, by omega, by go_num, by first | rfl | (simp [partL]; done) | (simp [partL, hw]; done)⟩, by simp [intOf]⟩
    | 2, _ =>
      rename World => w0
      have e1 : partL n m 2 = n + m := rfl
      rw [e1]
      go_wp2_with fail
      refine (Grow_any (n + m) hs _).mono ?_
      intro e w1 hG
      obtain ⟨v, hv, hown, hroom, hb⟩ : ∃ v, e = .returned v ∧ w1.ownsRow w0.heap.size 3 1 v 0 [] ∧ Room v 0 (n + m) ∧ Below w0.heap.size w0 w1 := by
        rcases hG with ⟨h0, rfl, rfl⟩ | ⟨h0, cap, hc, rfl, ho, hb⟩
        · exact ⟨_, rfl, ⟨rfl, Or.inl ⟨rfl, rfl⟩⟩, Or.inl h0, Below.refl _ _⟩
        · exact ⟨_, rfl, ho, Or.inr ⟨_, _, rfl, hc⟩, hb⟩
      subst hv
      have hC0 : CatAt w0 w1 v n m 0 xs ys := ⟨hown, hroom, hb⟩
      clear hG hown hroom hb
      go_wp2_with fail
      go_loopw [6, 27] (fun s i wr => ∃ k : Nat, k ≤ 2 ∧ i = .int .i64 k ∧ CatAt w0 wr s n m k xs ys) (fun _ i _ => 2 - (intOf i).toNat)
      case atStart => exact ⟨0, by omega, rfl, hC0⟩
      case round =>
        clear hC0
        obtain ⟨j, hj, rfl, hC⟩ := hrel
        match j, hj with
        | 0, _ =>
          obtain ⟨ho, hr, hb⟩ := hC
          have d0 := (hb.cell (p := ⟨g, 0, none⟩) hg).trans c0
          obtain ⟨v', w', hrun, ho', hr', hb'⟩ := cat_app w0.heap.size _ 0 [] ho xs la n ca (unhide HA) (hA.below hb) (n + m) (by omega) hr hb.size
          rw [Nat.zero_add, List.nil_append] at ho'
          rw [Nat.zero_add] at hr'
          have R := hide (show CatAt w0 w' v' n m 1 xs ys from ⟨ho', hr', hb.trans hb'⟩)
          clear ho hr ho' hr' hb'
          go_wp2_with (at_builtin; refine wpList_append_run2 rfl _ _ 37 37 rfl _ _ rfl rfl hrun ?_)
          exact ⟨⟨1, by omega, by go_num, unhide R⟩, by simp [intOf]⟩
        | 1, _ =>
          obtain ⟨ho, hr, hb⟩ := hC
          have d1 := (hb.cell (p := ⟨g, 1, none⟩) hg).trans c1
          obtain ⟨v', w', hrun, ho', hr', hb'⟩ := cat_app w0.heap.size _ n xs ho ys lb m cb (unhide HB) (hB.below hb) (n + m) (Nat.le_refl _) hr hb.size
          have R := hide (show CatAt w0 w' v' n m 2 xs ys from ⟨ho', hr', hb.trans hb'⟩)
          clear ho hr ho' hr' hb'
          go_wp2_with (at_builtin; refine wpList_append_run2 rfl _ _ 37 37 rfl _ _ rfl rfl hrun ?_)
          exact ⟨⟨2, by omega, by go_num, unhide R⟩, by simp [intOf]⟩
        | 2, _ =>
          obtain ⟨ho, hr, hb⟩ := hC
          obtain ⟨a9, c9, rfl, hI9⟩ := own_ints (n := n + m) (ys := xs ++ ys) ho (by unfold maxLen; omega)
          have hI10 : Ints _ a9 (n + m) (xs ++ ys) := hI9
          clear ho hr hI9
          go_wp2_with fail
          go_ret
          exact ⟨a9, c9, rfl, hI10, hb⟩

open Go.Maps
def dropA (d : NetD) (bs : List Bool) : NetD := if checkE d = 0 then dropW d bs else emptyD
theorem needE_own (d : NetD) : needE d (needL d) = checkE d := by
  unfold needE
  by_cases e : checkE d = 0
  · have ho := ok_of e
    have : inB d (needL d) = true := by
      unfold inB inTo
      rw [List.take_length, List.all_eq_true]
      intro x hx
      have hr : 0 ≤ x ∧ x < d.gates.length := by
        rcases List.mem_append.1 hx with h | h
        · exact ho.out x h
        · obtain ⟨r, hr, rfl⟩ := List.mem_map.1 h
          exact ho.nexts r hr
      simp [isB]; omega
    rw [if_pos e, this, e]; rfl
  · rw [if_neg e]
/-- What Drop answers: the gates that stay are those that are needed. -/
def DropAns (d : NetD) (w w' : World) (e : Ending) : Prop := ∃ bs, (checkE d = 0 → Marks d.gates (needL d) bs) ∧ NetAns (dropA d bs) (checkE d) w w' e
theorem pair_new (w : World) (u v : Value) (T : TypeId) : (w.alloc (.cells #[u, v] T)).cell? ⟨w.heap.size, 0, none⟩ = some u ∧ (w.alloc (.cells #[u, v] T)).cell? ⟨w.heap.size, 1, none⟩ = some v ∧ w.heap.size < (w.alloc (.cells #[u, v] T)).heap.size := by
  exact ⟨by simp, by simp, by simp⟩

theorem held4_of {w0 W : World} {b B : Nat} {u0 u1 u2 u3 : Value} (hb : b < B) (h0 : w0.cell? ⟨b, 0, none⟩ = some u0) (h1 : w0.cell? ⟨b, 1, none⟩ = some u1) (h2 : w0.cell? ⟨b, 2, none⟩ = some u2) (h3 : w0.cell? ⟨b, 3, none⟩ = some u3) (h : Below B w0 W) :
    Below B w0 W ∧ W.cell? ⟨b, 0, none⟩ = some u0 ∧ W.cell? ⟨b, 1, none⟩ = some u1 ∧ W.cell? ⟨b, 2, none⟩ = some u2 ∧ W.cell? ⟨b, 3, none⟩ = some u3 :=
  ⟨h, (h.cell (p := ⟨b, 0, none⟩) hb).trans h0, (h.cell (p := ⟨b, 1, none⟩) hb).trans h1, (h.cell (p := ⟨b, 2, none⟩) hb).trans h2, (h.cell (p := ⟨b, 3, none⟩) hb).trans h3⟩

set_option maxRecDepth 100000 in
set_option maxHeartbeats 4000000 in
theorem Drop_any (d : NetD) (ins0 : Int) (ga ra oa : Option Addr) (gn gc rn rc on oc : Nat) (w : World) (h : NetAt w d ins0 ga gn ra rn oa on) (hnil : oa = none → oc = 0) (hs : (on + rn) * 8 ≤ 281474976710656) :
    Calls Try.prog 17 #[.agg #[.int .i64 ins0, .slice ga gn gc, .slice ra rn rc, .slice oa on oc]] w fun e w' => DropAns d w w' e := by
  have hb0 : Below w.heap.size w (w.alloc (.cells #[.int .i64 ins0, .slice ga gn gc, .slice ra rn rc, .slice oa on oc] 39)) := (Below.refl _ _).alloc (Nat.le_refl _) _
  have hbox : Boxed (w.alloc (.cells #[.int .i64 ins0, .slice ga gn gc, .slice ra rn rc, .slice oa on oc] 39)) w.heap.size ins0 ga gn gc ra rn rc oa on oc := Boxed.new _ _ _ _ _ _ _ _ _ _ _ _
  have hb1 := (Below.refl _ (w.alloc (.cells #[.int .i64 ins0, .slice ga gn gc, .slice ra rn rc, .slice oa on oc] 39))).alloc (Nat.le_refl _) (.cells #[.int .i64 0, .slice none 0 0, .slice none 0 0, .slice none 0 0] 39)
  have hc0 := Cells.new (w.alloc (.cells #[.int .i64 ins0, .slice ga gn gc, .slice ra rn rc, .slice oa on oc] 39)) [.int .i64 0, .slice none 0 0, .slice none 0 0, .slice none 0 0] 39
  have hsz : (w.alloc (.cells #[.int .i64 ins0, .slice ga gn gc, .slice ra rn rc, .slice oa on oc] 39)).heap.size = w.heap.size + 1 := by simp
  rw [hsz] at hc0
  have hN := (h.below hb0).below hb1
  have hx := hbox.below hb1
  have B0 := bstep hb0 hb1
  have HG : Hid (d.gates.length = gn) := h.gates.1.symm
  have hon0 : oa = none → on = 0 := fun e => by
    rcases h.outs.2.2 with h1 | ⟨b, off, h1, _⟩
    · rw [h.outs.1, h1]; rfl
    · rw [e] at h1; simp at h1
  have HNI := hide (show oa = none → on = 0 ∧ oc = 0 from fun e => ⟨hon0 e, hnil e⟩)
  clear hon0
  clear h hb0 hb1 hbox hsz hnil
  go_enter Try.func17, Try.ntmps17
  go_upto_region 1 with fail
  generalize hw2 : (w.alloc (.cells #[.int .i64 ins0, .slice ga gn gc, .slice ra rn rc, .slice oa on oc] 39)).alloc (.cells #[.int .i64 0, .slice none 0 0, .slice none 0 0, .slice none 0 0] 39) = w2 at *
  clear hw2
  have hx0 := hx
  obtain ⟨x0, x1, x2, x3, x4⟩ := hx
  have hbd := (Below.refl w2.heap.size w2).drew
  go_region_held3 (fun W => Below w2.heap.size w2 W ∧ W.cell? ⟨w.heap.size, 0, none⟩ = some (.int .i64 ins0) ∧ W.cell? ⟨w.heap.size, 1, none⟩ = some (.slice ga gn gc) ∧ W.cell? ⟨w.heap.size, 2, none⟩ = some (.slice ra rn rc) ∧ W.cell? ⟨w.heap.size, 3, none⟩ = some (.slice oa on oc))
    ((first | exact held_start hx0 | exact held_of hx0 hSA | exact held_of hx0 hSL | exact held_of hx0 hSB | exact held_of hx0 hSD))
    ((first
      | (go_at_call 45; refine (Nexts_any d.regs ra rn rc _ (hN.regs.below hbd) (by omega)).mono ?_; rintro e wA ⟨aA, cA, rfl, hIA, hnA, hFA, hbA⟩; have hSA := bstep hbd hbA; have hAL := (Below.refl _ wA).alloc (Nat.le_refl _) (.cells #[.slice oa on oc, .slice aA rn cA] 37); have hSL := bstep hSA hAL; have HNA := hide (show aA = none → rn = 0 ∧ cA = 0 from fun e => absurd e hnA); clear hnA; have hPN := pair_new wA (.slice oa on oc) (.slice aA rn cA) 37)
      | (go_at_call 44; refine (Concat_any d.outs (d.regs.map (·.2)) oa aA on rn oc cA wA.heap.size _ (hN.outs.below hSL) (hIA.below hAL) (unhide HNI) (unhide HNA) hPN.1 hPN.2.1 hPN.2.2 hs).mono ?_; rintro e wB ⟨aB, cB, rfl, hIB, hbB⟩; have hSB := bstep hSL hbB)
      | (go_at_call 43; refine (Needs_any d _ _ _ _ _ _ _ _ _ _ _ (hN.below hSB) (needL d) aB (on + rn) cB hIB).mono ?_; rintro e wD ⟨va, vn, vc, bs, rfl, hV, hAn, hbD⟩; have hSD := bstep hSB hbD)))
  rw [needE_own]
  have HMK := hide (show checkE d = 0 → Marks d.gates (needL d) bs from fun e => hAn.1 (by rw [needE_own]; exact e))
  have hxD := hx0.below hSD
  have hND := hN.below hSD
  have hcD := hc0.below hSD hc0.lt
  have BD := bstep B0 hSD
  clear hIA hFA hAL hPN hIB hAn hbA hbB hbD hSA hSL hSB hSD hx0 hN hc0 B0 hbd x0 x1 x2 x3 x4
  by_cases e0 : checkE d = 0
  case neg =>
    have HA := hide (show dropA d bs = emptyD by unfold dropA; rw [if_neg e0])
    have HE := hide e0
    have hq : (checkE d != 0) = true := by simp [e0]
    have z0 := hcD.cell 0
    have z1 := hcD.cell 1
    have z2 := hcD.cell 2
    have z3 := hcD.cell 3
    have f0 := hcD.frozen 0
    have f1 := hcD.frozen 1
    have f2 := hcD.frozen 2
    have f3 := hcD.frozen 3
    have hc5 := (((hcD.set 0 (.int .i64 0)).set 1 (.slice none 0 0)).set 2 (.slice none 0 0)).set 3 (.slice none 0 0)
    have y0 := hc5.cell 0
    have y1 := hc5.cell 1
    have y2 := hc5.cell 2
    have y3 := hc5.cell 3
    have B5 := (((BD.setCell (p := ⟨w.heap.size + 1, 0, none⟩) (Nat.le_succ _) (.int .i64 0)).setCell (p := ⟨w.heap.size + 1, 1, none⟩) (Nat.le_succ _) (.slice none 0 0)).setCell (p := ⟨w.heap.size + 1, 2, none⟩) (Nat.le_succ _) (.slice none 0 0)).setCell (p := ⟨w.heap.size + 1, 3, none⟩) (Nat.le_succ _) (.slice none 0 0)
    clear e0
    go_wp2_with fail
    exact bodyPost_ret (v := .tuple #[.agg #[.int .i64 0, .slice none 0 0, .slice none 0 0, .slice none 0 0], .int .i64 (checkE d)]) (by simp [results, Try.results17, go_sem, y0, y1, y2, y3]) rfl ⟨bs, fun e => absurd e (unhide HE), _, _, _, _, _, _, _, _, _, _, rfl, by rw [unhide HA]; exact NetAt.empty _, fun _ => rfl, B5⟩
  have HCK := hide e0
  have hok := ok_of e0
  have HA := hide (show dropA d bs = dropW d bs by unfold dropA; rw [if_pos e0])
  have HCL := hide (clo_of (unhide HMK e0) e0)
  have hgn : gn ≤ 200 := by have := hok.gates; have := HG.out; omega
  have hvn : vn = gn := by rw [hV.1, (unhide HCL).len]; exact HG.out
  subst hvn
  rw [e0]
  clear e0 hok
  have hxl := hxD.1
  have hcl := hcD.lt
  obtain ⟨x0, x1, x2, x3, x4⟩ := hxD
  have hbd := (Below.refl wD.heap.size wD).drew
  go_wp2_with fail
  go_region_held3 (fun W => Below (w.heap.size + 1) wD W ∧ W.cell? ⟨w.heap.size, 0, none⟩ = some (.int .i64 ins0) ∧ W.cell? ⟨w.heap.size, 1, none⟩ = some (.slice ga vn gc) ∧ W.cell? ⟨w.heap.size, 2, none⟩ = some (.slice ra rn rc) ∧ W.cell? ⟨w.heap.size, 3, none⟩ = some (.slice oa on oc))
    ((first | exact held4_of (Nat.lt_succ_self _) x1 x2 x3 x4 (Below.refl _ _).drew | exact held4_of (Nat.lt_succ_self _) x1 x2 x3 x4 (hSA.mono (Nat.le_of_lt hcl)) | exact held4_of (Nat.lt_succ_self _) x1 x2 x3 x4 (hSB.mono (Nat.le_of_lt hcl)) | exact held4_of (Nat.lt_succ_self _) x1 x2 x3 x4 (((((hSB.mono (Nat.le_of_lt hcl)).setCell (Nat.le_refl _) _).setCell (Nat.le_refl _) _).setCell (Nat.le_refl _) _).setCell (Nat.le_refl _) _)))
    ((first
      | (go_at_call 47; refine (places_any bs va vn vc _ (hV.below hbd) hgn).mono ?_; rintro e wA ⟨m, rfl, hmw, hMA, hbA⟩; have hSA := bstep hbd hbA)
      | (go_at_call 46; refine (moved_any d bs ins0 ga ra oa vn gc rn rc on oc m _ (hND.below hSA) hMA (unhide HCK) (unhide HCL)).mono ?_; rintro e wB ⟨pa, pn, pc, rb, rd, ob, od, rfl, hNB, hOB, hbB⟩; have hSB := bstep hSA hbB; have hcB := hcD.below hSB hcl; have z0 := hcB.cell 0; have z1 := hcB.cell 1; have z2 := hcB.cell 2; have z3 := hcB.cell 3; have f0 := hcB.frozen 0; have f1 := hcB.frozen 1; have f2 := hcB.frozen 2; have f3 := hcB.frozen 3)))
  have hc9 := (((hcB.set 0 (.int .i64 ins0)).set 1 (.slice pa pn pc)).set 2 (.slice rb rn rd)).set 3 (.slice ob on od)
  have y0 := hc9.cell 0
  have y1 := hc9.cell 1
  have y2 := hc9.cell 2
  have y3 := hc9.cell 3
  have B9 : Below w.heap.size w ((((wB.setCell ⟨w.heap.size + 1, 0, none⟩ (.int .i64 ins0)).setCell ⟨w.heap.size + 1, 1, none⟩ (.slice pa pn pc)).setCell ⟨w.heap.size + 1, 2, none⟩ (.slice rb rn rd)).setCell ⟨w.heap.size + 1, 3, none⟩ (.slice ob on od)) := ((((bstep BD hSB).setCell (Nat.le_succ _) _).setCell (Nat.le_succ _) _).setCell (Nat.le_succ _) _).setCell (Nat.le_succ _) _
  have hrz : w.heap.size + 1 ∈ List.range wA.heap.size := List.mem_range.2 (Nat.lt_of_lt_of_le hcl hSA.size)
  have hN9 := hNB _ ((((KeptG.set (k := 0) (.int .i64 ins0) hrz).trans (KeptG.set (k := 1) (.slice pa pn pc) hrz)).trans (KeptG.set (k := 2) (.slice rb rn rd) hrz)).trans (KeptG.set (k := 3) (.slice ob on od) hrz))
  clear hcB hNB hbA hbB hSA hSB z0 z1 z2 z3 f0 f1 f2 f3
  go_wp2_with fail
  exact bodyPost_ret (v := .tuple #[.agg #[.int .i64 ins0, .slice pa pn pc, .slice rb rn rd, .slice ob on od], .int .i64 0]) (by simp [results, Try.results17, go_sem, y0, y1, y2, y3]) rfl ⟨bs, unhide HMK, _, _, _, _, _, _, _, _, _, _, ret_net (unhide HCK).symm, by rw [unhide HA]; exact hN9, hide (fun e => absurd e (unhide hOB)), B9⟩
end Go.Proofs.Ytongajonecgdpag
