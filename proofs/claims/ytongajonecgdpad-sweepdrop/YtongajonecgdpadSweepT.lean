/- The program's sweep.Fold. -/
import Derived.Test.YtongajonecgdpadTernE
import Derived.Test.YtongajonecgdpadSweepS
namespace Go.Proofs.Ytongajonecgdpad
open Go.RowKit

def emptyD : NetD := ⟨0, [], [], []⟩
def foldA (d : NetD) : NetD := if checkE d = 0 then foldD d else emptyD
theorem NetAt.empty (w : World) : NetAt w emptyD 0 none 0 none 0 none 0 := ⟨rfl, ⟨rfl, Nat.zero_le _, Or.inl rfl⟩, ⟨rfl, Nat.zero_le _, Or.inl rfl⟩, Ints.none _⟩
theorem Ints.keep {w w' : World} {a : Option Addr} {n : Nat} {xs : List Int} {B : Nat} (h : Ints w a n xs) (hF : Fresh B a n) (hs : w.heap.size ≤ w'.heap.size) (hk : ∀ k, B ≤ k → k < w.heap.size → w'.heap[k]? = w.heap[k]?) : Ints w' a n xs := by
  obtain ⟨h1, h2, h3⟩ := h
  refine ⟨h1, h2, ?_⟩
  rcases h3 with h3 | ⟨b, off, ha, hlt, hc⟩
  · exact Or.inl h3
  · rcases hF with hF | ⟨b', off', ha', hB⟩
    · left; exact List.length_eq_zero_iff.1 (by omega)
    · rw [ha] at ha'
      injection ha' with ha'
      injection ha' with e1 e2 _
      subst e1
      refine Or.inr ⟨b, off, ha, Nat.lt_of_lt_of_le hlt hs, fun i hi => ?_⟩
      rw [World.cell?_of_block (a := ⟨b, off + i, Option.none⟩) (hk b hB hlt)]
      exact hc i hi
theorem Regs.keep {w w' : World} {a : Option Addr} {n : Nat} {xs : List (Bool × Int)} {B : Nat} (h : Regs w a n xs) (hF : Fresh B a n) (hs : w.heap.size ≤ w'.heap.size) (hk : ∀ k, B ≤ k → k < w.heap.size → w'.heap[k]? = w.heap[k]?) : Regs w' a n xs := by
  obtain ⟨h1, h2, h3⟩ := h
  refine ⟨h1, h2, ?_⟩
  rcases h3 with h3 | ⟨b, off, ha, hlt, hc⟩
  · exact Or.inl h3
  · rcases hF with hF | ⟨b', off', ha', hB⟩
    · left; exact List.length_eq_zero_iff.1 (by omega)
    · rw [ha] at ha'
      injection ha' with ha'
      injection ha' with e1 e2 _
      subst e1
      refine Or.inr ⟨b, off, ha, Nat.lt_of_lt_of_le hlt hs, fun i hi => ⟨?_, ?_⟩⟩
      · rw [World.cell?_of_block (a := ⟨b, off + i * 2, Option.none⟩) (hk b hB hlt)]; exact (hc i hi).1
      · rw [World.cell?_of_block (a := ⟨b, off + i * 2 + 1, Option.none⟩) (hk b hB hlt)]; exact (hc i hi).2
/-- What a row of gates holds so far, its args in memory made since. -/
def GOuts (w : World) (g : Nat) (vs : List Value) (gs : List GateD) : Prop := ∀ j (hj : j < gs.length), ∃ aa an ac, vs[j * 3]? = some (.int .i64 gs[j].kind) ∧ vs[j * 3 + 1]? = some (.int .i64 gs[j].n) ∧ vs[j * 3 + 2]? = some (.slice aa an ac) ∧ Ints w aa an gs[j].args ∧ Fresh (g + 1) aa an
theorem GOuts.keep {w w' : World} {g : Nat} {vs : List Value} {gs : List GateD} (h : GOuts w g vs gs) (hs : w.heap.size ≤ w'.heap.size) (hk : ∀ k, g + 1 ≤ k → k < w.heap.size → w'.heap[k]? = w.heap[k]?) : GOuts w' g vs gs := by
  intro j hj
  obtain ⟨aa, an, ac, h1, h2, h3, h4, h5⟩ := h j hj
  exact ⟨aa, an, ac, h1, h2, h3, h4.keep h5 hs hk, h5⟩
theorem GOuts.more {w : World} {g : Nat} {vs : List Value} {gs : List GateD} (h : GOuts w g vs gs) {x : GateD} {aa : Option Addr} {an ac : Nat} (hI : Ints w aa an x.args) (hF : Fresh (g + 1) aa an) (hl : gs.length * 3 + 2 < vs.length) :
    GOuts w g (((vs.set (gs.length * 3) (.int .i64 x.kind)).set (gs.length * 3 + 1) (.int .i64 x.n)).set (gs.length * 3 + 2) (.slice aa an ac)) (gs ++ [x]) := by
  intro j hj
  by_cases e : j < gs.length
  · obtain ⟨a', n', c', h1, h2, h3, h4, h5⟩ := h j e
    refine ⟨a', n', c', ?_, ?_, ?_, ?_, h5⟩
    · rw [List.getElem?_set_ne (by omega), List.getElem?_set_ne (by omega), List.getElem?_set_ne (by omega), List.getElem_append_left e]; exact h1
    · rw [List.getElem?_set_ne (by omega), List.getElem?_set_ne (by omega), List.getElem?_set_ne (by omega), List.getElem_append_left e]; exact h2
    · rw [List.getElem?_set_ne (by omega), List.getElem?_set_ne (by omega), List.getElem?_set_ne (by omega)]; exact h3
    · rw [List.getElem_append_left e]; exact h4
  · have ej : j = gs.length := by simp at hj; omega
    subst ej
    refine ⟨aa, an, ac, ?_, ?_, ?_, ?_, hF⟩
    · rw [List.getElem?_set_ne (by omega), List.getElem?_set_ne (by omega), List.getElem?_set_self (by omega)]; simp
    · rw [List.getElem?_set_ne (by omega), List.getElem?_set_self (by simp; omega)]; simp
    · rw [List.getElem?_set_self (by simp; omega)]
    · simpa using hI
theorem GOuts.gates {w : World} {g n : Nat} {vs : List Value} {gs : List GateD} {T : TypeId} (h : GOuts w g vs gs) (hc : Cells w g vs T) (hn : n = gs.length) (hm : n ≤ maxLen) : Gates w (some ⟨g, 0, none⟩) n gs := by
  refine ⟨hn, by omega, Or.inr ⟨g, 0, rfl, hc.lt, fun i hi => ?_⟩⟩
  obtain ⟨aa, an, ac, h1, h2, h3, h4, _⟩ := h i hi
  rw [Nat.zero_add]
  exact ⟨(hc.cell _).trans h1, (hc.cell _).trans h2, aa, an, ac, (hc.cell _).trans h3, h4⟩
theorem Try.infoGate : (Try.prog.info? 47).map (fun i => (i.zero, i.size, i.bytes)) = some (some (.agg #[.int .i64 0, .int .i64 0, .slice none 0 0]), 3, 40) := by kernel_rfl
theorem made_cells {w : World} {base g n size : Nat} {e : TypeId} {xs : List Value} (h : w.ownsRow base e size (.slice (some ⟨g, 0, none⟩) n n) n xs) : ∃ vs, Cells w g vs e ∧ vs.length = n * size := by
  rcases h.2 with ⟨h1, _⟩ | ⟨g', cap, cur, hv, _, hh, _, _, hs, ht⟩
  · simp at h1
  · simp only [Value.slice.injEq, Option.some.injEq, Addr.mk.injEq, and_true, true_and] at hv
    obtain ⟨rfl, rfl⟩ := hv
    exact ⟨cur.toList, by unfold Cells; rw [hh], by simpa using hs⟩
theorem fold_take (d : NetD) (k : Nat) (hk : k < d.gates.length) : (foldD d).gates.take (k + 1) = (foldD d).gates.take k ++ [foldG ((foldV d).getD k 2) d.gates[k]] := by
  have hk' : k < (foldD d).gates.length := by rw [fold_len]; exact hk
  rw [List.take_succ_eq_append_getElem hk', fold_at d k hk hk']
theorem ret_net {a : Int} {g r o : Option Addr} {gn gc rn rc on oc : Nat} {e e' : Int} (h : e = e') : Ending.returned (.tuple #[.agg #[.int .i64 a, .slice g gn gc, .slice r rn rc, .slice o on oc], .int .i64 e]) = .returned (.tuple #[.agg #[.int .i64 a, .slice g gn gc, .slice r rn rc, .slice o on oc], .int .i64 e']) := by rw [h]
/-- All but one block lies as it did. -/
def But (g : Nat) (w w' : World) : Prop := Below g w w' ∧ ∀ k, g < k → k < w.heap.size → w'.heap[k]? = w.heap[k]?
theorem But.cell {g : Nat} {w w' : World} (h : But g w w') {p : Addr} (hp : p.block < w.heap.size) (hg : p.block ≠ g) : w'.cell? p = w.cell? p := by
  refine World.cell?_of_block ?_
  rcases Nat.lt_or_ge p.block g with h1 | h1
  · exact h.1.block _ h1
  · exact h.2 _ (by omega) hp
theorem But.of {g : Nat} {w w' : World} (h : Below w.heap.size w w') (hg : g ≤ w.heap.size) : But g w w' := ⟨h.mono hg, fun k _ hk => h.block k hk⟩
theorem But.set {g : Nat} {w w' : World} (h : But g w w') (k : Nat) (v : Value) : But g w (w'.setCell ⟨g, k, none⟩ v) := ⟨h.1.setCell (Nat.le_refl _) _, fun j h1 h2 => (set_other (by omega)).trans (h.2 j h1 h2)⟩
theorem heldb_of {w0 W : World} {g : Nat} {p0 p1 p2 q : Addr} {u0 u1 u2 y : Value} (h0 : (p0.block < w0.heap.size ∧ p0.block ≠ g) ∧ w0.cell? p0 = some u0) (h1 : (p1.block < w0.heap.size ∧ p1.block ≠ g) ∧ w0.cell? p1 = some u1) (h2 : (p2.block < w0.heap.size ∧ p2.block ≠ g) ∧ w0.cell? p2 = some u2) (hq : (q.block < w0.heap.size ∧ q.block ≠ g) ∧ w0.cell? q = some y) (h : But g w0 W) :
    But g w0 W ∧ W.cell? p0 = some u0 ∧ W.cell? p1 = some u1 ∧ W.cell? p2 = some u2 ∧ W.cell? q = some y :=
  ⟨h, (h.cell h0.1.1 h0.1.2).trans h0.2, (h.cell h1.1.1 h1.1.2).trans h1.2, (h.cell h2.1.1 h2.1.2).trans h2.2, (h.cell hq.1.1 hq.1.2).trans hq.2⟩
theorem heldr_of {w0 W : World} {b B : Nat} {u0 u2 u3 : Value} (hb : b < B) (h0 : w0.cell? ⟨b, 0, none⟩ = some u0) (h2 : w0.cell? ⟨b, 2, none⟩ = some u2) (h3 : w0.cell? ⟨b, 3, none⟩ = some u3) (h : Below B w0 W) :
    Below B w0 W ∧ W.cell? ⟨b, 0, none⟩ = some u0 ∧ W.cell? ⟨b, 2, none⟩ = some u2 ∧ W.cell? ⟨b, 3, none⟩ = some u3 :=
  ⟨h, (h.cell (p := ⟨b, 0, none⟩) hb).trans h0, (h.cell (p := ⟨b, 2, none⟩) hb).trans h2, (h.cell (p := ⟨b, 3, none⟩) hb).trans h3⟩

/-- What Fold answers. -/
def NetAns (d : NetD) (E : Int) (w w' : World) (e : Ending) : Prop := ∃ ins1 ga gn gc ra rn rc oa on oc, e = .returned (.tuple #[.agg #[.int .i64 ins1, .slice ga gn gc, .slice ra rn rc, .slice oa on oc], .int .i64 E]) ∧ NetAt w' d ins1 ga gn ra rn oa on ∧ Hid (oa = none → oc = 0) ∧ Below w.heap.size w w'

set_option maxRecDepth 100000 in
set_option maxHeartbeats 2000000 in
theorem Fold_any (d : NetD) (ins0 : Int) (ga ra oa : Option Addr) (gn gc rn rc on oc : Nat) (w : World) (h : NetAt w d ins0 ga gn ra rn oa on) :
    Calls Try.prog 9 #[.agg #[.int .i64 ins0, .slice ga gn gc, .slice ra rn rc, .slice oa on oc]] w fun e w' => NetAns (foldA d) (checkE d) w w' e := by
  have hb0 : Below w.heap.size w (w.alloc (.cells #[.int .i64 ins0, .slice ga gn gc, .slice ra rn rc, .slice oa on oc] 26)) := (Below.refl _ _).alloc (Nat.le_refl _) _
  have hbox : Boxed (w.alloc (.cells #[.int .i64 ins0, .slice ga gn gc, .slice ra rn rc, .slice oa on oc] 26)) w.heap.size ins0 ga gn gc ra rn rc oa on oc := Boxed.new _ _ _ _ _ _ _ _ _ _ _ _
  have hb1 := (Below.refl _ (w.alloc (.cells #[.int .i64 ins0, .slice ga gn gc, .slice ra rn rc, .slice oa on oc] 26))).alloc (Nat.le_refl _) (.cells #[.int .i64 0, .slice none 0 0, .slice none 0 0, .slice none 0 0] 26)
  have hc0 := Cells.new (w.alloc (.cells #[.int .i64 ins0, .slice ga gn gc, .slice ra rn rc, .slice oa on oc] 26)) [.int .i64 0, .slice none 0 0, .slice none 0 0, .slice none 0 0] 26
  have hsz : (w.alloc (.cells #[.int .i64 ins0, .slice ga gn gc, .slice ra rn rc, .slice oa on oc] 26)).heap.size = w.heap.size + 1 := by simp
  rw [hsz] at hc0
  have hN := (h.below hb0).below hb1
  have hx := hbox.below hb1
  have B0 := bstep hb0 hb1
  have HG : Hid (d.gates.length = gn) := h.gates.1.symm
  clear h hb0 hb1 hbox hsz
  obtain ⟨i0, hi, hz0, hz1, hz2⟩ := info_parts Try.infoGate
  go_enter Try.func9, Try.ntmps9
  go_wp2_with fail
  refine (Check_any d _ _ _ _ _ _ _ _ _ _ _ hN).mono ?_
  rintro e w1 ⟨rfl, hb⟩
  have B1 := bstep B0 hb
  have hN1 := hN.below hb
  have hx1 := hx.below hb
  have hc1 := hc0.below hb hc0.lt
  clear hb B0 hN hx hc0
  by_cases e0 : checkE d = 0
  case neg =>
    have HA := hide (show foldA d = emptyD by unfold foldA; rw [if_neg e0])
    have hq : (checkE d != 0) = true := by simp [e0]
    have z0 := hc1.cell 0
    have z1 := hc1.cell 1
    have z2 := hc1.cell 2
    have z3 := hc1.cell 3
    have f0 := hc1.frozen 0
    have f1 := hc1.frozen 1
    have f2 := hc1.frozen 2
    have f3 := hc1.frozen 3
    have hc5 := (((hc1.set 0 (.int .i64 0)).set 1 (.slice none 0 0)).set 2 (.slice none 0 0)).set 3 (.slice none 0 0)
    have y0 := hc5.cell 0
    have y1 := hc5.cell 1
    have y2 := hc5.cell 2
    have y3 := hc5.cell 3
    have B5 := (((B1.setCell (p := ⟨w.heap.size + 1, 0, none⟩) (Nat.le_succ _) (.int .i64 0)).setCell (p := ⟨w.heap.size + 1, 1, none⟩) (Nat.le_succ _) (.slice none 0 0)).setCell (p := ⟨w.heap.size + 1, 2, none⟩) (Nat.le_succ _) (.slice none 0 0)).setCell (p := ⟨w.heap.size + 1, 3, none⟩) (Nat.le_succ _) (.slice none 0 0)
    clear e0
    go_wp2_with fail
    exact bodyPost_ret (v := .tuple #[.agg #[.int .i64 0, .slice none 0 0, .slice none 0 0, .slice none 0 0], .int .i64 (checkE d)]) (by simp [results, Try.results9, go_sem, y0, y1, y2, y3]) rfl ⟨_, _, _, _, _, _, _, _, _, _, rfl, by rw [unhide HA]; exact NetAt.empty _, fun _ => rfl, B5⟩
  have HCK := hide e0
  have hok := ok_of e0
  have HA := hide (show foldA d = foldD d by unfold foldA; rw [if_pos e0])
  have hii := hN1.ins
  obtain ⟨i, hie⟩ := Int.eq_ofNat_of_zero_le (show 0 ≤ ins0 by have := hok.ins.1; omega)
  subst hie
  have hi20 : i ≤ 20 := by have := hok.ins.2; omega
  have hrn : rn ≤ 20 := by have := hok.regs; have := hN1.regs.1; omega
  have hgn : gn ≤ 200 := by have := hok.gates; have := HG.out; omega
  have hon : on ≤ 100 := by have := hok.outs; have := hN1.outs.1; omega
  have HRT := hide (show ∀ k (hk : k < d.gates.length), d.gates[k].args.length ≤ 16 from fun k hk => (hok.each _ (List.getElem_mem hk)).few)
  have HRL := hide (show d.regs.length = rn from hN1.regs.1.symm)
  have HIL := hide (show d.ins.toNat = i by omega)
  have HST := hide (show stepE d (openV rn) (openV i) = 0 by
    unfold stepE
    rw [if_pos e0, if_pos ⟨by simp [openV]; exact hN1.regs.1, by simp [openV]; omega⟩, show vals (openV rn) = true from vals_open _, show vals (openV i) = true from vals_open _]; rfl)
  rw [e0]
  clear e0 hok hii
  have hx0 := hx1
  obtain ⟨x0, x1, x2, x3, x4⟩ := hx1
  have hbd := (Below.refl w1.heap.size w1).drew
  go_wp2_with fail
  go_region_held3 (fun W => Below w1.heap.size w1 W ∧ W.cell? ⟨w.heap.size, 0, none⟩ = some (.int .i64 (i : Int)) ∧ W.cell? ⟨w.heap.size, 1, none⟩ = some (.slice ga gn gc) ∧ W.cell? ⟨w.heap.size, 2, none⟩ = some (.slice ra rn rc) ∧ W.cell? ⟨w.heap.size, 3, none⟩ = some (.slice oa on oc))
    ((first | exact held_start hx0 | exact held_of hx0 hSA | exact held_of hx0 hSB | exact held_of hx0 hSD))
    ((first
      | (go_at_call_of 25 (Value.int IntKind.i64 (rn : Int)); refine (open_any rn hrn _).mono ?_; rintro e wA ⟨aA, cA, rfl, hIA, hbA⟩; have hSA := bstep hbd hbA)
      | (go_at_call_of 25 (Value.int IntKind.i64 (i : Int)); refine (open_any i hi20 _).mono ?_; rintro e wB ⟨aB, cB, rfl, hIB, hbB⟩; have hSB := bstep hSA hbB)
      | (go_at_call 11; refine (Step_any d _ _ _ _ _ _ _ _ _ _ _ (hN1.below hSB) (openV rn) (openV i) aA aB rn cA i cB (hIA.below hbB) hIB).mono ?_; rintro e wD ⟨va, vn, vc, v, rfl, hV, hAn, hbD⟩; have hSD := bstep hSB hbD)))
  obtain ⟨hL, _⟩ := hAn.1 (unhide HST)
  have hv : v = foldV d := by
    rw [hL.is]; unfold foldV; rw [unhide HRL, unhide HIL]
  have hvl : v.length = gn := by rw [hL.1]; exact HG.out
  have hvn : vn = gn := by rw [hV.1]; exact hvl
  subst hvn
  have HVF := hide hv
  have HVL := hide hvl
  rw [unhide HST]
  have hxD := hx0.below hSD
  have hND := hN1.below hSD
  have hcD := hc1.below hSD hc1.lt
  have BD := bstep B1 hSD
  clear hIA hIB hbA hbB hbD hSA hSB hSD hAn hL hv hvl hx0 hN1 hc1 B1 hbd x0 x1 x2 x3 x4
  have hxD0 := hxD
  obtain ⟨x0, x1, x2, x3, x4⟩ := hxD
  go_wp2_with (at_make; refine wpList_make_full _ rfl _ _ 22 rfl wD.heap.size 47 i0 (.agg #[.int .i64 0, .int .i64 0, .slice none 0 0]) 3 Try.underlying22 hi hz0 hz1 .i64 .i64 (vn : Int) (vn : Int) vn rfl rfl rfl rfl ?c1 ?c2 ?c3 ?_)
  case c1 => rw [hz2]; omega
  case c2 => unfold maxLen; omega
  case c3 => exact Nat.le_refl _
  intro w5 hown hgrow
  have hb5 : Below wD.heap.size wD w5 := (Below.refl _ _).grown hgrow (Nat.le_refl _) (fun k hk => by simp at hk)
  obtain ⟨vs0, hvs0, hvl0⟩ := made_cells hown
  clear hown hgrow hi hz0 hz1 hz2 x0 x1 x2 x3 x4
  obtain ⟨x0, x1, x2, x3, x4⟩ := hxD0.below hb5
  go_wp2_with fail
  clear x0 x1 x2 x3 x4
  go_loopw [42] (fun i wr => ∃ (k : Nat) (vs : List Value), k ≤ vn ∧ i = .int .i64 k ∧ vs.length = vn * 3 ∧ Cells wr wD.heap.size vs 47 ∧ GOuts wr wD.heap.size vs ((foldD d).gates.take k) ∧ Below wD.heap.size wD wr) (fun i _ => vn - (intOf i).toNat)
  case atStart => exact ⟨0, vs0, Nat.zero_le _, rfl, hvl0, hvs0, by intro j hj; simp at hj, hb5⟩
  case round =>
    clear hvs0 hvl0 hb5
    obtain ⟨k, vs, hk, rfl, hvl, hcs, hGO, hbel⟩ := hrel
    by_cases hlt : k < vn
    · have hki : (k : Int) < (vn : Int) := by omega
      have hkg : k < d.gates.length := by have := HG.out; omega
      obtain ⟨b, off, aa, an, ac, rfl, hbb, c1, c2, c3, hI⟩ := (hND.gates.below hbel).at' hkg
      have hfew : an ≤ 100 := by have h1 := hI.1; have h2 := unhide HRT k hkg; omega
      have hkv : k < v.length := by have := unhide HVL; omega
      obtain ⟨bv, ov, rfl, hbv, cv⟩ := (hV.below hbel).at hkv
      have hbvD : bv < wD.heap.size := by
        obtain ⟨bv', ov', h1, h2, _⟩ := hV.at hkv
        injection h1 with h1; injection h1 with h1; omega
      have HTK := hide (show (foldD d).gates.take (k + 1) = (foldD d).gates.take k ++ [foldG v[k] d.gates[k]] by
        rw [fold_take d k hkg]
        have : (foldV d).getD k 2 = v[k] := by rw [← unhide HVF]; simp [List.getD_eq_getElem?_getD, hkv]
        rw [this])
      have HLK := hide (show ((foldD d).gates.take k).length = k by rw [List.length_take, fold_len]; omega)
      have hal := (Below.refl _ wr).alloc (Nat.le_refl _) (.cells #[.int .i64 d.gates[k].kind, .int .i64 d.gates[k].n, .slice aa an ac] 47)
      have hgb := GBox.new wr d.gates[k].kind d.gates[k].n aa an ac 47
      have hI6 := hI.below hal
      have cv6 := (hal.cell (p := ⟨bv, ov + k, none⟩) hbv).trans cv
      have hcs6 := hcs.below hal hcs.lt
      have hGO6 := hGO.keep hal.size (fun j _ hj => hal.block j hj)
      have B6 := bstep hbel hal
      have hgl := hcs.lt
      have HVV := hide hvl
      clear hI cv hcs hGO hbel hvl
      go_wp2_with fail
      clear c1 c2 c3
      generalize hw6 : wr.alloc (.cells #[.int .i64 d.gates[k].kind, .int .i64 d.gates[k].n, .slice aa an ac] 47) = w6 at *
      clear hw6
      obtain ⟨y0, y1, y2, y3⟩ := hgb
      have hbd := (Below.refl w6.heap.size w6).drew
      have hbv6 := Nat.lt_of_lt_of_le hbv hal.size
      have hgl6 := hcs6.lt
      have hne1 : wr.heap.size ≠ wD.heap.size := by omega
      have hne2 : bv ≠ wD.heap.size := by omega
      go_region_held3 (fun W => But wD.heap.size w6 W ∧ W.cell? ⟨wr.heap.size, 0, none⟩ = some (.int .i64 d.gates[k].kind) ∧ W.cell? ⟨wr.heap.size, 1, none⟩ = some (.int .i64 d.gates[k].n) ∧ W.cell? ⟨wr.heap.size, 2, none⟩ = some (.slice aa an ac) ∧ W.cell? ⟨bv, ov + k, none⟩ = some (.int .i64 v[k]))
        ((first | exact heldb_of ⟨⟨y0, hne1⟩, y1⟩ ⟨⟨y0, hne1⟩, y2⟩ ⟨⟨y0, hne1⟩, y3⟩ ⟨⟨hbv6, hne2⟩, cv6⟩ (But.of (Below.refl _ _).drew (Nat.le_of_lt hgl6)) | exact heldb_of ⟨⟨y0, hne1⟩, y1⟩ ⟨⟨y0, hne1⟩, y2⟩ ⟨⟨y0, hne1⟩, y3⟩ ⟨⟨hbv6, hne2⟩, cv6⟩ (But.of hSB (Nat.le_of_lt hgl6)) | exact heldb_of ⟨⟨y0, hne1⟩, y1⟩ ⟨⟨y0, hne1⟩, y2⟩ ⟨⟨y0, hne1⟩, y3⟩ ⟨⟨hbv6, hne2⟩, cv6⟩ ((((But.of hSB (Nat.le_of_lt hgl6)).set _ _).set _ _).set _ _)))
        ((first
          | (go_at_call 27; refine (fold_any d.gates[k] aa an ac v[k] _ (hI6.below hbd) hfew).mono ?_; rintro e wB ⟨aB, nB, cB, rfl, hIB, hFB, hbB⟩; have hSB := bstep hbd hbB; have hcB := hcs6.below hSB hgl6; have z0 : ∃ z, wB.cell? ⟨wD.heap.size, k * 3, none⟩ = some z := ⟨_, (hcB.cell _).trans (List.getElem?_eq_getElem (by have := unhide HVV; omega))⟩; have z1 : ∃ z, wB.cell? ⟨wD.heap.size, k * 3 + 1, none⟩ = some z := ⟨_, (hcB.cell _).trans (List.getElem?_eq_getElem (by have := unhide HVV; omega))⟩; have z2 : ∃ z, wB.cell? ⟨wD.heap.size, k * 3 + 2, none⟩ = some z := ⟨_, (hcB.cell _).trans (List.getElem?_eq_getElem (by have := unhide HVV; omega))⟩; obtain ⟨zz0, z0⟩ := z0; obtain ⟨zz1, z1⟩ := z1; obtain ⟨zz2, z2⟩ := z2; have f0 := hcB.frozen (k * 3); have f1 := hcB.frozen (k * 3 + 1); have f2 := hcB.frozen (k * 3 + 2))))
      have hFg := hFB.down (b' := wD.heap.size + 1) (Nat.le_trans hgl6 hbd.size)
      have R1 := ((hcB.set (k * 3) (.int .i64 (foldG v[k] d.gates[k]).kind)).set (k * 3 + 1) (.int .i64 (foldG v[k] d.gates[k]).n)).set (k * 3 + 2) (.slice aB nB cB)
      have R2 : GOuts (((wB.setCell ⟨wD.heap.size, k * 3, none⟩ (.int .i64 (foldG v[k] d.gates[k]).kind)).setCell ⟨wD.heap.size, k * 3 + 1, none⟩ (.int .i64 (foldG v[k] d.gates[k]).n)).setCell ⟨wD.heap.size, k * 3 + 2, none⟩ (.slice aB nB cB)) wD.heap.size (((vs.set (k * 3) (.int .i64 (foldG v[k] d.gates[k]).kind)).set (k * 3 + 1) (.int .i64 (foldG v[k] d.gates[k]).n)).set (k * 3 + 2) (.slice aB nB cB)) ((foldD d).gates.take (k + 1)) := by
        have h9 := (hGO6.keep hSB.size (fun j _ hj => hSB.block j hj)).more (ac := cB) hIB hFg (by rw [unhide HLK, unhide HVV]; omega)
        rw [unhide HLK, ← unhide HTK] at h9
        exact h9.keep (Nat.le_of_eq (by simp)) (fun j h1 _ => (set_other (by omega)).trans ((set_other (by omega)).trans (set_other (by omega))))
      have R3 : Below wD.heap.size wD (((wB.setCell ⟨wD.heap.size, k * 3, none⟩ (.int .i64 (foldG v[k] d.gates[k]).kind)).setCell ⟨wD.heap.size, k * 3 + 1, none⟩ (.int .i64 (foldG v[k] d.gates[k]).n)).setCell ⟨wD.heap.size, k * 3 + 2, none⟩ (.slice aB nB cB)) := (((bstep B6 hSB).setCell (Nat.le_refl _) _).setCell (Nat.le_refl _) _).setCell (Nat.le_refl _) _
      have HL3 := hide (show (((vs.set (k * 3) (.int .i64 (foldG v[k] d.gates[k]).kind)).set (k * 3 + 1) (.int .i64 (foldG v[k] d.gates[k]).n)).set (k * 3 + 2) (.slice aB nB cB)).length = vn * 3 by simp; exact unhide HVV)
      have R := hide (And.intro R1 (And.intro R2 R3))
      clear R1 R2 R3 hcB hIB hFB hFg hbB hSB z0 z1 z2 f0 f1 f2 hGO6 hcs6 hI6 cv6 y1 y2 y3 hal
      go_wp2_with fail
      exact ⟨⟨k + 1, _, by omega, by go_num, unhide HL3, (unhide R).1, (unhide R).2.1, (unhide R).2.2⟩, by simp [intOf]; omega⟩
    · rw [List.take_of_length_le (by rw [fold_len]; have := HG.out; omega)] at hGO
      have HFL := hide (show vn = (foldD d).gates.length by rw [fold_len]; exact HG.out.symm)
      have hNr := hND.below hbel
      have hcr := hcD.below hbel hcD.lt
      obtain ⟨x0, x1, x2, x3, x4⟩ := hxD0.below hbel
      have hxl := hxD0.1
      have hcl := hcD.lt
      have hbr := hbel.size
      have BR := bstep BD hbel
      have hgl := hcs.lt
      have hbd := (Below.refl wr.heap.size wr).drew
      have HCS := hide hcs
      have HGO := hide hGO
      have hcl2 := hcr.lt
      have HII := hide (show (i : Int) = d.ins from hND.ins)
      clear hcs hGO hbel
      go_wp2_with fail
      clear x2
      go_region_held3 (fun W => Below (w.heap.size + 1) wr W ∧ W.cell? ⟨w.heap.size, 0, none⟩ = some (.int .i64 (i : Int)) ∧ W.cell? ⟨w.heap.size, 2, none⟩ = some (.slice ra rn rc) ∧ W.cell? ⟨w.heap.size, 3, none⟩ = some (.slice oa on oc))
        ((first | exact heldr_of (Nat.lt_succ_self _) x1 x3 x4 (Below.refl _ _).drew | exact heldr_of (Nat.lt_succ_self _) x1 x3 x4 (hSA.mono (Nat.le_of_lt hcl2)) | exact heldr_of (Nat.lt_succ_self _) x1 x3 x4 (hSB.mono (Nat.le_of_lt hcl2)) | exact heldr_of (Nat.lt_succ_self _) x1 x3 x4 (((((hSB.mono (Nat.le_of_lt hcl2)).setCell (Nat.le_refl _) _).setCell (Nat.le_refl _) _).setCell (Nat.le_refl _) _).setCell (Nat.le_refl _) _)))
        ((first
          | (go_at_call 28; refine (CloneS_any d.regs ra rn rc _ (hNr.regs.below hbd) (by omega)).mono ?_; rintro e wA ⟨aA, cA, rfl, hIA, hFA, hbA⟩; have hSA := bstep hbd hbA)
          | (go_at_call 29; refine (CloneI_any d.outs oa on oc _ (hNr.outs.below hSA) hon).mono ?_; rintro e wB ⟨aB, cB, rfl, hIB, hFB, hNB, hbB⟩; have hSB := bstep hSA hbB; have hcB := hcr.below hSB hcl2; have z0 := hcB.cell 0; have z1 := hcB.cell 1; have z2 := hcB.cell 2; have z3 := hcB.cell 3; have f0 := hcB.frozen 0; have f1 := hcB.frozen 1; have f2 := hcB.frozen 2; have f3 := hcB.frozen 3)))
      have hc9 := (((hcB.set 0 (.int .i64 (i : Int))).set 1 (.slice (some ⟨wD.heap.size, 0, none⟩) vn vn)).set 2 (.slice aA rn cA)).set 3 (.slice aB on cB)
      have y0 := hc9.cell 0
      have y1 := hc9.cell 1
      have y2 := hc9.cell 2
      have y3 := hc9.cell 3
      have B9 : Below w.heap.size w ((((wB.setCell ⟨w.heap.size + 1, 0, none⟩ (.int .i64 (i : Int))).setCell ⟨w.heap.size + 1, 1, none⟩ (.slice (some ⟨wD.heap.size, 0, none⟩) vn vn)).setCell ⟨w.heap.size + 1, 2, none⟩ (.slice aA rn cA)).setCell ⟨w.heap.size + 1, 3, none⟩ (.slice aB on cB)) := ((((bstep BR hSB).setCell (Nat.le_succ _) _).setCell (Nat.le_succ _) _).setCell (Nat.le_succ _) _).setCell (Nat.le_succ _) _
      have hoth : ∀ j, w.heap.size + 1 < j → ((((wB.setCell ⟨w.heap.size + 1, 0, none⟩ (.int .i64 (i : Int))).setCell ⟨w.heap.size + 1, 1, none⟩ (.slice (some ⟨wD.heap.size, 0, none⟩) vn vn)).setCell ⟨w.heap.size + 1, 2, none⟩ (.slice aA rn cA)).setCell ⟨w.heap.size + 1, 3, none⟩ (.slice aB on cB)).heap[j]? = wB.heap[j]? := fun j hj => (set_other (by omega)).trans ((set_other (by omega)).trans ((set_other (by omega)).trans (set_other (by omega))))
      have hs9 : ((((wB.setCell ⟨w.heap.size + 1, 0, none⟩ (.int .i64 (i : Int))).setCell ⟨w.heap.size + 1, 1, none⟩ (.slice (some ⟨wD.heap.size, 0, none⟩) vn vn)).setCell ⟨w.heap.size + 1, 2, none⟩ (.slice aA rn cA)).setCell ⟨w.heap.size + 1, 3, none⟩ (.slice aB on cB)).heap.size = wB.heap.size := by simp
      have hN9 : NetAt ((((wB.setCell ⟨w.heap.size + 1, 0, none⟩ (.int .i64 (i : Int))).setCell ⟨w.heap.size + 1, 1, none⟩ (.slice (some ⟨wD.heap.size, 0, none⟩) vn vn)).setCell ⟨w.heap.size + 1, 2, none⟩ (.slice aA rn cA)).setCell ⟨w.heap.size + 1, 3, none⟩ (.slice aB on cB)) (foldD d) (i : Int) (some ⟨wD.heap.size, 0, none⟩) vn aA rn aB on := by
        refine ⟨unhide HII, ?_, ?_, ?_⟩
        · have hc8 := (unhide HCS).below hSB hgl
          have hg8 := ((unhide HGO).keep hSB.size (fun j _ hj => hSB.block j hj)).keep (Nat.le_of_eq hs9.symm) (fun j h1 _ => hoth j (by omega))
          have hc8' : Cells _ wD.heap.size vs 47 := (show _ = _ from (hoth wD.heap.size (by omega)).trans hc8)
          exact hg8.gates hc8' (unhide HFL) (by unfold maxLen; omega)
        · exact ((hIA.below hbB).keep (hFA.down (b' := w.heap.size + 1 + 1) (Nat.le_trans hcl2 hbd.size)) (Nat.le_of_eq hs9.symm) (fun j h1 _ => hoth j (by omega)))
        · exact (hIB.keep (hFB.down (b' := w.heap.size + 1 + 1) (Nat.le_trans hcl2 hSA.size)) (Nat.le_of_eq hs9.symm) (fun j h1 _ => hoth j (by omega)))
      clear hcB hIA hIB hFA hFB hbA hbB hSA hSB z0 z1 z2 z3 f0 f1 f2 f3 hoth hs9
      go_wp2_with fail
      exact bodyPost_ret (v := .tuple #[.agg #[.int .i64 (i : Int), .slice (some ⟨wD.heap.size, 0, none⟩) vn vn, .slice aA rn cA, .slice aB on cB], .int .i64 0]) (by simp [results, Try.results9, go_sem, y0, y1, y2, y3]) rfl ⟨_, _, _, _, _, _, _, _, _, _, ret_net (unhide HCK).symm, by rw [unhide HA]; exact hN9, hNB, B9⟩
end Go.Proofs.Ytongajonecgdpad
