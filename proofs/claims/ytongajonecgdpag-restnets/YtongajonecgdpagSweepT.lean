/- The program's sweep.Fold. -/
import Derived.Test.YtongajonecgdpagTernA
import Derived.Test.YtongajonecgdpagSweepP
import Derived.Test.YtongajonecgdpagSweepM
import Derived.Test.YtongajonecgdpagNetA
import Derived.Maps.OwnSet
import Derived.Deep.AppendLies
namespace Go.Proofs.Ytongajonecgdpag
open Go.RowKit

def emptyD : NetD := ⟨0, [], [], []⟩
def foldA (d : NetD) : NetD := if checkE d = 0 then foldD d else emptyD
theorem NetAt.empty (w : World) : NetAt w emptyD 0 none 0 none 0 none 0 := ⟨rfl, ⟨rfl, Nat.zero_le _, Or.inl rfl⟩, ⟨rfl, Nat.zero_le _, Or.inl rfl⟩, Ints.none _⟩
theorem Ints.keep {w w' : World} {a : Option Addr} {n : Nat} {xs : List Int} {B : Nat} (h : Ints w a n xs) (hF : Fresh B a n) (hs : w.heap.size ≤ w'.heap.size) (hk : ∀ k, B ≤ k → k < w.heap.size → w'.heap[k]? = w.heap[k]?) : Ints w' a n xs := by
  obtain ⟨h1, h2, h3⟩ := h
  refine ⟨h1, h2, ?_⟩
  rcases h3 with h3 | ⟨b, off, ha, hlt, hc⟩
  · exact Or.inl h3
  · rcases hF with hF | ⟨b', off', ha', hB⟩
    · left; exact List.length_eq_zero_iff.1 (by omega)
    · rw [ha] at ha'
      injection ha' with ha'
      injection ha' with e1 e2 _
      subst e1
      refine Or.inr ⟨b, off, ha, Nat.lt_of_lt_of_le hlt hs, fun i hi => ?_⟩
      rw [World.cell?_of_block (a := ⟨b, off + i, Option.none⟩) (hk b hB hlt)]
      exact hc i hi
theorem Regs.keep {w w' : World} {a : Option Addr} {n : Nat} {xs : List (Bool × Int)} {B : Nat} (h : Regs w a n xs) (hF : Fresh B a n) (hs : w.heap.size ≤ w'.heap.size) (hk : ∀ k, B ≤ k → k < w.heap.size → w'.heap[k]? = w.heap[k]?) : Regs w' a n xs := by
  obtain ⟨h1, h2, h3⟩ := h
  refine ⟨h1, h2, ?_⟩
  rcases h3 with h3 | ⟨b, off, ha, hlt, hc⟩
  · exact Or.inl h3
  · rcases hF with hF | ⟨b', off', ha', hB⟩
    · left; exact List.length_eq_zero_iff.1 (by omega)
    · rw [ha] at ha'
      injection ha' with ha'
      injection ha' with e1 e2 _
      subst e1
      refine Or.inr ⟨b, off, ha, Nat.lt_of_lt_of_le hlt hs, fun i hi => ⟨?_, ?_⟩⟩
      · rw [World.cell?_of_block (a := ⟨b, off + i * 2, Option.none⟩) (hk b hB hlt)]; exact (hc i hi).1
      · rw [World.cell?_of_block (a := ⟨b, off + i * 2 + 1, Option.none⟩) (hk b hB hlt)]; exact (hc i hi).2
/-- What a row of gates holds so far, its args in memory made since. -/
def GOuts (w : World) (g : Nat) (vs : List Value) (gs : List GateD) : Prop := ∀ j (hj : j < gs.length), ∃ aa an ac, vs[j * 3]? = some (.int .i64 gs[j].kind) ∧ vs[j * 3 + 1]? = some (.int .i64 gs[j].n) ∧ vs[j * 3 + 2]? = some (.slice aa an ac) ∧ Ints w aa an gs[j].args ∧ Fresh (g + 1) aa an
theorem GOuts.keep {w w' : World} {g : Nat} {vs : List Value} {gs : List GateD} (h : GOuts w g vs gs) (hs : w.heap.size ≤ w'.heap.size) (hk : ∀ k, g + 1 ≤ k → k < w.heap.size → w'.heap[k]? = w.heap[k]?) : GOuts w' g vs gs := by
  intro j hj
  obtain ⟨aa, an, ac, h1, h2, h3, h4, h5⟩ := h j hj
  exact ⟨aa, an, ac, h1, h2, h3, h4.keep h5 hs hk, h5⟩
theorem GOuts.more {w : World} {g : Nat} {vs : List Value} {gs : List GateD} (h : GOuts w g vs gs) {x : GateD} {aa : Option Addr} {an ac : Nat} (hI : Ints w aa an x.args) (hF : Fresh (g + 1) aa an) (hl : gs.length * 3 + 2 < vs.length) :
    GOuts w g (((vs.set (gs.length * 3) (.int .i64 x.kind)).set (gs.length * 3 + 1) (.int .i64 x.n)).set (gs.length * 3 + 2) (.slice aa an ac)) (gs ++ [x]) := by
  intro j hj
  by_cases e : j < gs.length
  · obtain ⟨a', n', c', h1, h2, h3, h4, h5⟩ := h j e
    refine ⟨a', n', c', ?_, ?_, ?_, ?_, h5⟩
    · rw [List.getElem?_set_ne (by omega), List.getElem?_set_ne (by omega), List.getElem?_set_ne (by omega), List.getElem_append_left e]; exact h1
    · rw [List.getElem?_set_ne (by omega), List.getElem?_set_ne (by omega), List.getElem?_set_ne (by omega), List.getElem_append_left e]; exact h2
    · rw [List.getElem?_set_ne (by omega), List.getElem?_set_ne (by omega), List.getElem?_set_ne (by omega)]; exact h3
    · rw [List.getElem_append_left e]; exact h4
  · have ej : j = gs.length := by simp at hj; omega
    subst ej
    refine ⟨aa, an, ac, ?_, ?_, ?_, ?_, hF⟩
    · rw [List.getElem?_set_ne (by omega), List.getElem?_set_ne (by omega), List.getElem?_set_self (by omega)]; simp
    · rw [List.getElem?_set_ne (by omega), List.getElem?_set_self (by simp; omega)]; simp
    · rw [List.getElem?_set_self (by simp; omega)]
    · simpa using hI
theorem GOuts.gates {w : World} {g n : Nat} {vs : List Value} {gs : List GateD} {T : TypeId} (h : GOuts w g vs gs) (hc : Cells w g vs T) (hn : n = gs.length) (hm : n ≤ maxLen) : Gates w (some ⟨g, 0, none⟩) n gs := by
  refine ⟨hn, by omega, Or.inr ⟨g, 0, rfl, hc.lt, fun i hi => ?_⟩⟩
  obtain ⟨aa, an, ac, h1, h2, h3, h4, _⟩ := h i hi
  rw [Nat.zero_add]
  exact ⟨(hc.cell _).trans h1, (hc.cell _).trans h2, aa, an, ac, (hc.cell _).trans h3, h4⟩
theorem Try.infoGate : (Try.prog.info? 46).map (fun i => (i.zero, i.size, i.bytes)) = some (some (.agg #[.int .i64 0, .int .i64 0, .slice none 0 0]), 3, 40) := by kernel_rfl
theorem made_cells {w : World} {base g n size : Nat} {e : TypeId} {xs : List Value} (h : w.ownsRow base e size (.slice (some ⟨g, 0, none⟩) n n) n xs) : ∃ vs, Cells w g vs e ∧ vs.length = n * size := by
  rcases h.2 with ⟨h1, _⟩ | ⟨g', cap, cur, hv, _, hh, _, _, hs, ht⟩
  · simp at h1
  · simp only [Value.slice.injEq, Option.some.injEq, Addr.mk.injEq, and_true, true_and] at hv
    obtain ⟨rfl, rfl⟩ := hv
    exact ⟨cur.toList, by unfold Cells; rw [hh], by simpa using hs⟩
theorem fold_take (d : NetD) (k : Nat) (hk : k < d.gates.length) : (foldD d).gates.take (k + 1) = (foldD d).gates.take k ++ [foldG ((foldV d).getD k 2) d.gates[k]] := by
  have hk' : k < (foldD d).gates.length := by rw [fold_len]; exact hk
  rw [List.take_succ_eq_append_getElem hk', fold_at d k hk hk']
theorem ret_net {a : Int} {g r o : Option Addr} {gn gc rn rc on oc : Nat} {e e' : Int} (h : e = e') : Ending.returned (.tuple #[.agg #[.int .i64 a, .slice g gn gc, .slice r rn rc, .slice o on oc], .int .i64 e]) = .returned (.tuple #[.agg #[.int .i64 a, .slice g gn gc, .slice r rn rc, .slice o on oc], .int .i64 e']) := by rw [h]
/-- All but one block lies as it did. -/
def But (g : Nat) (w w' : World) : Prop := Below g w w' ∧ ∀ k, g < k → k < w.heap.size → w'.heap[k]? = w.heap[k]?
theorem But.cell {g : Nat} {w w' : World} (h : But g w w') {p : Addr} (hp : p.block < w.heap.size) (hg : p.block ≠ g) : w'.cell? p = w.cell? p := by
  refine World.cell?_of_block ?_
  rcases Nat.lt_or_ge p.block g with h1 | h1
  · exact h.1.block _ h1
  · exact h.2 _ (by omega) hp
theorem But.of {g : Nat} {w w' : World} (h : Below w.heap.size w w') (hg : g ≤ w.heap.size) : But g w w' := ⟨h.mono hg, fun k _ hk => h.block k hk⟩
theorem But.set {g : Nat} {w w' : World} (h : But g w w') (k : Nat) (v : Value) : But g w (w'.setCell ⟨g, k, none⟩ v) := ⟨h.1.setCell (Nat.le_refl _) _, fun j h1 h2 => (set_other (by omega)).trans (h.2 j h1 h2)⟩
theorem heldb_of {w0 W : World} {g : Nat} {p0 p1 p2 q : Addr} {u0 u1 u2 y : Value} (h0 : (p0.block < w0.heap.size ∧ p0.block ≠ g) ∧ w0.cell? p0 = some u0) (h1 : (p1.block < w0.heap.size ∧ p1.block ≠ g) ∧ w0.cell? p1 = some u1) (h2 : (p2.block < w0.heap.size ∧ p2.block ≠ g) ∧ w0.cell? p2 = some u2) (hq : (q.block < w0.heap.size ∧ q.block ≠ g) ∧ w0.cell? q = some y) (h : But g w0 W) :
    But g w0 W ∧ W.cell? p0 = some u0 ∧ W.cell? p1 = some u1 ∧ W.cell? p2 = some u2 ∧ W.cell? q = some y :=
  ⟨h, (h.cell h0.1.1 h0.1.2).trans h0.2, (h.cell h1.1.1 h1.1.2).trans h1.2, (h.cell h2.1.1 h2.1.2).trans h2.2, (h.cell hq.1.1 hq.1.2).trans hq.2⟩
theorem heldr_of {w0 W : World} {b B : Nat} {u0 u2 u3 : Value} (hb : b < B) (h0 : w0.cell? ⟨b, 0, none⟩ = some u0) (h2 : w0.cell? ⟨b, 2, none⟩ = some u2) (h3 : w0.cell? ⟨b, 3, none⟩ = some u3) (h : Below B w0 W) :
    Below B w0 W ∧ W.cell? ⟨b, 0, none⟩ = some u0 ∧ W.cell? ⟨b, 2, none⟩ = some u2 ∧ W.cell? ⟨b, 3, none⟩ = some u3 :=
  ⟨h, (h.cell (p := ⟨b, 0, none⟩) hb).trans h0, (h.cell (p := ⟨b, 2, none⟩) hb).trans h2, (h.cell (p := ⟨b, 3, none⟩) hb).trans h3⟩

/-- What Fold answers. -/
def NetAns (d : NetD) (E : Int) (w w' : World) (e : Ending) : Prop := ∃ ins1 ga gn gc ra rn rc oa on oc, e = .returned (.tuple #[.agg #[.int .i64 ins1, .slice ga gn gc, .slice ra rn rc, .slice oa on oc], .int .i64 E]) ∧ NetAt w' d ins1 ga gn ra rn oa on ∧ Hid (oa = none → oc = 0) ∧ Below w.heap.size w w'

set_option maxRecDepth 100000 in
set_option maxHeartbeats 2000000 in
theorem Fold_any (d : NetD) (ins0 : Int) (ga ra oa : Option Addr) (gn gc rn rc on oc : Nat) (w : World) (h : NetAt w d ins0 ga gn ra rn oa on) :
    Calls Try.prog 16 #[.agg #[.int .i64 ins0, .slice ga gn gc, .slice ra rn rc, .slice oa on oc]] w fun e w' => NetAns (foldA d) (checkE d) w w' e := by
  have hb0 : Below w.heap.size w (w.alloc (.cells #[.int .i64 ins0, .slice ga gn gc, .slice ra rn rc, .slice oa on oc] 39)) := (Below.refl _ _).alloc (Nat.le_refl _) _
  have hbox : Boxed (w.alloc (.cells #[.int .i64 ins0, .slice ga gn gc, .slice ra rn rc, .slice oa on oc] 39)) w.heap.size ins0 ga gn gc ra rn rc oa on oc := Boxed.new _ _ _ _ _ _ _ _ _ _ _ _
  have hb1 := (Below.refl _ (w.alloc (.cells #[.int .i64 ins0, .slice ga gn gc, .slice ra rn rc, .slice oa on oc] 39))).alloc (Nat.le_refl _) (.cells #[.int .i64 0, .slice none 0 0, .slice none 0 0, .slice none 0 0] 39)
  have hc0 := Cells.new (w.alloc (.cells #[.int .i64 ins0, .slice ga gn gc, .slice ra rn rc, .slice oa on oc] 39)) [.int .i64 0, .slice none 0 0, .slice none 0 0, .slice none 0 0] 39
  have hsz : (w.alloc (.cells #[.int .i64 ins0, .slice ga gn gc, .slice ra rn rc, .slice oa on oc] 39)).heap.size = w.heap.size + 1 := by simp
  rw [hsz] at hc0
  have hN := (h.below hb0).below hb1
  have hx := hbox.below hb1
  have B0 := bstep hb0 hb1
  have HG : Hid (d.gates.length = gn) := h.gates.1.symm
  clear h hb0 hb1 hbox hsz
  obtain ⟨i0, hi, hz0, hz1, hz2⟩ := info_parts Try.infoGate
  go_enter Try.func16, Try.ntmps16
  go_wp2_with fail
  refine (Check_any d _ _ _ _ _ _ _ _ _ _ _ hN).mono ?_
  rintro e w1 ⟨rfl, hb⟩
  have B1 := bstep B0 hb
  have hN1 := hN.below hb
  have hx1 := hx.below hb
  have hc1 := hc0.below hb hc0.lt
  clear hb B0 hN hx hc0
  by_cases e0 : checkE d = 0
  case neg =>
    have HA := hide (show foldA d = emptyD by unfold foldA; rw [if_neg e0])
    have hq : (checkE d != 0) = true := by simp [e0]
    have z0 := hc1.cell 0
    have z1 := hc1.cell 1
    have z2 := hc1.cell 2
    have z3 := hc1.cell 3
    have f0 := hc1.frozen 0
    have f1 := hc1.frozen 1
    have f2 := hc1.frozen 2
    have f3 := hc1.frozen 3
    have hc5 := (((hc1.set 0 (.int .i64 0)).set 1 (.slice none 0 0)).set 2 (.slice none 0 0)).set 3 (.slice none 0 0)
    have y0 := hc5.cell 0
    have y1 := hc5.cell 1
    have y2 := hc5.cell 2
    have y3 := hc5.cell 3
    have B5 := (((B1.setCell (p := ⟨w.heap.size + 1, 0, none⟩) (Nat.le_succ _) (.int .i64 0)).setCell (p := ⟨w.heap.size + 1, 1, none⟩) (Nat.le_succ _) (.slice none 0 0)).setCell (p := ⟨w.heap.size + 1, 2, none⟩) (Nat.le_succ _) (.slice none 0 0)).setCell (p := ⟨w.heap.size + 1, 3, none⟩) (Nat.le_succ _) (.slice none 0 0)
    clear e0
    go_wp2_with fail
    exact bodyPost_ret (v := .tuple #[.agg #[.int .i64 0, .slice none 0 0, .slice none 0 0, .slice none 0 0], .int .i64 (checkE d)]) (by simp [results, Try.results16, go_sem, y0, y1, y2, y3]) rfl ⟨_, _, _, _, _, _, _, _, _, _, rfl, by rw [unhide HA]; exact NetAt.empty _, fun _ => rfl, B5⟩
  have HCK := hide e0
  have hok := ok_of e0
  have HA := hide (show foldA d = foldD d by unfold foldA; rw [if_pos e0])
  have hii := hN1.ins
  obtain ⟨i, hie⟩ := Int.eq_ofNat_of_zero_le (show 0 ≤ ins0 by have := hok.ins.1; omega)
  subst hie
  have hi20 : i ≤ 20 := by have := hok.ins.2; omega
  have hrn : rn ≤ 20 := by have := hok.regs; have := hN1.regs.1; omega
  have hgn : gn ≤ 200 := by have := hok.gates; have := HG.out; omega
  have hon : on ≤ 100 := by have := hok.outs; have := hN1.outs.1; omega
  have HRT := hide (show ∀ k (hk : k < d.gates.length), d.gates[k].args.length ≤ 16 from fun k hk => (hok.each _ (List.getElem_mem hk)).few)
  have HRL := hide (show d.regs.length = rn from hN1.regs.1.symm)
  have HIL := hide (show d.ins.toNat = i by omega)
  have HST := hide (show stepE d (openV rn) (openV i) = 0 by
    unfold stepE
    rw [if_pos e0, if_pos ⟨by simp [openV]; exact hN1.regs.1, by simp [openV]; omega⟩, show vals (openV rn) = true from vals_open _, show vals (openV i) = true from vals_open _]; rfl)
  rw [e0]
  clear e0 hok hii
  have hx0 := hx1
  obtain ⟨x0, x1, x2, x3, x4⟩ := hx1
  have hbd := (Below.refl w1.heap.size w1).drew
  go_wp2_with fail
  go_region_held3 (fun W => Below w1.heap.size w1 W ∧ W.cell? ⟨w.heap.size, 0, none⟩ = some (.int .i64 (i : Int)) ∧ W.cell? ⟨w.heap.size, 1, none⟩ = some (.slice ga gn gc) ∧ W.cell? ⟨w.heap.size, 2, none⟩ = some (.slice ra rn rc) ∧ W.cell? ⟨w.heap.size, 3, none⟩ = some (.slice oa on oc))
    ((first | exact held_start hx0 | exact held_of hx0 hSA | exact held_of hx0 hSB | exact held_of hx0 hSD))
    ((first
      | (go_at_call_of 38 (Value.int IntKind.i64 (rn : Int)); refine (open_any rn hrn _).mono ?_; rintro e wA ⟨aA, cA, rfl, hIA, hbA⟩; have hSA := bstep hbd hbA)
      | (go_at_call_of 38 (Value.int IntKind.i64 (i : Int)); refine (open_any i hi20 _).mono ?_; rintro e wB ⟨aB, cB, rfl, hIB, hbB⟩; have hSB := bstep hSA hbB)
      | (go_at_call 18; refine (Step_any d _ _ _ _ _ _ _ _ _ _ _ (hN1.below hSB) (openV rn) (openV i) aA aB rn cA i cB (hIA.below hbB) hIB).mono ?_; rintro e wD ⟨va, vn, vc, v, rfl, hV, hAn, hbD⟩; have hSD := bstep hSB hbD)))
  obtain ⟨hL, _⟩ := hAn.1 (unhide HST)
  have hv : v = foldV d := by
    rw [hL.is]; unfold foldV; rw [unhide HRL, unhide HIL]
  have hvl : v.length = gn := by rw [hL.1]; exact HG.out
  have hvn : vn = gn := by rw [hV.1]; exact hvl
  subst hvn
  have HVF := hide hv
  have HVL := hide hvl
  rw [unhide HST]
  have hxD := hx0.below hSD
  have hND := hN1.below hSD
  have hcD := hc1.below hSD hc1.lt
  have BD := bstep B1 hSD
  clear hIA hIB hbA hbB hbD hSA hSB hSD hAn hL hv hvl hx0 hN1 hc1 B1 hbd x0 x1 x2 x3 x4
  have hxD0 := hxD
  obtain ⟨x0, x1, x2, x3, x4⟩ := hxD
  go_wp2_with (at_make; refine wpList_make_full _ rfl _ _ 35 rfl wD.heap.size 46 i0 (.agg #[.int .i64 0, .int .i64 0, .slice none 0 0]) 3 Try.underlying35 hi hz0 hz1 .i64 .i64 (vn : Int) (vn : Int) vn rfl rfl rfl rfl ?c1 ?c2 ?c3 ?_)
  case c1 => rw [hz2]; omega
  case c2 => unfold maxLen; omega
  case c3 => exact Nat.le_refl _
  intro w5 hown hgrow
  have hb5 : Below wD.heap.size wD w5 := (Below.refl _ _).grown hgrow (Nat.le_refl _) (fun k hk => by simp at hk)
  obtain ⟨vs0, hvs0, hvl0⟩ := made_cells hown
  clear hown hgrow hi hz0 hz1 hz2 x0 x1 x2 x3 x4
  obtain ⟨x0, x1, x2, x3, x4⟩ := hxD0.below hb5
  go_wp2_with fail
  clear x0 x1 x2 x3 x4
  go_loopw [42] (fun i wr => ∃ (k : Nat) (vs : List Value), k ≤ vn ∧ i = .int .i64 k ∧ vs.length = vn * 3 ∧ Cells wr wD.heap.size vs 46 ∧ GOuts wr wD.heap.size vs ((foldD d).gates.take k) ∧ Below wD.heap.size wD wr) (fun i _ => vn - (intOf i).toNat)
  case atStart => exact ⟨0, vs0, Nat.zero_le _, rfl, hvl0, hvs0, by intro j hj; simp at hj, hb5⟩
  case round =>
    clear hvs0 hvl0 hb5
    obtain ⟨k, vs, hk, rfl, hvl, hcs, hGO, hbel⟩ := hrel
    by_cases hlt : k < vn
    · have hki : (k : Int) < (vn : Int) := by omega
      have hkg : k < d.gates.length := by have := HG.out; omega
      obtain ⟨b, off, aa, an, ac, rfl, hbb, c1, c2, c3, hI⟩ := (hND.gates.below hbel).at' hkg
      have hfew : an ≤ 100 := by have h1 := hI.1; have h2 := unhide HRT k hkg; omega
      have hkv : k < v.length := by have := unhide HVL; omega
      obtain ⟨bv, ov, rfl, hbv, cv⟩ := (hV.below hbel).at hkv
      have hbvD : bv < wD.heap.size := by
        obtain ⟨bv', ov', h1, h2, _⟩ := hV.at hkv
        injection h1 with h1; injection h1 with h1; omega
      have HTK := hide (show (foldD d).gates.take (k + 1) = (foldD d).gates.take k ++ [foldG v[k] d.gates[k]] by
        rw [fold_take d k hkg]
        have : (foldV d).getD k 2 = v[k] := by rw [← unhide HVF]; simp [List.getD_eq_getElem?_getD, hkv]
        rw [this])
      have HLK := hide (show ((foldD d).gates.take k).length = k by rw [List.length_take, fold_len]; omega)
      have hal := (Below.refl _ wr).alloc (Nat.le_refl _) (.cells #[.int .i64 d.gates[k].kind, .int .i64 d.gates[k].n, .slice aa an ac] 46)
      have hgb := GBox.new wr d.gates[k].kind d.gates[k].n aa an ac 46
      have hI6 := hI.below hal
      have cv6 := (hal.cell (p := ⟨bv, ov + k, none⟩) hbv).trans cv
      have hcs6 := hcs.below hal hcs.lt
      have hGO6 := hGO.keep hal.size (fun j _ hj => hal.block j hj)
      have B6 := bstep hbel hal
      have hgl := hcs.lt
      have HVV := hide hvl
      clear hI cv hcs hGO hbel hvl
      go_wp2_with fail
      clear c1 c2 c3
      generalize hw6 : wr.alloc (.cells #[.int .i64 d.gates[k].kind, .int .i64 d.gates[k].n, .slice aa an ac] 46) = w6 at *
      clear hw6
      obtain ⟨y0, y1, y2, y3⟩ := hgb
      have hbd := (Below.refl w6.heap.size w6).drew
      have hbv6 := Nat.lt_of_lt_of_le hbv hal.size
      have hgl6 := hcs6.lt
      have hne1 : wr.heap.size ≠ wD.heap.size := by omega
      have hne2 : bv ≠ wD.heap.size := by omega
      go_region_held3 (fun W => But wD.heap.size w6 W ∧ W.cell? ⟨wr.heap.size, 0, none⟩ = some (.int .i64 d.gates[k].kind) ∧ W.cell? ⟨wr.heap.size, 1, none⟩ = some (.int .i64 d.gates[k].n) ∧ W.cell? ⟨wr.heap.size, 2, none⟩ = some (.slice aa an ac) ∧ W.cell? ⟨bv, ov + k, none⟩ = some (.int .i64 v[k]))
        ((first | exact heldb_of ⟨⟨y0, hne1⟩, y1⟩ ⟨⟨y0, hne1⟩, y2⟩ ⟨⟨y0, hne1⟩, y3⟩ ⟨⟨hbv6, hne2⟩, cv6⟩ (But.of (Below.refl _ _).drew (Nat.le_of_lt hgl6)) | exact heldb_of ⟨⟨y0, hne1⟩, y1⟩ ⟨⟨y0, hne1⟩, y2⟩ ⟨⟨y0, hne1⟩, y3⟩ ⟨⟨hbv6, hne2⟩, cv6⟩ (But.of hSB (Nat.le_of_lt hgl6)) | exact heldb_of ⟨⟨y0, hne1⟩, y1⟩ ⟨⟨y0, hne1⟩, y2⟩ ⟨⟨y0, hne1⟩, y3⟩ ⟨⟨hbv6, hne2⟩, cv6⟩ ((((But.of hSB (Nat.le_of_lt hgl6)).set _ _).set _ _).set _ _)))
        ((first
          | (go_at_call 40; refine (fold_any d.gates[k] aa an ac v[k] _ (hI6.below hbd) hfew).mono ?_; rintro e wB ⟨aB, nB, cB, rfl, hIB, hFB, hbB⟩; have hSB := bstep hbd hbB; have hcB := hcs6.below hSB hgl6; have z0 : ∃ z, wB.cell? ⟨wD.heap.size, k * 3, none⟩ = some z := ⟨_, (hcB.cell _).trans (List.getElem?_eq_getElem (by have := unhide HVV; omega))⟩; have z1 : ∃ z, wB.cell? ⟨wD.heap.size, k * 3 + 1, none⟩ = some z := ⟨_, (hcB.cell _).trans (List.getElem?_eq_getElem (by have := unhide HVV; omega))⟩; have z2 : ∃ z, wB.cell? ⟨wD.heap.size, k * 3 + 2, none⟩ = some z := ⟨_, (hcB.cell _).trans (List.getElem?_eq_getElem (by have := unhide HVV; omega))⟩; obtain ⟨zz0, z0⟩ := z0; obtain ⟨zz1, z1⟩ := z1; obtain ⟨zz2, z2⟩ := z2; have f0 := hcB.frozen (k * 3); have f1 := hcB.frozen (k * 3 + 1); have f2 := hcB.frozen (k * 3 + 2))))
      have hFg := hFB.down (b' := wD.heap.size + 1) (Nat.le_trans hgl6 hbd.size)
      have R1 := ((hcB.set (k * 3) (.int .i64 (foldG v[k] d.gates[k]).kind)).set (k * 3 + 1) (.int .i64 (foldG v[k] d.gates[k]).n)).set (k * 3 + 2) (.slice aB nB cB)
      have R2 : GOuts (((wB.setCell ⟨wD.heap.size, k * 3, none⟩ (.int .i64 (foldG v[k] d.gates[k]).kind)).setCell ⟨wD.heap.size, k * 3 + 1, none⟩ (.int .i64 (foldG v[k] d.gates[k]).n)).setCell ⟨wD.heap.size, k * 3 + 2, none⟩ (.slice aB nB cB)) wD.heap.size (((vs.set (k * 3) (.int .i64 (foldG v[k] d.gates[k]).kind)).set (k * 3 + 1) (.int .i64 (foldG v[k] d.gates[k]).n)).set (k * 3 + 2) (.slice aB nB cB)) ((foldD d).gates.take (k + 1)) := by
        have h9 := (hGO6.keep hSB.size (fun j _ hj => hSB.block j hj)).more (ac := cB) hIB hFg (by rw [unhide HLK, unhide HVV]; omega)
        rw [unhide HLK, ← unhide HTK] at h9
        exact h9.keep (Nat.le_of_eq (by simp)) (fun j h1 _ => (set_other (by omega)).trans ((set_other (by omega)).trans (set_other (by omega))))
      have R3 : Below wD.heap.size wD (((wB.setCell ⟨wD.heap.size, k * 3, none⟩ (.int .i64 (foldG v[k] d.gates[k]).kind)).setCell ⟨wD.heap.size, k * 3 + 1, none⟩ (.int .i64 (foldG v[k] d.gates[k]).n)).setCell ⟨wD.heap.size, k * 3 + 2, none⟩ (.slice aB nB cB)) := (((bstep B6 hSB).setCell (Nat.le_refl _) _).setCell (Nat.le_refl _) _).setCell (Nat.le_refl _) _
      have HL3 := hide (show (((vs.set (k * 3) (.int .i64 (foldG v[k] d.gates[k]).kind)).set (k * 3 + 1) (.int .i64 (foldG v[k] d.gates[k]).n)).set (k * 3 + 2) (.slice aB nB cB)).length = vn * 3 by simp; exact unhide HVV)
      have R := hide (And.intro R1 (And.intro R2 R3))
      clear R1 R2 R3 hcB hIB hFB hFg hbB hSB z0 z1 z2 f0 f1 f2 hGO6 hcs6 hI6 cv6 y1 y2 y3 hal
      go_wp2_with fail
      exact ⟨⟨k + 1, _, by omega, by go_num, unhide HL3, (unhide R).1, (unhide R).2.1, (unhide R).2.2⟩, by simp [intOf]; omega⟩
    · rw [List.take_of_length_le (by rw [fold_len]; have := HG.out; omega)] at hGO
      have HFL := hide (show vn = (foldD d).gates.length by rw [fold_len]; exact HG.out.symm)
      have hNr := hND.below hbel
      have hcr := hcD.below hbel hcD.lt
      obtain ⟨x0, x1, x2, x3, x4⟩ := hxD0.below hbel
      have hxl := hxD0.1
      have hcl := hcD.lt
      have hbr := hbel.size
      have BR := bstep BD hbel
      have hgl := hcs.lt
      have hbd := (Below.refl wr.heap.size wr).drew
      have HCS := hide hcs
      have HGO := hide hGO
      have hcl2 := hcr.lt
      have HII := hide (show (i : Int) = d.ins from hND.ins)
      clear hcs hGO hbel
      go_wp2_with fail
      clear x2
      go_region_held3 (fun W => Below (w.heap.size + 1) wr W ∧ W.cell? ⟨w.heap.size, 0, none⟩ = some (.int .i64 (i : Int)) ∧ W.cell? ⟨w.heap.size, 2, none⟩ = some (.slice ra rn rc) ∧ W.cell? ⟨w.heap.size, 3, none⟩ = some (.slice oa on oc))
        ((first | exact heldr_of (Nat.lt_succ_self _) x1 x3 x4 (Below.refl _ _).drew | exact heldr_of (Nat.lt_succ_self _) x1 x3 x4 (hSA.mono (Nat.le_of_lt hcl2)) | exact heldr_of (Nat.lt_succ_self _) x1 x3 x4 (hSB.mono (Nat.le_of_lt hcl2)) | exact heldr_of (Nat.lt_succ_self _) x1 x3 x4 (((((hSB.mono (Nat.le_of_lt hcl2)).setCell (Nat.le_refl _) _).setCell (Nat.le_refl _) _).setCell (Nat.le_refl _) _).setCell (Nat.le_refl _) _)))
        ((first
          | (go_at_call 41; refine (CloneS_any d.regs ra rn rc _ (hNr.regs.below hbd) (by omega)).mono ?_; rintro e wA ⟨aA, cA, rfl, hIA, hFA, hbA⟩; have hSA := bstep hbd hbA)
          | (go_at_call 42; refine (CloneI_any d.outs oa on oc _ (hNr.outs.below hSA) hon).mono ?_; rintro e wB ⟨aB, cB, rfl, hIB, hFB, hNB, hbB⟩; have hSB := bstep hSA hbB; have hcB := hcr.below hSB hcl2; have z0 := hcB.cell 0; have z1 := hcB.cell 1; have z2 := hcB.cell 2; have z3 := hcB.cell 3; have f0 := hcB.frozen 0; have f1 := hcB.frozen 1; have f2 := hcB.frozen 2; have f3 := hcB.frozen 3)))
      have hc9 := (((hcB.set 0 (.int .i64 (i : Int))).set 1 (.slice (some ⟨wD.heap.size, 0, none⟩) vn vn)).set 2 (.slice aA rn cA)).set 3 (.slice aB on cB)
      have y0 := hc9.cell 0
      have y1 := hc9.cell 1
      have y2 := hc9.cell 2
      have y3 := hc9.cell 3
      have B9 : Below w.heap.size w ((((wB.setCell ⟨w.heap.size + 1, 0, none⟩ (.int .i64 (i : Int))).setCell ⟨w.heap.size + 1, 1, none⟩ (.slice (some ⟨wD.heap.size, 0, none⟩) vn vn)).setCell ⟨w.heap.size + 1, 2, none⟩ (.slice aA rn cA)).setCell ⟨w.heap.size + 1, 3, none⟩ (.slice aB on cB)) := ((((bstep BR hSB).setCell (Nat.le_succ _) _).setCell (Nat.le_succ _) _).setCell (Nat.le_succ _) _).setCell (Nat.le_succ _) _
      have hoth : ∀ j, w.heap.size + 1 < j → ((((wB.setCell ⟨w.heap.size + 1, 0, none⟩ (.int .i64 (i : Int))).setCell ⟨w.heap.size + 1, 1, none⟩ (.slice (some ⟨wD.heap.size, 0, none⟩) vn vn)).setCell ⟨w.heap.size + 1, 2, none⟩ (.slice aA rn cA)).setCell ⟨w.heap.size + 1, 3, none⟩ (.slice aB on cB)).heap[j]? = wB.heap[j]? := fun j hj => (set_other (by omega)).trans ((set_other (by omega)).trans ((set_other (by omega)).trans (set_other (by omega))))
      have hs9 : ((((wB.setCell ⟨w.heap.size + 1, 0, none⟩ (.int .i64 (i : Int))).setCell ⟨w.heap.size + 1, 1, none⟩ (.slice (some ⟨wD.heap.size, 0, none⟩) vn vn)).setCell ⟨w.heap.size + 1, 2, none⟩ (.slice aA rn cA)).setCell ⟨w.heap.size + 1, 3, none⟩ (.slice aB on cB)).heap.size = wB.heap.size := by simp
      have hN9 : NetAt ((((wB.setCell ⟨w.heap.size + 1, 0, none⟩ (.int .i64 (i : Int))).setCell ⟨w.heap.size + 1, 1, none⟩ (.slice (some ⟨wD.heap.size, 0, none⟩) vn vn)).setCell ⟨w.heap.size + 1, 2, none⟩ (.slice aA rn cA)).setCell ⟨w.heap.size + 1, 3, none⟩ (.slice aB on cB)) (foldD d) (i : Int) (some ⟨wD.heap.size, 0, none⟩) vn aA rn aB on := by
        refine ⟨unhide HII, ?_, ?_, ?_⟩
        · have hc8 := (unhide HCS).below hSB hgl
          have hg8 := ((unhide HGO).keep hSB.size (fun j _ hj => hSB.block j hj)).keep (Nat.le_of_eq hs9.symm) (fun j h1 _ => hoth j (by omega))
          have hc8' : Cells _ wD.heap.size vs 46 := (show _ = _ from (hoth wD.heap.size (by omega)).trans hc8)
          exact hg8.gates hc8' (unhide HFL) (by unfold maxLen; omega)
        · exact ((hIA.below hbB).keep (hFA.down (b' := w.heap.size + 1 + 1) (Nat.le_trans hcl2 hbd.size)) (Nat.le_of_eq hs9.symm) (fun j h1 _ => hoth j (by omega)))
        · exact (hIB.keep (hFB.down (b' := w.heap.size + 1 + 1) (Nat.le_trans hcl2 hSA.size)) (Nat.le_of_eq hs9.symm) (fun j h1 _ => hoth j (by omega)))
      clear hcB hIA hIB hFA hFB hbA hbB hSA hSB z0 z1 z2 z3 f0 f1 f2 f3 hoth hs9
      go_wp2_with fail
      exact bodyPost_ret (v := .tuple #[.agg #[.int .i64 (i : Int), .slice (some ⟨wD.heap.size, 0, none⟩) vn vn, .slice aA rn cA, .slice aB on cB], .int .i64 0]) (by simp [results, Try.results16, go_sem, y0, y1, y2, y3]) rfl ⟨_, _, _, _, _, _, _, _, _, _, ret_net (unhide HCK).symm, by rw [unhide HA]; exact hN9, hNB, B9⟩

open Go.Maps
theorem keyed_int : Keyed Try.prog 3 := int_keyed Try.underlying3
theorem zero_of_int (w : World) : (zeroValue 3).run Try.prog w = .ok (.int .i64 0) w := by kernel_rfl
theorem small_wf {x : Int} (h0 : 0 ≤ x) (h1 : x ≤ 1000000) : (Lit.int .i64 x).wf = true := by
  have h := wrap64_wf x
  rwa [show wrap64 x = x by unfold wrap64; omega] at h
theorem small_key {x : Int} (h0 : 0 ≤ x) (h1 : x ≤ 1000000) : keyOf Try.prog 3 (.int .i64 x) = some (.int .i64 x) := keyOf_int_mk Try.underlying3 (small_wf h0 h1)

/-- The map says where each of the first k gates goes that stays. -/
def PMap (bs : List Bool) (k : Nat) (D : DataW Unit) : Prop :=
  Tidy D ∧ Maps.size D = atN bs k ∧ ∀ j : Nat, Maps.has D (.int .i64 (j : Int)) = (decide (j < k) && bs.getD j false) ∧ (j < k → bs.getD j false = true → D.atKey (.int .i64 (j : Int)) (.lit (.int .i64 0)) = .lit (.int .i64 (atN bs j)))
theorem PMap.nil (bs : List Bool) : PMap bs 0 (.map []) := ⟨tidy_empty, rfl, fun j => ⟨by simp [has_eq], fun h => by omega⟩⟩
theorem PMap.skip {bs : List Bool} {k : Nat} {D : DataW Unit} (h : PMap bs k D) (hk : bs.getD k false = false) : PMap bs (k + 1) D := by
  refine ⟨h.1, by rw [atN_succ, hk]; simpa using h.2.1, fun j => ?_⟩
  obtain ⟨h1, h2⟩ := h.2.2 j
  by_cases e : j = k
  · subst e; exact ⟨by rw [h1, hk]; simp, fun _ h9 => by rw [hk] at h9; simp at h9⟩
  · have : (decide (j < k + 1)) = decide (j < k) := by rw [decide_eq_decide]; omega
    exact ⟨by rw [h1, this], fun h9 h10 => h2 (by omega) h10⟩
theorem key_lit (x : Int) : WideAt.IsKeyLit (.int .i64 x) := by first | trivial | rfl | (simp [WideAt.IsKeyLit])
theorem key_ne {j k : Nat} (h : j ≠ k) : (Lit.int .i64 (j : Int)) ≠ .int .i64 (k : Int) := fun e => h (by injection e with _ e; omega)
theorem PMap.put {bs : List Bool} {k : Nat} {D : DataW Unit} (h : PMap bs k D) (hk : bs.getD k false = true) : PMap bs (k + 1) (D.put (.int .i64 (k : Int)) (.lit (.int .i64 (atN bs k)))) := by
  have hno : Maps.has D (.int .i64 (k : Int)) = false := by rw [(h.2.2 k).1]; simp
  refine ⟨h.1.put (key_lit _) _, ?_, fun j => ?_⟩
  · rw [size_put h.1, hno, atN_succ, hk]; simp; exact h.2.1
  · obtain ⟨h1, h2⟩ := h.2.2 j
    by_cases e : j = k
    · subst e
      exact ⟨by rw [has_put_same h.1.isMap (key_lit _), hk]; simp, fun _ _ => atKey_put_same h.1.isMap (key_lit _) _ _⟩
    · have : (decide (j < k + 1)) = decide (j < k) := by rw [decide_eq_decide]; omega
      exact ⟨by rw [has_put_other (key_ne e), h1, this], fun h9 h10 => by rw [atKey_put_other (key_ne e)]; exact h2 (by omega) h10⟩
def MapAt (w : World) (m : Nat) (bs : List Bool) (k : Nat) : Prop := ∃ D, w.ownsMap Try.prog 3 (plainElem (H := Unit) Try.prog 3) m k D ∧ PMap bs k D
theorem MapAt.lt {w : World} {m k : Nat} {bs : List Bool} (h : MapAt w m bs k) : m < w.heap.size := by obtain ⟨D, h1, _⟩ := h; exact h1.lt
theorem MapAt.keep {w w' : World} {m k : Nat} {bs : List Bool} (h : MapAt w m bs k) (hb : w'.heap[m]? = w.heap[m]?) : MapAt w' m bs k := by
  obtain ⟨D, ⟨es, clock, h1, h2⟩, h3⟩ := h
  exact ⟨D, ⟨es, clock, hb.trans h1, h2⟩, h3⟩
theorem MapAt.below {w w' : World} {m k : Nat} {bs : List Bool} (h : MapAt w m bs k) (hb : Below w.heap.size w w') : MapAt w' m bs k := h.keep (hb.block m h.lt)
set_option maxRecDepth 100000 in
theorem MapAt.look {w : World} {m k : Nat} {bs : List Bool} (h : MapAt w m bs k) {j : Nat} (hj : j < k) (hb : bs.getD j false = true) (hs : j ≤ 1000000) : (Instr.lookup 82 (.map (some m)) (.int .i64 (j : Int)) false).run Try.prog w = .ok (.int .i64 (atN bs j)) w := by
  obtain ⟨D, h1, h2⟩ := h
  obtain ⟨c, h3, h4, _⟩ := h1.lookup_int keyed_int Try.underlying82 Try.underlying3 (zero_of_int w) (small_key (x := (j : Int)) (by omega) (by omega))
  have h5 := (h2.2.2 j).2 hj hb
  have hc : c = (atN bs j : Int) := by
    have h6 := h4.symm.trans h5
    injection h6 with h6
    injection h6
  rw [h3, hc]
theorem MapAt.ok {w : World} {m k : Nat} {bs : List Bool} (h : MapAt w m bs k) {j : Nat} (hj : j < k) (hs : j ≤ 1000000) : ∃ c, (Instr.lookup 82 (.map (some m)) (.int .i64 (j : Int)) true).run Try.prog w = .ok (.tuple #[.int .i64 c, .bool (bs.getD j false)]) w := by
  obtain ⟨D, h1, h2⟩ := h
  have hw0 : (Lit.int .i64 0).wf = true := by decide
  obtain ⟨v, ps, h3, h4⟩ := h1.look_ok keyed_int Try.underlying82 (zero_of_int w) (plainElem_int Try.underlying3 hw0) (small_key (x := (j : Int)) (by omega) (by omega))
  obtain ⟨c, rfl, _, _⟩ := plainElem_int_inv Try.underlying3 h4
  rw [(h2.2.2 j).1, show decide (j < k) = true from decide_eq_true hj, Bool.true_and] at h3
  exact ⟨c, h3⟩

set_option maxRecDepth 100000 in
set_option maxHeartbeats 1000000 in
theorem places_any (bs : List Bool) (a : Option Addr) (n c : Nat) (w : World) (h : Bools w a n bs) (hn : n ≤ 200) :
    Calls Try.prog 47 #[.slice a n c] w fun e w' => ∃ m, e = .returned (.map (some m)) ∧ w.heap.size ≤ m ∧ MapAt w' m bs n ∧ Below w.heap.size w w' := by
  have HLL : Hid (bs.length = n) := h.1.symm
  have hm0 := World.ownsMap_made (H := Unit) w Try.prog 3 (plainElem (H := Unit) Try.prog 3)
  have hb0 := (Below.refl _ w).alloc (Nat.le_refl _) (.map #[] 0)
  have hmm := @run_makeMap Try.prog
  go_enter Try.func47, Try.ntmps47
  go_wp2_with fail
  clear hmm
  go_loopw [9] (fun i wr => ∃ k : Nat, k ≤ n ∧ i = .int .i64 k ∧ MapAt wr w.heap.size bs k ∧ Below w.heap.size w wr) (fun i _ => n - (intOf i).toNat)
  case atStart => exact ⟨0, Nat.zero_le _, rfl, ⟨_, hm0, PMap.nil bs⟩, hb0⟩
  case round =>
    clear hm0 hb0
    obtain ⟨k, hk, rfl, hmap, hbel⟩ := hrel
    by_cases hlt : k < n
    · have hki : (k : Int) < (n : Int) := by omega
      have hkl : k < bs.length := by have := HLL.out; omega
      obtain ⟨b, off, rfl, hbb, c1⟩ := (h.below hbel).at hkl
      cases eb : bs[k]
      · have hget : bs.getD k false = false := by simp [List.getD_eq_getElem?_getD, hkl, eb]
        rw [eb] at c1
        have R := hide (show MapAt wr w.heap.size bs (k + 1) by obtain ⟨D, h1, h2⟩ := hmap; exact ⟨D, h1.mono (Nat.le_succ _), h2.skip hget⟩)
        clear eb hget hmap
        go_wp2_with fail
        exact ⟨⟨k + 1, by omega, by go_num, unhide R, hbel⟩, by simp [intOf]; omega⟩
      · have hget : bs.getD k false = true := by simp [List.getD_eq_getElem?_getD, hkl, eb]
        rw [eb] at c1
        obtain ⟨D, h1, h2⟩ := hmap
        have hlen := h1.len Try.underlying82 3
        rw [h2.2.1] at hlen
        have hat : atN bs k ≤ k := by
          have := List.length_filter_le (fun j => bs.getD j false) (List.range k)
          unfold atN; simpa using this
        obtain ⟨w4, hupd, map4, gr4⟩ := h1.update keyed_int Try.underlying82 (by unfold maxLen; omega) (small_key (x := (k : Int)) (by omega) (by omega)) (plainElem_int Try.underlying3 (small_wf (x := ((atN bs k : Nat) : Int)) (by omega) (by omega)))
        have R1 : MapAt w4 w.heap.size bs (k + 1) := ⟨_, map4, h2.put hget⟩
        have R2 : Below w.heap.size w w4 := hbel.grown gr4 (by have := hbel.size; omega) (fun j hj => by injection hj with hj; omega)
        have R := hide (And.intro R1 R2)
        clear eb hget h1 h2 map4 gr4 R1 R2 hbel
        go_wp2_with fail
        exact ⟨⟨k + 1, by omega, by go_num, (unhide R).1, (unhide R).2⟩, by simp [intOf]; omega⟩
    · have R := hide (show MapAt wr w.heap.size bs n by rw [show n = k by omega]; exact hmap)
      clear hmap
      go_wp2_with fail
      go_ret
      exact ⟨_, rfl, Nat.le_refl _, unhide R, hbel⟩

def movedV (bs : List Bool) (l : List Int) : List Int := l.map (fun x => toV bs x.toNat)
theorem movedV_len (bs : List Bool) (l : List Int) : (movedV bs l).length = l.length := by simp [movedV]
set_option maxHeartbeats 1000000 in
theorem movedAll_any (bs : List Bool) (l : List Int) (la : Option Addr) (n c m gn : Nat) (w : World) (hl : Ints w la n l) (hmap : MapAt w m bs gn) (hn : n ≤ 200) (hgn : gn ≤ 200) (hin : ∀ x ∈ l, 0 ≤ x ∧ x.toNat < gn ∧ bs.getD x.toNat false = true) :
    Calls Try.prog 73 #[.slice la n c, .map (some m)] w fun e w' => ∃ a c', e = .returned (.slice a n c') ∧ Ints w' a n (movedV bs l) ∧ Fresh w.heap.size a n ∧ Hid (a ≠ none) ∧ Below w.heap.size w w' := by
  have HLL : Hid (l.length = n) := hl.1.symm
  have HML : Hid ((movedV bs l).length = n) := by unfold Hid; rw [movedV_len]; exact HLL.out
  have HIN := hide hin
  clear hin
  obtain ⟨i0, hi, hz0, hz1, hz2⟩ := info_parts Try.infoInt
  go_enter Try.func73, Try.ntmps73
  go_wp2_with (at_make; refine wpList_make_full _ rfl _ _ 37 rfl w.heap.size 3 i0 (.int .i64 0) 1 Try.underlying37 hi hz0 hz1 .i64 .i64 (n : Int) (n : Int) n rfl rfl rfl rfl ?c1 ?c2 ?c3 ?_)
  case c1 => rw [hz2]; omega
  case c2 => unfold maxLen; omega
  case c3 => exact Nat.le_refl _
  intro w2 hown hgrow
  have hb2 : Below w.heap.size w w2 := (Below.refl _ _).grown hgrow (Nat.le_refl _) (fun k hk => by simp at hk)
  have hrow0 := made_introw hown
  clear hown hgrow hi hz0 hz1 hz2
  go_wp2_with fail
  go_loopw [13] (fun i wr => ∃ k : Nat, k ≤ n ∧ i = .int .i64 k ∧ IntRow wr w.heap.size (partTo 0 (movedV bs l) k) ∧ Below w.heap.size w wr) (fun i _ => n - (intOf i).toNat)
  case atStart => exact ⟨0, Nat.zero_le _, rfl, by rw [partTo_zero, HML.out]; exact hrow0, hb2⟩
  case round =>
    clear hrow0 hb2
    obtain ⟨k, hk, rfl, hrow, hbel⟩ := hrel
    by_cases hlt : k < n
    · have hltl : k < l.length := by have := HLL.out; omega
      have hki : (k : Int) < (n : Int) := by omega
      obtain ⟨b, off, rfl, hbb, c1⟩ := (hl.below hbel).at hltl
      obtain ⟨hp, hq, hbt⟩ := (unhide HIN) l[k] (List.getElem_mem hltl)
      obtain ⟨x, hx⟩ := Int.eq_ofNat_of_zero_le hp
      have hxg : x < gn := by rw [hx] at hq; simpa using hq
      rw [hx, Int.toNat_natCast] at hbt
      have hlook := (hmap.below hbel).look hxg hbt (by omega)
      have hpk : k < (movedV bs l).length := by rw [HML.out]; exact hlt
      have hpl : k < (partTo 0 (movedV bs l) k).length := by rw [partTo_len _ _ _ (by omega)]; exact hpk
      obtain ⟨z, d1⟩ : ∃ z, wr.cell? ⟨w.heap.size, k, none⟩ = some (.int .i64 z) := ⟨_, hrow.cell k hpl⟩
      have d2 := hrow.frozen k
      have hrow2 := hrow.set k (atN bs x : Int)
      have hset := partTo_set 0 (movedV bs l) k hpk
      have hval : (movedV bs l)[k] = (atN bs x : Int) := by
        have : (movedV bs l)[k] = toV bs l[k].toNat := by simp [movedV]
        rw [this, hx, Int.toNat_natCast, toV_of hbt]
      rw [hval] at hset
      rw [hset] at hrow2
      have hbel2 : Below w.heap.size w (wr.setCell ⟨w.heap.size, k, none⟩ (.int .i64 (atN bs x : Int))) := hbel.setCell (Nat.le_refl _) _
      rw [hx] at c1
      have R := hide (And.intro hrow2 hbel2)
      clear hset hpl hpk hrow hval hp hq hx hbt hrow2 hbel2 hbel
      go_wp2_with fail
      exact ⟨⟨k + 1, by omega, by go_num, (unhide R).1, (unhide R).2⟩, by simp [intOf]; omega⟩
    · have hkn : k = (movedV bs l).length := by rw [HML.out]; omega
      rw [hkn, partTo_full] at hrow
      have hI : Ints _ (some ⟨w.heap.size, 0, none⟩) n (movedV bs l) := hrow.ints n HML.out.symm (by rw [HML.out]; unfold maxLen; omega)
      have hF := hrow.fresh (n := n) (Nat.le_refl _)
      clear hkn hrow
      go_wp2_with fail
      go_ret
      exact ⟨_, _, rfl, hI, hF, by show ¬ _; simp, hbel⟩

open Go.Maps
def OffI (w : World) (G : List Nat) (a : Option Addr) (n : Nat) (xs : List Int) : Prop := Ints w a n xs ∧ (n = 0 ∨ ∃ b off, a = some ⟨b, off, none⟩ ∧ b < w.heap.size ∧ b ∉ G)
theorem KeptG.cells {G : List Nat} {w w' : World} (h : KeptG G w w') {g : Nat} {vs : List Value} {T : TypeId} (hc : Cells w g vs T) (hG : g ∉ G) : Cells w' g vs T := (h.2 g hc.lt hG).trans hc
theorem OffI.keep {w w' : World} {G : List Nat} {a : Option Addr} {n : Nat} {xs : List Int} (h : OffI w G a n xs) (hk : KeptG G w w') : OffI w' G a n xs := by
  obtain ⟨⟨h1, h2, h3⟩, h4⟩ := h
  rcases h4 with h4 | ⟨b, off, ha, hlt, hG⟩
  · exact ⟨⟨h1, h2, Or.inl (List.length_eq_zero_iff.1 (by omega))⟩, Or.inl h4⟩
  · refine ⟨⟨h1, h2, ?_⟩, Or.inr ⟨b, off, ha, Nat.lt_of_lt_of_le hlt hk.1, hG⟩⟩
    rcases h3 with h3 | ⟨b', off', ha', hlt', hc⟩
    · exact Or.inl h3
    · rw [ha] at ha'
      injection ha' with ha'
      injection ha' with e1 e2 _
      subst e1
      subst e2
      exact Or.inr ⟨b, off, ha, Nat.lt_of_lt_of_le hlt hk.1, fun i hi => by rw [World.cell?_of_block (a := ⟨b, off + i, Option.none⟩) (hk.2 b hlt hG)]; exact hc i hi⟩
theorem OffI.turn {w : World} {G G' : List Nat} {a : Option Addr} {n : Nat} {xs : List Int} (h : OffI w G a n xs) (hg : ∀ b, b < w.heap.size → b ∉ G → b ∉ G') : OffI w G' a n xs := by
  obtain ⟨h1, h4⟩ := h
  rcases h4 with h4 | ⟨b, off, ha, hlt, hG⟩
  · exact ⟨h1, Or.inl h4⟩
  · exact ⟨h1, Or.inr ⟨b, off, ha, hlt, hg b hlt hG⟩⟩
theorem OffI.of {w : World} {G : List Nat} {a : Option Addr} {n B : Nat} {xs : List Int} (h : Ints w a n xs) (hF : Fresh B a n) (hG : ∀ g ∈ G, g < B) : OffI w G a n xs := by
  refine ⟨h, ?_⟩
  rcases hF with hF | ⟨b, off, ha, hB⟩
  · exact Or.inl hF
  · rcases h.2.2 with h3 | ⟨b', off', ha', hlt, _⟩
    · left; rw [h.1, h3]; rfl
    · rw [ha] at ha'
      injection ha' with ha'
      injection ha' with e1 e2 _
      subst e1
      exact Or.inr ⟨b, off, ha, hlt, fun hg => by have := hG b hg; omega⟩

/-- What a row of gates holds, its lists off the blocks G. -/
def GRow (w : World) (G : List Nat) (cs : List Value) (gs : List GateD) : Prop := cs.length = gs.length * 3 ∧ ∀ j (hj : j < gs.length), ∃ aa an ac, cs[j * 3]? = some (.int .i64 gs[j].kind) ∧ cs[j * 3 + 1]? = some (.int .i64 gs[j].n) ∧ cs[j * 3 + 2]? = some (.slice aa an ac) ∧ OffI w G aa an gs[j].args
theorem GRow.nil (w : World) (G : List Nat) : GRow w G [] [] := ⟨rfl, fun j hj => by simp at hj⟩
theorem GRow.keep {w w' : World} {G : List Nat} {cs : List Value} {gs : List GateD} (h : GRow w G cs gs) (hk : KeptG G w w') : GRow w' G cs gs :=
  ⟨h.1, fun j hj => by obtain ⟨aa, an, ac, h1, h2, h3, h4⟩ := h.2 j hj; exact ⟨aa, an, ac, h1, h2, h3, h4.keep hk⟩⟩
theorem GRow.turn {w : World} {G G' : List Nat} {cs : List Value} {gs : List GateD} (h : GRow w G cs gs) (hg : ∀ b, b < w.heap.size → b ∉ G → b ∉ G') : GRow w G' cs gs :=
  ⟨h.1, fun j hj => by obtain ⟨aa, an, ac, h1, h2, h3, h4⟩ := h.2 j hj; exact ⟨aa, an, ac, h1, h2, h3, h4.turn hg⟩⟩
theorem GRow.more {w : World} {G : List Nat} {cs : List Value} {gs : List GateD} (h : GRow w G cs gs) {x : GateD} {aa : Option Addr} {an ac : Nat} (hI : OffI w G aa an x.args) : GRow w G (cs ++ [.int .i64 x.kind, .int .i64 x.n, .slice aa an ac]) (gs ++ [x]) := by
  have hl := h.1
  refine ⟨by simp [hl]; omega, fun j hj => ?_⟩
  by_cases e : j < gs.length
  · obtain ⟨a', n', c', h1, h2, h3, h4⟩ := h.2 j e
    refine ⟨a', n', c', ?_, ?_, ?_, ?_⟩
    · rw [List.getElem?_append_left (by omega), List.getElem_append_left e]; exact h1
    · rw [List.getElem?_append_left (by omega), List.getElem_append_left e]; exact h2
    · rw [List.getElem?_append_left (by omega)]; exact h3
    · rw [List.getElem_append_left e]; exact h4
  · have ej : j = gs.length := by simp at hj; omega
    subst ej
    refine ⟨aa, an, ac, ?_, ?_, ?_, by simpa using hI⟩
    · rw [List.getElem?_append_right (by omega), show gs.length * 3 - cs.length = 0 by omega]; simp
    · rw [List.getElem?_append_right (by omega), show gs.length * 3 + 1 - cs.length = 1 by omega]; simp
    · rw [List.getElem?_append_right (by omega), show gs.length * 3 + 2 - cs.length = 2 by omega]; simp
theorem own_gates {w : World} {base : Nat} {e : TypeId} {a : Option Addr} {c n : Nat} {G : List Nat} {cs : List Value} {gs : List GateD} (h : w.ownsRow base e 3 (.slice a n c) n cs) (hG : GRow w G cs gs) (hn : n = gs.length) (hm : n ≤ maxLen) : Gates w a n gs := by
  rcases h.2 with ⟨h1, h2⟩ | ⟨g, cap, cur, hv, hg, hh, r⟩
  · subst h2
    exact ⟨hn, by omega, Or.inl (List.eq_nil_of_length_eq_zero hn.symm)⟩
  · injection hv with hv1 hv2 hv3
    subst hv1
    refine ⟨hn, by omega, Or.inr ⟨g, 0, rfl, (Array.getElem?_eq_some_iff.1 hh).1, fun i hi => ?_⟩⟩
    obtain ⟨aa, an, ac, h1, h2, h3, h4⟩ := hG.2 i hi
    have c1 := h.cells (g := g) rfl _ _ h1
    have c2 := h.cells (g := g) rfl _ _ h2
    have c3 := h.cells (g := g) rfl _ _ h3
    rw [addr_plus] at c1 c2 c3
    exact ⟨c1, by rw [← Nat.add_assoc] at c2; exact c2, aa, an, ac, by rw [← Nat.add_assoc] at c3; exact c3, h4.1⟩

/-- The gates that stay of the first k. -/
def gatesTo (d : NetD) (bs : List Bool) (k : Nat) : List GateD := ((List.range k).filter (fun j => bs.getD j false)).map (fun k => dropG bs (d.gates.getD k ⟨0, 0, []⟩))
theorem gatesTo_len (d : NetD) (bs : List Bool) (k : Nat) : (gatesTo d bs k).length = atN bs k := by simp [gatesTo, atN]
theorem gatesTo_yes (d : NetD) (bs : List Bool) (k : Nat) (hk : k < d.gates.length) (hb : bs.getD k false = true) : gatesTo d bs (k + 1) = gatesTo d bs k ++ [dropG bs d.gates[k]] := by
  unfold gatesTo
  rw [List.range_succ, List.filter_append, List.map_append, List.filter_cons_of_pos (by exact hb)]
  simp [List.getD_eq_getElem?_getD, hk]
theorem gatesTo_no (d : NetD) (bs : List Bool) (k : Nat) (hb : bs.getD k false = false) : gatesTo d bs (k + 1) = gatesTo d bs k := by
  unfold gatesTo
  rw [List.range_succ, List.filter_append, List.map_append, List.filter_cons_of_neg (by simpa using hb)]
  simp
theorem gatesTo_full (d : NetD) (bs : List Bool) : (dropW d bs).gates = gatesTo d bs bs.length := rfl

/-- What a row of registers holds so far. -/
def RTo (vs : List Value) (rs : List (Bool × Int)) : Prop := ∀ j (hj : j < rs.length), vs[j * 2]? = some (.bool rs[j].1) ∧ vs[j * 2 + 1]? = some (.int .i64 rs[j].2)
theorem RTo.more {vs : List Value} {rs : List (Bool × Int)} (h : RTo vs rs) (x : Bool × Int) (hl : rs.length * 2 + 1 < vs.length) : RTo ((vs.set (rs.length * 2) (.bool x.1)).set (rs.length * 2 + 1) (.int .i64 x.2)) (rs ++ [x]) := by
  intro j hj
  by_cases e : j < rs.length
  · obtain ⟨h1, h2⟩ := h j e
    refine ⟨?_, ?_⟩
    · rw [List.getElem?_set_ne (by omega), List.getElem?_set_ne (by omega), List.getElem_append_left e]; exact h1
    · rw [List.getElem?_set_ne (by omega), List.getElem?_set_ne (by omega), List.getElem_append_left e]; exact h2
  · have ej : j = rs.length := by simp at hj; omega
    subst ej
    refine ⟨?_, ?_⟩
    · rw [List.getElem?_set_ne (by omega), List.getElem?_set_self (by omega)]; simp
    · rw [List.getElem?_set_self (by simp; omega)]; simp
theorem RTo.regs {w : World} {g n : Nat} {vs : List Value} {rs : List (Bool × Int)} {T : TypeId} (h : RTo vs rs) (hc : Cells w g vs T) (hn : n = rs.length) (hm : n ≤ maxLen) : Regs w (some ⟨g, 0, none⟩) n rs := by
  refine ⟨hn, by omega, Or.inr ⟨g, 0, rfl, hc.lt, fun i hi => ?_⟩⟩
  obtain ⟨h1, h2⟩ := h i hi
  rw [Nat.zero_add]
  exact ⟨(hc.cell _).trans h1, (hc.cell _).trans h2⟩
def dropR (bs : List Bool) (r : Bool × Int) : Bool × Int := (r.1, toV bs r.2.toNat)
theorem dropW_regs (d : NetD) (bs : List Bool) : (dropW d bs).regs = d.regs.map (dropR bs) := rfl
theorem dropW_outs (d : NetD) (bs : List Bool) : (dropW d bs).outs = movedV bs d.outs := rfl

theorem run_madeR (n : Nat) (h : n ≤ 200) : ∃ vs : List Value, vs.length = n * 2 ∧ ∀ W : World, (Instr.makeSlice 36 (.int .i64 (n : Int)) (.int .i64 (n : Int))).run Try.prog W = .ok (.slice (some ⟨W.heap.size, 0, none⟩) n n) (W.alloc (.cells vs.toArray 48)) := by
  obtain ⟨i0, hi, hz0, hz1, hz2⟩ := info_parts Try.infoStore
  refine ⟨(madeCells (Value.agg #[.bool false, .int .i64 0]).cells (n * 2)).toList, by rw [Array.length_toList, size_madeCells], fun W => ?_⟩
  have hr := run_make (P := Try.prog) W 36 48 i0 (.agg #[.bool false, .int .i64 0]) Try.underlying36 hi hz0 .i64 .i64 n n (by omega) (Int.le_refl _) (by rw [hz2]; omega) (by omega)
  simp only [Int.toNat_natCast, hz1] at hr
  rw [Array.toArray_toList]
  exact hr

open Go.Maps
theorem hl_alloc {w0 W : World} {b : Nat} {u0 u2 u3 : Value} {o : Obj} (hb : b < w0.heap.size) (h : Below w0.heap.size w0 W ∧ W.cell? ⟨b, 0, none⟩ = some u0 ∧ W.cell? ⟨b, 2, none⟩ = some u2 ∧ W.cell? ⟨b, 3, none⟩ = some u3) :
    Below w0.heap.size w0 (W.alloc o) ∧ (W.alloc o).cell? ⟨b, 0, none⟩ = some u0 ∧ (W.alloc o).cell? ⟨b, 2, none⟩ = some u2 ∧ (W.alloc o).cell? ⟨b, 3, none⟩ = some u3 := by
  have hB := (Below.refl W.heap.size W).alloc (Nat.le_refl _) o
  have hl := Nat.lt_of_lt_of_le hb h.1.size
  exact ⟨h.1.alloc h.1.size o, (hB.cell (p := ⟨b, 0, none⟩) hl).trans h.2.1, (hB.cell (p := ⟨b, 2, none⟩) hl).trans h.2.2.1, (hB.cell (p := ⟨b, 3, none⟩) hl).trans h.2.2.2⟩
theorem hl_call {w0 W W' : World} {b : Nat} {u0 u2 u3 : Value} (hb : b < w0.heap.size) (hB : Below W.heap.size W W') (h : Below w0.heap.size w0 W ∧ W.cell? ⟨b, 0, none⟩ = some u0 ∧ W.cell? ⟨b, 2, none⟩ = some u2 ∧ W.cell? ⟨b, 3, none⟩ = some u3) :
    Below w0.heap.size w0 W' ∧ W'.cell? ⟨b, 0, none⟩ = some u0 ∧ W'.cell? ⟨b, 2, none⟩ = some u2 ∧ W'.cell? ⟨b, 3, none⟩ = some u3 := by
  have hl := Nat.lt_of_lt_of_le hb h.1.size
  exact ⟨bstep h.1 hB, (hB.cell (p := ⟨b, 0, none⟩) hl).trans h.2.1, (hB.cell (p := ⟨b, 2, none⟩) hl).trans h.2.2.1, (hB.cell (p := ⟨b, 3, none⟩) hl).trans h.2.2.2⟩
theorem hl_set {w0 W : World} {b g k : Nat} {u0 u2 u3 v : Value} (hb : b < w0.heap.size) (hg : w0.heap.size ≤ g) (h : Below w0.heap.size w0 W ∧ W.cell? ⟨b, 0, none⟩ = some u0 ∧ W.cell? ⟨b, 2, none⟩ = some u2 ∧ W.cell? ⟨b, 3, none⟩ = some u3) :
    Below w0.heap.size w0 (W.setCell ⟨g, k, none⟩ v) ∧ (W.setCell ⟨g, k, none⟩ v).cell? ⟨b, 0, none⟩ = some u0 ∧ (W.setCell ⟨g, k, none⟩ v).cell? ⟨b, 2, none⟩ = some u2 ∧ (W.setCell ⟨g, k, none⟩ v).cell? ⟨b, 3, none⟩ = some u3 := by
  have hk : (W.setCell ⟨g, k, none⟩ v).heap[b]? = W.heap[b]? := set_other (by omega)
  exact ⟨h.1.setCell hg v, (World.cell?_of_block (a := ⟨b, 0, none⟩) hk).trans h.2.1, (World.cell?_of_block (a := ⟨b, 2, none⟩) hk).trans h.2.2.1, (World.cell?_of_block (a := ⟨b, 3, none⟩) hk).trans h.2.2.2⟩

abbrev zeroN : List Value := [.int .i64 0, .slice none 0 0, .slice none 0 0, .slice none 0 0]
theorem z_one (w2 : World) (Z : List Value) (T : TypeId) : Cells (w2.alloc (.cells Z.toArray T)).drew w2.heap.size Z T := (Cells.new w2 Z T).below (Below.refl (w2.alloc (.cells Z.toArray T)).heap.size _).drew (Cells.new w2 Z T).lt
theorem z_two (w2 : World) (Z : List Value) (T : TypeId) (R : Obj) : Cells ((w2.alloc (.cells Z.toArray T)).alloc R).drew w2.heap.size Z T := (Cells.new w2 Z T).below ((Below.refl (w2.alloc (.cells Z.toArray T)).heap.size _).alloc (Nat.le_refl _) R).drew (Cells.new w2 Z T).lt
theorem z_three (w2 : World) (Z : List Value) (T : TypeId) (R : Obj) : Cells ((w2.alloc R).alloc (.cells Z.toArray T)).drew (w2.heap.size + 1) Z T := by
  have h := z_one (w2.alloc R) Z T
  rwa [show (w2.alloc R).heap.size = w2.heap.size + 1 by simp] at h
theorem z_on {wA W : World} {g : Nat} {Z : List Value} {T : TypeId} (h : Cells W g Z T) (hb : Below W.heap.size W wA) : Cells wA g Z T := h.below hb h.lt

/-- What lies there ahead of the loops. -/
def Began (w2 wx : World) (rz i rn on bm gR : Nat) (vs : List Value) (oa : Option Addr) (oc : Nat) (os : List Int) : Prop :=
  Cells wx bm [.int .i64 (i : Int), .slice none 0 0, .slice (some ⟨gR, 0, none⟩) rn rn, .slice oa on oc] 39 ∧ Cells wx gR vs 48 ∧ OffI wx [bm, gR, rz] oa on os ∧ w2.heap.size ≤ bm ∧ w2.heap.size ≤ gR ∧ bm ≠ gR ∧ Below w2.heap.size w2 wx

abbrev fullN (i rn on gR : Nat) (oa : Option Addr) (oc : Nat) : List Value := [.int .i64 (i : Int), .slice none 0 0, .slice (some ⟨gR, 0, none⟩) rn rn, .slice oa on oc]
abbrev four (wA : World) (bm i rn on gR : Nat) (oa : Option Addr) (oc : Nat) : World := (((wA.setCell ⟨bm, 0, none⟩ (.int .i64 (i : Int))).setCell ⟨bm, 1, none⟩ (.slice none 0 0)).setCell ⟨bm, 2, none⟩ (.slice (some ⟨gR, 0, none⟩) rn rn)).setCell ⟨bm, 3, none⟩ (.slice oa on oc)
theorem four_cells {wA : World} {bm : Nat} (i rn on gR : Nat) (oa : Option Addr) (oc : Nat) (h : Cells wA bm zeroN 39) : Cells (four wA bm i rn on gR oa oc) bm (fullN i rn on gR oa oc) 39 := (((h.set 0 _).set 1 _).set 2 _).set 3 _
theorem four_kept (wA : World) (bm i rn on gR : Nat) (oa : Option Addr) (oc : Nat) (G : List Nat) (h : bm ∈ G) : KeptG G wA (four wA bm i rn on gR oa oc) := (((KeptG.set _ h).trans (KeptG.set _ h)).trans (KeptG.set _ h)).trans (KeptG.set _ h)
theorem four_below {w2 wA : World} {bm B : Nat} (i rn on gR : Nat) (oa : Option Addr) (oc : Nat) (h : Below B w2 wA) (hb : B ≤ bm) : Below B w2 (four wA bm i rn on gR oa oc) := (((h.setCell hb _).setCell hb _).setCell hb _).setCell hb _
theorem four_size (wA : World) (bm i rn on gR : Nat) (oa : Option Addr) (oc : Nat) : (four wA bm i rn on gR oa oc).heap.size = wA.heap.size := by simp [four]
theorem began_ab {w2 wA : World} {rz i rn on bm gR : Nat} {vs : List Value} {oa : Option Addr} {oc : Nat} {os : List Int} (hZ : Cells wA bm zeroN 39) (hR : Cells wA gR vs 48) (hne : bm ≠ gR) (hI : OffI wA [bm, gR, rz] oa on os) (h1 : w2.heap.size ≤ bm) (h2 : w2.heap.size ≤ gR) (hB : Below w2.heap.size w2 wA) : Began w2 (four wA bm i rn on gR oa oc) rz i rn on bm gR vs oa oc os :=
  ⟨four_cells i rn on gR oa oc hZ, (four_kept wA bm i rn on gR oa oc [bm] (by simp)).cells hR (by simp; omega), hI.keep (four_kept wA bm i rn on gR oa oc _ (by simp)), h1, h2, hne, four_below i rn on gR oa oc hB h1⟩
theorem began_c {w2 wA : World} {rz i rn on bm : Nat} {vs : List Value} {oa : Option Addr} {oc : Nat} {os : List Int} (hZ : Cells wA bm zeroN 39) (hI : OffI wA [bm, rz] oa on os) (h1 : w2.heap.size ≤ bm) (hB : Below w2.heap.size w2 wA) : Began w2 ((four wA bm i rn on wA.heap.size oa oc).alloc (.cells vs.toArray 48)) rz i rn on bm wA.heap.size vs oa oc os := by
  have hl := hZ.lt
  have hb4 := (Below.refl _ (four wA bm i rn on wA.heap.size oa oc)).alloc (Nat.le_refl _) (.cells vs.toArray 48)
  have hn := Cells.new (four wA bm i rn on wA.heap.size oa oc) vs 48
  rw [four_size] at hn
  have hI2 : OffI (four wA bm i rn on wA.heap.size oa oc) [bm, wA.heap.size, rz] oa on os := (hI.turn (fun b hb h => by simp at h ⊢; omega)).keep (four_kept wA bm i rn on wA.heap.size oa oc _ (by simp))
  exact ⟨(four_cells i rn on _ oa oc hZ).below hb4 (by rw [four_size]; exact hl), hn, hI2.keep (KeptG.of hb4), h1, hB.size, by omega, bstep (four_below i rn on _ oa oc hB h1) hb4⟩
theorem began_d {w2 wA : World} {rz i rn on gR : Nat} {vs : List Value} {oa : Option Addr} {oc : Nat} {os : List Int} (hR : Cells wA gR vs 48) (hI : OffI wA [gR, rz] oa on os) (h2 : w2.heap.size ≤ gR) (hB : Below w2.heap.size w2 wA) : Began w2 (wA.alloc (.cells (fullN i rn on gR oa oc).toArray 39)) rz i rn on wA.heap.size gR vs oa oc os := by
  have hl := hR.lt
  have hb4 := (Below.refl _ wA).alloc (Nat.le_refl _) (.cells (fullN i rn on gR oa oc).toArray 39)
  exact ⟨Cells.new _ _ _, hR.below hb4 hl, (hI.turn (fun b hb h => by simp at h ⊢; omega)).keep (KeptG.of hb4), hB.size, h2, by omega, bstep hB hb4⟩
theorem began_e {w2 wA : World} {rz i rn on : Nat} {vs : List Value} {oa : Option Addr} {oc : Nat} {os : List Int} (hI : OffI wA [rz] oa on os) (hB : Below w2.heap.size w2 wA) : Began w2 ((wA.alloc (.cells vs.toArray 48)).alloc (.cells (fullN i rn on wA.heap.size oa oc).toArray 39)) rz i rn on (wA.heap.size + 1) wA.heap.size vs oa oc os := by
  have hb4 := (Below.refl _ wA).alloc (Nat.le_refl _) (.cells vs.toArray 48)
  have h := began_d (rz := rz) (i := i) (rn := rn) (oc := oc) (Cells.new wA vs 48) ((hI.turn (G' := [wA.heap.size, rz]) (fun b hb h => by simp at h ⊢; omega)).keep (KeptG.of hb4)) hB.size (bstep hB hb4)
  rwa [show (wA.alloc (.cells vs.toArray 48)).heap.size = wA.heap.size + 1 by simp] at h
theorem began_f {w2 wA : World} {rz i rn on : Nat} {vs : List Value} {oa : Option Addr} {oc : Nat} {os : List Int} (hI : OffI wA [rz] oa on os) (hB : Below w2.heap.size w2 wA) : Began w2 ((wA.alloc (.cells (fullN i rn on (wA.heap.size + 1) oa oc).toArray 39)).alloc (.cells vs.toArray 48)) rz i rn on wA.heap.size (wA.heap.size + 1) vs oa oc os := by
  have hb4 := (Below.refl _ wA).alloc (Nat.le_refl _) (.cells (fullN i rn on (wA.heap.size + 1) oa oc).toArray 39)
  have hb5 := (Below.refl _ (wA.alloc (.cells (fullN i rn on (wA.heap.size + 1) oa oc).toArray 39))).alloc (Nat.le_refl _) (.cells vs.toArray 48)
  have hn := Cells.new (wA.alloc (.cells (fullN i rn on (wA.heap.size + 1) oa oc).toArray 39)) vs 48
  rw [show (wA.alloc (.cells (fullN i rn on (wA.heap.size + 1) oa oc).toArray 39)).heap.size = wA.heap.size + 1 by simp] at hn
  have h4 := Cells.new wA (fullN i rn on (wA.heap.size + 1) oa oc) 39
  have hBs := hB.size
  exact ⟨h4.below hb5 h4.lt, hn, ((hI.turn (G' := [wA.heap.size, wA.heap.size + 1, rz]) (fun b hb h => by simp at h ⊢; omega)).keep (KeptG.of hb4)).keep (KeptG.of hb5), hB.size, by omega, by omega, bstep (bstep hB hb4) hb5⟩


/-- What lies there in the first loop. -/
def ownL (v : Value) : List Nat := v.ownBlock.toList
def MInv (w2 wr : World) (rz i rn on bm gR : Nat) (vs : List Value) (oa : Option Addr) (oc : Nat) (os : List Int) (pa : Option Addr) (pn pc : Nat) (cs : List Value) (gs : List GateD) : Prop :=
  pn = gs.length ∧ Cells wr bm [.int .i64 (i : Int), .slice pa pn pc, .slice (some ⟨gR, 0, none⟩) rn rn, .slice oa on oc] 39 ∧ Cells wr gR vs 48 ∧ OffI wr (bm :: gR :: rz :: ownL (.slice pa pn pc)) oa on os ∧ wr.ownsRow w2.heap.size 46 3 (.slice pa pn pc) pn cs ∧ GRow wr (bm :: gR :: rz :: ownL (.slice pa pn pc)) cs gs ∧ Below w2.heap.size w2 wr
theorem own_ne {w : World} {base g size n : Nat} {e T : TypeId} {v : Value} {xs vs : List Value} (h : w.ownsRow base e size v n xs) (hc : Cells w g vs T) (hT : T ≠ e) : v.ownBlock ≠ some g := by
  rcases h.2 with ⟨h1, _⟩ | ⟨g', cap, cur, hv, _, hh, _⟩
  · rw [h1]; simp [Value.ownBlock]
  · rw [hv]
    intro e1
    have e2 : g' = g := by simpa [Value.ownBlock] using e1
    subst e2
    unfold Cells at hc
    rw [hh] at hc
    injection hc with hc
    injection hc with _ hc _
    exact hT hc.symm
theorem own_lt {w : World} {base size n : Nat} {e : TypeId} {v : Value} {xs : List Value} (h : w.ownsRow base e size v n xs) : ∀ b, v.ownBlock = some b → b < w.heap.size := by
  rcases h.2 with ⟨h1, _⟩ | ⟨g', cap, cur, hv, _, hh, _⟩
  · rw [h1]; simp [Value.ownBlock]
  · rw [hv]
    intro b e1
    have e2 : g' = b := by simpa [Value.ownBlock] using e1
    subst e2
    exact (Array.getElem?_eq_some_iff.1 hh).1
theorem own_on {w w' : World} {base size n : Nat} {e : TypeId} {v : Value} {xs : List Value} (h : w.ownsRow base e size v n xs) (hb : Below w.heap.size w w') : w'.ownsRow base e size v n xs := by
  refine ⟨h.1, ?_⟩
  rcases h.2 with hn | ⟨g', cap, cur, hv, hbs, hgg, rest⟩
  · exact .inl hn
  · exact .inr ⟨g', cap, cur, hv, hbs, (hb.block g' (Array.getElem?_eq_some_iff.1 hgg).1).trans hgg, rest⟩
theorem MInv.on {w2 wr w' : World} {rz i rn on bm gR : Nat} {vs : List Value} {oa : Option Addr} {oc : Nat} {os : List Int} {pa : Option Addr} {pn pc : Nat} {cs : List Value} {gs : List GateD} (h : MInv w2 wr rz i rn on bm gR vs oa oc os pa pn pc cs gs) (hb : Below wr.heap.size wr w') : MInv w2 w' rz i rn on bm gR vs oa oc os pa pn pc cs gs := by
  obtain ⟨h0, h1, h2, h3, h4, h5, h6⟩ := h
  exact ⟨h0, h1.below hb h1.lt, h2.below hb h2.lt, h3.keep (KeptG.of hb), own_on h4 hb, h5.keep (KeptG.of hb), bstep h6 hb⟩
theorem OffI.move {w w' : World} {G G' : List Nat} {a : Option Addr} {n : Nat} {xs : List Int} (h : OffI w G a n xs) (hk : KeptG G w w') (hg : ∀ b, b < w.heap.size → b ∉ G → b ∉ G') : OffI w' G' a n xs :=
  ((h.turn (G' := G ++ G') (fun b hb hn => by simp only [List.mem_append, not_or]; exact ⟨hn, hg b hb hn⟩)).keep (hk.mono (fun b hb => by simp [hb]))).turn (fun b _ hn => by simp only [List.mem_append, not_or] at hn; exact hn.2)
theorem GRow.move {w w' : World} {G G' : List Nat} {cs : List Value} {gs : List GateD} (h : GRow w G cs gs) (hk : KeptG G w w') (hg : ∀ b, b < w.heap.size → b ∉ G → b ∉ G') : GRow w' G' cs gs :=
  ⟨h.1, fun j hj => by obtain ⟨aa, an, ac, h1, h2, h3, h4⟩ := h.2 j hj; exact ⟨aa, an, ac, h1, h2, h3, h4.move hk hg⟩⟩
theorem own_set {w : World} {base size n bm k : Nat} {e : TypeId} {v u : Value} {xs : List Value} (h : w.ownsRow base e size v n xs) (hne : v.ownBlock ≠ some bm) : (w.setCell ⟨bm, k, none⟩ u).ownsRow base e size v n xs := by
  refine ⟨h.1, ?_⟩
  rcases h.2 with hn | ⟨g', cap, cur, hv, hbs, hgg, rest⟩
  · exact .inl hn
  · exact .inr ⟨g', cap, cur, hv, hbs, (set_other (fun e1 => hne (by rw [hv, ← e1]; rfl))).trans hgg, rest⟩
/-- A gate more. -/
theorem MInv.more {w2 w6 w8 : World} {rz i rn on bm gR : Nat} {vs : List Value} {oa : Option Addr} {oc : Nat} {os : List Int} {pa : Option Addr} {pn pc : Nat} {cs : List Value} {gs : List GateD} (h : MInv w2 w6 rz i rn on bm gR vs oa oc os pa pn pc cs gs) (x : GateD) {aa : Option Addr} {an ac g8 cap8 : Nat}
    (hI : OffI w6 (bm :: gR :: rz :: ownL (.slice pa pn pc)) aa an x.args) (hown : w8.ownsRow w2.heap.size 46 3 (.slice (some ⟨g8, 0, none⟩) (pn + 1) cap8) (pn + 1) (cs ++ [.int .i64 x.kind, .int .i64 x.n, .slice aa an ac])) (hgr : w6.grownBy w8 (Value.slice pa pn pc).ownBlock) (hat : (Value.slice pa pn pc).ownBlock = some g8 ∨ g8 = w6.heap.size) (hbm : w2.heap.size ≤ bm) :
    MInv w2 (w8.setCell ⟨bm, 1, none⟩ (.slice (some ⟨g8, 0, none⟩) (pn + 1) cap8)) rz i rn on bm gR vs oa oc os (some ⟨g8, 0, none⟩) (pn + 1) cap8 (cs ++ [.int .i64 x.kind, .int .i64 x.n, .slice aa an ac]) (gs ++ [x]) := by
  obtain ⟨h0, h1, h2, h3, h4, h5, h6⟩ := h
  have n1 := own_ne h4 h1 (by decide)
  have n2 := own_ne h4 h2 (by decide)
  have l1 := h1.lt
  have l2 := h2.lt
  have c1 : Cells w8 bm _ 39 := (hgr.block bm l1 (Ne.symm n1)).trans h1
  have c2 : Cells w8 gR _ 48 := (hgr.block gR l2 (Ne.symm n2)).trans h2
  have m1 := own_ne hown c1 (by decide)
  have m2 := own_ne hown c2 (by decide)
  have hrm : bm ≠ gR := by
    intro e
    subst e
    unfold Cells at h1 h2
    rw [h1] at h2
    injection h2 with h2
    injection h2 with _ h2 _
    exact absurd h2 (by decide)
  have hkg : KeptG (bm :: gR :: rz :: ownL (.slice pa pn pc)) w6 w8 := KeptG.grown hgr (fun b hb => by simp [ownL, hb])
  have hturn : ∀ b, b < w6.heap.size → b ∉ (bm :: gR :: rz :: ownL (.slice pa pn pc)) → b ∉ (bm :: gR :: rz :: ownL (.slice (some ⟨g8, 0, none⟩) (pn + 1) cap8)) := by
    intro b hb hn
    simp only [List.mem_cons, not_or] at hn ⊢
    refine ⟨hn.1, hn.2.1, hn.2.2.1, ?_⟩
    have hn3 := hn.2.2.2
    simp only [ownL, Value.ownBlock, Option.toList_some, List.mem_singleton]
    rcases hat with e | e
    · intro eb
      subst eb
      exact hn3 (by simp [ownL, e])
    · omega
  have hb8 : Below w2.heap.size w2 w8 := h6.grown hgr h6.size (fun k hk => by
    rcases h4.2 with ⟨hv, _⟩ | ⟨g', _, _, hv, hbs, _⟩
    · rw [hv] at hk; simp [Value.ownBlock] at hk
    · rw [hv] at hk; simp [Value.ownBlock] at hk; omega)
  have hset : ∀ {G : List Nat}, bm ∈ G → KeptG G w8 (w8.setCell ⟨bm, 1, none⟩ (.slice (some ⟨g8, 0, none⟩) (pn + 1) cap8)) := fun hm => KeptG.set _ hm
  refine ⟨by simp [h0], c1.set 1 _, (hset (G := [bm]) (by simp)).cells c2 (by simp; omega), (h3.move hkg hturn).keep (hset (by simp)), own_set hown m1, ?_, hb8.setCell hbm _⟩
  exact ((h5.move hkg hturn).more (hI.move hkg hturn)).keep (hset (by simp))
end Go.Proofs.Ytongajonecgdpag
