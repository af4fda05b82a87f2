/- How a list of whole numbers that came in is met: the bridge from the row's reading to the walks' word 'Ints'. -/
import Derived.Test.YtongajonecgdpagGreatDoorTernA
import Derived.ProofKit
import Derived.OpenShut
import Derived.ShutString
import Derived.ChangeOld
import Derived.Test.YtongajonecgdpagGreatDoorNetA
import Derived.Deep.Slices
import Derived.Deep.SlicePairs
import Derived.Deep.Strs
import Derived.Lib.SmallJoins
import Derived.SizedLaws
namespace Go.Proofs.YtongajonecgdpagGreatDoor
open Go.RowKit

open Go.ChangeShapes Go.WideShapes Go.ChangeAt
theorem own : ownKnob Tryz.prog.godebug = none := by kernel_rfl
theorem laidOut : laidOutB Tryz.prog = true := by kernel_rfl

theorem ints_open {H : Type} {enc : TypeId × Value → H} {W : World} {a : Option Addr} {len cap : Nat} {d : DataW H} {p : List MemPlace}
    (h : DataW.Trod enc Tryz.prog W 0 (fun _ => true) true 28 (Value.slice a len cap) d p) :
    ∃ xs, Ints W a len xs ∧ (∀ n ∈ xs, (Lit.int .i64 n).wf = true) ∧ (len = 0 ∨ ∃ elems spare, d = .slice elems spare ∧ len ≤ elems.length + spare.length) := by
  obtain ⟨fuel, hf⟩ := h
  rcases open_ints Tryz.underlying28 Tryz.underlying3 (by kernel_rfl) hf with ⟨hcs, _⟩ | ⟨x, l, c, zs, hcs, _, hl, hm, hz, hx, hcell, hwz⟩
  · simp [Value.cells] at hcs
    obtain ⟨rfl, rfl, rfl⟩ := hcs
    exact ⟨[], Ints.none _, fun n hn => by simp at hn, Or.inl rfl⟩
  · simp [Value.cells] at hcs
    obtain ⟨rfl, rfl, rfl⟩ := hcs
    have hz' : zs.length = cap := by simpa using hz
    refine ⟨zs.take len, ⟨by simp; omega, by simp; omega, ?_⟩, fun n hn => hwz n (List.mem_of_mem_take hn), Or.inr ⟨_, _, (Prod.mk.inj hx).1, by simp [lits]; omega⟩⟩
    by_cases h0 : len = 0
    · exact Or.inl (by simp [h0])
    · obtain ⟨b, off, spot⟩ := x
      have hc := hcell 0 (by omega)
      have hspot : spot = none := by simpa [Addr.add] using World.cell?_spot hc
      subst hspot
      refine Or.inr ⟨b, off, rfl, ?_, fun i hi => ?_⟩
      · simpa [Addr.add] using World.block_lt_of_cell? _ _ hc
      · have hi' : i < zs.length := by simp at hi; omega
        have := hcell i hi'
        have ha : (⟨b, off, Option.none⟩ : Addr).add i = ⟨b, off + i, Option.none⟩ := by
          by_cases h : i = 0
          · subst h; rfl
          · simp [Addr.add, h]
        rw [ha] at this
        rw [this]
        simp [List.getD_eq_getElem?_getD, hi']

theorem Tryz.bytesInt : Tryz.prog.bytesOf 3 = 8 := by kernel_rfl
theorem ints_reach {H : Type} {ts : List TypeId} {ds : List (DataW H)} {j len : Nat} {d : DataW H} (hsz : (DataW.weightsEach Tryz.prog ts ds).all (· ≤ reachBytes) = true) (ht : ts[j]? = some 28) (hd : ds[j]? = some d)
    (h : len = 0 ∨ ∃ elems spare, d = .slice elems spare ∧ len ≤ elems.length + spare.length) : len * 8 ≤ 140737488351232 := by
  rcases h with h | ⟨elems, spare, rfl, hl⟩
  · omega
  · have := sized_slice hsz ht hd Tryz.underlying28
    rw [Tryz.bytesInt] at this
    simp only [reachBytes] at this
    omega

open Go.ChangeShapes Go.WideShapes Go.ChangeAt  Go.Joins
theorem addr_add (b off i : Nat) : (⟨b, off, Option.none⟩ : Addr).add i = ⟨b, off + i, Option.none⟩ := by
  by_cases h : i = 0
  · subst h; rfl
  · simp [Addr.add, h]

set_option maxRecDepth 100000 in
theorem ints_trod {H : Type} {enc : TypeId × Value → H} {W : World} {fuel : Nat} {v : Value} {x : DataW H × List MemPlace}
    (h : DataW.trod enc Tryz.prog W 0 (fun _ => true) true fuel 28 [v] = some x) : ∃ a len cap xs, v = .slice a len cap ∧ Ints W a len xs := by
  rcases open_ints Tryz.underlying28 Tryz.underlying3 (by kernel_rfl) h with ⟨hcs, _⟩ | ⟨x, l, c, zs, hcs, _, hl, hm, hz, hx, hcell, hwz⟩
  · simp at hcs
    exact ⟨none, 0, 0, [], hcs, Ints.none _⟩
  · simp at hcs
    have hz' : zs.length = c := by simpa using hz
    refine ⟨some x, l, c, zs.take l, hcs, by simp; omega, by simp; omega, ?_⟩
    by_cases h0 : l = 0
    · exact Or.inl (by simp [h0])
    · obtain ⟨b, off, spot⟩ := x
      have hc := hcell 0 (by omega)
      have hspot : spot = none := by simpa [Addr.add] using World.cell?_spot hc
      subst hspot
      refine Or.inr ⟨b, off, rfl, ?_, fun i hi => ?_⟩
      · simpa [Addr.add] using World.block_lt_of_cell? _ _ hc
      · have hi' : i < zs.length := by simp at hi; omega
        have := hcell i hi'
        rw [addr_add] at this
        rw [this]
        simp [List.getD_eq_getElem?_getD, hi']

set_option maxRecDepth 100000 in
theorem list_of {α : Type} {n : Nat} {p : Nat → α → Prop} (h : ∀ i, i < n → ∃ x, p i x) : ∃ l : List α, l.length = n ∧ ∀ i (hi : i < l.length), p i l[i] := by
  induction n with
  | zero => exact ⟨[], rfl, fun i hi => by simp at hi⟩
  | succ n ih =>
    obtain ⟨l, hl, hp⟩ := ih (fun i hi => h i (by omega))
    obtain ⟨x, hx⟩ := h n (by omega)
    refine ⟨l ++ [x], by simp [hl], fun i hi => ?_⟩
    by_cases e : i < l.length
    · rw [List.getElem_append_left e]; exact hp i e
    · have : i = n := by simp at hi; omega
      subst this
      rw [List.getElem_append_right (by omega)]
      simpa [hl] using hx

theorem Tryz.cellsGate : Tryz.prog.cellsOf 126 = 3 := by kernel_rfl

set_option maxRecDepth 100000 in
theorem gates_trod {H : Type} {enc : TypeId × Value → H} {W : World} {fuel : Nat} {v : Value} {x : DataW H × List MemPlace}
    (h : DataW.trod enc Tryz.prog W 0 (fun _ => true) true fuel 67 [v] = some x) : ∃ a len cap gs, v = .slice a len cap ∧ Gates W a len gs := by
  rcases Go.Deep.open_slice Tryz.underlying67 h with ⟨hcs, _⟩ | ⟨a, len, cap, m, n, D, Pl, hcs, _, hl, hm, hmm, _, hx⟩
  · simp at hcs
    exact ⟨none, 0, 0, [], hcs, rfl, Nat.zero_le _, Or.inl rfl⟩
  · simp at hcs
    have hmc : m = cap := by simpa using hmm
    by_cases h00 : len = 0
    · exact ⟨some a, len, cap, [], hcs, h00, Nat.zero_le _, Or.inl rfl⟩
    have hspot : a.spot = none ∧ a.block < W.heap.size := by
      obtain ⟨cs', h1, h2⟩ := hx 0 (by omega)
      rw [Tryz.cellsGate] at h1
      obtain ⟨_, hlen, hcell⟩ := World.cells?_some h1
      have c0 := hcell 0 (by omega)
      rw [Go.Deep.add_add] at c0
      match cs', hlen with
      | [v0, v1, v2], _ =>
        have c1 : W.cell? a = some v0 := by simpa [Addr.add] using c0
        exact ⟨World.cell?_spot c1, World.block_lt_of_cell? _ _ c1⟩
    obtain ⟨b, off, spot⟩ := a
    obtain ⟨hs, hlt⟩ := hspot
    simp only at hs hlt
    subst hs
    have each : ∀ i, i < len → ∃ g : GateD, GateAt W b (off + i * 3) g := by
      intro i hi
      obtain ⟨cs', h1, h2⟩ := hx i (by omega)
      rw [Tryz.cellsGate] at h1
      obtain ⟨_, hlen, hcell⟩ := World.cells?_some h1
      obtain ⟨y0, y1, y2, k, _, _, t0, t1, t2⟩ := Go.Deep.trod_struct3 Tryz.underlying126 h2
      match cs', hlen with
      | [v0, v1, v2], _ =>
        have c0 := hcell 0 (by omega)
        have c1 := hcell 1 (by omega)
        have c2 := hcell 2 (by omega)
        rw [Go.Deep.add_add, addr_add] at c0 c1 c2
        have k1 : Tryz.prog.cellsOf 3 = 1 := by kernel_rfl
        have k2 : Tryz.prog.cellsOf 28 = 1 := by kernel_rfl
        simp only [k1, k2] at t0 t1 t2
        obtain ⟨kd, e0, _, _⟩ := DataW.trod_int Tryz.underlying3 t0
        obtain ⟨nn, e1, _, _⟩ := DataW.trod_int Tryz.underlying3 t1
        obtain ⟨aa, an, ac, xs, e2, hI⟩ := ints_trod (v := v2) (by simpa using t2)
        simp at e0 e1
        subst e0 e1 e2
        exact ⟨⟨kd, nn, xs⟩, by simpa using c0, by simpa [Nat.add_assoc] using c1, aa, an, ac, by simpa [Nat.add_assoc] using c2, hI⟩
    obtain ⟨gs, hgl, hgp⟩ := list_of each
    exact ⟨_, len, cap, gs, hcs, hgl.symm, by omega, Or.inr ⟨b, off, rfl, hlt, hgp⟩⟩

theorem Tryz.cellsStore : Tryz.prog.cellsOf 133 = 2 := by kernel_rfl

set_option maxRecDepth 100000 in
theorem regs_trod {H : Type} {enc : TypeId × Value → H} {W : World} {fuel : Nat} {v : Value} {x : DataW H × List MemPlace}
    (h : DataW.trod enc Tryz.prog W 0 (fun _ => true) true fuel 68 [v] = some x) : ∃ a len cap rs, v = .slice a len cap ∧ Regs W a len rs := by
  rcases Go.Deep.open_slice Tryz.underlying68 h with ⟨hcs, _⟩ | ⟨a, len, cap, m, n, D, Pl, hcs, _, hl, hm, hmm, _, hx⟩
  · simp at hcs
    exact ⟨none, 0, 0, [], hcs, rfl, Nat.zero_le _, Or.inl rfl⟩
  · simp at hcs
    have hmc : m = cap := by simpa using hmm
    by_cases h00 : len = 0
    · exact ⟨some a, len, cap, [], hcs, h00, Nat.zero_le _, Or.inl rfl⟩
    have hspot : a.spot = none ∧ a.block < W.heap.size := by
      obtain ⟨cs', h1, h2⟩ := hx 0 (by omega)
      rw [Tryz.cellsStore] at h1
      obtain ⟨_, hlen, hcell⟩ := World.cells?_some h1
      have c0 := hcell 0 (by omega)
      rw [Go.Deep.add_add] at c0
      match cs', hlen with
      | [v0, v1], _ =>
        have c1 : W.cell? a = some v0 := by simpa [Addr.add] using c0
        exact ⟨World.cell?_spot c1, World.block_lt_of_cell? _ _ c1⟩
    obtain ⟨b, off, spot⟩ := a
    obtain ⟨hs, hlt⟩ := hspot
    simp only at hs hlt
    subst hs
    have each : ∀ i, i < len → ∃ r : Bool × Int, W.cell? ⟨b, off + i * 2, none⟩ = some (.bool r.1) ∧ W.cell? ⟨b, off + i * 2 + 1, none⟩ = some (.int .i64 r.2) := by
      intro i hi
      obtain ⟨cs', h1, h2⟩ := hx i (by omega)
      rw [Tryz.cellsStore] at h1
      obtain ⟨_, hlen, hcell⟩ := World.cells?_some h1
      obtain ⟨y0, y1, k, _, _, t0, t1⟩ := trod_struct2 Tryz.underlying133 h2
      match cs', hlen with
      | [v0, v1], _ =>
        have c0 := hcell 0 (by omega)
        have c1 := hcell 1 (by omega)
        rw [Go.Deep.add_add, addr_add] at c0 c1
        have k1 : Tryz.prog.cellsOf 3 = 1 := by kernel_rfl
        have k2 : Tryz.prog.cellsOf 4 = 1 := by kernel_rfl
        simp only [k1, k2] at t0 t1
        obtain ⟨bb, e0, _⟩ := DataW.trod_bool Tryz.underlying4 t0
        obtain ⟨nn, e1, _, _⟩ := DataW.trod_int Tryz.underlying3 t1
        simp at e0 e1
        subst e0 e1
        exact ⟨(bb, nn), by simpa using c0, by simpa [Nat.add_assoc] using c1⟩
    obtain ⟨rs, hgl, hgp⟩ := list_of each
    exact ⟨_, len, cap, rs, hcs, hgl.symm, by omega, Or.inr ⟨b, off, rfl, hlt, hgp⟩⟩

set_option maxRecDepth 100000 in
theorem net_open {H : Type} {enc : TypeId × Value → H} {W : World} {b0 : Nat} {v : Value} {dd : DataW H} {p : List MemPlace} (hv : Value.okWide Tryz.prog W .any b0 70 v)
    (h : DataW.Trod enc Tryz.prog W 0 (fun _ => true) true 70 v dd p) :
    ∃ ins ga gn gc ra rn rc oa on oc d, v = .agg #[.int .i64 ins, .slice ga gn gc, .slice ra rn rc, .slice oa on oc] ∧ NetAt W d ins ga gn ra rn oa on := by
  obtain ⟨v0, v1, v2, v3, y0, y1, y2, y3, n, rfl, _, _, t0, t1, t2, t3⟩ := open_agg4 Tryz.underlying70 (by kernel_rfl) (by kernel_rfl) hv h
  obtain ⟨ins, e0, _, _⟩ := DataW.trod_int Tryz.underlying3 t0
  obtain ⟨ga, gn, gc, gs, rfl, hg⟩ := gates_trod t1
  obtain ⟨ra, rn, rc, rs, rfl, hr⟩ := regs_trod t2
  obtain ⟨oa, on, oc, os, rfl, ho⟩ := ints_trod t3
  simp at e0
  subst e0
  exact ⟨ins, ga, gn, gc, ra, rn, rc, oa, on, oc, ⟨ins, gs, rs, os⟩, rfl, rfl, hg, hr, ho⟩

open Go.ChangeShapes Go.WideShapes Go.ChangeAt  Go.Joins
set_option maxRecDepth 100000 in
theorem ints_trod2 {H : Type} {enc : TypeId × Value → H} {W : World} {fuel : Nat} {a : Option Addr} {len cap : Nat} {x : DataW H × List MemPlace}
    (h : DataW.trod enc Tryz.prog W 0 (fun _ => true) true fuel 28 [.slice a len cap] = some x) (hz : ∀ n ∈ x.1.weights Tryz.prog 28, n ≤ reachBytes) : (a = none → cap = 0) ∧ len * 8 ≤ 140737488351232 := by
  rcases open_ints Tryz.underlying28 Tryz.underlying3 (by kernel_rfl) h with ⟨hcs, _⟩ | ⟨y, l, c, zs, hcs, _, hl, hm, hzl, hx, _, _⟩
  · simp at hcs
    obtain ⟨rfl, rfl, rfl⟩ := hcs
    exact ⟨fun _ => rfl, by omega⟩
  · simp at hcs
    obtain ⟨rfl, rfl, rfl⟩ := hcs
    refine ⟨fun e => by simp at e, ?_⟩
    have hz' : zs.length = cap := by simpa using hzl
    have h1 := hz _ (by rw [hx]; simp only [DataW.weights, Tryz.underlying28]; exact List.mem_cons_self)
    rw [Tryz.bytesInt] at h1
    simp [lits, reachBytes] at h1
    omega
theorem Tryz.bytesStore : Tryz.prog.bytesOf 133 = 16 := by kernel_rfl
set_option maxRecDepth 100000 in
theorem regs_trod2 {H : Type} {enc : TypeId × Value → H} {W : World} {fuel : Nat} {a : Option Addr} {len cap : Nat} {x : DataW H × List MemPlace}
    (h : DataW.trod enc Tryz.prog W 0 (fun _ => true) true fuel 68 [.slice a len cap] = some x) (hz : ∀ n ∈ x.1.weights Tryz.prog 68, n ≤ reachBytes) : (a = none → cap = 0) ∧ len * 16 ≤ 140737488351232 := by
  rcases Go.Deep.open_slice Tryz.underlying68 h with ⟨hcs, _⟩ | ⟨y, l, c, m, n, D, Pl, hcs, _, hl, hm, hmm, hx, _⟩
  · simp at hcs
    obtain ⟨rfl, rfl, rfl⟩ := hcs
    exact ⟨fun _ => rfl, by omega⟩
  · simp at hcs
    obtain ⟨rfl, rfl, rfl⟩ := hcs
    refine ⟨fun e => by simp at e, ?_⟩
    have h1 := hz _ (by rw [hx]; simp only [DataW.weights, Tryz.underlying68]; exact List.mem_cons_self)
    rw [Tryz.bytesStore] at h1
    simp [reachBytes] at h1
    omega
set_option maxRecDepth 100000 in
theorem net_sized {H : Type} {enc : TypeId × Value → H} {W : World} {b0 : Nat} {ins : Int} {ga ra oa : Option Addr} {gn gc rn rc on oc : Nat} {dd : DataW H} {p : List MemPlace} (hv : Value.okWide Tryz.prog W .any b0 70 (.agg #[.int .i64 ins, .slice ga gn gc, .slice ra rn rc, .slice oa on oc]))
    (h : DataW.Trod enc Tryz.prog W 0 (fun _ => true) true 70 (.agg #[.int .i64 ins, .slice ga gn gc, .slice ra rn rc, .slice oa on oc]) dd p) (hz : ∀ n ∈ dd.weights Tryz.prog 70, n ≤ reachBytes) :
    (oa = none → oc = 0) ∧ (ra = none → rc = 0) ∧ (on + rn) * 8 ≤ 281474976710656 := by
  obtain ⟨v0, v1, v2, v3, y0, y1, y2, y3, n, hv4, hd, _, t0, t1, t2, t3⟩ := open_agg4 Tryz.underlying70 (by kernel_rfl) (by kernel_rfl) hv h
  simp at hv4
  obtain ⟨rfl, rfl, rfl, rfl⟩ := hv4
  subst hd
  have hw : ∀ (j : Nat) (t : TypeId) (y : DataW H), [3, 67, 68, 28][j]? = some t → [y0.1, y1.1, y2.1, y3.1][j]? = some y → ∀ n ∈ y.weights Tryz.prog t, n ≤ reachBytes := by
    intro j t y ht hy n hn
    have := DataW.weights_mem_each (P := Tryz.prog) ht hy n hn
    exact hz n (by simpa [DataW.weights, Tryz.underlying70] using this)
  obtain ⟨h3, h4⟩ := ints_trod2 t3 (hw 3 _ y3.1 rfl rfl)
  obtain ⟨h5, h6⟩ := regs_trod2 t2 (hw 2 _ y2.1 rfl rfl)
  exact ⟨h3, h5, by omega⟩
theorem sized_at {H : Type} {P : Program} {ts : List TypeId} {ds : List (DataW H)} (h : (DataW.weightsEach P ts ds).all (· ≤ reachBytes) = true) {j : Nat} {t : TypeId} {d : DataW H} (ht : ts[j]? = some t) (hd : ds[j]? = some d) : ∀ n ∈ d.weights P t, n ≤ reachBytes := fun n hn => by
  have := List.all_eq_true.1 h n (DataW.weights_mem_each ht hd n hn)
  simpa using this
end Go.Proofs.YtongajonecgdpagGreatDoor
