/- How a program that came in is met. -/
import Derived.Test.YtongajonecgdpagGreatDoorFrame
import Derived.Test.YtongajonecgdpagGreatDoorProgM
namespace Go.Proofs.YtongajonecgdpagGreatDoor
open Go.RowKit

open Go.ChangeShapes Go.WideShapes Go.ChangeAt  Go.Joins
theorem Tryz.cellsNode : Tryz.prog.cellsOf 93 = 2 := by kernel_rfl

set_option maxRecDepth 100000 in
theorem nodes_trod {H : Type} {enc : TypeId × Value → H} {W : World} {fuel : Nat} {v : Value} {x : DataW H × List MemPlace}
    (h : DataW.trod enc Tryz.prog W 0 (fun _ => true) true fuel 27 [v] = some x) : ∃ a len cap rs, v = .slice a len cap ∧ Nodes W a len rs ∧ len ≤ cap := by
  rcases Go.Deep.open_slice Tryz.underlying27 h with ⟨hcs, _⟩ | ⟨a, len, cap, m, n, D, Pl, hcs, _, hl, hm, hmm, _, hx⟩
  · simp at hcs
    exact ⟨none, 0, 0, [], hcs, ⟨rfl, Nat.zero_le _, Or.inl rfl⟩, Nat.le_refl _⟩
  · simp at hcs
    have hmc : m = cap := by simpa using hmm
    by_cases h00 : len = 0
    · exact ⟨some a, len, cap, [], hcs, ⟨h00, Nat.zero_le _, Or.inl rfl⟩, by omega⟩
    have hspot : a.spot = none ∧ a.block < W.heap.size := by
      obtain ⟨cs', h1, h2⟩ := hx 0 (by omega)
      rw [Tryz.cellsNode] at h1
      obtain ⟨_, hlen, hcell⟩ := World.cells?_some h1
      have c0 := hcell 0 (by omega)
      rw [Go.Deep.add_add] at c0
      match cs', hlen with
      | [v0, v1], _ =>
        have c1 : W.cell? a = some v0 := by simpa [Addr.add] using c0
        exact ⟨World.cell?_spot c1, World.block_lt_of_cell? _ _ c1⟩
    obtain ⟨b, off, spot⟩ := a
    obtain ⟨hs, hlt⟩ := hspot
    simp only at hs hlt
    subst hs
    have each : ∀ i, i < len → ∃ r : NodeD, W.cell? ⟨b, off + i * 2, none⟩ = some (.int .i64 r.kind) ∧ W.cell? ⟨b, off + i * 2 + 1, none⟩ = some (.int .i64 r.sig) := by
      intro i hi
      obtain ⟨cs', h1, h2⟩ := hx i (by omega)
      rw [Tryz.cellsNode] at h1
      obtain ⟨_, hlen, hcell⟩ := World.cells?_some h1
      obtain ⟨y0, y1, k, _, _, t0, t1⟩ := trod_struct2 Tryz.underlying93 h2
      match cs', hlen with
      | [v0, v1], _ =>
        have c0 := hcell 0 (by omega)
        have c1 := hcell 1 (by omega)
        rw [Go.Deep.add_add, addr_add] at c0 c1
        have k1 : Tryz.prog.cellsOf 3 = 1 := by kernel_rfl
        simp only [k1] at t0 t1
        obtain ⟨bb, e0, _, _⟩ := DataW.trod_int Tryz.underlying3 t0
        obtain ⟨nn, e1, _, _⟩ := DataW.trod_int Tryz.underlying3 t1
        simp at e0 e1
        subst e0 e1
        exact ⟨⟨bb, nn⟩, by simpa using c0, by simpa [Nat.add_assoc] using c1⟩
    obtain ⟨rs, hgl, hgp⟩ := list_of each
    exact ⟨_, len, cap, rs, hcs, ⟨hgl.symm, by omega, Or.inr ⟨b, off, rfl, hlt, hgp⟩⟩, by omega⟩
theorem nodes_open {H : Type} {enc : TypeId × Value → H} {W : World} {a : Option Addr} {len cap : Nat} {d : DataW H} {p : List MemPlace}
    (h : DataW.Trod enc Tryz.prog W 0 (fun _ => true) true 27 (.slice a len cap) d p) : ∃ rs, Nodes W a len rs ∧ len ≤ cap := by
  obtain ⟨m, hm⟩ := h
  obtain ⟨a', l', c', rs, he, hN, hl⟩ := nodes_trod (v := .slice a len cap) hm
  simp at he
  obtain ⟨rfl, rfl, rfl⟩ := he
  exact ⟨rs, hN, hl⟩

open Go.ChangeShapes Go.WideShapes Go.ChangeAt  Go.Joins
end Go.Proofs.YtongajonecgdpagGreatDoor
