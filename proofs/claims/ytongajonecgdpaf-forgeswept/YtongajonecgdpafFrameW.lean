
/- How words that came in are met. -/
import Derived.Test.YtongajonecgdpafFrame
import Derived.Test.YtongajonecgdpafPackP
namespace Go.Proofs.Ytongajonecgdpaf
open Go.ChangeShapes Go.WideShapes Go.ChangeAt Go.RowKit Go.Joins

theorem isW_wf {n : Int} (h : (Lit.int .u64 n).wf = true) : isW n := by
  simp only [Lit.wf, Bool.and_eq_true, decide_eq_true_iff] at h
  have e0 : IntKind.u64.min = 0 := by decide
  have e1 : IntKind.u64.max = 2 ^ 64 - 1 := by decide
  rw [e0, e1] at h
  exact ⟨h.1, by omega⟩
set_option maxRecDepth 100000 in
theorem words_trod {H : Type} {enc : TypeId × Value → H} {W : World} {fuel : Nat} {v : Value} {x : DataW H × List MemPlace}
    (h : DataW.trod enc Try.prog W 0 (fun _ => true) true fuel 62 [v] = some x) : ∃ a len cap xs, v = .slice a len cap ∧ Words W a len xs ∧ ∀ y ∈ xs, isW y := by
  rcases open_ints Try.underlying62 Try.underlying63 (by kernel_rfl) h with ⟨hcs, _⟩ | ⟨x, l, c, zs, hcs, _, hl, hm, hz, hx, hcell, hwz⟩
  · simp at hcs
    exact ⟨none, 0, 0, [], hcs, Words.none _, fun y hy => by simp at hy⟩
  · simp at hcs
    have hz' : zs.length = c := by simpa using hz
    refine ⟨some x, l, c, zs.take l, hcs, ⟨by simp; omega, by simp; omega, ?_⟩, fun y hy => isW_wf (hwz y (List.mem_of_mem_take hy))⟩
    by_cases h0 : l = 0
    · exact Or.inl (by simp [h0])
    · obtain ⟨b, off, spot⟩ := x
      have hc := hcell 0 (by omega)
      have hspot : spot = none := by simpa [Addr.add] using World.cell?_spot hc
      subst hspot
      refine Or.inr ⟨b, off, rfl, ?_, fun i hi => ?_⟩
      · simpa [Addr.add] using World.block_lt_of_cell? _ _ hc
      · have hi' : i < zs.length := by simp at hi; omega
        have := hcell i hi'
        rw [addr_add] at this
        rw [this]
        simp [List.getD_eq_getElem?_getD, hi']
set_option maxRecDepth 100000 in
theorem wrows_trod {H : Type} {enc : TypeId × Value → H} {W : World} {fuel : Nat} {v : Value} {x : DataW H × List MemPlace}
    (h : DataW.trod enc Try.prog W 0 (fun _ => true) true fuel 58 [v] = some x) : ∃ a len cap xss, v = .slice a len cap ∧ WRows W a len xss ∧ ∀ r ∈ xss, ∀ y ∈ r, isW y := by
  rcases Go.Deep.open_slice1 Try.underlying58 (by kernel_rfl) h with ⟨hcs, _⟩ | ⟨a, len, cap, m, n, V, D, Pl, hcs, _, hl, hm, hmm, _, hx⟩
  · simp at hcs
    exact ⟨none, 0, 0, [], hcs, WRows.none _, fun r hr => by simp at hr⟩
  · simp at hcs
    have hmc : m = cap := by simpa using hmm
    by_cases h00 : len = 0
    · exact ⟨some a, len, cap, [], hcs, ⟨h00, Nat.zero_le _, Or.inl rfl⟩, fun r hr => by simp at hr⟩
    have c0 := (hx 0 (by omega)).1
    have c0' : W.cell? a = some (V 0) := by simpa [Addr.add] using c0
    have hspot := World.cell?_spot c0'
    have hlt := World.block_lt_of_cell? _ _ c0'
    obtain ⟨b, off, spot⟩ := a
    simp only at hspot hlt
    subst hspot
    have each : ∀ i, i < len → ∃ r : List Int, (∃ a' n' c', W.cell? ⟨b, off + i, none⟩ = some (.slice a' n' c') ∧ Words W a' n' r) ∧ ∀ y ∈ r, isW y := by
      intro i hi
      obtain ⟨h1, h2⟩ := hx i (by omega)
      obtain ⟨a', n', c', xs, e, hW, hy⟩ := words_trod h2
      rw [addr_add, e] at h1
      exact ⟨xs, ⟨a', n', c', h1, hW⟩, hy⟩
    obtain ⟨xss, hgl, hgp⟩ := list_of each
    refine ⟨_, len, cap, xss, hcs, ⟨hgl.symm, by omega, Or.inr ⟨b, off, rfl, hlt, fun i hi => (hgp i hi).1⟩⟩, fun r hr => ?_⟩
    obtain ⟨i, hi, rfl⟩ := List.getElem_of_mem hr
    exact (hgp i hi).2
theorem words_open {H : Type} {enc : TypeId × Value → H} {W : World} {a : Option Addr} {len cap : Nat} {d : DataW H} {p : List MemPlace}
    (h : DataW.Trod enc Try.prog W 0 (fun _ => true) true 62 (Value.slice a len cap) d p) : ∃ xs, Words W a len xs ∧ ∀ y ∈ xs, isW y := by
  obtain ⟨fuel, hf⟩ := h
  obtain ⟨a', l', c', xs, e, h1, h2⟩ := words_trod (v := Value.slice a len cap) (by simpa [Value.cells] using hf)
  injection e with e1 e2 e3
  subst e1 e2
  exact ⟨xs, h1, h2⟩
theorem wrows_open {H : Type} {enc : TypeId × Value → H} {W : World} {a : Option Addr} {len cap : Nat} {d : DataW H} {p : List MemPlace}
    (h : DataW.Trod enc Try.prog W 0 (fun _ => true) true 58 (Value.slice a len cap) d p) : ∃ xss, WRows W a len xss ∧ ∀ r ∈ xss, ∀ y ∈ r, isW y := by
  obtain ⟨fuel, hf⟩ := h
  obtain ⟨a', l', c', xs, e, h1, h2⟩ := wrows_trod (v := Value.slice a len cap) (by simpa [Value.cells] using hf)
  injection e with e1 e2 e3
  subst e1 e2
  exact ⟨xs, h1, h2⟩
end Go.Proofs.Ytongajonecgdpaf
