
/- How a list of whole numbers that came in is met: the bridge from the row's reading to the walks' word 'Ints'. -/
import Derived.Test.YtongajonecgdpaeTernD
import Derived.ProofKit
import Derived.OpenShut
import Derived.ShutString
import Derived.ChangeOld
namespace Go.Proofs.Ytongajonecgdpae
open Go.ChangeShapes Go.WideShapes Go.ChangeAt Go.RowKit

theorem own : ownKnob Try.prog.godebug = none := by kernel_rfl
theorem laidOut : laidOutB Try.prog = true := by kernel_rfl

theorem ints_open {H : Type} {enc : TypeId × Value → H} {W : World} {a : Option Addr} {len cap : Nat} {d : DataW H} {p : List MemPlace}
    (h : DataW.Trod enc Try.prog W 0 (fun _ => true) true 24 (Value.slice a len cap) d p) :
    ∃ xs, Ints W a len xs ∧ (∀ n ∈ xs, (Lit.int .i64 n).wf = true) ∧ (len = 0 ∨ ∃ elems spare, d = .slice elems spare ∧ len ≤ elems.length + spare.length) := by
  obtain ⟨fuel, hf⟩ := h
  rcases open_ints Try.underlying24 Try.underlying3 (by kernel_rfl) hf with ⟨hcs, _⟩ | ⟨x, l, c, zs, hcs, _, hl, hm, hz, hx, hcell, hwz⟩
  · simp [Value.cells] at hcs
    obtain ⟨rfl, rfl, rfl⟩ := hcs
    exact ⟨[], Ints.none _, fun n hn => by simp at hn, Or.inl rfl⟩
  · simp [Value.cells] at hcs
    obtain ⟨rfl, rfl, rfl⟩ := hcs
    have hz' : zs.length = cap := by simpa using hz
    refine ⟨zs.take len, ⟨by simp; omega, by simp; omega, ?_⟩, fun n hn => hwz n (List.mem_of_mem_take hn), Or.inr ⟨_, _, (Prod.mk.inj hx).1, by simp [lits]; omega⟩⟩
    by_cases h0 : len = 0
    · exact Or.inl (by simp [h0])
    · obtain ⟨b, off, spot⟩ := x
      have hc := hcell 0 (by omega)
      have hspot : spot = none := by simpa [Addr.add] using World.cell?_spot hc
      subst hspot
      refine Or.inr ⟨b, off, rfl, ?_, fun i hi => ?_⟩
      · simpa [Addr.add] using World.block_lt_of_cell? _ _ hc
      · have hi' : i < zs.length := by simp at hi; omega
        have := hcell i hi'
        have ha : (⟨b, off, Option.none⟩ : Addr).add i = ⟨b, off + i, Option.none⟩ := by
          by_cases h : i = 0
          · subst h; rfl
          · simp [Addr.add, h]
        rw [ha] at this
        rw [this]
        simp [List.getD_eq_getElem?_getD, hi']

theorem Try.bytesInt : Try.prog.bytesOf 3 = 8 := by kernel_rfl
theorem ints_reach {H : Type} {ts : List TypeId} {ds : List (DataW H)} {j len : Nat} {d : DataW H} (hsz : (DataW.weightsEach Try.prog ts ds).all (· ≤ reachBytes) = true) (ht : ts[j]? = some 24) (hd : ds[j]? = some d)
    (h : len = 0 ∨ ∃ elems spare, d = .slice elems spare ∧ len ≤ elems.length + spare.length) : len * 8 ≤ 140737488351232 := by
  rcases h with h | ⟨elems, spare, rfl, hl⟩
  · omega
  · have := sized_slice hsz ht hd Try.underlying24
    rw [Try.bytesInt] at this
    simp only [reachBytes] at this
    omega
end Go.Proofs.Ytongajonecgdpae
