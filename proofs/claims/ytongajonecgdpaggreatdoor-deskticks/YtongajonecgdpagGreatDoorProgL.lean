/- The laws' play and progBegun. -/
import Derived.Test.YtongajonecgdpagGreatDoorProgP
import Derived.Test.YtongajonecgdpagGreatDoorEvalP
namespace Go.Proofs.YtongajonecgdpagGreatDoor
open Go.RowKit

def nodeVs : List NodeD → List Value
  | [] => []
  | x :: xs => .int .i64 x.kind :: .int .i64 x.sig :: nodeVs xs
theorem nodeVs_at : ∀ (p : List NodeD) (i : Nat) (hi : i < p.length), (nodeVs p)[i * 2]? = some (.int .i64 p[i].kind) ∧ (nodeVs p)[i * 2 + 1]? = some (.int .i64 p[i].sig)
  | [], i, hi => by simp at hi
  | x :: xs, 0, _ => by simp [nodeVs]
  | x :: xs, i + 1, hi => by
    have h := nodeVs_at xs i (by simpa using hi)
    rw [show (i + 1) * 2 = i * 2 + 1 + 1 by omega]
    simpa [nodeVs] using h
theorem Cells.nodes {w : World} {g n : Nat} {p : List NodeD} {T : TypeId} (h : Cells w g (nodeVs p) T) (hn : n = p.length) (hm : n ≤ 14) : Nodes w (some ⟨g, 0, none⟩) n p := by
  refine ⟨hn, by unfold maxLen; omega, Or.inr ⟨g, 0, rfl, h.lt, fun i hi => ?_⟩⟩
  rw [Nat.zero_add, h.cell, h.cell]
  exact nodeVs_at p i hi
theorem Nodes.mid {w : World} {b off n : Nat} {p : List NodeD} (h : Nodes w (some ⟨b, off, Option.none⟩) n p) {k m : Nat} (hk : k + m ≤ n) : Nodes w (some ⟨b, off + k * 2, Option.none⟩) m ((p.drop k).take m) := by
  obtain ⟨h1, h2, h3⟩ := h
  have hlen : ((p.drop k).take m).length = m := by rw [List.length_take, List.length_drop]; omega
  refine ⟨hlen.symm, by omega, ?_⟩
  rcases h3 with h3 | ⟨b', off', ha, hlt, hc⟩
  · exact Or.inl (by rw [h3]; simp)
  · simp at ha
    obtain ⟨rfl, rfl⟩ := ha
    refine Or.inr ⟨b, off + k * 2, rfl, hlt, fun i hi => ?_⟩
    have hi' : k + i < p.length := by omega
    have := hc (k + i) hi'
    rw [List.getElem_take, List.getElem_drop]
    rw [show off + k * 2 + i * 2 = off + (k + i) * 2 by omega]
    exact this
def playD : List NodeD := [⟨5, 0⟩, ⟨6, 0⟩, ⟨5, 0⟩, ⟨4, 0⟩, ⟨3, 0⟩, ⟨5, 0⟩, ⟨1, 0⟩, ⟨3, 1⟩, ⟨5, 0⟩, ⟨1, 0⟩, ⟨8, 0⟩, ⟨3, 2⟩, ⟨2, 0⟩]
def PlayRet (w w' : World) (e : Ending) : Prop := ∃ g, e = .returned (.slice (some ⟨g, 0, none⟩) 13 13) ∧ Cells w' g (nodeVs playD) 93 ∧ w.heap.size ≤ g ∧ Below w.heap.size w w'
set_option maxHeartbeats 1000000 in
theorem play_any (w : World) : Calls Tryz.prog 26 #[] w fun e w' => PlayRet w w' e := by
  have hb := (Below.refl _ w).alloc (Nat.le_refl _) (.cells (nodeVs playD).toArray 93)
  have hc := Cells.new w (nodeVs playD) 93
  go_enter Tryz.func26, Tryz.ntmps26
  go_wp2_with fail
  go_ret
  exact ⟨_, rfl, hc, Nat.le_refl _, hb⟩
end Go.Proofs.YtongajonecgdpagGreatDoor
