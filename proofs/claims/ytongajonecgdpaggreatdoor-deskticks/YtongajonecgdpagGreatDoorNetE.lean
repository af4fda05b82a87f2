/- The document's answer of net.Check (linchpinref.CheckNet): the same as the program's, for every net that is read. -/
import Derived.Test.YtongajonecgdpagGreatDoorNetA
namespace Go.Proofs.YtongajonecgdpagGreatDoor
open Go.RowKit

theorem Gates.at' {w : World} {a : Option Addr} {n : Nat} {gs : List GateD} (h : Gates w a n gs) {k : Nat} (hk : k < gs.length) :
    ∃ b off aa an ac, a = some ⟨b, off, Option.none⟩ ∧ b < w.heap.size ∧ w.cell? ⟨b, off + k * 3, Option.none⟩ = some (.int .i64 gs[k].kind) ∧ w.cell? ⟨b, off + k * 3 + 1, Option.none⟩ = some (.int .i64 gs[k].n) ∧
      w.cell? ⟨b, off + k * 3 + 2, Option.none⟩ = some (.slice aa an ac) ∧ Ints w aa an gs[k].args := by
  obtain ⟨b, off, aa, ac, h1, h2, h3, h4, h5, h6⟩ := h.at hk
  exact ⟨b, off, aa, _, ac, h1, h2, h3, h4, h5, h6⟩

end Go.Proofs.YtongajonecgdpagGreatDoor
