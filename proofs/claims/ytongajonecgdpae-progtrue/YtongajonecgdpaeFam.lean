/- A region that draws its order and holds calls that make memory: one walk of the text's order, over all worlds in which the old memory lies as it did. -/
import Derived.Test.YtongajonecgdpaeTernE
import Derived.Deep.QuietTactic
import Derived.BigQuiet
namespace Go.Proofs.Ytongajonecgdpae
open Go.RowKit

/-- The worlds in which all that lay in w0 lies as it did. -/
def Fam (w0 : World) : Type := { W : World // Below w0.heap.size w0 W }
def fam {w0 : World} (n : Fam w0) : World := n.1
theorem fam_below {w0 : World} (n : Fam w0) : Below w0.heap.size w0 (fam n) := n.2
theorem fam_cell {w0 : World} {p : Addr} {v : Value} (hp : p.block < w0.heap.size) (h : w0.cell? p = some v) (n : Fam w0) : (fam n).cell? p = some v := (n.2.cell hp).trans h
theorem fam_some (w0 : World) : Nonempty (Fam w0) := ⟨⟨w0, Below.refl _ _⟩⟩

theorem region_fam {P : Program} {id : Nat} {Q : Exit → Act → World → Prop} {a : Act} {w : World} {l : List Oper} (hm : P.follows .mixedOrders = true) (hB : Region.lexB .any l.toArray = true)
    (h : wpQuiet P l.toArray (fun W => ∃ n : Fam w, W = fam n) (fun a' => ∀ W, (∃ n : Fam w, W = fam n) → Q .normal a' W) l a) : (Code.region id l.toArray true).wp P Q a w :=
  wp_region_quiet (C := fun W => ∃ n : Fam w, W = fam n) hm hB ⟨⟨w.drew, (Below.refl _ _).drew⟩, rfl⟩ (by simpa using h)

/-- A contract that says 'Below', met in such a world. -/
theorem calls_fam {P : Program} {f : FuncId} {args : Array Value} {w0 : World} {v : Value} (n : Fam w0) (h : Calls P f args (fam n) fun e w' => e = .returned v ∧ Below (fam n).heap.size (fam n) w') :
    Calls P f args (fam n) fun e w'' => e = .returned v ∧ ∃ m : Fam w0, w'' = fam m :=
  h.mono fun _ w9 ⟨he, hb⟩ => ⟨he, ⟨w9, bstep n.2 hb⟩, rfl⟩
end Go.Proofs.Ytongajonecgdpae
