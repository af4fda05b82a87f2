/- Rows of values (plain): what is picked, bits; a slice that lies in memory made since. -/
import Derived.Test.YtongajonecgdpaeEvalS
namespace Go.Proofs.Ytongajonecgdpae
open Go.RowKit

def intsV (l : List Int) : List Value := l.map (fun x => Value.int .i64 x)
theorem intsV_succ (l : List Int) (k : Nat) (h : k < l.length) : intsV (l.take (k + 1)) = intsV (l.take k) ++ [.int .i64 l[k]] := by
  unfold intsV
  rw [List.take_succ_eq_append_getElem h, List.map_append]
  rfl

/-- A slice that lies in memory made since. -/
def Fresh (base : Nat) (a : Option Addr) (n : Nat) : Prop := n = 0 ∨ ∃ b off, a = some ⟨b, off, none⟩ ∧ base ≤ b
theorem own_fresh {w : World} {base : Nat} {e : TypeId} {a : Option Addr} {n k c : Nat} {xs : List Value} (h : w.ownsRow base e 1 (.slice a n c) k xs) : Fresh base a n := by
  rcases h.2 with ⟨h1, h2⟩ | ⟨g, cap, cur, hv, hg, hh, r⟩
  · injection h1 with _ h3 _; exact Or.inl h3
  · injection hv with h3 _ _; exact Or.inr ⟨g, 0, h3, hg⟩

def pickV (v l : List Int) : List Int := l.map (fun x => v.getD x.toNat 0)
def nextsV (d : NetD) : List Int := d.regs.map (·.2)
def bitsV (x : Int) (n : Nat) : List Int := (List.range n).map (fun k => x / 2 ^ k % 2)
theorem pickV_len (v l : List Int) : (pickV v l).length = l.length := by simp [pickV]
theorem bitsV_len (x : Int) (n : Nat) : (bitsV x n).length = n := by simp [bitsV]
theorem nextsV_len (d : NetD) : (nextsV d).length = d.regs.length := by simp [nextsV]
end Go.Proofs.Ytongajonecgdpae
