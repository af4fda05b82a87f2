/- What a text says (plain): the document's nodeFrom and two, with fuel. -/
import Derived.Test.YtongajonecgdpagGreatDoorTextB
namespace Go.Proofs.YtongajonecgdpagGreatDoor
open Go.RowKit

/-- A letter of three, from a first one on. -/
def letF (first : Nat) (r : List UInt8) : Option (Nat × List UInt8) :=
  match r with
  | [] => none
  | c :: cs => if first ≤ c.toNat ∧ c.toNat ≤ first + 2 then some (c.toNat - first, cs) else none
/-- Two parts, with words ahead, between and behind; f: how a part is read. -/
def twoF (f : List UInt8 → Int → Option (List NodeD × List UInt8)) (x : NodeD) (s ahead between behind : List UInt8) (left : Int) : Option (List NodeD × List UInt8) :=
  if (afterL s ahead).2 then
    (match f (afterL s ahead).1 (left - 2) with
    | none => none
    | some (one, r1) =>
      if (afterL r1 between).2 then
        (match f (afterL r1 between).1 (left - 1 - (one.length : Int)) with
        | none => none
        | some (other, r2) => if (afterL r2 behind).2 then some ([x] ++ one ++ other, (afterL r2 behind).1) else none)
      else none)
  else none
def fromF : Nat → List UInt8 → Int → Option (List NodeD × List UInt8)
  | 0, _, _ => none
  | m + 1, s, left =>
    if left ≤ 0 then none
    else if (afterL s tNothing).2 then some ([⟨0, 0⟩], (afterL s tNothing).1)
    else if (afterL s tPause).2 then some ([⟨1, 0⟩], (afterL s tPause).1)
    else if (afterL s tHalt).2 then some ([⟨2, 0⟩], (afterL s tHalt).1)
    else if (afterL s tEmit).2 then (letF 65 (afterL s tEmit).1).map (fun q => ([⟨3, (q.1 : Int)⟩], q.2))
    else if (afterL s tAwait).2 then (letF 120 (afterL s tAwait).1).map (fun q => ([⟨4, (q.1 : Int)⟩], q.2))
    else if (afterL s tIf).2 then (letF 120 (afterL s tIf).1).bind (fun q => twoF (fromF m) ⟨7, (q.1 : Int)⟩ q.2 tThen tElse tEnd left)
    else if (afterL s tWas).2 then (letF 65 (afterL s tWas).1).bind (fun q => twoF (fromF m) ⟨8, (q.1 : Int)⟩ q.2 tThen tElse tEnd left)
    else if (afterL s [40]).2 then ((twoF (fromF m) ⟨5, 0⟩ (afterL s [40]).1 [] [59, 32] [41] left).orElse fun _ => twoF (fromF m) ⟨6, 0⟩ (afterL s [40]).1 [] [32, 124, 32] [41] left)
    else none
/-- ProgFrom. -/
def progF (s : List UInt8) : Option (List NodeD) :=
  match fromF 15 s 14 with
  | none => none
  | some (p, r) => if r = [] ∧ checkP p = 0 ∧ textL p p.length 0 = s then some p else none
end Go.Proofs.YtongajonecgdpagGreatDoor
