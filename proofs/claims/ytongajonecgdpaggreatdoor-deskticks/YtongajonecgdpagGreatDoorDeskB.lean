/- The desk, the document's side: PlayOf. -/
import Derived.Test.YtongajonecgdpagGreatDoorDeskA
import Derived.Test.YtongajonecgdpagGreatDoorTextG
import Derived.Test.YtongajonecgdpagGreatDoorWalkF
import Derived.Test.YtongajonecgdpagGreatDoorPlayB
import Derived.Deep.LoopGhost
namespace Go.Proofs.YtongajonecgdpagGreatDoor
open Go.RowKit

/-- So much is put out, so much of the script is read, so much of a line. -/
def OfF (p : List NodeD) (s t whole : List UInt8) (i fr : Nat) (out : List UInt8) (r : RestD) : Prop := restE p r = 0 ∧ out ++ runD p s (t.drop i) ((t.take i).drop fr) r = whole
theorem OfF.skip {p : List NodeD} {s t whole : List UInt8} {i fr : Nat} {out : List UInt8} {r : RestD} (h : OfF p s t whole i fr out r) (hi : i < t.length) (hf : fr ≤ i) (hc : t[i] ≠ 10) : OfF p s t whole (i + 1) fr out r := by
  refine ⟨h.1, ?_⟩
  rw [← h.2, List.drop_eq_getElem_cons hi]
  conv => rhs; unfold runD
  rw [if_neg hc, List.take_succ_eq_append_getElem hi, List.drop_append_of_le_length (by simp; omega)]
theorem OfF.line {p : List NodeD} {s t whole : List UInt8} {i fr : Nat} {out : List UInt8} {r : RestD} (h : OfF p s t whole i fr out r) (h0 : checkP p = 0) (hi : i < t.length) (hc : t[i] = 10) : OfF p s t whole (i + 1) (i + 1) ((out ++ giveT p s r ((t.take i).drop fr)) ++ [10]) (giveR p r ((t.take i).drop fr)) := by
  refine ⟨give_ok h0 h.1 _, ?_⟩
  rw [← h.2, List.drop_eq_getElem_cons hi]
  conv => rhs; unfold runD
  rw [if_pos hc, List.drop_of_length_le (i := i + 1) (l := t.take (i + 1)) (by simp; omega)]
  simp
theorem OfF.done {p : List NodeD} {s t whole : List UInt8} {i fr : Nat} {out : List UInt8} {r : RestD} (h : OfF p s t whole i fr out r) (hi : t.length ≤ i) : out = whole := by
  have h2 := h.2
  have e : t.drop i = [] := List.drop_of_length_le hi
  rw [e, show runD p s [] ((t.take i).drop fr) r = [] from rfl, List.append_nil] at h2
  exact h2
theorem OfF.len {p : List NodeD} {s t whole : List UInt8} {i fr : Nat} {out : List UInt8} {r : RestD} (h : OfF p s t whole i fr out r) : out.length ≤ whole.length := by
  rw [← h.2]; simp
theorem give_show {p : List NodeD} {s : List UInt8} {r : RestD} {l : List UInt8} (h : l = [115, 104, 111, 119]) : giveT p s r l = s ∧ giveR p r l = r := by subst h; exact ⟨rfl, rfl⟩
theorem give_again {p : List NodeD} {s : List UInt8} {r : RestD} {l : List UInt8} (h : l = [97, 103, 97, 105, 110]) : giveT p s r l = dOk ∧ giveR p r l = beginR p := by subst h; exact ⟨rfl, rfl⟩
theorem give_rest {p : List NodeD} {s : List UInt8} {r : RestD} {l : List UInt8} (h : l = [114, 101, 115, 116]) : giveT p s r l = joinW (waitTo r.waits p.length) ∧ giveR p r l = r := by subst h; exact ⟨rfl, rfl⟩
theorem give_tick {p : List NodeD} {s : List UInt8} {r : RestD} {l : List UInt8} {x : Nat} (h1 : l ≠ [115, 104, 111, 119]) (h2 : l ≠ [97, 103, 97, 105, 110]) (h3 : l ≠ [114, 101, 115, 116]) (h : insOf l = some x) : giveT p s r l = joinW (tickW p r x) ∧ giveR p r l = walkR p r (x : Int) := by
  unfold giveT giveR
  rw [if_neg (show ¬ l = dRest from h3), if_neg (show ¬ l = dShow from h1), if_neg (show ¬ l = dAgain from h2), h, if_neg (show ¬ l = dRest from h3), if_neg (show ¬ l = dShow from h1), if_neg (show ¬ l = dAgain from h2)]
  exact ⟨rfl, rfl⟩
theorem give_err {p : List NodeD} {s : List UInt8} {r : RestD} {l : List UInt8} (h1 : l ≠ [115, 104, 111, 119]) (h2 : l ≠ [97, 103, 97, 105, 110]) (h3 : l ≠ [114, 101, 115, 116]) (h : insOf l = none) : giveT p s r l = dErr ∧ giveR p r l = r := by
  unfold giveT giveR
  rw [if_neg (show ¬ l = dRest from h3), if_neg (show ¬ l = dShow from h1), if_neg (show ¬ l = dAgain from h2), h, if_neg (show ¬ l = dRest from h3), if_neg (show ¬ l = dShow from h1), if_neg (show ¬ l = dAgain from h2)]
  exact ⟨rfl, rfl⟩
/-- A rest in its box; no row of it lies in the box. -/
def PlB (V : World) (bx : Nat) (r : RestD) : Prop := ∃ f wa wn wc oa on oc, Cells V bx [.bool f, .slice wa wn wc, .slice oa on oc] 35 ∧ f = r.fresh ∧ BoolsOff V bx none wa wn r.waits ∧ BoolsOff V bx none oa on r.outs
theorem PlB.on {V V' : World} {bx : Nat} {r : RestD} (h : PlB V bx r) (hb : Below V.heap.size V V') : PlB V' bx r := by
  obtain ⟨f, wa, wn, wc, oa, on, oc, h1, h2, h3, h4⟩ := h
  exact ⟨f, wa, wn, wc, oa, on, oc, h1.onF hb, h2, h3.below hb, h4.below hb⟩
theorem below_put {B : Nat} {w0 W : World} {bx : Nat} (h : Below B w0 W) (hB : B ≤ bx) (v0 v1 v2 : Value) : Below B w0 (((W.setCell ⟨bx, 0, none⟩ v0).setCell ⟨bx, 1, none⟩ v1).setCell ⟨bx, 2, none⟩ v2) :=
  ((h.setCell (p := ⟨bx, 0, none⟩) hB v0).setCell (p := ⟨bx, 1, none⟩) hB v1).setCell (p := ⟨bx, 2, none⟩) hB v2
theorem three_app (a b c : List UInt8) : (⟨a.toArray⟩ : ByteArray) ++ ⟨b.toArray⟩ ++ ⟨c.toArray⟩ = ⟨((a ++ b) ++ c).toArray⟩ := by rw [str_app, str_app]
theorem wait_yes {ws : List Bool} {k : Nat} (h : k < ws.length) (hb : ws[k] = true) : waitTo ws (k + 1) = waitTo ws k ++ [Lib.decDigits k] := by
  show waitTo ws k ++ _ = _
  rw [List.getD_eq_getElem?_getD, List.getElem?_eq_getElem h]
  simp [hb]
theorem wait_no {ws : List Bool} {k : Nat} (h : k < ws.length) (hb : ws[k] = false) : waitTo ws (k + 1) = waitTo ws k := by
  show waitTo ws k ++ _ = _
  rw [List.getD_eq_getElem?_getD, List.getElem?_eq_getElem h]
  simp [hb]
theorem put_yes {ws : List Bool} {k : Nat} (h : k < ws.length) (hb : ws[k] = true) : putTo ws (k + 1) = putTo ws k ++ [letter 65 k] := by
  show putTo ws k ++ _ = _
  rw [List.getD_eq_getElem?_getD, List.getElem?_eq_getElem h]
  simp [hb]
theorem put_no {ws : List Bool} {k : Nat} (h : k < ws.length) (hb : ws[k] = false) : putTo ws (k + 1) = putTo ws k := by
  show putTo ws k ++ _ = _
  rw [List.getD_eq_getElem?_getD, List.getElem?_eq_getElem h]
  simp [hb]
end Go.Proofs.YtongajonecgdpagGreatDoor
