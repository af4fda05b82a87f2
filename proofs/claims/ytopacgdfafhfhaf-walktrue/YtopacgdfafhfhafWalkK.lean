/- What a stage keeps: the words for it. -/
import Derived.Test.YtopacgdfafhfhafWalkA
import Derived.Deep.DeepCutAuto
import Derived.Deep.CutBlock
namespace Go.Proofs.Ytopacgdfafhfhaf
open Go.RowKit

/-- All but the blocks G lies as it did, and nothing else has changed. -/
def KeptS (G : List Nat) (w w' : World) : Prop := KeptG G w w' ∧ w'.os = w.os ∧ w'.tape = w.tape ∧ w'.output = w.output
theorem KeptS.of {G : List Nat} {w w' : World} (h : Below w.heap.size w w') : KeptS G w w' := ⟨KeptG.of h, h.os, h.tape, h.output⟩
theorem KeptS.trans {G : List Nat} {w w' w'' : World} (h : KeptS G w w') (h' : KeptS G w' w'') : KeptS G w w'' := ⟨h.1.trans h'.1, h'.2.1.trans h.2.1, h'.2.2.1.trans h.2.2.1, h'.2.2.2.trans h.2.2.2⟩
theorem KeptS.set {G : List Nat} {w : World} {g k : Nat} (v : Value) (hg : g ∈ G) : KeptS G w (w.setCell ⟨g, k, none⟩ v) := by
  have h := (Below.refl 0 w).setCell (p := ⟨g, k, none⟩) (Nat.zero_le _) v
  exact ⟨KeptG.set v hg, h.os, h.tape, h.output⟩
theorem KeptS.below {G : List Nat} {w w' : World} {B : Nat} (h : KeptS G w w') (hB : ∀ g ∈ G, B ≤ g) (hs : B ≤ w.heap.size) : Below B w w' := ⟨h.2.1, h.2.2.1, h.2.2.2, h.1.1, fun k hk => h.1.2 k (by omega) (fun hm => by have := hB k hm; omega)⟩
def NextAt (gW gO : Nat) (w w' : World) (t : NextD × Bool) (e : Ending) : Prop := e = .returned (.bool t.2) ∧ BoolRow w' gW t.1.1 ∧ BoolRow w' gO t.1.2 ∧ KeptS [gW, gO] w w'
theorem BoolRow.on {w w' : World} {g : Nat} {ys : List Bool} (h : BoolRow w g ys) (hb : Below w.heap.size w w') : BoolRow w' g ys := (hb.block g h.lt).trans h
theorem BoolRow.far {w : World} {g g' k : Nat} {v : Value} {ys : List Bool} (h : BoolRow w g ys) (hne : g ≠ g') : BoolRow (w.setCell ⟨g', k, none⟩ v) g ys := (set_other hne).trans h
theorem pair2 (w : World) (u v : Value) (T : TypeId) : (w.alloc (.cells #[u, v] T)).cell? ⟨w.heap.size, 0, none⟩ = some u ∧ (w.alloc (.cells #[u, v] T)).cell? ⟨w.heap.size, 1, none⟩ = some v ∧ w.heap.size < (w.alloc (.cells #[u, v] T)).heap.size := ⟨by simp, by simp, by simp⟩
theorem nine {x : Int} (h : 0 ≤ x ∧ x ≤ 8) : x = 0 ∨ x = 1 ∨ x = 2 ∨ x = 3 ∨ x = 4 ∨ x = 5 ∨ x = 6 ∨ x = 7 ∨ x = 8 := by omega
theorem kindAt_of {p : List NodeD} {k : Nat} (hk : k < p.length) : kindAt p k = p[k].kind := by simp [kindAt, List.getD_eq_getElem?_getD, hk]
theorem sigAt_of {p : List NodeD} {k x : Nat} (hk : k < p.length) (h : p[k].sig = (x : Int)) : sigAt p k = x := by simp [sigAt, List.getD_eq_getElem?_getD, hk, h]

theorem next_of {gW gO : Nat} {w w' : World} {t t' : NextD × Bool} {e : Ending} (h : t = t') (hn : NextAt gW gO w w' t' e) : NextAt gW gO w w' t e := by rw [h]; exact hn
theorem begin_seq {p : List NodeD} {wo : List Bool} {ins : List Int} {m k : Nat} {s : NextD} (h : kindAt p k = 5) : beginF p wo ins (m + 1) k s = (if (beginF p wo ins m (k + 1) s).2 then beginF p wo ins m (endP p (k + 1)) (beginF p wo ins m (k + 1) s).1 else ((beginF p wo ins m (k + 1) s).1, false)) := by
  conv => lhs; unfold beginF
  rw [h]; rfl
theorem begin_par {p : List NodeD} {wo : List Bool} {ins : List Int} {m k : Nat} {s : NextD} (h : kindAt p k = 6) : beginF p wo ins (m + 1) k s = ((beginF p wo ins m (endP p (k + 1)) (beginF p wo ins m (k + 1) s).1).1, (beginF p wo ins m (k + 1) s).2 && (beginF p wo ins m (endP p (k + 1)) (beginF p wo ins m (k + 1) s).1).2) := by
  conv => lhs; unfold beginF
  rw [h]; rfl
theorem begin_ask {p : List NodeD} {wo : List Bool} {ins : List Int} {m k : Nat} {s : NextD} (h : kindAt p k = 7 ∨ kindAt p k = 8) : beginF p wo ins (m + 1) k s = (if askB p wo ins k then beginF p wo ins m (k + 1) s else beginF p wo ins m (endP p (k + 1)) s) := by
  conv => lhs; unfold beginF
  rcases h with h | h <;> (rw [h]; rfl)
end Go.Proofs.Ytopacgdfafhfhaf
