/- A map of nodes to what stands ahead of them, between and behind (text.phrases): how it is asked and written. -/
import Derived.Test.YtongajonecgdpagGreatDoorTextR
import Derived.Laws.StructEq
import Derived.WideKeyRuns
import Derived.Maps.OwnSet
namespace Go.Proofs.YtongajonecgdpagGreatDoor
open Go.RowKit

def ndV (x : NodeD) : Value := .agg #[.int .i64 x.kind, .int .i64 x.sig]
def phrV (x : NodeD) : Value := .agg #[.string ⟨(headT x).toArray⟩, .string ⟨(betwT x).toArray⟩, .string ⟨(endT x).toArray⟩]
def noPh : Value := .agg #[.string ⟨#[]⟩, .string ⟨#[]⟩, .string ⟨#[]⟩]
theorem equal_node (x y : NodeD) (w : World) : (Op.equal 93 (ndV x) (ndV y)).run Tryz.prog w = .ok (eqN x y) w := by
  have hS : Tryz.prog.underlying 93 = some (.struct (Tryz.prog.fieldsOf 93)) := by kernel_rfl
  have hp : Tryz.prog.stoodInHeld 93 = false := by kernel_rfl
  have u3 := Tryz.underlying3
  show (Op.equalIn (9999 + 1) 93 (ndV x) (ndV y)).run Tryz.prog w = _
  unfold ndV
  rw [run_equalIn_agg w 9999 93 _ _ hS hp]
  simp only [Program.fieldsOf, Tryz.underlying93]
  unfold eqN
  cases h1 : (x.kind == y.kind)
  · go_simp
  · go_simp
    by_cases h2 : x.sig = y.sig
    · simp [h2]
    · simp [h2]

theorem find_node (x : NodeD) (w : World) : ∀ (es : List MapEntry) (l : List NodeD), es.map (fun e => (e.key, e.val)) = l.map (fun y => (ndV y, phrV y)) → ∀ i, ∃ j, (Instr.findAsking 93 (ndV x) es i).run Tryz.prog w = .ok (if l.any (eqN x) then some (j, phrV x) else none) w
  | [], l, h, i => by
    cases l with
    | nil => exact ⟨0, by simp [Instr.findAsking]⟩
    | cons y l => simp at h
  | e :: es, l, h, i => by
    cases l with
    | nil => simp at h
    | cons y l =>
      simp only [List.map_cons, List.cons.injEq, Prod.mk.injEq] at h
      obtain ⟨⟨hk, hv⟩, h⟩ := h
      have he := equal_node x y w
      cases hb : eqN x y
      · obtain ⟨j, hj⟩ := find_node x w es l h (i + 1)
        rw [hb] at he
        exact ⟨j, by simp [Instr.findAsking, hk, he, hj, hb]⟩
      · rw [hb] at he
        have hxy := eqN_is hb
        subst hxy
        exact ⟨i, by simp [Instr.findAsking, hk, hv, he, hb]⟩
/-- Block m is a map that has just the nodes of l, each with its phrase. -/
def PhrOf (w : World) (m : Nat) (f : NodeD → Bool) : Prop := ∃ (l : List NodeD) (es : Array MapEntry) (clock : Nat), w.heap[m]? = some (.map es clock) ∧ es.toList.map (fun e => (e.key, e.val)) = l.map (fun y => (ndV y, phrV y)) ∧ ∀ y, l.any (eqN y) = f y
theorem PhrOf.lt {w : World} {m : Nat} {f : NodeD → Bool} (h : PhrOf w m f) : m < w.heap.size := by
  obtain ⟨_, _, _, h, _⟩ := h
  exact (Array.getElem?_eq_some_iff.1 h).1
theorem PhrOf.same {w w' : World} {m : Nat} {f : NodeD → Bool} (h : PhrOf w m f) (hk : w'.heap[m]? = w.heap[m]?) : PhrOf w' m f := by
  obtain ⟨l, es, c, h1, h2⟩ := h
  exact ⟨l, es, c, hk.trans h1, h2⟩
theorem PhrOf.eq {w : World} {m : Nat} {f g : NodeD → Bool} (h : PhrOf w m f) (he : ∀ y, f y = g y) : PhrOf w m g := by
  obtain ⟨l, es, c, h1, h2, h3⟩ := h
  exact ⟨l, es, c, h1, h2, fun y => (h3 y).trans (he y)⟩
theorem PhrOf.new (w : World) : PhrOf (w.alloc (.map #[] 0)) w.heap.size (fun _ => false) := ⟨[], #[], 0, heap_alloc_new w _, rfl, fun _ => rfl⟩
theorem check_node (b : Bool) (x : NodeD) (w : World) : (Instr.checkKey b 10000 93 (ndV x)).run Tryz.prog w = .ok () w := by
  kernel_rfl
theorem key_node (x : NodeD) (es : List MapEntry) (w : World) : (Instr.findKey 93 (ndV x) es).run Tryz.prog w = (Instr.findAsking 93 (ndV x) es).run Tryz.prog w := run_findKey_eq (P := Tryz.prog) (w := w) (k := 93) (by rw [Tryz.underlying93]) (ndV x) es
theorem zero_phr (w : World) : (zeroValue 98).run Tryz.prog w = .ok noPh w := by kernel_rfl
theorem look_node {w : World} {m : Nat} {f : NodeD → Bool} (h : PhrOf w m f) (x : NodeD) (co : Bool) :
    (Instr.lookup 63 (.map (some m)) (ndV x) co).run Tryz.prog w = .ok (if co then .tuple #[if f x then phrV x else noPh, .bool (f x)] else if f x then phrV x else noPh) w := by
  obtain ⟨l, es, c, h1, h2, h3⟩ := h
  have u := Tryz.underlying63
  obtain ⟨j, hj⟩ := find_node x w es.toList l h2 0
  rw [h3 x] at hj
  have hfk := (key_node x es.toList w).trans hj
  have hg : (getObj m).run Tryz.prog w = .ok (.map es c) w := MapKept.run_getObj_map h1
  have hck := check_node es.isEmpty x w
  cases hb : f x
  · rw [hb] at hfk
    simp only [Instr.lookup, Sem.run_bind, run_underlying u, Result.andThen_ok, hg, Sem.run_pure, hck, hfk, Bool.false_eq_true, if_false, zero_phr]
  · rw [hb] at hfk
    simp only [Instr.lookup, Sem.run_bind, run_underlying u, Result.andThen_ok, hg, Sem.run_pure, hck, hfk, if_true]
theorem put_node {w : World} {m : Nat} {f : NodeD → Bool} (h : PhrOf w m f) (x : NodeD) (hx : f x = false) :
    ∃ w', (Instr.mapUpdate 63 (.map (some m)) (ndV x) (phrV x)).run Tryz.prog w = .ok () w' ∧ PhrOf w' m (fun y => f y || eqN y x) ∧ w.grownBy w' (some m) := by
  obtain ⟨l, es, c, h1, h2, h3⟩ := h
  have u := Tryz.underlying63
  have hm := (Array.getElem?_eq_some_iff.1 h1).1
  obtain ⟨j, hj⟩ := find_node x w es.toList l h2 0
  rw [h3 x, hx] at hj
  have hfk := (key_node x es.toList w).trans hj
  have hg : (getObj m).run Tryz.prog w = .ok (.map es c) w := MapKept.run_getObj_map h1
  have hck := check_node false x w
  refine ⟨{ w with heap := w.heap.setIfInBounds m (.map (es.push { key := ndV x, val := phrV x, born := c }) (c + 1)) }, ?_, ?_, ?_⟩
  · simp only [Instr.mapUpdate, Sem.run_bind, run_underlying u, Result.andThen_ok, hg, hck, hfk, Bool.false_eq_true, if_false, MapKept.run_setObj_map _ h1]
  · refine ⟨l ++ [x], es.push { key := ndV x, val := phrV x, born := c }, c + 1, by simp [hm], by simp [h2], fun y => by simp [List.any_append, h3 y]⟩
  · exact ⟨rfl, rfl, rfl, by simp, fun k hk hne => by simp; rw [Array.getElem?_setIfInBounds_ne]; exact fun e => hne (by rw [e])⟩
end Go.Proofs.YtongajonecgdpagGreatDoor
