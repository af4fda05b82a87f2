/- What is settled, without the program: a gate's value of others, rounds, and the least that solves. -/
import Derived.Test.YtongajonecgdpagGreatDoorNetA
import Derived.Test.YtongajonecgdpagGreatDoorNetO
import Derived.Deep.LoopGhost
import Derived.Test.YtongajonecgdpagGreatDoorTernA
namespace Go.Proofs.YtongajonecgdpagGreatDoor
open Go.RowKit

/-- A gate's value, of what others have. -/
def worthV (g : GateD) (regs ins v : List Int) : Int :=
  if g.kind = 1 then 1 else if g.kind = 2 then ins.getD g.n.toNat 2 else if g.kind = 3 then regs.getD g.n.toNat 2
  else if g.kind = 4 then tellV 0 1 (g.args.map (fun x => v.getD x.toNat 2)) else if g.kind = 5 then tellV 1 0 (g.args.map (fun x => v.getD x.toNat 2))
  else if g.kind = 6 then not1 ((g.args.map (fun x => v.getD x.toNat 2)).getD 0 2) else 0

/-- All gates at once. -/
def roundV (d : NetD) (regs ins v : List Int) : List Int := d.gates.map (fun g => worthV g regs ins v)
theorem roundV_len (d : NetD) (regs ins v : List Int) : (roundV d regs ins v).length = d.gates.length := by simp [roundV]
theorem roundV_at (d : NetD) (regs ins v : List Int) (k : Nat) (hk : k < d.gates.length) : (roundV d regs ins v).getD k 2 = worthV d.gates[k] regs ins v := by
  simp [roundV, List.getD_eq_getElem?_getD, hk]

/-- Less is said. -/
def Le (xs ys : List Int) : Prop := ∀ k, xs.getD k 2 = 2 ∨ xs.getD k 2 = ys.getD k 2
theorem Le.refl (xs : List Int) : Le xs xs := fun _ => Or.inr rfl
theorem Le.trans {xs ys zs : List Int} (h : Le xs ys) (h' : Le ys zs) : Le xs zs := by
  intro k
  rcases h k with h1 | h1
  · exact Or.inl h1
  · rcases h' k with h2 | h2
    · exact Or.inl (h1.trans h2)
    · exact Or.inr (h1.trans h2)
theorem Le.antisymm {xs ys : List Int} (hl : xs.length = ys.length) (h : Le xs ys) (h' : Le ys xs) : xs = ys := by
  apply List.ext_getElem hl
  intro i hi hi'
  have h1 := h i
  have h2 := h' i
  simp only [List.getD_eq_getElem?_getD, List.getElem?_eq_getElem hi, List.getElem?_eq_getElem hi', Option.getD_some] at h1 h2
  omega

theorem tell_le (d o : Int) (hd : d ≠ 2) (l : List Int) (v u : List Int) (h : Le v u) : tellV d o (l.map (fun x => v.getD x.toNat 2)) = 2 ∨ tellV d o (l.map (fun x => v.getD x.toNat 2)) = tellV d o (l.map (fun x => u.getD x.toNat 2)) := by
  apply tell_leq d o hd
  · simp
  · simp only [leqV, leqTo, List.all_eq_true, List.mem_range, Bool.or_eq_true, beq_iff_eq]
    intro i hi
    have hi' : i < l.length := by simpa using hi
    have := h l[i].toNat
    simp only [List.getD_eq_getElem?_getD, List.getElem?_map, List.getElem?_eq_getElem hi', Option.map_some, Option.getD_some] at this ⊢
    exact this

theorem not_le {x y : Int} (h : x = 2 ∨ x = y) : not1 x = 2 ∨ not1 x = not1 y := by
  rcases h with h | h
  · left; simp [not1, h]
  · right; rw [h]

theorem worthV_le (g : GateD) {r r' i i' v u : List Int} (hr : Le r r') (hi : Le i i') (h : Le v u) : worthV g r i v = 2 ∨ worthV g r i v = worthV g r' i' u := by
  unfold worthV
  split
  · exact Or.inr rfl
  · split
    · exact hi _
    · split
      · exact hr _
      · split
        · exact tell_le 0 1 (by decide) _ _ _ h
        · split
          · exact tell_le 1 0 (by decide) _ _ _ h
          · split
            · apply not_le
              cases g.args with
              | nil => simp
              | cons x l => simpa using h x.toNat
            · exact Or.inr rfl

theorem roundV_le (d : NetD) {r r' i i' v u : List Int} (hr : Le r r') (hi : Le i i') (h : Le v u) : Le (roundV d r i v) (roundV d r' i' u) := by
  intro k
  by_cases hk : k < d.gates.length
  · rw [roundV_at d r i v k hk, roundV_at d r' i' u k hk]; exact worthV_le _ hr hi h
  · left; rw [List.getD_eq_getElem?_getD, List.getElem?_eq_none (by rw [roundV_len]; omega)]; rfl

/-- It solves, and says no more than whatever solves. -/
structure Least (d : NetD) (regs ins v : List Int) : Prop where
  len : v.length = d.gates.length
  fix : roundV d regs ins v = v
  least : ∀ u, u.length = d.gates.length → roundV d regs ins u = u → Le v u

theorem Least.same {d : NetD} {regs ins v u : List Int} (h : Least d regs ins v) (h' : Least d regs ins u) : v = u :=
  Le.antisymm (by rw [h.len, h'.len]) (h.least u h'.len h'.fix) (h'.least v h.len h.fix)

/-- On the way to it, by whichever steps. -/
structure Way (d : NetD) (regs ins v : List Int) : Prop where
  len : v.length = d.gates.length
  up : Le v (roundV d regs ins v)
  under : ∀ u, u.length = d.gates.length → roundV d regs ins u = u → Le v u

theorem Way.start (d : NetD) (regs ins : List Int) : Way d regs ins (List.replicate d.gates.length 2) := by
  have h : ∀ k, (List.replicate d.gates.length (2 : Int)).getD k 2 = 2 := by
    intro k
    simp only [List.getD_eq_getElem?_getD, List.getElem?_replicate]
    split <;> rfl
  exact ⟨by simp, fun k => Or.inl (h k), fun u _ _ k => Or.inl (h k)⟩
theorem Way.round {d : NetD} {regs ins v : List Int} (h : Way d regs ins v) : Way d regs ins (roundV d regs ins v) :=
  ⟨roundV_len _ _ _ _, roundV_le d (Le.refl _) (Le.refl _) h.up, fun u hu hf => by
    have := roundV_le d (Le.refl regs) (Le.refl ins) (h.under u hu hf)
    rw [hf] at this; exact this⟩
theorem Way.least {d : NetD} {regs ins v : List Int} (h : Way d regs ins v) (hf : roundV d regs ins v = v) : Least d regs ins v := ⟨h.len, hf, h.under⟩

/-- One gate takes its value, the others stay. -/
theorem Way.set {d : NetD} {regs ins v : List Int} (h : Way d regs ins v) (k : Nat) (hk : k < d.gates.length) : Way d regs ins (v.set k (worthV d.gates[k] regs ins v)) := by
  have hv : k < v.length := by rw [h.len]; exact hk
  have hget : ∀ j, (v.set k (worthV d.gates[k] regs ins v)).getD j 2 = if j = k then worthV d.gates[k] regs ins v else v.getD j 2 := by
    intro j
    simp only [List.getD_eq_getElem?_getD, List.getElem?_set]
    by_cases e : k = j
    · subst e; simp [hv]
    · rw [if_neg e, if_neg (Ne.symm e)]
  have hle : Le v (v.set k (worthV d.gates[k] regs ins v)) := by
    intro j
    rw [hget]
    by_cases e : j = k
    · rw [if_pos e]
      have := h.up k
      rw [roundV_at d regs ins v k hk] at this
      rw [e]; exact this
    · rw [if_neg e]; exact Or.inr rfl
  have hmid : Le (v.set k (worthV d.gates[k] regs ins v)) (roundV d regs ins v) := by
    intro j
    rw [hget]
    by_cases e : j = k
    · rw [if_pos e, e, roundV_at d regs ins v k hk]; exact Or.inr rfl
    · rw [if_neg e]; exact h.up j
  refine ⟨by rw [List.length_set]; exact h.len, hmid.trans (roundV_le d (Le.refl _) (Le.refl _) hle), fun u hu hf => ?_⟩
  have := roundV_le d (Le.refl regs) (Le.refl ins) (h.under u hu hf)
  rw [hf] at this
  exact hmid.trans this

/-- How many are open. -/
def opens (v : List Int) : Nat := (v.filter (fun x => x == 2)).length
theorem opens_le_length (v : List Int) : opens v ≤ v.length := List.length_filter_le _ _
theorem opens_le {xs ys : List Int} (hl : ys.length = xs.length) (h : Le xs ys) : opens ys ≤ opens xs := by
  induction xs generalizing ys with
  | nil => have : ys = [] := List.eq_nil_of_length_eq_zero (by simpa using hl); subst this; exact Nat.le_refl _
  | cons x xs ih =>
    cases ys with
    | nil => simp at hl
    | cons y ys =>
      have h0 := h 0
      have hr := ih (ys := ys) (by simpa using hl) (fun k => by have := h (k + 1); simpa using this)
      simp only [List.getD_cons_zero] at h0
      unfold opens at hr ⊢
      simp only [List.filter_cons]
      cases hx : (x == 2) <;> cases hy : (y == 2) <;> simp_all <;> omega
/-- If as many are open, it is the same. -/
theorem opens_same {xs ys : List Int} (hl : ys.length = xs.length) (h : Le xs ys) (he : opens xs ≤ opens ys) : ys = xs := by
  induction xs generalizing ys with
  | nil => exact List.eq_nil_of_length_eq_zero (by simpa using hl)
  | cons x xs ih =>
    cases ys with
    | nil => simp at hl
    | cons y ys =>
      have h0 := h 0
      have ht : Le xs ys := fun k => by have := h (k + 1); simpa using this
      have hle := opens_le (xs := xs) (ys := ys) (by simpa using hl) ht
      simp only [List.getD_cons_zero] at h0
      have hb : y = x ∧ opens xs ≤ opens ys := by
        unfold opens at he hle ⊢
        simp only [List.filter_cons] at he
        cases hx : (x == 2) <;> cases hy : (y == 2) <;> simp_all <;> omega
      rw [hb.1, ih (by simpa using hl) ht hb.2]
theorem Way.fewer {d : NetD} {regs ins v : List Int} (h : Way d regs ins v) (hne : roundV d regs ins v ≠ v) : opens (roundV d regs ins v) < opens v := by
  rcases Nat.lt_or_ge (opens (roundV d regs ins v)) (opens v) with h1 | h1
  · exact h1
  · exact absurd (opens_same (by rw [roundV_len, h.len]) h.up h1) hne

/-- What is told of values is a value. -/
theorem getD_val {v : List Int} (h : vals v = true) (k : Nat) : v.getD k 2 = 0 ∨ v.getD k 2 = 1 ∨ v.getD k 2 = 2 := by
  rw [List.getD_eq_getElem?_getD]
  cases e : v[k]? with
  | none => simp
  | some x => simpa using (vals_true v).1 h x (List.mem_of_getElem? e)
theorem not1_val {x : Int} (h : x = 0 ∨ x = 1 ∨ x = 2) : not1 x = 0 ∨ not1 x = 1 ∨ not1 x = 2 := by
  unfold not1; split <;> omega
theorem worthV_val (g : GateD) {regs ins v : List Int} (hr : vals regs = true) (hi : vals ins = true) (hv : vals v = true) : worthV g regs ins v = 0 ∨ worthV g regs ins v = 1 ∨ worthV g regs ins v = 2 := by
  unfold worthV
  split
  · simp
  · split
    · exact getD_val hi _
    · split
      · exact getD_val hr _
      · split
        · exact tellV_val (by simp) (by simp) _
        · split
          · exact tellV_val (by simp) (by simp) _
          · split
            · apply not1_val
              cases g.args with
              | nil => simp
              | cons x l => simpa using getD_val hv x.toNat
            · simp
theorem roundV_vals (d : NetD) {regs ins v : List Int} (hr : vals regs = true) (hi : vals ins = true) (hv : vals v = true) : vals (roundV d regs ins v) = true := by
  rw [vals_true]
  intro x hx
  obtain ⟨g, _, rfl⟩ := List.mem_map.1 hx
  exact worthV_val g hr hi hv
theorem vals_open (n : Nat) : vals (List.replicate n 2) = true := by
  rw [vals_true]; intro x hx; have := List.eq_of_mem_replicate hx; omega

/-- With less open handed in no more is open. -/
theorem Least.more {d : NetD} {r r' i i' v u : List Int} (hr : Le r r') (hi : Le i i') (h : Least d r i v) (h' : Least d r' i' u) : Le v u := by
  -- the rounds of the first, from all open on, stay under u
  have key : ∀ n : Nat, ∀ x : List Int, Way d r i x → Le x u → opens x ≤ n → Le v u := by
    intro n
    induction n with
    | zero =>
      intro x hx hu ho
      have hf : roundV d r i x = x := by
        rcases Decidable.em (roundV d r i x = x) with e | e
        · exact e
        · have := hx.fewer e; omega
      rw [h.same (hx.least hf)]; exact hu
    | succ n ih =>
      intro x hx hu ho
      rcases Decidable.em (roundV d r i x = x) with e | e
      · rw [h.same (hx.least e)]; exact hu
      · refine ih _ hx.round ?_ (by have := hx.fewer e; omega)
        have := roundV_le d hr hi hu
        rw [h'.fix] at this; exact this
  refine key _ _ (Way.start d r i) ?_ (Nat.le_refl _)
  intro k
  left
  simp only [List.getD_eq_getElem?_getD, List.getElem?_replicate]
  split <;> rfl

/-- A gate that may be, among so many registers, inputs and gates. -/
structure Right (g : GateD) (rn inn gn : Nat) : Prop where
  kind : 0 ≤ g.kind ∧ g.kind ≤ 6
  inp : g.kind = 2 → 0 ≤ g.n ∧ g.n.toNat < inn
  reg : g.kind = 3 → 0 ≤ g.n ∧ g.n.toNat < rn
  one : g.kind = 6 → g.args.length = 1
  few : g.args.length ≤ 16
  args : ∀ x ∈ g.args, 0 ≤ x ∧ x.toNat < gn

theorem right_of {d : NetD} (h : checkE d = 0) (k : Nat) (hk : k < d.gates.length) : Right d.gates[k] d.regs.length d.ins.toNat d.gates.length := by
  obtain ⟨h1, h2, h3, h4⟩ := check_ok h
  have hins : 0 ≤ d.ins := by
    simp only [numbersB, Bool.and_eq_true, decide_eq_true_iff] at h2
    exact h2.1.1.1
  have hk3 : 0 ≤ d.gates[k].kind ∧ d.gates[k].kind ≤ 6 := by
    unfold kindsB kindsTo at h3
    rw [List.take_length, List.all_eq_true] at h3
    simpa [kindB] using h3 _ (List.getElem_mem hk)
  have hf : numB d.ins d.regs.length d.gates[k] = true ∧ argB d.gates[k] = true := by
    unfold formsB formsTo at h4
    rw [List.take_length, List.all_eq_true] at h4
    have := h4 _ (List.getElem_mem hk)
    simpa [formB] using this
  have hfew : d.gates[k].args.length ≤ 16 := by
    simp only [countsB, countsTo, Bool.and_eq_true] at h1
    have h5 := h1.2
    rw [List.take_length, List.all_eq_true] at h5
    simpa using h5 _ (List.getElem_mem hk)
  refine ⟨hk3, fun e => ?_, fun e => ?_, fun e => ?_, hfew, args_in h2 k hk⟩
  · have := hf.1
    unfold numB at this
    rw [if_pos e] at this
    simp only [isB, decide_eq_true_iff] at this
    omega
  · have := hf.1
    unfold numB at this
    rw [if_neg (by omega), if_pos e] at this
    simp only [isB, decide_eq_true_iff] at this
    omega
  · have := hf.2
    unfold argB at this
    rw [if_neg (by omega), if_pos e] at this
    simp only [beq_iff_eq] at this
    omega

/-- A gate's three cells in a box of the call's own. -/
def GBox (w : World) (b : Nat) (kind n : Int) (aa : Option Addr) (an ac : Nat) : Prop :=
  b < w.heap.size ∧ w.cell? ⟨b, 0, none⟩ = some (.int .i64 kind) ∧ w.cell? ⟨b, 1, none⟩ = some (.int .i64 n) ∧ w.cell? ⟨b, 2, none⟩ = some (.slice aa an ac)
theorem GBox.below' {B : Nat} {w w' : World} {b : Nat} {kind n : Int} {aa : Option Addr} {an ac : Nat} (h : GBox w b kind n aa an ac) (hb : Below B w w') (hB : b < B) : GBox w' b kind n aa an ac := by
  obtain ⟨h0, h1, h2, h3⟩ := h
  refine ⟨Nat.lt_of_lt_of_le h0 hb.size, ?_, ?_, ?_⟩
  · rw [hb.cell (p := ⟨b, 0, none⟩) hB]; exact h1
  · rw [hb.cell (p := ⟨b, 1, none⟩) hB]; exact h2
  · rw [hb.cell (p := ⟨b, 2, none⟩) hB]; exact h3
theorem GBox.new (w : World) (kind n : Int) (aa : Option Addr) (an ac : Nat) (T : TypeId) : GBox (w.alloc (.cells #[.int .i64 kind, .int .i64 n, .slice aa an ac] T)) w.heap.size kind n aa an ac := by
  refine ⟨by simp, ?_, ?_, ?_⟩ <;> rw [World.cell?_alloc_new] <;> rfl

def argsV (g : GateD) (v : List Int) : List Int := g.args.map (fun x => v.getD x.toNat 2)
def stepE (d : NetD) (regs ins : List Int) : Int :=
  if checkE d = 0 then (if regs.length = d.regs.length ∧ (ins.length : Int) = d.ins then (if vals regs && vals ins then 0 else 3) else 1) else checkE d

theorem stepE_ok {d : NetD} {regs ins : List Int} (h : stepE d regs ins = 0) : checkE d = 0 ∧ regs.length = d.regs.length ∧ (ins.length : Int) = d.ins ∧ vals regs = true ∧ vals ins = true := by
  unfold stepE at h
  by_cases e : checkE d = 0
  · rw [if_pos e] at h
    by_cases e2 : regs.length = d.regs.length ∧ (ins.length : Int) = d.ins
    · rw [if_pos e2] at h
      cases h3 : vals regs <;> cases h4 : vals ins <;> simp [h3, h4] at h
      exact ⟨e, e2.1, e2.2, rfl, rfl⟩
    · rw [if_neg e2] at h; simp at h
  · rw [if_neg e] at h; exact absurd h e

def is64 (xs : List Int) : Array Value := (xs.map (fun x => Value.int .i64 x)).toArray
/-- A row of ints: a block of its own. -/
def IntRow (w : World) (g : Nat) (xs : List Int) : Prop := w.heap[g]? = some (.cells (is64 xs) 3 (0, 0))
theorem IntRow.cell {w : World} {g : Nat} {xs : List Int} (h : IntRow w g xs) (k : Nat) (hk : k < xs.length) : w.cell? ⟨g, k, none⟩ = some (.int .i64 xs[k]) := by
  rw [cell_of_row w g k _ _ _ h]
  simp [is64, hk]
theorem IntRow.frozen {w : World} {g : Nat} {xs : List Int} (h : IntRow w g xs) (k : Nat) : w.frozen? ⟨g, k, none⟩ = false := frozen_of_row w g k _ _ h
theorem IntRow.set {w : World} {g : Nat} {xs : List Int} (h : IntRow w g xs) (k : Nat) (x : Int) : IntRow (w.setCell ⟨g, k, none⟩ (.int .i64 x)) g (xs.set k x) := by
  unfold IntRow
  rw [Go.heap_setCell_same w g k _ _ _ h]
  congr 2
  simp [is64]
theorem IntRow.lt {w : World} {g : Nat} {xs : List Int} (h : IntRow w g xs) : g < w.heap.size := (Array.getElem?_eq_some_iff.1 h).1
theorem IntRow.below {B : Nat} {w w' : World} {g : Nat} {xs : List Int} (h : IntRow w g xs) (hb : Below B w w') (hg : g < B) : IntRow w' g xs := by
  unfold IntRow; rw [hb.block g hg]; exact h
theorem IntRow.ints {w : World} {g : Nat} {xs : List Int} (h : IntRow w g xs) (n : Nat) (hn : n = xs.length) (hm : xs.length ≤ maxLen) : Ints w (some ⟨g, 0, none⟩) n xs :=
  ⟨hn, hm, Or.inr ⟨g, 0, rfl, h.lt, fun i hi => by rw [Nat.zero_add, h.cell i hi]⟩⟩
theorem made_introw {w : World} {base g n : Nat} (h : w.ownsRow base 3 1 (.slice (some ⟨g, 0, none⟩) n n) n (madeCells #[Value.int .i64 0] n).toList) : IntRow w g (List.replicate n 0) := by
  rcases h.2 with ⟨h1, _⟩ | ⟨g', cap, cur, hv, _, hh, _, _, hs, ht⟩
  · simp at h1
  · simp only [Value.slice.injEq, Option.some.injEq, Addr.mk.injEq, and_true, true_and] at hv
    obtain ⟨rfl, rfl⟩ := hv
    rw [toList_madeCells_one, List.take_of_length_le (by simp [hs])] at ht
    unfold IntRow
    rw [hh]
    congr 2
    apply Array.ext'
    rw [ht]; simp [is64]

/-- The first k of ys, and noughts behind. -/
def partTo (c : Int) (ys : List Int) (k : Nat) : List Int := ys.take k ++ List.replicate (ys.length - k) c
theorem partTo_len (c : Int) (ys : List Int) (k : Nat) (h : k ≤ ys.length) : (partTo c ys k).length = ys.length := by simp [partTo]; omega
theorem partTo_zero (c : Int) (ys : List Int) : partTo c ys 0 = List.replicate ys.length c := by simp [partTo]
theorem partTo_full (c : Int) (ys : List Int) : partTo c ys ys.length = ys := by simp [partTo]
theorem partTo_set (c : Int) (ys : List Int) (k : Nat) (h : k < ys.length) : (partTo c ys k).set k ys[k] = partTo c ys (k + 1) := by
  have e : ys.take (k + 1) = ys.take k ++ [ys[k]] := List.take_succ_eq_append_getElem h
  have hl : (ys.take k).length = k := by simp; omega
  unfold partTo
  rw [show ys.length - k = (ys.length - (k + 1)) + 1 from by omega, List.replicate_succ, e, List.set_append_right _ _ (by omega), hl, Nat.sub_self, List.set_cons_zero, List.append_assoc]
  rfl

/-- What Step answers. -/
def StepAns (d : NetD) (regs ins v : List Int) : Prop := (stepE d regs ins = 0 → Least d regs ins v ∧ vals v = true) ∧ (stepE d regs ins ≠ 0 → v = [])
theorem StepAns.same {d : NetD} {regs ins v u : List Int} (h : StepAns d regs ins v) (h' : StepAns d regs ins u) : v = u := by
  by_cases e : stepE d regs ins = 0
  · exact (h.1 e).1.same (h'.1 e).1
  · rw [h.2 e, h'.2 e]

def intsV (l : List Int) : List Value := l.map (fun x => Value.int .i64 x)
/-- A slice that lies in memory made since. -/
def Fresh (base : Nat) (a : Option Addr) (n : Nat) : Prop := n = 0 ∨ ∃ b off, a = some ⟨b, off, none⟩ ∧ base ≤ b
def pickV (v l : List Int) : List Int := l.map (fun x => v.getD x.toNat 0)
def nextsV (d : NetD) : List Int := d.regs.map (·.2)
def bitsV (x : Int) (n : Nat) : List Int := (List.range n).map (fun k => x / 2 ^ k % 2)
theorem pickV_len (v l : List Int) : (pickV v l).length = l.length := by simp [pickV]
theorem bitsV_len (x : Int) (n : Nat) : (bitsV x n).length = n := by simp [bitsV]
theorem nextsV_len (d : NetD) : (nextsV d).length = d.regs.length := by simp [nextsV]
end Go.Proofs.YtongajonecgdpagGreatDoor
