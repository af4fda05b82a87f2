
/- What is settled, without the program: a gate's value of others, rounds, and the least that solves. -/
import Derived.Test.YtongajonecgdpaeNetM
namespace Go.Proofs.Ytongajonecgdpae

/-- A gate's value, of what others have. -/
def worthV (g : GateD) (regs ins v : List Int) : Int :=
  if g.kind = 1 then 1 else if g.kind = 2 then ins.getD g.n.toNat 2 else if g.kind = 3 then regs.getD g.n.toNat 2
  else if g.kind = 4 then tellV 0 1 (g.args.map (fun x => v.getD x.toNat 2)) else if g.kind = 5 then tellV 1 0 (g.args.map (fun x => v.getD x.toNat 2))
  else if g.kind = 6 then not1 ((g.args.map (fun x => v.getD x.toNat 2)).getD 0 2) else 0

/-- All gates at once. -/
def roundV (d : NetD) (regs ins v : List Int) : List Int := d.gates.map (fun g => worthV g regs ins v)
theorem roundV_len (d : NetD) (regs ins v : List Int) : (roundV d regs ins v).length = d.gates.length := by simp [roundV]
theorem roundV_at (d : NetD) (regs ins v : List Int) (k : Nat) (hk : k < d.gates.length) : (roundV d regs ins v).getD k 2 = worthV d.gates[k] regs ins v := by
  simp [roundV, List.getD_eq_getElem?_getD, hk]

/-- Less is said. -/
def Le (xs ys : List Int) : Prop := ∀ k, xs.getD k 2 = 2 ∨ xs.getD k 2 = ys.getD k 2
theorem Le.refl (xs : List Int) : Le xs xs := fun _ => Or.inr rfl
theorem Le.trans {xs ys zs : List Int} (h : Le xs ys) (h' : Le ys zs) : Le xs zs := by
  intro k
  rcases h k with h1 | h1
  · exact Or.inl h1
  · rcases h' k with h2 | h2
    · exact Or.inl (h1.trans h2)
    · exact Or.inr (h1.trans h2)
theorem Le.antisymm {xs ys : List Int} (hl : xs.length = ys.length) (h : Le xs ys) (h' : Le ys xs) : xs = ys := by
  apply List.ext_getElem hl
  intro i hi hi'
  have h1 := h i
  have h2 := h' i
  simp only [List.getD_eq_getElem?_getD, List.getElem?_eq_getElem hi, List.getElem?_eq_getElem hi', Option.getD_some] at h1 h2
  omega

theorem tell_le (d o : Int) (hd : d ≠ 2) (l : List Int) (v u : List Int) (h : Le v u) : tellV d o (l.map (fun x => v.getD x.toNat 2)) = 2 ∨ tellV d o (l.map (fun x => v.getD x.toNat 2)) = tellV d o (l.map (fun x => u.getD x.toNat 2)) := by
  apply tell_leq d o hd
  · simp
  · simp only [leqV, leqTo, List.all_eq_true, List.mem_range, Bool.or_eq_true, beq_iff_eq]
    intro i hi
    have hi' : i < l.length := by simpa using hi
    have := h l[i].toNat
    simp only [List.getD_eq_getElem?_getD, List.getElem?_map, List.getElem?_eq_getElem hi', Option.map_some, Option.getD_some] at this ⊢
    exact this

theorem not_le {x y : Int} (h : x = 2 ∨ x = y) : not1 x = 2 ∨ not1 x = not1 y := by
  rcases h with h | h
  · left; simp [not1, h]
  · right; rw [h]

theorem worthV_le (g : GateD) {r r' i i' v u : List Int} (hr : Le r r') (hi : Le i i') (h : Le v u) : worthV g r i v = 2 ∨ worthV g r i v = worthV g r' i' u := by
  unfold worthV
  split
  · exact Or.inr rfl
  · split
    · exact hi _
    · split
      · exact hr _
      · split
        · exact tell_le 0 1 (by decide) _ _ _ h
        · split
          · exact tell_le 1 0 (by decide) _ _ _ h
          · split
            · apply not_le
              cases g.args with
              | nil => simp
              | cons x l => simpa using h x.toNat
            · exact Or.inr rfl

theorem roundV_le (d : NetD) {r r' i i' v u : List Int} (hr : Le r r') (hi : Le i i') (h : Le v u) : Le (roundV d r i v) (roundV d r' i' u) := by
  intro k
  by_cases hk : k < d.gates.length
  · rw [roundV_at d r i v k hk, roundV_at d r' i' u k hk]; exact worthV_le _ hr hi h
  · left; rw [List.getD_eq_getElem?_getD, List.getElem?_eq_none (by rw [roundV_len]; omega)]; rfl

/-- It solves, and says no more than whatever solves. -/
structure Least (d : NetD) (regs ins v : List Int) : Prop where
  len : v.length = d.gates.length
  fix : roundV d regs ins v = v
  least : ∀ u, u.length = d.gates.length → roundV d regs ins u = u → Le v u

theorem Least.same {d : NetD} {regs ins v u : List Int} (h : Least d regs ins v) (h' : Least d regs ins u) : v = u :=
  Le.antisymm (by rw [h.len, h'.len]) (h.least u h'.len h'.fix) (h'.least v h.len h.fix)

/-- On the way to it, by whichever steps. -/
structure Way (d : NetD) (regs ins v : List Int) : Prop where
  len : v.length = d.gates.length
  up : Le v (roundV d regs ins v)
  under : ∀ u, u.length = d.gates.length → roundV d regs ins u = u → Le v u

theorem Way.start (d : NetD) (regs ins : List Int) : Way d regs ins (List.replicate d.gates.length 2) := by
  have h : ∀ k, (List.replicate d.gates.length (2 : Int)).getD k 2 = 2 := by
    intro k
    simp only [List.getD_eq_getElem?_getD, List.getElem?_replicate]
    split <;> rfl
  exact ⟨by simp, fun k => Or.inl (h k), fun u _ _ k => Or.inl (h k)⟩
theorem Way.round {d : NetD} {regs ins v : List Int} (h : Way d regs ins v) : Way d regs ins (roundV d regs ins v) :=
  ⟨roundV_len _ _ _ _, roundV_le d (Le.refl _) (Le.refl _) h.up, fun u hu hf => by
    have := roundV_le d (Le.refl regs) (Le.refl ins) (h.under u hu hf)
    rw [hf] at this; exact this⟩
theorem Way.least {d : NetD} {regs ins v : List Int} (h : Way d regs ins v) (hf : roundV d regs ins v = v) : Least d regs ins v := ⟨h.len, hf, h.under⟩

/-- One gate takes its value, the others stay. -/
theorem Way.set {d : NetD} {regs ins v : List Int} (h : Way d regs ins v) (k : Nat) (hk : k < d.gates.length) : Way d regs ins (v.set k (worthV d.gates[k] regs ins v)) := by
  have hv : k < v.length := by rw [h.len]; exact hk
  have hget : ∀ j, (v.set k (worthV d.gates[k] regs ins v)).getD j 2 = if j = k then worthV d.gates[k] regs ins v else v.getD j 2 := by
    intro j
    simp only [List.getD_eq_getElem?_getD, List.getElem?_set]
    by_cases e : k = j
    · subst e; simp [hv]
    · rw [if_neg e, if_neg (Ne.symm e)]
  have hle : Le v (v.set k (worthV d.gates[k] regs ins v)) := by
    intro j
    rw [hget]
    by_cases e : j = k
    · rw [if_pos e]
      have := h.up k
      rw [roundV_at d regs ins v k hk] at this
      rw [e]; exact this
    · rw [if_neg e]; exact Or.inr rfl
  have hmid : Le (v.set k (worthV d.gates[k] regs ins v)) (roundV d regs ins v) := by
    intro j
    rw [hget]
    by_cases e : j = k
    · rw [if_pos e, e, roundV_at d regs ins v k hk]; exact Or.inr rfl
    · rw [if_neg e]; exact h.up j
  refine ⟨by rw [List.length_set]; exact h.len, hmid.trans (roundV_le d (Le.refl _) (Le.refl _) hle), fun u hu hf => ?_⟩
  have := roundV_le d (Le.refl regs) (Le.refl ins) (h.under u hu hf)
  rw [hf] at this
  exact hmid.trans this

/-- How many are open. -/
def opens (v : List Int) : Nat := (v.filter (fun x => x == 2)).length
theorem opens_le_length (v : List Int) : opens v ≤ v.length := List.length_filter_le _ _
theorem opens_le {xs ys : List Int} (hl : ys.length = xs.length) (h : Le xs ys) : opens ys ≤ opens xs := by
  induction xs generalizing ys with
  | nil => have : ys = [] := List.eq_nil_of_length_eq_zero (by simpa using hl); subst this; exact Nat.le_refl _
  | cons x xs ih =>
    cases ys with
    | nil => simp at hl
    | cons y ys =>
      have h0 := h 0
      have hr := ih (ys := ys) (by simpa using hl) (fun k => by have := h (k + 1); simpa using this)
      simp only [List.getD_cons_zero] at h0
      unfold opens at hr ⊢
      simp only [List.filter_cons]
      cases hx : (x == 2) <;> cases hy : (y == 2) <;> simp_all <;> omega
/-- If as many are open, it is the same. -/
theorem opens_same {xs ys : List Int} (hl : ys.length = xs.length) (h : Le xs ys) (he : opens xs ≤ opens ys) : ys = xs := by
  induction xs generalizing ys with
  | nil => exact List.eq_nil_of_length_eq_zero (by simpa using hl)
  | cons x xs ih =>
    cases ys with
    | nil => simp at hl
    | cons y ys =>
      have h0 := h 0
      have ht : Le xs ys := fun k => by have := h (k + 1); simpa using this
      have hle := opens_le (xs := xs) (ys := ys) (by simpa using hl) ht
      simp only [List.getD_cons_zero] at h0
      have hb : y = x ∧ opens xs ≤ opens ys := by
        unfold opens at he hle ⊢
        simp only [List.filter_cons] at he
        cases hx : (x == 2) <;> cases hy : (y == 2) <;> simp_all <;> omega
      rw [hb.1, ih (by simpa using hl) ht hb.2]
theorem Way.fewer {d : NetD} {regs ins v : List Int} (h : Way d regs ins v) (hne : roundV d regs ins v ≠ v) : opens (roundV d regs ins v) < opens v := by
  rcases Nat.lt_or_ge (opens (roundV d regs ins v)) (opens v) with h1 | h1
  · exact h1
  · exact absurd (opens_same (by rw [roundV_len, h.len]) h.up h1) hne

/-- What is told of values is a value. -/
theorem getD_val {v : List Int} (h : vals v = true) (k : Nat) : v.getD k 2 = 0 ∨ v.getD k 2 = 1 ∨ v.getD k 2 = 2 := by
  rw [List.getD_eq_getElem?_getD]
  cases e : v[k]? with
  | none => simp
  | some x => simpa using (vals_true v).1 h x (List.mem_of_getElem? e)
theorem not1_val {x : Int} (h : x = 0 ∨ x = 1 ∨ x = 2) : not1 x = 0 ∨ not1 x = 1 ∨ not1 x = 2 := by
  unfold not1; split <;> omega
theorem worthV_val (g : GateD) {regs ins v : List Int} (hr : vals regs = true) (hi : vals ins = true) (hv : vals v = true) : worthV g regs ins v = 0 ∨ worthV g regs ins v = 1 ∨ worthV g regs ins v = 2 := by
  unfold worthV
  split
  · simp
  · split
    · exact getD_val hi _
    · split
      · exact getD_val hr _
      · split
        · exact tellV_val (by simp) (by simp) _
        · split
          · exact tellV_val (by simp) (by simp) _
          · split
            · apply not1_val
              cases g.args with
              | nil => simp
              | cons x l => simpa using getD_val hv x.toNat
            · simp
theorem roundV_vals (d : NetD) {regs ins v : List Int} (hr : vals regs = true) (hi : vals ins = true) (hv : vals v = true) : vals (roundV d regs ins v) = true := by
  rw [vals_true]
  intro x hx
  obtain ⟨g, _, rfl⟩ := List.mem_map.1 hx
  exact worthV_val g hr hi hv
theorem vals_open (n : Nat) : vals (List.replicate n 2) = true := by
  rw [vals_true]; intro x hx; have := List.eq_of_mem_replicate hx; omega

/-- With less open handed in no more is open. -/
theorem Least.more {d : NetD} {r r' i i' v u : List Int} (hr : Le r r') (hi : Le i i') (h : Least d r i v) (h' : Least d r' i' u) : Le v u := by
  -- the rounds of the first, from all open on, stay under u
  have key : ∀ n : Nat, ∀ x : List Int, Way d r i x → Le x u → opens x ≤ n → Le v u := by
    intro n
    induction n with
    | zero =>
      intro x hx hu ho
      have hf : roundV d r i x = x := by
        rcases Decidable.em (roundV d r i x = x) with e | e
        · exact e
        · have := hx.fewer e; omega
      rw [h.same (hx.least hf)]; exact hu
    | succ n ih =>
      intro x hx hu ho
      rcases Decidable.em (roundV d r i x = x) with e | e
      · rw [h.same (hx.least e)]; exact hu
      · refine ih _ hx.round ?_ (by have := hx.fewer e; omega)
        have := roundV_le d hr hi hu
        rw [h'.fix] at this; exact this
  refine key _ _ (Way.start d r i) ?_ (Nat.le_refl _)
  intro k
  left
  simp only [List.getD_eq_getElem?_getD, List.getElem?_replicate]
  split <;> rfl
end Go.Proofs.Ytongajonecgdpae
