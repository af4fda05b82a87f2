/- Three values, without the program: what is told where less is said; and how a list that the call made itself is met again. -/
import Derived.Test.YtongajonecgdpaeTernD
import Derived.Test.YtongajonecgdpaeTernA
namespace Go.Proofs.Ytongajonecgdpae
open Go.RowKit

theorem has_true (v : Int) (xs : List Int) : has v xs = true ↔ v ∈ xs := by
  simp only [has, List.any_eq_true, beq_iff_eq]
  constructor
  · rintro ⟨x, hx, rfl⟩; exact hx
  · intro h; exact ⟨v, h, rfl⟩
theorem has_false (v : Int) (xs : List Int) : has v xs = false ↔ ¬ v ∈ xs := by
  rw [← has_true]; cases has v xs <;> simp
theorem vals_true (xs : List Int) : vals xs = true ↔ ∀ x ∈ xs, x = 0 ∨ x = 1 ∨ x = 2 := by
  simp only [vals, val, List.all_eq_true, decide_eq_true_iff]
  exact ⟨fun h x hx => by have := h x hx; omega, fun h x hx => by have := h x hx; omega⟩

theorem leqV_at (xs ys : List Int) (h : leqV xs ys = true) (i : Nat) (hi : i < xs.length) (hi' : i < ys.length) : xs[i] = 2 ∨ xs[i] = ys[i] := by
  simp only [leqV, leqTo, List.all_eq_true, List.mem_range, Bool.or_eq_true, beq_iff_eq] at h
  have := h i hi
  rw [getD_at xs i hi, getD_at ys i hi'] at this
  exact this

theorem tell_leq (d o : Int) (hd : d ≠ 2) (xs ys : List Int) (hl : xs.length = ys.length) (h : leqV xs ys = true) : tellV d o xs = 2 ∨ tellV d o xs = tellV d o ys := by
  cases h1 : has d xs
  · cases h2 : has 2 xs
    · right
      have : xs = ys := by
        apply List.ext_getElem hl
        intro i hi hi'
        rcases leqV_at xs ys h i hi hi' with e | e
        · exact absurd (e ▸ List.getElem_mem hi) ((has_false _ _).1 h2)
        · exact e
      rw [this]
    · left; simp [tellV, h1, h2]
  · right
    obtain ⟨i, hi, e⟩ := List.getElem_of_mem ((has_true _ _).1 h1)
    have hi' : i < ys.length := by omega
    have h3 : has d ys = true := by
      rw [has_true]
      rcases leqV_at xs ys h i hi hi' with e2 | e2
      · omega
      · rw [← e, e2]; exact List.getElem_mem hi'
    simp [tellV, h1, h3]

theorem leqB_true {xs ys : List Int} (h : leqB xs ys = true) : vals xs = true ∧ vals ys = true ∧ xs.length = ys.length ∧ leqV xs ys = true := by
  unfold leqB at h
  cases h1 : vals xs <;> cases h2 : vals ys <;> simp [h1, h2] at h
  exact ⟨rfl, rfl, h.1, h.2⟩
theorem leqE_zero {xs ys : List Int} (h : leqE xs ys = 0) : vals xs = true ∧ vals ys = true ∧ xs.length = ys.length := by
  unfold leqE at h
  cases h1 : vals xs <;> cases h2 : vals ys <;> simp [h1, h2] at h
  exact ⟨rfl, rfl, h⟩

theorem leq_all {xs ys : List Int} (h : leqB xs ys = true) : allV xs = 2 ∨ allV xs = allV ys := by
  obtain ⟨h1, h2, h3, h4⟩ := leqB_true h
  simp only [allV, h1, h2, if_true]
  exact tell_leq 0 1 (by decide) xs ys h3 h4
theorem leq_any {xs ys : List Int} (h : leqB xs ys = true) : anyV xs = 2 ∨ anyV xs = anyV ys := by
  obtain ⟨h1, h2, h3, h4⟩ := leqB_true h
  simp only [anyV, h1, h2, if_true]
  exact tell_leq 1 0 (by decide) xs ys h3 h4

theorem notV_eq {x : Int} (h : x = 0 ∨ x = 1 ∨ x = 2) : notV x = if x = 2 then 2 else 1 - x := by
  have : val x = true := by simp [val]; omega
  simp [notV, this, not1]
theorem notV_val {x : Int} (h : x = 0 ∨ x = 1 ∨ x = 2) : notV x = 0 ∨ notV x = 1 ∨ notV x = 2 := by
  rw [notV_eq h]; split <;> omega
theorem notE_of {x : Int} (h : x = 0 ∨ x = 1 ∨ x = 2) : notE x = 0 := by
  have : val x = true := by simp [val]; omega
  simp [notE, this]
theorem tellV_val {d o : Int} (hd : d = 0 ∨ d = 1) (ho : o = 0 ∨ o = 1) (xs : List Int) : tellV d o xs = 0 ∨ tellV d o xs = 1 ∨ tellV d o xs = 2 := by
  unfold tellV; split
  · omega
  · split <;> omega
theorem allV_val (xs : List Int) : allV xs = 0 ∨ allV xs = 1 ∨ allV xs = 2 := by
  unfold allV; split
  · exact tellV_val (by simp) (by simp) xs
  · simp

theorem vals_not {xs : List Int} (h : vals xs = true) : vals (xs.map notV) = true := by
  rw [vals_true] at h ⊢
  intro x hx
  obtain ⟨y, hy, rfl⟩ := List.mem_map.1 hx
  exact notV_val (h y hy)
theorem has_not {xs : List Int} (h : vals xs = true) (v : Int) (hv : v = 0 ∨ v = 1 ∨ v = 2) : has (notV v) (xs.map notV) = has v xs := by
  rw [vals_true] at h
  rw [Bool.eq_iff_iff, has_true, has_true, List.mem_map]
  constructor
  · rintro ⟨y, hy, e⟩
    have hy' := h y hy
    rw [notV_eq hy', notV_eq hv] at e
    have : y = v := by split at e <;> split at e <;> omega
    rw [← this]; exact hy
  · intro hx; exact ⟨v, hx, rfl⟩
theorem any_not {xs : List Int} (h : vals xs = true) : anyV (xs.map notV) = notV (allV xs) := by
  have h0 : has 1 (xs.map notV) = has 0 xs := has_not h 0 (by simp)
  have h2 : has 2 (xs.map notV) = has 2 xs := has_not h 2 (by simp)
  simp only [anyV, vals_not h, allV, h, if_true, tellV, h0, h2]
  cases has 0 xs <;> cases has 2 xs <;> decide

def notsTo (xs : List Int) (k : Nat) : List Value := ((xs.take k).map notV).map (fun x => Value.int .i64 x)
theorem notsTo_succ (xs : List Int) (k : Nat) (h : k < xs.length) : notsTo xs (k + 1) = notsTo xs k ++ [.int .i64 (notV xs[k])] := by
  simp only [notsTo]; rw [take_snoc xs k h, List.map_append, List.map_append]; rfl
theorem notsTo_full (xs : List Int) (k : Nat) (h : xs.length ≤ k) : notsTo xs k = (xs.map notV).map (fun x => Value.int .i64 x) := by
  simp only [notsTo]; rw [List.take_of_length_le h]

theorem own_below {w w' : World} {base : Nat} {e : TypeId} {size : Nat} {v : Value} {n : Nat} {xs : List Value} (h : w.ownsRow base e size v n xs) (hb : Below w.heap.size w w') : w'.ownsRow base e size v n xs := by
  obtain ⟨h1, h2⟩ := h
  refine ⟨h1, ?_⟩
  rcases h2 with h2 | ⟨g, cap, cur, hv, hg, hh, r⟩
  · exact Or.inl h2
  · exact Or.inr ⟨g, cap, cur, hv, hg, by rw [hb.block g (Array.getElem?_eq_some_iff.1 hh).1]; exact hh, r⟩

theorem own_ints {w : World} {base : Nat} {e : TypeId} {v : Value} {n : Nat} {ys : List Int} (h : w.ownsRow base e 1 v n (ys.map (fun x => Value.int .i64 x))) (hm : n ≤ maxLen) :
    ∃ a cap, v = .slice a n cap ∧ Ints w a n ys := by
  have hn : n = ys.length := by have := h.1; simpa using this.symm
  rcases h.2 with ⟨h1, h2⟩ | ⟨g, cap, cur, hv, hg, hh, r⟩
  · subst h2
    have : ys = [] := List.eq_nil_of_length_eq_zero hn.symm
    exact ⟨_, _, h1, hn, by omega, Or.inl this⟩
  · refine ⟨_, cap, hv, hn, by omega, Or.inr ⟨g, 0, rfl, (Array.getElem?_eq_some_iff.1 hh).1, fun i hi => ?_⟩⟩
    rw [hv] at h
    rw [Nat.zero_add, h.cellAt i (by omega)]
    simp [hi]

theorem Try.infoInt : (Try.prog.info? 3).map (fun i => (i.zero, i.size, i.bytes)) = some (some (.int .i64 0), 1, 8) := by kernel_rfl

/-- One more at the end of a list of the call's own. -/
theorem own_step {w wr wa w1 : World} {T : TypeId} {v v' : Value} {n : Nat} {L : List Value} {u : Value} (hb : Below w.heap.size w wr) (hw : Below wr.heap.size wr wa)
    (hown : wr.ownsRow w.heap.size T 1 v n L) (hg : wa.grownBy w1 v.ownBlock) (h' : w1.ownsRow w.heap.size T 1 v' (n + 1) (L ++ [u])) :
    w1.ownsRow w.heap.size T 1 v' (n + 1) (L ++ [u]) ∧ Below w.heap.size w w1 :=
  ⟨h', (bstep hb hw).grown hg (Nat.le_trans hb.size hw.size) (fun k hk => (hown.lt k hk).1)⟩

theorem set_other {w : World} {bb k : Nat} {v : Value} {j : Nat} (h : j ≠ bb) : (w.setCell ⟨bb, k, none⟩ v).heap[j]? = w.heap[j]? := Below.heap_setCell w _ v j (by simpa using h)
/-- All but the blocks G lies as it did. -/
def KeptG (G : List Nat) (w w' : World) : Prop := w.heap.size ≤ w'.heap.size ∧ ∀ k, k < w.heap.size → k ∉ G → w'.heap[k]? = w.heap[k]?
theorem KeptG.refl (G : List Nat) (w : World) : KeptG G w w := ⟨Nat.le_refl _, fun _ _ _ => rfl⟩
theorem KeptG.of {G : List Nat} {w w' : World} (h : Below w.heap.size w w') : KeptG G w w' := ⟨h.size, fun k hk _ => h.block k hk⟩
theorem KeptG.trans {G : List Nat} {w w' w'' : World} (h : KeptG G w w') (h' : KeptG G w' w'') : KeptG G w w'' := ⟨Nat.le_trans h.1 h'.1, fun k hk hG => (h'.2 k (Nat.lt_of_lt_of_le hk h.1) hG).trans (h.2 k hk hG)⟩
theorem KeptG.grown {G : List Nat} {w w' : World} {row : Option Nat} (hg : w.grownBy w' row) (hr : ∀ b, row = some b → b ∈ G) : KeptG G w w' := ⟨hg.size, fun k hk hG => hg.block k hk (fun e => hG (hr k e.symm))⟩
theorem KeptG.set {G : List Nat} {w : World} {g k : Nat} (v : Value) (hg : g ∈ G) : KeptG G w (w.setCell ⟨g, k, none⟩ v) := ⟨Nat.le_of_eq (by simp), fun j _ hG => set_other (fun e => hG (e ▸ hg))⟩
theorem KeptG.block {G : List Nat} {w w' : World} (h : KeptG G w w') {b : Nat} (hb : b < w.heap.size) (hG : b ∉ G) : w'.heap[b]? = w.heap[b]? := h.2 b hb hG
theorem KeptG.mono {G G' : List Nat} {w w' : World} (h : KeptG G w w') (hs : ∀ b, b ∈ G → b ∈ G') : KeptG G' w w' := ⟨h.1, fun k hk hn => h.2 k hk (fun hm => hn (hs k hm))⟩
/-- It stays so, whatever is written into the blocks G. -/
def Kp (G : List Nat) (W : World) (Q : World → Prop) : Prop := ∀ W', KeptG G W W' → Q W'
theorem Kp.now {G : List Nat} {W : World} {Q : World → Prop} (h : Kp G W Q) : Q W := h W (KeptG.refl _ _)
theorem Kp.step {G G' : List Nat} {W W1 : World} {Q : World → Prop} (h : Kp G W Q) (hk : KeptG G W W1) (hG : ∀ g ∈ G', g ∈ G ∨ W.heap.size ≤ g) : Kp G' W1 Q := fun W' h' =>
  h W' ⟨Nat.le_trans hk.1 h'.1, fun k hk1 hkG => (h'.2 k (Nat.lt_of_lt_of_le hk1 hk.1) (fun hm => by rcases hG k hm with h1 | h1; exact hkG h1; omega)).trans (hk.2 k hk1 hkG)⟩
theorem Kp.on {G : List Nat} {W W1 : World} {Q : World → Prop} (h : Kp G W Q) (hb : Below W.heap.size W W1) : Kp G W1 Q := h.step (KeptG.of hb) (fun _ hg => Or.inl hg)
theorem Kp.box {G : List Nat} {W W1 : World} {Q : World → Prop} (h : Kp G W Q) (hb : Below W.heap.size W W1) : Kp (W.heap.size :: G) W1 Q := h.step (KeptG.of hb) (fun g hg => by
  rcases List.mem_cons.1 hg with h1 | h1
  · exact Or.inr (Nat.le_of_eq h1.symm)
  · exact Or.inl h1)
theorem Kp.less {G G' : List Nat} {W : World} {Q : World → Prop} (h : Kp G W Q) (hs : ∀ g ∈ G', g ∈ G) : Kp G' W Q := h.step (KeptG.refl _ _) (fun g hg => Or.inl (hs g hg))
end Go.Proofs.Ytongajonecgdpae
