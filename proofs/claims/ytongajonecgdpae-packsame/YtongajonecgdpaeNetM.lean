
/- What is needed, without the program: the least that holds what is asked for and the args of what it holds; what a marking walk and marking rounds come to. -/
import Derived.Test.YtongajonecgdpaeNetD
namespace Go.Proofs.Ytongajonecgdpae

/-- Needed: in every set that holds l and, with a gate, its args. -/
def Need (gs : List GateD) (l : List Int) (k : Nat) : Prop :=
  ∀ S : Nat → Prop, (∀ x ∈ l, S x.toNat) → (∀ j (hj : j < gs.length), S j → ∀ x ∈ gs[j].args, S x.toNat) → S k

theorem Need.mem {gs : List GateD} {l : List Int} {x : Int} (h : x ∈ l) : Need gs l x.toNat := fun _ h1 _ => h1 x h
theorem Need.arg {gs : List GateD} {l : List Int} {j : Nat} (hj : j < gs.length) (h : Need gs l j) {x : Int} (hx : x ∈ gs[j].args) : Need gs l x.toNat :=
  fun S h1 h2 => h2 j hj (h S h1 h2) x hx
theorem Need.trans {gs : List GateD} {l m : List Int} {k : Nat} (h : Need gs m k) (hm : ∀ x ∈ m, Need gs l x.toNat) : Need gs l k :=
  h (Need gs l) hm (fun _ hj hn _ hx => Need.arg hj hn hx)
theorem Need.mono {gs : List GateD} {l m : List Int} {k : Nat} (h : Need gs l k) (hm : ∀ x ∈ l, x ∈ m) : Need gs m k :=
  h.trans (fun x hx => Need.mem (hm x hx))
theorem Need.append {gs : List GateD} {l m : List Int} {k : Nat} : Need gs (l ++ m) k ↔ Need gs l k ∨ Need gs m k := by
  constructor
  · intro h
    refine h (fun k => Need gs l k ∨ Need gs m k) ?_ ?_
    · intro x hx
      rcases List.mem_append.1 hx with hx | hx
      · exact Or.inl (Need.mem hx)
      · exact Or.inr (Need.mem hx)
    · intro j hj hn x hx
      rcases hn with hn | hn
      · exact Or.inl (Need.arg hj hn hx)
      · exact Or.inr (Need.arg hj hn hx)
  · rintro (h | h)
    · exact h.mono (fun x hx => List.mem_append.2 (Or.inl hx))
    · exact h.mono (fun x hx => List.mem_append.2 (Or.inr hx))

/-- The marks tell what is needed. -/
def Marks (gs : List GateD) (l : List Int) (ys : List Bool) : Prop := ys.length = gs.length ∧ ∀ k, k < gs.length → (ys.getD k false = true ↔ Need gs l k)

theorem Marks.same {gs : List GateD} {l : List Int} {ys zs : List Bool} (h : Marks gs l ys) (h' : Marks gs l zs) : ys = zs := by
  apply List.ext_getElem (by rw [h.1, h'.1])
  intro i hi hi'
  have hg : i < gs.length := by have := h.1; omega
  have := (h.2 i hg).trans (h'.2 i hg).symm
  simp only [List.getD_eq_getElem?_getD, List.getElem?_eq_getElem hi, List.getElem?_eq_getElem hi', Option.getD_some] at this
  rw [Bool.eq_iff_iff]; exact this

/-- What a marking walk over l has come to, from the marks ys to the marks zs. -/
structure Went (gs : List GateD) (l : List Int) (ys zs : List Bool) : Prop where
  len : zs.length = ys.length
  up : ∀ k, ys.getD k false = true → zs.getD k false = true
  all : ∀ x ∈ l, zs.getD x.toNat false = true
  shut : ∀ k (hk : k < gs.length), zs.getD k false = true → ys.getD k false = false → ∀ x ∈ gs[k].args, zs.getD x.toNat false = true
  fair : ∀ k, zs.getD k false = true → ys.getD k false = false → Need gs l k

theorem Went.start (gs : List GateD) (ys : List Bool) : Went gs [] ys ys :=
  ⟨rfl, fun _ h => h, fun x hx => by simp at hx, fun k _ h1 h2 => by rw [h1] at h2; simp at h2, fun k h1 h2 => by rw [h1] at h2; simp at h2⟩

theorem Went.skip {gs : List GateD} {l : List Int} {ys zs : List Bool} (h : Went gs l ys zs) (x : Int) (hx : zs.getD x.toNat false = true) : Went gs (l ++ [x]) ys zs :=
  ⟨h.len, h.up, fun y hy => by
    rcases List.mem_append.1 hy with hy | hy
    · exact h.all y hy
    · simp at hy; rw [hy]; exact hx, h.shut, fun k h1 h2 => (h.fair k h1 h2).mono (fun y hy => List.mem_append.2 (Or.inl hy))⟩

theorem getD_set (zs : List Bool) (n k : Nat) (hn : n < zs.length) : (zs.set n true).getD k false = (if k = n then true else zs.getD k false) := by
  simp only [List.getD_eq_getElem?_getD, List.getElem?_set]
  by_cases e : n = k
  · subst e; simp [hn]
  · rw [if_neg e, if_neg (Ne.symm e)]

theorem Went.step {gs : List GateD} {l : List Int} {ys zs us : List Bool} (h : Went gs l ys zs) (n : Nat) (hn : n < gs.length) (hz : n < zs.length) (h' : Went gs gs[n].args (zs.set n true) us) : Went gs (l ++ [(n : Int)]) ys us := by
  have hup : ∀ k, zs.getD k false = true → us.getD k false = true := by
    intro k hk
    apply h'.up
    rw [getD_set zs n k hz]
    by_cases e : k = n
    · rw [if_pos e]
    · rw [if_neg e]; exact hk
  have hnm : us.getD n false = true := by
    apply h'.up
    rw [getD_set zs n n hz, if_pos rfl]
  have hne : Need gs (l ++ [(n : Int)]) n := by
    have : (n : Int) ∈ l ++ [(n : Int)] := by simp
    have := Need.mem (gs := gs) this
    simpa using this
  refine ⟨by rw [h'.len, List.length_set, h.len], fun k hk => hup k (h.up k hk), ?_, ?_, ?_⟩
  · intro x hx
    rcases List.mem_append.1 hx with hx | hx
    · exact hup _ (h.all x hx)
    · simp at hx; rw [hx]; simpa using hnm
  · intro k hk h1 h2 x hx
    by_cases e : k = n
    · subst e; exact h'.all x hx
    · cases hz2 : zs.getD k false
      · refine h'.shut k hk h1 ?_ x hx
        rw [getD_set zs n k hz, if_neg e]; exact hz2
      · exact hup _ (h.shut k hk hz2 h2 x hx)
  · intro k h1 h2
    by_cases e : k = n
    · subst e; exact hne
    · cases hz2 : zs.getD k false
      · have := h'.fair k h1 (by rw [getD_set zs n k hz, if_neg e]; exact hz2)
        exact this.trans (fun x hx => Need.arg hn hne hx)
      · exact (h.fair k hz2 h2).mono (fun y hy => List.mem_append.2 (Or.inl hy))

theorem getD_none (n k : Nat) : (List.replicate n false).getD k false = false := by
  simp only [List.getD_eq_getElem?_getD, List.getElem?_replicate]
  split <;> rfl

theorem Went.marks {gs : List GateD} {l : List Int} {zs : List Bool} (h : Went gs l (List.replicate gs.length false) zs) : Marks gs l zs := by
  refine ⟨by rw [h.len]; simp, fun k hk => ⟨fun hz => h.fair k hz (getD_none _ _), fun hn => ?_⟩⟩
  exact hn (fun k => zs.getD k false = true) h.all (fun j hj hs x hx => h.shut j hj hs (getD_none _ _) x hx)

/-- How many are not marked. -/
def falses (ys : List Bool) : Nat := (ys.filter (fun b => !b)).length

theorem falses_set (ys : List Bool) : ∀ n, n < ys.length → ys.getD n false = false → falses (ys.set n true) + 1 = falses ys := by
  induction ys with
  | nil => intro n hn; simp at hn
  | cons y ys ih =>
    intro n hn h
    cases n with
    | zero =>
      simp at h; subst h
      simp [falses]
    | succ n =>
      have := ih n (by simpa using hn) (by simpa using h)
      cases y <;> simp_all [falses]

theorem falses_le {ys zs : List Bool} (hl : zs.length = ys.length) (h : ∀ k, ys.getD k false = true → zs.getD k false = true) : falses zs ≤ falses ys := by
  induction ys generalizing zs with
  | nil => have : zs = [] := List.eq_nil_of_length_eq_zero (by simpa using hl); subst this; exact Nat.le_refl _
  | cons y ys ih =>
    cases zs with
    | nil => simp at hl
    | cons z zs =>
      have h0 := h 0
      have hr := ih (zs := zs) (by simpa using hl) (fun k hk => by have := h (k + 1); simpa using this (by simpa using hk))
      simp only [List.getD_cons_zero] at h0
      cases y <;> cases z <;> simp_all [falses] <;> omega

/-- If as few are not marked as before, the marks are the same. -/
theorem falses_eq {ys zs : List Bool} (hl : zs.length = ys.length) (h : ∀ k, ys.getD k false = true → zs.getD k false = true) (he : falses ys ≤ falses zs) : zs = ys := by
  induction ys generalizing zs with
  | nil => exact List.eq_nil_of_length_eq_zero (by simpa using hl)
  | cons y ys ih =>
    cases zs with
    | nil => simp at hl
    | cons z zs =>
      have h0 := h 0
      have ht : ∀ k, ys.getD k false = true → zs.getD k false = true := fun k hk => by have := h (k + 1); simpa using this (by simpa using hk)
      have hle := falses_le (ys := ys) (zs := zs) (by simpa using hl) ht
      simp only [List.getD_cons_zero] at h0
      have hyz : z = y ∧ falses ys ≤ falses zs := by
        cases y <;> cases z <;> simp_all [falses] <;> omega
      rw [hyz.1, ih (by simpa using hl) ht hyz.2]

theorem falses_le_length (ys : List Bool) : falses ys ≤ ys.length := List.length_filter_le _ _

/-- Marks that hold the args of what they hold. -/
def Shut (gs : List GateD) (ys : List Bool) : Prop := ∀ k (hk : k < gs.length), ys.getD k false = true → ∀ x ∈ gs[k].args, ys.getD x.toNat false = true
/-- Marks that hold l, and nothing that is not needed. -/
structure Fair (gs : List GateD) (l : List Int) (ys : List Bool) : Prop where
  len : ys.length = gs.length
  all : ∀ x ∈ l, ys.getD x.toNat false = true
  fair : ∀ k, ys.getD k false = true → Need gs l k

theorem Fair.marks {gs : List GateD} {l : List Int} {ys : List Bool} (h : Fair gs l ys) (hs : Shut gs ys) : Marks gs l ys :=
  ⟨h.len, fun k _ => ⟨h.fair k, fun hn => hn (fun k => ys.getD k false = true) h.all hs⟩⟩

/-- A round: from zs to ys. -/
structure Round (gs : List GateD) (zs ys : List Bool) (k : Nat) : Prop where
  up : ∀ j, zs.getD j false = true → ys.getD j false = true
  done : ∀ j (hj : j < gs.length), j < k → zs.getD j false = true → ∀ x ∈ gs[j].args, ys.getD x.toNat false = true

/-- How far the rounds have come behind r of them. -/
def Came (gs : List GateD) (ys : List Bool) (r : Nat) : Prop := Shut gs ys ∨ r + 1 + falses ys ≤ gs.length

theorem Came.start {gs : List GateD} {l : List Int} {ys : List Bool} (h : Fair gs l ys) (hin : ∀ x ∈ l, x.toNat < gs.length) : Came gs ys 0 := by
  by_cases hl : l = []
  · left
    intro k hk hy
    exact absurd (h.fair k hy) (fun hn => by
      have := hn (fun _ => False) (fun x hx => by rw [hl] at hx; simp at hx) (fun _ _ hf => hf.elim)
      exact this)
  · right
    obtain ⟨x, hx⟩ := List.exists_mem_of_ne_nil l hl
    have hlt := hin x hx
    have hm := h.all x hx
    have hle : falses ys < ys.length := by
      rcases Nat.lt_or_ge (falses ys) ys.length with h1 | h1
      · exact h1
      · exfalso
        have e : ys = List.replicate ys.length false := by
          have := List.length_filter_eq_length_iff.1 (Nat.le_antisymm (List.length_filter_le (fun b => !b) ys) h1)
          rw [List.eq_replicate_iff]
          exact ⟨rfl, fun b hb => by have := this b hb; simpa using this⟩
        rw [e, getD_none] at hm
        simp at hm
    have := h.len
    omega

theorem Came.step {gs : List GateD} {l : List Int} {zs ys : List Bool} {r : Nat} (hz : Fair gs l zs) (hy : Fair gs l ys) (hr : Round gs zs ys gs.length) (hc : Came gs zs r) : Came gs ys (r + 1) := by
  have hlen : ys.length = zs.length := by rw [hz.len, hy.len]
  have same : ys = zs → Shut gs ys := by
    intro e k hk h1 x hx
    exact hr.done k hk hk (by rw [← e]; exact h1) x hx
  rcases hc with hs | hc
  · left
    have hzm := hz.marks hs
    have e : ys = zs := by
      apply falses_eq hlen hr.up
      apply falses_le hlen.symm
      intro k hk
      by_cases hlt : k < gs.length
      · exact (hzm.2 k hlt).2 (hy.fair k hk)
      · exfalso
        rw [List.getD_eq_getElem?_getD, List.getElem?_eq_none (by have := hy.len; omega)] at hk
        simp at hk
    exact same e
  · have hle := falses_le hlen hr.up
    rcases Nat.lt_or_ge (falses ys) (falses zs) with h1 | h1
    · right; omega
    · left; exact same (falses_eq hlen hr.up h1)

theorem Came.shut {gs : List GateD} {ys : List Bool} (hc : Came gs ys gs.length) : Shut gs ys := by
  rcases hc with h | h
  · exact h
  · omega

theorem Fair.set {gs : List GateD} {l : List Int} {ys : List Bool} (h : Fair gs l ys) (n : Nat) (hn : n < gs.length) (hneed : Need gs l n) : Fair gs l (ys.set n true) := by
  have hz : n < ys.length := by rw [h.len]; exact hn
  refine ⟨by rw [List.length_set]; exact h.len, fun x hx => ?_, fun k hk => ?_⟩
  · rw [getD_set ys n _ hz]; split
    · rfl
    · exact h.all x hx
  · rw [getD_set ys n _ hz] at hk
    by_cases e : k = n
    · rw [e]; exact hneed
    · rw [if_neg e] at hk; exact h.fair k hk
theorem up_set (ys : List Bool) (n : Nat) (hn : n < ys.length) (k : Nat) (h : ys.getD k false = true) : (ys.set n true).getD k false = true := by
  rw [getD_set ys n k hn]; split
  · rfl
  · exact h
end Go.Proofs.Ytongajonecgdpae
