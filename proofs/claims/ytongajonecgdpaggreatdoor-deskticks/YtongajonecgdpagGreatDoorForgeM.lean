/- Programs as nets (plain): the smith; how many gates there come to be. -/
import Derived.Test.YtongajonecgdpagGreatDoorWalkM
import Derived.Test.YtongajonecgdpagGreatDoorSweepM
import Derived.Test.YtongajonecgdpagGreatDoorWalkD
namespace Go.Proofs.YtongajonecgdpagGreatDoor
open Go.RowKit

/-- A smith under way: gates, registers, the gates by which each output is put out. -/
structure SmD where
  gates : List GateD
  regs : List (Bool × Int)
  puts : List (List Int)
/-- How many below k may wait. -/
def mayN (p : List NodeD) (k : Nat) : Nat := ((List.range k).filter (fun i => waitK (kindAt p i))).length
def numW (p : List NodeD) : Nat := mayN p p.length
def waitG (p : List NodeD) (k : Nat) : Int := ((7 + mayN p k : Nat) : Int)
def gates0 (p : List NodeD) : List GateD := [⟨2, 0, []⟩, ⟨2, 1, []⟩, ⟨2, 2, []⟩, ⟨3, 0, []⟩, ⟨3, 1, []⟩, ⟨3, 2, []⟩, ⟨3, 3, []⟩] ++ (List.range (numW p)).map (fun i => ⟨3, ((4 + i : Nat) : Int), []⟩)
def regs0 (p : List NodeD) : List (Bool × Int) := [(true, 0), (false, 0), (false, 0), (false, 0)] ++ (List.range (numW p)).map (fun _ => (false, 0))
def smith0 (p : List NodeD) : SmD := ⟨gates0 p, regs0 p, [[], [], []]⟩
def here (s : SmD) : Int := (s.gates.length : Int)
def addG (s : SmD) (kind : Int) (args : List Int) : SmD := { s with gates := s.gates ++ [⟨kind, 0, args⟩] }
/-- The register of a gate takes what another gate has. -/
def storeG (s : SmD) (g next : Int) : SmD := { s with regs := s.regs.set (g - 3).toNat ((s.regs.getD (g - 3).toNat (false, 0)).1, next) }
def putG (s : SmD) (c : Nat) (g : Int) : SmD := { s with puts := s.puts.set c (s.puts.getD c [] ++ [g]) }
def someArgs (p : List NodeD) (k : Nat) : List Int := ((List.range (endP p k)).filter (fun i => decide (k ≤ i) && waitK (kindAt p i))).map (waitG p)
def sigI (p : List NodeD) (k : Nat) : Int := (sigAt p k : Nat)
abbrev PartF := Nat → Int → Int → SmD → SmD × Int
def partF (f : PartF) (p : List NodeD) (goes : Int) (k : Nat) (b : Int) (s : SmD) : SmD × (Int × Int) :=
  let s1 := addG s 5 (someArgs p k)
  let s2 := addG s1 4 [goes, here s]
  let r := f k b (here s1) s2
  let s3 := addG r.1 5 [b, here s1]
  let s4 := addG s3 6 [r.2]
  (addG s4 4 [here r.1, here s3], (r.2, here s4))
def atOnceF (f : PartF) (p : List NodeD) (goes : Int) (k1 : Nat) (b1 : Int) (k2 : Nat) (b2 : Int) (s : SmD) : SmD × Int :=
  let q1 := partF f p goes k1 b1 s
  let q2 := partF f p goes k2 b2 q1.1
  let s1 := addG q2.1 5 [q1.2.2, q2.2.2]
  let s2 := addG s1 6 [here q2.1]
  let s3 := addG s2 5 [q1.2.1, q2.2.1]
  (addG s3 4 [here s2, here s1], here s3)
def choiceF (f : PartF) (p : List NodeD) (is : Int) (k1 k2 : Nat) (b g : Int) (s : SmD) : SmD × Int :=
  let s1 := addG s 4 [b, is]
  let s2 := addG s1 6 [is]
  let s3 := addG s2 4 [b, here s1]
  atOnceF f p g k1 (here s) k2 (here s2) s3
def behindF (f : PartF) (p : List NodeD) (k1 k2 : Nat) (b g : Int) (s : SmD) : SmD × Int :=
  let s1 := addG s 5 (someArgs p k1)
  let s2 := addG s1 4 [g, here s]
  let s3 := addG s2 6 [here s1]
  let s4 := addG s3 4 [g, here s2]
  let r := f k1 b (here s1) s4
  f k2 r.2 (here s3) r.1
def haltF (p : List NodeD) (k : Nat) (b g : Int) (s : SmD) : SmD × Int :=
  let s1 := storeG (addG s 5 [b, g]) (waitG p k) (here s)
  (addG s1 0 [], here s1)
def awaitF (p : List NodeD) (k : Nat) (b g : Int) (s : SmD) : SmD × Int :=
  let s1 := addG s 6 [sigI p k]
  let s2 := addG s1 4 [g, here s]
  let s3 := addG s2 5 [b, here s1]
  let s4 := storeG s3 (waitG p k) (here s2)
  (addG s4 4 [g, sigI p k], here s4)
def nodeF (p : List NodeD) : Nat → Nat → Int → Int → SmD → SmD × Int
  | 0, _, b, _, s => (s, b)
  | m + 1, k, b, g, s =>
    if kindAt p k = 1 then (storeG s (waitG p k) b, g)
    else if kindAt p k = 2 then haltF p k b g s
    else if kindAt p k = 4 then awaitF p k b g s
    else if kindAt p k = 3 then (putG s (sigAt p k) b, b)
    else if kindAt p k = 5 then behindF (nodeF p m) p (k + 1) (endP p (k + 1)) b g s
    else if kindAt p k = 6 then atOnceF (nodeF p m) p g (k + 1) b (endP p (k + 1)) b s
    else if kindAt p k = 7 then choiceF (nodeF p m) p (sigI p k) (k + 1) (endP p (k + 1)) b g s
    else if kindAt p k = 8 then choiceF (nodeF p m) p (4 + sigI p k) (k + 1) (endP p (k + 1)) b g s
    else (s, b)
/-- One output more: whoever puts it out. -/
def outF (s : SmD) (k : Nat) : SmD × Int :=
  let s1 := addG s 5 (s.puts.getD k [])
  (storeG s1 (4 + (k : Nat) : Int) (here s), here s)
def forgeF (p : List NodeD) : SmD × List Int :=
  let s1 := addG (smith0 p) 0 []
  let s2 := storeG s1 3 (here (smith0 p))
  let s3 := addG s2 5 (someArgs p 0)
  let r := (nodeF p p.length 0 3 (here s2) s3).1
  let o0 := outF r 0
  let o1 := outF o0.1 1
  let o2 := outF o1.1 2
  (o2.1, [o0.2, o1.2, o2.2])
def forgeD (p : List NodeD) : NetD := ⟨3, (forgeF p).1.gates, (forgeF p).1.regs, (forgeF p).2⟩

theorem may_lt {p : List NodeD} {i k : Nat} (hik : i < k) (hw : waitK (kindAt p i) = true) : mayN p i < mayN p k := by
  obtain ⟨r, rfl⟩ : ∃ r, k = i + 1 + r := ⟨k - (i + 1), by omega⟩
  unfold mayN
  have h1 : List.range (i + 1 + r) = List.range i ++ [i] ++ (List.range r).map (· + (i + 1)) := by
    rw [List.range_add, List.range_succ]
    simp [Nat.add_comm]
  rw [h1, List.filter_append, List.filter_append, List.length_append, List.length_append]
  simp [hw]
  omega
theorem may_le {p : List NodeD} (k : Nat) : mayN p k ≤ k := by
  unfold mayN
  exact Nat.le_trans (List.length_filter_le _ _) (by simp)
theorem gates0_len (p : List NodeD) : (gates0 p).length = 7 + numW p := by simp [gates0]; omega
theorem regs0_len (p : List NodeD) : (regs0 p).length = 4 + numW p := by simp [regs0]; omega
theorem add_len (s : SmD) (kd : Int) (l : List Int) : (addG s kd l).gates.length = s.gates.length + 1 := by simp [addG]
theorem store_gates (s : SmD) (g n : Int) : (storeG s g n).gates = s.gates := rfl
theorem put_gates (s : SmD) (c : Nat) (g : Int) : (putG s c g).gates = s.gates := rfl
/-- A gate's number that may be asked. -/
def inG (s : SmD) (x : Int) : Prop := 0 ≤ x ∧ x < (s.gates.length : Int)
def total (s : SmD) : Nat := (s.puts.map List.length).sum
structure SmOk (p : List NodeD) (s : SmD) : Prop where
  base : gates0 p <+: s.gates
  rise : ∀ i (hi : i < s.gates.length), ∀ x ∈ s.gates[i].args, 0 ≤ x ∧ x < (i : Int)
  form : ∀ g ∈ s.gates, g.args.length ≤ 16 ∧ (0 ≤ g.kind ∧ g.kind ≤ 6) ∧ numB 3 (4 + numW p) g = true ∧ argB g = true
  regs : s.regs.length = 4 + numW p
  nexts : ∀ r ∈ s.regs, inG s r.2
  puts : s.puts.length = 3
  putIn : ∀ l ∈ s.puts, ∀ x ∈ l, inG s x
theorem inG.add {s : SmD} {x : Int} (h : inG s x) (kd : Int) (l : List Int) : inG (addG s kd l) x := by
  unfold inG at *
  rw [add_len]; omega
theorem inG.new (s : SmD) (kd : Int) (l : List Int) : inG (addG s kd l) (here s) := by
  unfold inG here
  rw [add_len]; omega
theorem SmOk.many {p : List NodeD} {s : SmD} (h : SmOk p s) : 7 + numW p ≤ s.gates.length := by
  have := h.base.length_le
  rwa [gates0_len] at this
theorem SmOk.waitIn {p : List NodeD} {s : SmD} (h : SmOk p s) {k : Nat} (hk : k < p.length) (hw : waitK (kindAt p k) = true) : inG s (waitG p k) ∧ (waitG p k - 3).toNat < s.regs.length := by
  have h1 := h.many
  have h2 : mayN p k < numW p := may_lt hk hw
  have h3 := h.regs
  unfold inG waitG
  omega
theorem SmOk.lowIn {p : List NodeD} {s : SmD} (h : SmOk p s) {x : Int} (h0 : 0 ≤ x) (h1 : x ≤ 6) : inG s x := by
  have := h.many
  unfold inG
  omega
theorem SmOk.add {p : List NodeD} {s : SmD} (h : SmOk p s) (kd : Int) (l : List Int) (hl : ∀ x ∈ l, inG s x) (hk : 4 ≤ kd ∧ kd ≤ 5 ∧ l.length ≤ 16 ∨ kd = 6 ∧ l.length = 1 ∨ kd = 0 ∧ l.length = 0) : SmOk p (addG s kd l) where
  base := h.base.trans (List.prefix_append _ _)
  rise := fun i hi x hx => by
    simp only [addG] at hi hx
    by_cases e : i < s.gates.length
    · rw [List.getElem_append_left e] at hx
      exact h.rise i e x hx
    · have e2 : i = s.gates.length := by simp at hi; omega
      subst e2
      rw [List.getElem_append_right (Nat.le_refl _)] at hx
      exact hl x (by simpa using hx)
  form := fun g hg => by
    rcases List.mem_append.1 hg with h1 | h1
    · exact h.form g h1
    · have : g = ⟨kd, 0, l⟩ := by simpa using h1
      subst this
      refine ⟨by show l.length ≤ 16; omega, by show 0 ≤ kd ∧ kd ≤ 6; omega, ?_, ?_⟩
      · simp only [numB]
        rw [if_neg (by omega), if_neg (by omega)]
        rfl
      · simp only [argB]
        split
        · rename_i h2; simp; have : l.length = 0 := by omega
          simpa using this
        · split
          · rename_i h2; simp; omega
          · rfl
  regs := h.regs
  nexts := fun r hr => (h.nexts r hr).add kd l
  puts := h.puts
  putIn := fun l' hl' x hx => (h.putIn l' hl' x hx).add kd l
theorem SmOk.store {p : List NodeD} {s : SmD} (h : SmOk p s) (g n : Int) (hn : inG s n) : SmOk p (storeG s g n) where
  base := h.base
  rise := h.rise
  form := h.form
  regs := by simp [storeG, h.regs]
  nexts := fun r hr => by
    rcases List.mem_or_eq_of_mem_set hr with h1 | h1
    · exact h.nexts r h1
    · rw [h1]; exact hn
  puts := h.puts
  putIn := h.putIn
theorem SmOk.put {p : List NodeD} {s : SmD} (h : SmOk p s) (c : Nat) (g : Int) (hg : inG s g) : SmOk p (putG s c g) where
  base := h.base
  rise := h.rise
  form := h.form
  regs := h.regs
  nexts := h.nexts
  puts := by simp [putG, h.puts]
  putIn := fun l hl x hx => by
    rcases List.mem_or_eq_of_mem_set hl with h1 | h1
    · exact h.putIn l h1 x hx
    · rw [h1] at hx
      rcases List.mem_append.1 hx with h2 | h2
      · by_cases hc : c < s.puts.length
        · rw [List.getD_eq_getElem?_getD, List.getElem?_eq_getElem hc] at h2
          exact h.putIn _ (List.getElem_mem hc) x h2
        · rw [List.getD_eq_getElem?_getD, List.getElem?_eq_none (by omega)] at h2
          simp at h2
      · have : x = g := by simpa using h2
        rw [this]; exact hg
theorem smith0_ok (p : List NodeD) : SmOk p (smith0 p) where
  base := List.prefix_refl _
  rise := fun i hi x hx => by
    have : ∀ g ∈ gates0 p, g.args = [] := by
      intro g hg
      simp only [gates0, List.mem_append, List.mem_map, List.mem_cons] at hg
      rcases hg with hg | ⟨a, _, rfl⟩
      · rcases hg with rfl | rfl | rfl | rfl | rfl | rfl | rfl | h <;> first | rfl | simp at h
      · rfl
    have h1 : (smith0 p).gates[i].args = [] := this _ (List.getElem_mem hi)
    rw [h1] at hx
    simp at hx
  form := fun g hg => by
    simp only [smith0, gates0, List.mem_append, List.mem_map, List.mem_cons, List.mem_range] at hg
    rcases hg with hg | ⟨a, ha, rfl⟩
    · rcases hg with rfl | rfl | rfl | rfl | rfl | rfl | rfl | h <;> first | (simp at h; done) | (simp [numB, argB, isB] <;> omega)
    · simp [numB, argB, isB]; omega
  regs := regs0_len p
  nexts := fun r hr => by
    have : r.2 = 0 := by
      simp only [smith0, regs0, List.mem_append, List.mem_map, List.mem_cons] at hr
      rcases hr with hr | ⟨a, _, rfl⟩
      · rcases hr with rfl | rfl | rfl | rfl | h <;> first | rfl | simp at h
      · rfl
    unfold inG smith0
    rw [this, gates0_len]
    omega
  puts := rfl
  putIn := fun l hl x hx => by
    simp only [smith0, List.mem_cons] at hl
    rcases hl with rfl | rfl | rfl | h <;> simp_all
theorem some_few {p : List NodeD} (hok : POk p) {k : Nat} (hk : k < p.length) : (someArgs p k).length ≤ 14 := by
  unfold someArgs
  rw [List.length_map]
  have h1 := List.length_filter_le (fun i => decide (k ≤ i) && waitK (kindAt p i)) (List.range (endP p k))
  have h2 := end_le hok.form hk
  have h3 := hok.few
  simp at h1
  omega
theorem some_in {p : List NodeD} (hok : POk p) {s : SmD} (h : SmOk p s) {k : Nat} (hk : k < p.length) : ∀ x ∈ someArgs p k, inG s x := by
  intro x hx
  unfold someArgs at hx
  obtain ⟨i, hi, rfl⟩ := List.mem_map.1 hx
  simp only [List.mem_filter, List.mem_range, Bool.and_eq_true] at hi
  exact (h.waitIn (Nat.lt_of_lt_of_le hi.1 (end_le hok.form hk)) hi.2.2).1

/-- What comes of a node: more gates, not too many. -/
structure Made (p : List NodeD) (sz : Nat) (s : SmD) (t : SmD) (o : Int) : Prop where
  ok : SmOk p t
  over : inG t o
  grew : s.gates <+: t.gates
  few : 2 * t.gates.length + 13 ≤ 2 * s.gates.length + 21 * sz
  puts : total t ≤ total s + sz
theorem inG.on {s t : SmD} {x : Int} (h : inG s x) (hg : s.gates <+: t.gates) : inG t x := by
  have := hg.length_le
  unfold inG at *
  omega
theorem grew_add (s : SmD) (kd : Int) (l : List Int) : s.gates <+: (addG s kd l).gates := List.prefix_append _ _
theorem total_add (s : SmD) (kd : Int) (l : List Int) : total (addG s kd l) = total s := rfl
theorem total_store (s : SmD) (g n : Int) : total (storeG s g n) = total s := rfl
theorem total_put (s : SmD) (c : Nat) (g : Int) : total (putG s c g) ≤ total s + 1 := by
  have key : ∀ (l : List (List Int)) (c : Nat), ((l.set c (l.getD c [] ++ [g])).map List.length).sum ≤ (l.map List.length).sum + 1 := by
    intro l
    induction l with
    | nil => intro c; simp
    | cons x l ih =>
      intro c
      cases c with
      | zero => simp; omega
      | succ c => have := ih c; simp at this ⊢; omega
  exact key _ _
def Good (p : List NodeD) (m : Nat) (f : PartF) : Prop := ∀ k b g s, k < p.length → endP p k - k ≤ m → SmOk p s → inG s b → inG s g → Made p (endP p k - k) s (f k b g s).1 (f k b g s).2
theorem part_made {p : List NodeD} (hok : POk p) {m : Nat} {f : PartF} (hf : Good p m f) {k : Nat} {g b : Int} {s : SmD} (hk : k < p.length) (hm : endP p k - k ≤ m) (h : SmOk p s) (hb : inG s b) (hg : inG s g) :
    SmOk p (partF f p g k b s).1 ∧ inG (partF f p g k b s).1 (partF f p g k b s).2.1 ∧ inG (partF f p g k b s).1 (partF f p g k b s).2.2 ∧ s.gates <+: (partF f p g k b s).1.gates ∧ 2 * (partF f p g k b s).1.gates.length + 3 ≤ 2 * s.gates.length + 21 * (endP p k - k) ∧ total (partF f p g k b s).1 ≤ total s + (endP p k - k) := by
  have hfw := some_few hok hk
  have h1 := h.add 5 (someArgs p k) (some_in hok h hk) (Or.inl ⟨by omega, by omega, by omega⟩)
  have n1 := inG.new s 5 (someArgs p k)
  have h2 := h1.add 4 [g, here s] (fun x hx => by rcases List.mem_cons.1 hx with rfl | hx; exact hg.add _ _; (have : x = here s := by simpa using hx); rw [this]; exact n1) (Or.inl ⟨by omega, by omega, by simp⟩)
  have n2 := inG.new (addG s 5 (someArgs p k)) 4 [g, here s]
  have r := hf k b (here (addG s 5 (someArgs p k))) _ hk hm h2 ((hb.add _ _).add _ _) n2
  unfold partF
  simp only []
  generalize hr : f k b (here (addG s 5 (someArgs p k))) (addG (addG s 5 (someArgs p k)) 4 [g, here s]) = R at r ⊢
  obtain ⟨t, o⟩ := R
  have hb' := ((hb.add 5 (someArgs p k)).add 4 [g, here s]).on r.grew
  have n2' := n2.on r.grew
  have h3 := r.ok.add 5 [b, here (addG s 5 (someArgs p k))] (fun x hx => by rcases List.mem_cons.1 hx with rfl | hx; exact hb'; (have : x = here (addG s 5 (someArgs p k)) := by simpa using hx); rw [this]; exact n2') (Or.inl ⟨by omega, by omega, by simp⟩)
  have n3 := inG.new t 5 [b, here (addG s 5 (someArgs p k))]
  have h4 := h3.add 6 [o] (fun x hx => by (have : x = o := by simpa using hx); rw [this]; exact r.over.add _ _) (Or.inr (Or.inl ⟨rfl, rfl⟩))
  have n4 := inG.new (addG t 5 [b, here (addG s 5 (someArgs p k))]) 6 [o]
  have h5 := h4.add 4 [here t, here (addG t 5 [b, here (addG s 5 (someArgs p k))])] (fun x hx => by rcases List.mem_cons.1 hx with rfl | hx; exact n3.add _ _; (have : x = here (addG t 5 [b, here (addG s 5 (someArgs p k))]) := by simpa using hx); rw [this]; exact n4) (Or.inl ⟨by omega, by omega, by simp⟩)
  refine ⟨h5, ((r.over.add _ _).add _ _).add _ _, inG.new _ _ _, ?_, ?_, ?_⟩
  · exact ((((grew_add _ _ _).trans (grew_add _ _ _)).trans r.grew).trans (grew_add _ _ _)).trans ((grew_add _ _ _).trans (grew_add _ _ _))
  · have := r.few
    simp only [add_len] at this ⊢
    omega
  · have := r.puts
    simp only [total_add] at this ⊢
    exact this
theorem atOnce_made {p : List NodeD} (hok : POk p) {m : Nat} {f : PartF} (hf : Good p m f) {k1 k2 : Nat} {g b1 b2 : Int} {s : SmD} (hk1 : k1 < p.length) (hk2 : k2 < p.length) (hm1 : endP p k1 - k1 ≤ m) (hm2 : endP p k2 - k2 ≤ m) (h : SmOk p s) (hb1 : inG s b1) (hb2 : inG s b2) (hg : inG s g) :
    SmOk p (atOnceF f p g k1 b1 k2 b2 s).1 ∧ inG (atOnceF f p g k1 b1 k2 b2 s).1 (atOnceF f p g k1 b1 k2 b2 s).2 ∧ s.gates <+: (atOnceF f p g k1 b1 k2 b2 s).1.gates ∧ 2 * (atOnceF f p g k1 b1 k2 b2 s).1.gates.length ≤ 2 * s.gates.length + 21 * ((endP p k1 - k1) + (endP p k2 - k2)) + 2 ∧ total (atOnceF f p g k1 b1 k2 b2 s).1 ≤ total s + ((endP p k1 - k1) + (endP p k2 - k2)) := by
  obtain ⟨a1, a2, a3, a4, a5, a6⟩ := part_made hok hf hk1 hm1 h hb1 hg
  unfold atOnceF
  simp only []
  generalize partF f p g k1 b1 s = q1 at a1 a2 a3 a4 a5 a6 ⊢
  obtain ⟨t1, o1, l1⟩ := q1
  obtain ⟨c1, c2, c3, c4, c5, c6⟩ := part_made hok hf hk2 hm2 a1 (hb2.on a4) (hg.on a4)
  generalize partF f p g k2 b2 t1 = q2 at c1 c2 c3 c4 c5 c6 ⊢
  obtain ⟨t2, o2, l2⟩ := q2
  simp only [] at *
  have h1 := c1.add 5 [l1, l2] (fun x hx => by rcases List.mem_cons.1 hx with rfl | hx; exact a3.on c4; (have : x = l2 := by simpa using hx); rw [this]; exact c3) (Or.inl ⟨by omega, by omega, by simp⟩)
  have n1 := inG.new t2 5 [l1, l2]
  have h2 := h1.add 6 [here t2] (fun x hx => by (have : x = here t2 := by simpa using hx); rw [this]; exact n1) (Or.inr (Or.inl ⟨rfl, rfl⟩))
  have n2 := inG.new (addG t2 5 [l1, l2]) 6 [here t2]
  have h3 := h2.add 5 [o1, o2] (fun x hx => by rcases List.mem_cons.1 hx with rfl | hx; exact ((a2.on c4).add _ _).add _ _; (have : x = o2 := by simpa using hx); rw [this]; exact (c2.add _ _).add _ _) (Or.inl ⟨by omega, by omega, by simp⟩)
  have n3 := inG.new (addG (addG t2 5 [l1, l2]) 6 [here t2]) 5 [o1, o2]
  have h4 := h3.add 4 [here (addG (addG t2 5 [l1, l2]) 6 [here t2]), here (addG t2 5 [l1, l2])] (fun x hx => by rcases List.mem_cons.1 hx with rfl | hx; exact n3; (have : x = here (addG t2 5 [l1, l2]) := by simpa using hx); rw [this]; exact n2.add _ _) (Or.inl ⟨by omega, by omega, by simp⟩)
  refine ⟨h4, inG.new _ _ _, ?_, ?_, ?_⟩
  · exact (a4.trans c4).trans (((grew_add _ _ _).trans (grew_add _ _ _)).trans ((grew_add _ _ _).trans (grew_add _ _ _)))
  · simp only [add_len]
    omega
  · simp only [total_add]
    omega
theorem choice_made {p : List NodeD} (hok : POk p) {m : Nat} {f : PartF} (hf : Good p m f) {k1 k2 : Nat} {is g b : Int} {s : SmD} (hk1 : k1 < p.length) (hk2 : k2 < p.length) (hm1 : endP p k1 - k1 ≤ m) (hm2 : endP p k2 - k2 ≤ m) (h : SmOk p s) (hi : inG s is) (hb : inG s b) (hg : inG s g) :
    SmOk p (choiceF f p is k1 k2 b g s).1 ∧ inG (choiceF f p is k1 k2 b g s).1 (choiceF f p is k1 k2 b g s).2 ∧ s.gates <+: (choiceF f p is k1 k2 b g s).1.gates ∧ 2 * (choiceF f p is k1 k2 b g s).1.gates.length ≤ 2 * s.gates.length + 21 * ((endP p k1 - k1) + (endP p k2 - k2)) + 8 ∧ total (choiceF f p is k1 k2 b g s).1 ≤ total s + ((endP p k1 - k1) + (endP p k2 - k2)) := by
  have h1 := h.add 4 [b, is] (fun x hx => by rcases List.mem_cons.1 hx with rfl | hx; exact hb; (have : x = is := by simpa using hx); rw [this]; exact hi) (Or.inl ⟨by omega, by omega, by simp⟩)
  have n1 := inG.new s 4 [b, is]
  have h2 := h1.add 6 [is] (fun x hx => by (have : x = is := by simpa using hx); rw [this]; exact hi.add _ _) (Or.inr (Or.inl ⟨rfl, rfl⟩))
  have n2 := inG.new (addG s 4 [b, is]) 6 [is]
  have h3 := h2.add 4 [b, here (addG s 4 [b, is])] (fun x hx => by rcases List.mem_cons.1 hx with rfl | hx; exact (hb.add _ _).add _ _; (have : x = here (addG s 4 [b, is]) := by simpa using hx); rw [this]; exact n2) (Or.inl ⟨by omega, by omega, by simp⟩)
  have n3 := inG.new (addG (addG s 4 [b, is]) 6 [is]) 4 [b, here (addG s 4 [b, is])]
  obtain ⟨a1, a2, a3, a4, a5⟩ := atOnce_made hok hf hk1 hk2 hm1 hm2 h3 ((n1.add _ _).add _ _) n3 (((hg.add _ _).add _ _).add _ _)
  unfold choiceF
  simp only []
  refine ⟨a1, a2, ?_, ?_, ?_⟩
  · exact (((grew_add _ _ _).trans (grew_add _ _ _)).trans (grew_add _ _ _)).trans a3
  · simp only [add_len] at a4
    omega
  · simp only [total_add] at a5
    exact a5
theorem behind_made {p : List NodeD} (hok : POk p) {m : Nat} {f : PartF} (hf : Good p m f) {k1 k2 : Nat} {g b : Int} {s : SmD} (hk1 : k1 < p.length) (hk2 : k2 < p.length) (hm1 : endP p k1 - k1 ≤ m) (hm2 : endP p k2 - k2 ≤ m) (h : SmOk p s) (hb : inG s b) (hg : inG s g) :
    SmOk p (behindF f p k1 k2 b g s).1 ∧ inG (behindF f p k1 k2 b g s).1 (behindF f p k1 k2 b g s).2 ∧ s.gates <+: (behindF f p k1 k2 b g s).1.gates ∧ 2 * (behindF f p k1 k2 b g s).1.gates.length + 18 ≤ 2 * s.gates.length + 21 * ((endP p k1 - k1) + (endP p k2 - k2)) ∧ total (behindF f p k1 k2 b g s).1 ≤ total s + ((endP p k1 - k1) + (endP p k2 - k2)) := by
  have hfw := some_few hok hk1
  have h1 := h.add 5 (someArgs p k1) (some_in hok h hk1) (Or.inl ⟨by omega, by omega, by omega⟩)
  have n1 := inG.new s 5 (someArgs p k1)
  have h2 := h1.add 4 [g, here s] (fun x hx => by rcases List.mem_cons.1 hx with rfl | hx; exact hg.add _ _; (have : x = here s := by simpa using hx); rw [this]; exact n1) (Or.inl ⟨by omega, by omega, by simp⟩)
  have n2 := inG.new (addG s 5 (someArgs p k1)) 4 [g, here s]
  have h3 := h2.add 6 [here (addG s 5 (someArgs p k1))] (fun x hx => by (have : x = here (addG s 5 (someArgs p k1)) := by simpa using hx); rw [this]; exact n2) (Or.inr (Or.inl ⟨rfl, rfl⟩))
  have n3 := inG.new (addG (addG s 5 (someArgs p k1)) 4 [g, here s]) 6 [here (addG s 5 (someArgs p k1))]
  have h4 := h3.add 4 [g, here (addG (addG s 5 (someArgs p k1)) 4 [g, here s])] (fun x hx => by rcases List.mem_cons.1 hx with rfl | hx; exact ((hg.add _ _).add _ _).add _ _; (have : x = here (addG (addG s 5 (someArgs p k1)) 4 [g, here s]) := by simpa using hx); rw [this]; exact n3) (Or.inl ⟨by omega, by omega, by simp⟩)
  have n4 := inG.new (addG (addG (addG s 5 (someArgs p k1)) 4 [g, here s]) 6 [here (addG s 5 (someArgs p k1))]) 4 [g, here (addG (addG s 5 (someArgs p k1)) 4 [g, here s])]
  have r := hf k1 b (here (addG s 5 (someArgs p k1))) _ hk1 hm1 h4 ((((hb.add _ _).add _ _).add _ _).add _ _) ((n2.add _ _).add _ _)
  unfold behindF
  simp only []
  generalize f k1 b (here (addG s 5 (someArgs p k1))) (addG (addG (addG (addG s 5 (someArgs p k1)) 4 [g, here s]) 6 [here (addG s 5 (someArgs p k1))]) 4 [g, here (addG (addG s 5 (someArgs p k1)) 4 [g, here s])]) = R at r ⊢
  obtain ⟨t, o⟩ := R
  have r2 := hf k2 o (here (addG (addG (addG s 5 (someArgs p k1)) 4 [g, here s]) 6 [here (addG s 5 (someArgs p k1))])) t hk2 hm2 r.ok r.over (n4.on r.grew)
  refine ⟨r2.ok, r2.over, ?_, ?_, ?_⟩
  · exact ((((grew_add _ _ _).trans (grew_add _ _ _)).trans ((grew_add _ _ _).trans (grew_add _ _ _))).trans r.grew).trans r2.grew
  · have a := r.few
    have c := r2.few
    simp only [add_len] at a c ⊢
    omega
  · have a := r.puts
    have c := r2.puts
    simp only [total_add] at a c ⊢
    omega
theorem node_made {p : List NodeD} (hok : POk p) : ∀ m, Good p m (nodeF p m)
  | 0 => fun k b g s hk hm _ _ _ => by have := end_gt hk; omega
  | m + 1 => fun k b g s hk hm h hb hg => by
    have ih := node_made hok m
    have hgt := end_gt hk
    have hkk := kindAt_get hk
    have hsg := hok.sigs p[k] (List.getElem_mem hk)
    have hsig : sigI p k = p[k].sig := by simp [sigI, sigAt, List.getD_eq_getElem?_getD, hk]; omega
    have hs2 : 0 ≤ sigI p k ∧ sigI p k ≤ 2 := by
      rw [hsig]
      refine ⟨hsg.1, ?_⟩
      have := hsg.2
      unfold mostS at this
      split at this <;> omega
    have hw : ∀ x, kindAt p k = x → (x = 1 ∨ x = 2 ∨ x = 4) → inG s (waitG p k) := fun x e hx => (h.waitIn hk (by rw [e]; rcases hx with rfl | rfl | rfl <;> rfl)).1
    have hsgI := h.lowIn hs2.1 (by omega)
    have hnode : ∀ x, kindAt p k = x → hasP x = true → k + 1 < p.length ∧ endP p (k + 1) < p.length ∧ endP p (k + 1) - (k + 1) ≤ m ∧ endP p (endP p (k + 1)) - endP p (k + 1) ≤ m ∧ endP p k - k = 1 + ((endP p (k + 1) - (k + 1)) + (endP p (endP p (k + 1)) - endP p (k + 1))) := fun x e hx => by
      have hp : hasP p[k].kind = true := by rw [← hkk, e]; exact hx
      obtain ⟨t1, t2⟩ := end_two hok.form hk hp
      have hn := end_node hk hp
      have g1 := end_gt t1
      have g2 := end_gt t2
      omega
    unfold nodeF
    split
    · refine ⟨h.store _ _ hb, hg, List.prefix_refl _, ?_, ?_⟩
      · rw [store_gates]; omega
      · rw [total_store]; omega
    split
    · have h1 := h.add 5 [b, g] (fun x hx => by rcases List.mem_cons.1 hx with rfl | hx; exact hb; (have : x = g := by simpa using hx); rw [this]; exact hg) (Or.inl ⟨by omega, by omega, by simp⟩)
      have h2 := h1.store (waitG p k) (here s) (inG.new _ _ _)
      have h3 := h2.add 0 [] (fun x hx => by simp at hx) (Or.inr (Or.inr ⟨rfl, rfl⟩))
      refine ⟨h3, inG.new _ _ _, (grew_add _ _ _).trans (grew_add _ _ _), ?_, ?_⟩
      · simp only [haltF, add_len, store_gates]; omega
      · show total s ≤ _; omega
    split
    · have h1 := h.add 6 [sigI p k] (fun x hx => by (have : x = sigI p k := by simpa using hx); rw [this]; exact hsgI) (Or.inr (Or.inl ⟨rfl, rfl⟩))
      have n1 := inG.new s 6 [sigI p k]
      have h2 := h1.add 4 [g, here s] (fun x hx => by rcases List.mem_cons.1 hx with rfl | hx; exact hg.add _ _; (have : x = here s := by simpa using hx); rw [this]; exact n1) (Or.inl ⟨by omega, by omega, by simp⟩)
      have n2 := inG.new (addG s 6 [sigI p k]) 4 [g, here s]
      have h3 := h2.add 5 [b, here (addG s 6 [sigI p k])] (fun x hx => by rcases List.mem_cons.1 hx with rfl | hx; exact (hb.add _ _).add _ _; (have : x = here (addG s 6 [sigI p k]) := by simpa using hx); rw [this]; exact n2) (Or.inl ⟨by omega, by omega, by simp⟩)
      have h4 := h3.store (waitG p k) (here (addG (addG s 6 [sigI p k]) 4 [g, here s])) (inG.new _ _ _)
      have h5 := h4.add 4 [g, sigI p k] (fun x hx => by rcases List.mem_cons.1 hx with rfl | hx; exact ((hg.add _ _).add _ _).add _ _; (have : x = sigI p k := by simpa using hx); rw [this]; exact ((hsgI.add _ _).add _ _).add _ _) (Or.inl ⟨by omega, by omega, by simp⟩)
      refine ⟨h5, inG.new _ _ _, ((grew_add _ _ _).trans (grew_add _ _ _)).trans ((grew_add _ _ _).trans (grew_add _ _ _)), ?_, ?_⟩
      · simp only [awaitF, add_len, store_gates]; omega
      · show total s ≤ _; omega
    split
    · refine ⟨h.put _ _ hb, hb, List.prefix_refl _, ?_, ?_⟩
      · rw [put_gates]; omega
      · have := total_put s (sigAt p k) b; simp only []; omega
    split
    · rename_i e
      obtain ⟨t1, t2, t3, t4, t5⟩ := hnode _ e rfl
      obtain ⟨a1, a2, a3, a4, a5⟩ := behind_made hok ih t1 t2 t3 t4 h hb hg
      exact ⟨a1, a2, a3, by omega, by omega⟩
    split
    · rename_i e
      obtain ⟨t1, t2, t3, t4, t5⟩ := hnode _ e rfl
      obtain ⟨a1, a2, a3, a4, a5⟩ := atOnce_made hok ih t1 t2 t3 t4 h hb hb hg
      exact ⟨a1, a2, a3, by omega, by omega⟩
    split
    · rename_i e
      obtain ⟨t1, t2, t3, t4, t5⟩ := hnode _ e rfl
      obtain ⟨a1, a2, a3, a4, a5⟩ := choice_made hok ih t1 t2 t3 t4 h hsgI hb hg
      exact ⟨a1, a2, a3, by omega, by omega⟩
    split
    · rename_i e
      obtain ⟨t1, t2, t3, t4, t5⟩ := hnode _ e rfl
      obtain ⟨a1, a2, a3, a4, a5⟩ := choice_made hok ih t1 t2 t3 t4 h (h.lowIn (x := 4 + sigI p k) (by omega) (by omega)) hb hg
      exact ⟨a1, a2, a3, by omega, by omega⟩
    · exact ⟨h, hb, List.prefix_refl _, by simp only []; omega, by simp only []; omega⟩

theorem end_all {p : List NodeD} (hok : POk p) : endP p 0 = p.length := by
  have hpos : 0 < p.length := ok_some (o := 0) hok.form
  have he := end_le hok.form hpos
  obtain ⟨h1, h2, _⟩ := ok_split p 1 0 hok.form
  have h3 := congrArg List.length (ok_none h2)
  simp at h3
  unfold endP
  rw [List.drop_zero, Nat.zero_add]
  omega
theorem total_get {s : SmD} (hp : s.puts.length = 3) (k : Nat) : (s.puts.getD k []).length ≤ total s := by
  unfold total
  generalize s.puts = l at hp ⊢
  match l, hp with
  | [a, b, c], _ =>
    match k with
    | 0 => simp
    | 1 => simp; omega
    | 2 => simp; omega
    | k + 3 => simp
theorem out_made {p : List NodeD} {s : SmD} (h : SmOk p s) (ht : total s ≤ 14) (k : Nat) : SmOk p (outF s k).1 ∧ inG (outF s k).1 (outF s k).2 ∧ s.gates <+: (outF s k).1.gates ∧ (outF s k).1.gates.length = s.gates.length + 1 ∧ (outF s k).1.puts = s.puts := by
  have h1 := h.add 5 (s.puts.getD k []) (fun x hx => by
    by_cases hc : k < s.puts.length
    · rw [List.getD_eq_getElem?_getD, List.getElem?_eq_getElem hc] at hx
      exact h.putIn _ (List.getElem_mem hc) x hx
    · rw [List.getD_eq_getElem?_getD, List.getElem?_eq_none (by omega)] at hx
      simp at hx) (Or.inl ⟨by omega, by omega, by have := total_get h.puts k; omega⟩)
  exact ⟨h1.store _ _ (inG.new _ _ _), inG.new _ _ _, grew_add _ _ _, add_len _ _ _, rfl⟩
/-- The smith behind all nodes. -/
def mid (p : List NodeD) : SmD × Int :=
  let s1 := addG (smith0 p) 0 []
  let s2 := storeG s1 3 (here (smith0 p))
  let s3 := addG s2 5 (someArgs p 0)
  nodeF p p.length 0 3 (here s2) s3
theorem forge_eq (p : List NodeD) : forgeF p = ((outF (outF (outF (mid p).1 0).1 1).1 2).1, [(outF (mid p).1 0).2, (outF (outF (mid p).1 0).1 1).2, (outF (outF (outF (mid p).1 0).1 1).1 2).2]) := rfl
theorem mid_made {p : List NodeD} (hok : POk p) : SmOk p (mid p).1 ∧ (mid p).1.gates.length ≤ 180 ∧ total (mid p).1 ≤ 14 ∧ (addG (storeG (addG (smith0 p) 0 []) 3 (here (smith0 p))) 5 (someArgs p 0)).gates <+: (mid p).1.gates := by
  have hpos : 0 < p.length := ok_some (o := 0) hok.form
  have hfew := hok.few
  have h0 := smith0_ok p
  have h1 := h0.add 0 [] (fun x hx => by simp at hx) (Or.inr (Or.inr ⟨rfl, rfl⟩))
  have h2 := h1.store 3 (here (smith0 p)) (inG.new _ _ _)
  have hsf := some_few hok hpos
  have h3 := h2.add 5 (someArgs p 0) (some_in hok h2 hpos) (Or.inl ⟨by omega, by omega, by omega⟩)
  have hm := node_made hok p.length 0 3 (here (storeG (addG (smith0 p) 0 []) 3 (here (smith0 p)))) _ hpos (by rw [end_all hok]; omega) h3 (h3.lowIn (x := 3) (by omega) (by omega)) (inG.new _ _ _)
  rw [end_all hok] at hm
  refine ⟨hm.ok, ?_, ?_, hm.grew⟩
  · have := hm.few
    have h4 := gates0_len p
    have h5 : numW p ≤ p.length := may_le _
    have h6 : (smith0 p).gates.length = 7 + numW p := h4
    simp only [add_len, store_gates] at this
    unfold mid
    simp only []
    omega
  · have := hm.puts
    have h4 : total (smith0 p) = 0 := rfl
    simp only [total_add, total_store] at this
    unfold mid
    simp only []
    omega
theorem forge_made {p : List NodeD} (hok : POk p) : SmOk p (forgeF p).1 ∧ (∀ x ∈ (forgeF p).2, inG (forgeF p).1 x) ∧ (forgeF p).1.gates.length ≤ 200 ∧ (mid p).1.gates <+: (forgeF p).1.gates := by
  obtain ⟨h1, h2, h3, _⟩ := mid_made hok
  obtain ⟨a1, a2, a3, a4, a5⟩ := out_made h1 h3 0
  have t1 : total (outF (mid p).1 0).1 ≤ 14 := by unfold total at h3 ⊢; rw [a5]; exact h3
  obtain ⟨b1, b2, b3, b4, b5⟩ := out_made a1 t1 1
  have t2 : total (outF (outF (mid p).1 0).1 1).1 ≤ 14 := by unfold total at t1 ⊢; rw [b5]; exact t1
  obtain ⟨c1, c2, c3, c4, c5⟩ := out_made b1 t2 2
  rw [forge_eq]
  refine ⟨c1, ?_, by simp only []; omega, (a3.trans b3).trans c3⟩
  intro x hx
  simp only [List.mem_cons] at hx
  rcases hx with rfl | rfl | rfl | h
  · exact (a2.on b3).on c3
  · exact b2.on c3
  · exact c2
  · simp at h
theorem forge_ok {p : List NodeD} (hok : POk p) : NOk (forgeD p) := by
  obtain ⟨h1, h2, h3, _⟩ := forge_made hok
  have hr := h1.regs
  have hw : numW p ≤ p.length := may_le _
  have hfew := hok.few
  refine ⟨⟨by show (0 : Int) ≤ 3; decide, by show (3 : Int) ≤ 3; decide⟩, h3, by show (forgeF p).1.regs.length ≤ 20; omega, by show [_, _, _].length ≤ 3; simp, fun g hg => ?_, fun r hr => h1.nexts r hr, fun x hx => h2 x hx⟩
  obtain ⟨f1, f2, f3, f4⟩ := h1.form g hg
  obtain ⟨i, hi, rfl⟩ := List.mem_iff_getElem.1 hg
  refine ⟨f1, fun x hx => ?_, f2, ?_, f4⟩
  · have := h1.rise i hi x hx
    have hi' : i < (forgeF p).1.gates.length := hi
    show 0 ≤ x ∧ x < ((forgeF p).1.gates.length : Int)
    omega
  · show numB 3 ((forgeF p).1.regs.length : Nat) _ = true
    rw [hr]; exact f3
theorem forge_rise {p : List NodeD} (hok : POk p) : ∀ i (hi : i < (forgeD p).gates.length), ∀ x ∈ (forgeD p).gates[i].args, 0 ≤ x ∧ x < (i : Int) := (forge_made hok).1.rise

/-- What a gate tells of others. -/
def opB (kd : Int) (l : List Int) (V : Int → Bool) : Bool := if kd = 4 then l.all V else if kd = 5 then l.any V else if kd = 6 then !(V (l.getD 0 0)) else false
/-- What all gates tell: V; ws, wo: who waits, what was put out; ins: the inputs. -/
structure Env (p : List NodeD) (F : List GateD) (V : Int → Bool) (ws wo : List Bool) (ins : List Int) : Prop where
  new : ∀ (s : SmD) (kd : Int) (l : List Int), (addG s kd l).gates <+: F → kd = 0 ∨ kd = 4 ∨ kd = 5 ∨ kd = 6 → V (here s) = opB kd l V
  inp : ∀ c : Nat, c ≤ 2 → V (c : Int) = (ins.getD c 0 == 1)
  bit : ∀ c : Nat, ins.getD c 0 = 0 ∨ ins.getD c 0 = 1
  was : ∀ c : Nat, c ≤ 2 → V (4 + (c : Int)) = wo.getD c false
  wait : ∀ k, k < p.length → waitK (kindAt p k) = true → V (waitG p k) = ws.getD k false
  may : ∀ i, ws.getD i false = true → waitK (kindAt p i) = true
theorem Env.all {p : List NodeD} {F : List GateD} {V : Int → Bool} {ws wo : List Bool} {ins : List Int} (h : Env p F V ws wo ins) {s : SmD} {x y : Int} (hp : (addG s 4 [x, y]).gates <+: F) : V (here s) = (V x && V y) := by
  rw [h.new s 4 [x, y] hp (by simp)]; simp [opB]
theorem Env.any {p : List NodeD} {F : List GateD} {V : Int → Bool} {ws wo : List Bool} {ins : List Int} (h : Env p F V ws wo ins) {s : SmD} {x y : Int} (hp : (addG s 5 [x, y]).gates <+: F) : V (here s) = (V x || V y) := by
  rw [h.new s 5 [x, y] hp (by simp)]; simp [opB]
theorem Env.not {p : List NodeD} {F : List GateD} {V : Int → Bool} {ws wo : List Bool} {ins : List Int} (h : Env p F V ws wo ins) {s : SmD} {x : Int} (hp : (addG s 6 [x]).gates <+: F) : V (here s) = !(V x) := by
  rw [h.new s 6 [x] hp (by simp)]; simp [opB]
theorem Env.never {p : List NodeD} {F : List GateD} {V : Int → Bool} {ws wo : List Bool} {ins : List Int} (h : Env p F V ws wo ins) {s : SmD} {l : List Int} (hp : (addG s 0 l).gates <+: F) : V (here s) = false := by
  rw [h.new s 0 l hp (by simp)]; simp [opB]
theorem Env.some {p : List NodeD} {F : List GateD} {V : Int → Bool} {ws wo : List Bool} {ins : List Int} (h : Env p F V ws wo ins) (hok : POk p) {s : SmD} {k : Nat} (hk : k < p.length) (hp : (addG s 5 (someArgs p k)).gates <+: F) : V (here s) = someP p ws k := by
  rw [h.new s 5 (someArgs p k) hp (by simp)]
  have he := end_le hok.form hk
  rw [Bool.eq_iff_iff, some_iff]
  simp only [opB, if_neg (show ¬ (5 : Int) = 4 by decide), if_pos, someArgs, List.any_map, List.any_eq_true, List.mem_filter, List.mem_range, Bool.and_eq_true, decide_eq_true_iff, Function.comp]
  constructor
  · rintro ⟨i, ⟨h1, h2, h3⟩, h4⟩
    rw [h.wait i (by omega) h3] at h4
    exact ⟨i, h2, h1, h4⟩
  · rintro ⟨i, h1, h2, h3⟩
    have hw := h.may i h3
    exact ⟨i, ⟨h2, h1, hw⟩, by rw [h.wait i (by omega) hw]; exact h3⟩
/-- The gate that node i's register takes. -/
def nextOf (p : List NodeD) (s : SmD) (i : Nat) : Int := (s.regs.getD (4 + mayN p i) (false, 0)).2
/-- The nodes below k tell what comes next. -/
structure Sim (p : List NodeD) (V : Int → Bool) (k : Nat) (s : SmD) (n : NextD) : Prop where
  len : n.1.length = p.length
  outs : n.2.length = 3
  puts : ∀ c, c ≤ 2 → (s.puts.getD c []).any V = n.2.getD c false
  waits : ∀ i, i < k → i < p.length → waitK (kindAt p i) = true → V (nextOf p s i) = n.1.getD i false
  none : ∀ i, k ≤ i → n.1.getD i false = false
theorem Sim.add {p : List NodeD} {V : Int → Bool} {k : Nat} {s : SmD} {n : NextD} (h : Sim p V k s n) (kd : Int) (l : List Int) : Sim p V k (addG s kd l) n := ⟨h.len, h.outs, h.puts, h.waits, h.none⟩
theorem set_getD' {l : List Bool} {k : Nat} (b : Bool) (i : Nat) (hk : k < l.length) : (l.set k b).getD i false = if i = k then b else l.getD i false := by
  rw [List.getD_eq_getElem?_getD, List.getD_eq_getElem?_getD, List.getElem?_set]
  by_cases e : k = i
  · subst e; simp [hk]
  · rw [if_neg e, if_neg (Ne.symm e)]
theorem may_inj {p : List NodeD} {i k : Nat} (hi : waitK (kindAt p i) = true) (hk : waitK (kindAt p k) = true) (h : mayN p i = mayN p k) : i = k := by
  rcases Nat.lt_trichotomy i k with h1 | h1 | h1
  · have := may_lt h1 hi; omega
  · exact h1
  · have := may_lt h1 hk; omega
theorem next_store {p : List NodeD} {s : SmD} (h : SmOk p s) {k : Nat} (hk : k < p.length) (hw : waitK (kindAt p k) = true) (x : Int) {i : Nat} (hi : waitK (kindAt p i) = true) : nextOf p (storeG s (waitG p k) x) i = if i = k then x else nextOf p s i := by
  have e : (waitG p k - 3).toNat = 4 + mayN p k := by unfold waitG; omega
  have hl := (h.waitIn hk hw).2
  rw [e] at hl
  unfold nextOf storeG
  simp only [e]
  rw [List.getD_eq_getElem?_getD, List.getElem?_set]
  by_cases e2 : i = k
  · subst e2; simp [hl]
  · rw [if_neg (fun e3 => e2 (may_inj hi hw (by omega))), if_neg e2, List.getD_eq_getElem?_getD]
/-- A node that waits takes what x tells. -/
theorem Sim.store {p : List NodeD} {V : Int → Bool} {k : Nat} {s : SmD} {n : NextD} (h : Sim p V k s n) (ho : SmOk p s) (hk : k < p.length) (hw : waitK (kindAt p k) = true) (x : Int) {n' : NextD} (hn : n'.2 = n.2) (hn1 : n'.1.length = n.1.length) (hx : n'.1.getD k false = V x) (hf : ∀ i, i ≠ k → n'.1.getD i false = n.1.getD i false) : Sim p V (k + 1) (storeG s (waitG p k) x) n' where
  len := hn1.trans h.len
  outs := by rw [hn]; exact h.outs
  puts := fun c hc => by rw [hn]; exact h.puts c hc
  waits := fun i hi hip hiw => by
    rw [next_store ho hk hw x hiw]
    by_cases e : i = k
    · subst e; rw [if_pos rfl]; exact hx.symm
    · rw [if_neg e, hf i e]; exact h.waits i (by omega) hip hiw
  none := fun i hi => by rw [hf i (by omega)]; exact h.none i (by omega)
/-- A node that may not wait is passed. -/
theorem Sim.pass {p : List NodeD} {V : Int → Bool} {k : Nat} {s : SmD} {n : NextD} (h : Sim p V k s n) (hw : waitK (kindAt p k) = false) : Sim p V (k + 1) s n where
  len := h.len
  outs := h.outs
  puts := h.puts
  waits := fun i hi hip hiw => h.waits i (by
    have : i ≠ k := fun e => by rw [e, hw] at hiw; exact absurd hiw (by decide)
    omega) hip hiw
  none := fun i hi => h.none i (by omega)
theorem Sim.put {p : List NodeD} {V : Int → Bool} {k : Nat} {s : SmD} {n : NextD} (h : Sim p V k s n) (hp : s.puts.length = 3) {c : Nat} (hc : c ≤ 2) (x : Int) : Sim p V k (putG s c x) (n.1, if V x then n.2.set c true else n.2) where
  len := h.len
  outs := by split <;> simp [h.outs]
  puts := fun j hj => by
    have h1 := h.puts j hj
    have h2 := h.puts c hc
    have e : ((putG s c x).puts.getD j []) = if j = c then s.puts.getD c [] ++ [x] else s.puts.getD j [] := by
      unfold putG
      simp only []
      rw [List.getD_eq_getElem?_getD, List.getElem?_set]
      by_cases e : c = j
      · subst e; simp [show c < s.puts.length by omega]
      · rw [if_neg e, if_neg (Ne.symm e), List.getD_eq_getElem?_getD]
    rw [e]
    by_cases e2 : j = c
    · subst e2
      rw [if_pos rfl, List.any_append, h1]
      cases hv : V x
      · simp [hv]
      · simp only [hv, List.any_cons, Bool.true_or, Bool.or_true, if_true]
        rw [set_getD' true j (by rw [h.outs]; omega), if_pos rfl]
    · rw [if_neg e2, h1]
      cases hv : V x
      · simp
      · simp only [if_true]
        rw [set_getD' true j (by rw [h.outs]; omega), if_neg e2]
  waits := h.waits
  none := h.none
/-- What an instant makes of a node: begun, or it goes on, or neither. -/
def actF (p : List NodeD) (ws wo : List Bool) (ins : List Int) (m k : Nat) (b g : Bool) (n : NextD) : NextD × Bool := if b then beginF p wo ins m k n else if g then onF p ws wo ins m k n else (n, false)
def Sims (p : List NodeD) (F : List GateD) (V : Int → Bool) (ws wo : List Bool) (ins : List Int) (m : Nat) (f : PartF) : Prop :=
  ∀ k b g s n, k < p.length → endP p k - k ≤ m → SmOk p s → inG s b → inG s g → (f k b g s).1.gates <+: F → Sim p V k s n → (V b && V g) = false → (V g = true → someP p ws k = true) →
    Sim p V (endP p k) (f k b g s).1 (actF p ws wo ins m k (V b) (V g) n).1 ∧ V (f k b g s).2 = (actF p ws wo ins m k (V b) (V g) n).2
theorem part_sim {p : List NodeD} (hok : POk p) {F : List GateD} {V : Int → Bool} {ws wo : List Bool} {ins : List Int} (E : Env p F V ws wo ins) {m : Nat} {f : PartF} (hf : Good p m f) (hs : Sims p F V ws wo ins m f) {k : Nat} {g b : Int} {s : SmD} {n : NextD} (hk : k < p.length) (hm : endP p k - k ≤ m) (h : SmOk p s) (hb : inG s b) (hg : inG s g) (hF : (partF f p g k b s).1.gates <+: F) (hS : Sim p V k s n) (hno : (V b && V g) = false) :
    Sim p V (endP p k) (partF f p g k b s).1 (actF p ws wo ins m k (V b) (V g && someP p ws k) n).1 ∧ V (partF f p g k b s).2.1 = (actF p ws wo ins m k (V b) (V g && someP p ws k) n).2 ∧ V (partF f p g k b s).2.2 = ((V b || (V g && someP p ws k)) && !(actF p ws wo ins m k (V b) (V g && someP p ws k) n).2) := by
  have hfw := some_few hok hk
  have h1 := h.add 5 (someArgs p k) (some_in hok h hk) (Or.inl ⟨by omega, by omega, by omega⟩)
  have n1 := inG.new s 5 (someArgs p k)
  have h2 := h1.add 4 [g, here s] (fun x hx => by rcases List.mem_cons.1 hx with rfl | hx; exact hg.add _ _; (have : x = here s := by simpa using hx); rw [this]; exact n1) (Or.inl ⟨by omega, by omega, by simp⟩)
  have n2 := inG.new (addG s 5 (someArgs p k)) 4 [g, here s]
  have r := hf k b (here (addG s 5 (someArgs p k))) _ hk hm h2 ((hb.add _ _).add _ _) n2
  have hs' := hs k b (here (addG s 5 (someArgs p k))) (addG (addG s 5 (someArgs p k)) 4 [g, here s]) n hk hm h2 ((hb.add _ _).add _ _) n2
  unfold partF at hF ⊢
  simp only [] at hF ⊢
  generalize hr : f k b (here (addG s 5 (someArgs p k))) (addG (addG s 5 (someArgs p k)) 4 [g, here s]) = R at r hF hs' ⊢
  obtain ⟨t, o⟩ := R
  simp only [] at *
  have p4 := (grew_add (addG t 5 [b, here (addG s 5 (someArgs p k))]) 6 [o]).trans ((grew_add _ 4 _).trans hF)
  have p3 := (grew_add t 5 [b, here (addG s 5 (someArgs p k))]).trans p4
  have p2 := r.grew.trans p3
  have p1 := (grew_add (addG s 5 (someArgs p k)) 4 [g, here s]).trans p2
  have v1 := E.some hok hk p1
  have v2 : V (here (addG s 5 (someArgs p k))) = (V g && someP p ws k) := by rw [E.all p2, v1]
  rw [v2] at hs'
  obtain ⟨s1, s2⟩ := hs' p3 ((hS.add _ _).add _ _) (by revert hno; cases V b <;> cases V g <;> simp) (fun e => by revert e; cases V g <;> simp)
  refine ⟨((s1.add _ _).add _ _).add _ _, s2, ?_⟩
  rw [E.all hF, E.any p4, E.not ((grew_add _ 4 _).trans hF), s2, v2]
theorem atOnce_sim {p : List NodeD} (hok : POk p) {F : List GateD} {V : Int → Bool} {ws wo : List Bool} {ins : List Int} (E : Env p F V ws wo ins) {m : Nat} {f : PartF} (hf : Good p m f) (hs : Sims p F V ws wo ins m f) {k1 k2 : Nat} {g b1 b2 : Int} {s : SmD} {n : NextD} (hk1 : k1 < p.length) (hk2 : k2 < p.length) (hm1 : endP p k1 - k1 ≤ m) (hm2 : endP p k2 - k2 ≤ m) (he : endP p k1 = k2) (h : SmOk p s) (hb1 : inG s b1) (hb2 : inG s b2) (hg : inG s g) (hF : (atOnceF f p g k1 b1 k2 b2 s).1.gates <+: F) (hS : Sim p V k1 s n) (hno1 : (V b1 && V g) = false) (hno2 : (V b2 && V g) = false)
    {t1 t2 : NextD × Bool} (e1 : t1 = actF p ws wo ins m k1 (V b1) (V g && someP p ws k1) n) (e2 : t2 = actF p ws wo ins m k2 (V b2) (V g && someP p ws k2) t1.1) :
    Sim p V (endP p k2) (atOnceF f p g k1 b1 k2 b2 s).1 t2.1 ∧ V (atOnceF f p g k1 b1 k2 b2 s).2 = ((t1.2 || t2.2) && !(((V b1 || (V g && someP p ws k1)) && !t1.2) || ((V b2 || (V g && someP p ws k2)) && !t2.2))) := by
  obtain ⟨a1, a2, a3, a4, a5, a6⟩ := part_made hok hf hk1 hm1 h hb1 hg
  have hp1 := part_sim hok E hf hs (n := n) hk1 hm1 h hb1 hg
  unfold atOnceF at hF ⊢
  simp only [] at hF ⊢
  generalize partF f p g k1 b1 s = q1 at a1 a2 a3 a4 a5 a6 hp1 hF ⊢
  obtain ⟨u1, o1, l1⟩ := q1
  obtain ⟨c1, c2, c3, c4, c5, c6⟩ := part_made hok hf hk2 hm2 a1 (hb2.on a4) (hg.on a4)
  have hp2 := part_sim hok E hf hs (n := t1.1) hk2 hm2 a1 (hb2.on a4) (hg.on a4)
  generalize partF f p g k2 b2 u1 = q2 at c1 c2 c3 c4 c5 c6 hp2 hF ⊢
  obtain ⟨u2, o2, l2⟩ := q2
  simp only [] at *
  have p4 := (grew_add (addG (addG u2 5 [l1, l2]) 6 [here u2]) 5 [o1, o2]).trans ((grew_add _ 4 _).trans hF)
  have p3 := (grew_add (addG u2 5 [l1, l2]) 6 [here u2]).trans p4
  have p2 := (grew_add u2 5 [l1, l2]).trans p3
  have p1 := c4.trans p2
  obtain ⟨x1, x2, x3⟩ := hp1 p1 hS hno1
  rw [← e1] at x1 x2 x3
  rw [he] at x1
  obtain ⟨y1, y2, y3⟩ := hp2 p2 x1 hno2
  rw [← e2] at y1 y2 y3
  refine ⟨(((y1.add _ _).add _ _).add _ _).add _ _, ?_⟩
  rw [E.all hF, E.any ((grew_add _ 4 _).trans hF), E.not p4, E.any p3, x2, x3, y2, y3]
theorem choice_sim {p : List NodeD} (hok : POk p) {F : List GateD} {V : Int → Bool} {ws wo : List Bool} {ins : List Int} (E : Env p F V ws wo ins) {m : Nat} {f : PartF} (hf : Good p m f) (hs : Sims p F V ws wo ins m f) {k1 k2 : Nat} {is g b : Int} {s : SmD} {n : NextD} (hk1 : k1 < p.length) (hk2 : k2 < p.length) (hm1 : endP p k1 - k1 ≤ m) (hm2 : endP p k2 - k2 ≤ m) (he : endP p k1 = k2) (h : SmOk p s) (hi : inG s is) (hb : inG s b) (hg : inG s g) (hF : (choiceF f p is k1 k2 b g s).1.gates <+: F) (hS : Sim p V k1 s n) (hno : (V b && V g) = false)
    {t1 t2 : NextD × Bool} (e1 : t1 = actF p ws wo ins m k1 (V b && V is) (V g && someP p ws k1) n) (e2 : t2 = actF p ws wo ins m k2 (V b && !V is) (V g && someP p ws k2) t1.1) :
    Sim p V (endP p k2) (choiceF f p is k1 k2 b g s).1 t2.1 ∧ V (choiceF f p is k1 k2 b g s).2 = ((t1.2 || t2.2) && !((((V b && V is) || (V g && someP p ws k1)) && !t1.2) || (((V b && !V is) || (V g && someP p ws k2)) && !t2.2))) := by
  have h1 := h.add 4 [b, is] (fun x hx => by rcases List.mem_cons.1 hx with rfl | hx; exact hb; (have : x = is := by simpa using hx); rw [this]; exact hi) (Or.inl ⟨by omega, by omega, by simp⟩)
  have n1 := inG.new s 4 [b, is]
  have h2 := h1.add 6 [is] (fun x hx => by (have : x = is := by simpa using hx); rw [this]; exact hi.add _ _) (Or.inr (Or.inl ⟨rfl, rfl⟩))
  have n2 := inG.new (addG s 4 [b, is]) 6 [is]
  have h3 := h2.add 4 [b, here (addG s 4 [b, is])] (fun x hx => by rcases List.mem_cons.1 hx with rfl | hx; exact (hb.add _ _).add _ _; (have : x = here (addG s 4 [b, is]) := by simpa using hx); rw [this]; exact n2) (Or.inl ⟨by omega, by omega, by simp⟩)
  have n3 := inG.new (addG (addG s 4 [b, is]) 6 [is]) 4 [b, here (addG s 4 [b, is])]
  obtain ⟨a1, a2, a3, a4, a5⟩ := atOnce_made hok hf hk1 hk2 hm1 hm2 h3 ((n1.add _ _).add _ _) n3 (((hg.add _ _).add _ _).add _ _)
  have hp3 : (addG (addG (addG s 4 [b, is]) 6 [is]) 4 [b, here (addG s 4 [b, is])]).gates <+: F := a3.trans hF
  have hp2 := (grew_add (addG (addG s 4 [b, is]) 6 [is]) 4 [b, here (addG s 4 [b, is])]).trans hp3
  have hp1 := (grew_add (addG s 4 [b, is]) 6 [is]).trans hp2
  have v1 : V (here s) = (V b && V is) := E.all hp1
  have v3 : V (here (addG (addG s 4 [b, is]) 6 [is])) = (V b && !V is) := by rw [E.all hp3, E.not hp2]
  have key := atOnce_sim hok E hf hs (n := n) (t1 := t1) (t2 := t2) hk1 hk2 hm1 hm2 he h3 ((n1.add _ _).add _ _) n3 (((hg.add _ _).add _ _).add _ _) hF (((hS.add _ _).add _ _).add _ _) (by rw [v1]; revert hno; cases V b <;> cases V g <;> simp) (by rw [v3]; revert hno; cases V b <;> cases V g <;> simp) (by rw [v1]; exact e1) (by rw [v3]; exact e2)
  rw [v1, v3] at key
  exact key
theorem behind_sim {p : List NodeD} (hok : POk p) {F : List GateD} {V : Int → Bool} {ws wo : List Bool} {ins : List Int} (E : Env p F V ws wo ins) {m : Nat} {f : PartF} (hf : Good p m f) (hs : Sims p F V ws wo ins m f) {k1 k2 : Nat} {g b : Int} {s : SmD} {n : NextD} (hk1 : k1 < p.length) (hk2 : k2 < p.length) (hm1 : endP p k1 - k1 ≤ m) (hm2 : endP p k2 - k2 ≤ m) (he : endP p k1 = k2) (h : SmOk p s) (hb : inG s b) (hg : inG s g) (hF : (behindF f p k1 k2 b g s).1.gates <+: F) (hS : Sim p V k1 s n) (hno : (V b && V g) = false) (hsome : V g = true → someP p ws k1 = true ∨ someP p ws k2 = true)
    {t1 t2 : NextD × Bool} (e1 : t1 = actF p ws wo ins m k1 (V b) (V g && someP p ws k1) n) (e2 : t2 = actF p ws wo ins m k2 t1.2 (V g && !(someP p ws k1)) t1.1) :
    Sim p V (endP p k2) (behindF f p k1 k2 b g s).1 t2.1 ∧ V (behindF f p k1 k2 b g s).2 = t2.2 := by
  have hfw := some_few hok hk1
  have h1 := h.add 5 (someArgs p k1) (some_in hok h hk1) (Or.inl ⟨by omega, by omega, by omega⟩)
  have n1 := inG.new s 5 (someArgs p k1)
  have h2 := h1.add 4 [g, here s] (fun x hx => by rcases List.mem_cons.1 hx with rfl | hx; exact hg.add _ _; (have : x = here s := by simpa using hx); rw [this]; exact n1) (Or.inl ⟨by omega, by omega, by simp⟩)
  have n2 := inG.new (addG s 5 (someArgs p k1)) 4 [g, here s]
  have h3 := h2.add 6 [here (addG s 5 (someArgs p k1))] (fun x hx => by (have : x = here (addG s 5 (someArgs p k1)) := by simpa using hx); rw [this]; exact n2) (Or.inr (Or.inl ⟨rfl, rfl⟩))
  have n3 := inG.new (addG (addG s 5 (someArgs p k1)) 4 [g, here s]) 6 [here (addG s 5 (someArgs p k1))]
  have h4 := h3.add 4 [g, here (addG (addG s 5 (someArgs p k1)) 4 [g, here s])] (fun x hx => by rcases List.mem_cons.1 hx with rfl | hx; exact ((hg.add _ _).add _ _).add _ _; (have : x = here (addG (addG s 5 (someArgs p k1)) 4 [g, here s]) := by simpa using hx); rw [this]; exact n3) (Or.inl ⟨by omega, by omega, by simp⟩)
  have n4 := inG.new (addG (addG (addG s 5 (someArgs p k1)) 4 [g, here s]) 6 [here (addG s 5 (someArgs p k1))]) 4 [g, here (addG (addG s 5 (someArgs p k1)) 4 [g, here s])]
  have r := hf k1 b (here (addG s 5 (someArgs p k1))) _ hk1 hm1 h4 ((((hb.add _ _).add _ _).add _ _).add _ _) ((n2.add _ _).add _ _)
  have hs1 := hs k1 b (here (addG s 5 (someArgs p k1))) (addG (addG (addG (addG s 5 (someArgs p k1)) 4 [g, here s]) 6 [here (addG s 5 (someArgs p k1))]) 4 [g, here (addG (addG s 5 (someArgs p k1)) 4 [g, here s])]) n hk1 hm1 h4 ((((hb.add _ _).add _ _).add _ _).add _ _) ((n2.add _ _).add _ _)
  unfold behindF at hF ⊢
  simp only [] at hF ⊢
  generalize f k1 b (here (addG s 5 (someArgs p k1))) (addG (addG (addG (addG s 5 (someArgs p k1)) 4 [g, here s]) 6 [here (addG s 5 (someArgs p k1))]) 4 [g, here (addG (addG s 5 (someArgs p k1)) 4 [g, here s])]) = R at r hF hs1 ⊢
  obtain ⟨t, o⟩ := R
  simp only [] at *
  have r2 := hf k2 o (here (addG (addG (addG s 5 (someArgs p k1)) 4 [g, here s]) 6 [here (addG s 5 (someArgs p k1))])) t hk2 hm2 r.ok r.over (n4.on r.grew)
  have hs2 := hs k2 o (here (addG (addG (addG s 5 (someArgs p k1)) 4 [g, here s]) 6 [here (addG s 5 (someArgs p k1))])) t t1.1 hk2 hm2 r.ok r.over (n4.on r.grew) hF
  have q4 := r.grew.trans (r2.grew.trans hF)
  have q3 := (grew_add (addG (addG (addG s 5 (someArgs p k1)) 4 [g, here s]) 6 [here (addG s 5 (someArgs p k1))]) 4 [g, here (addG (addG s 5 (someArgs p k1)) 4 [g, here s])]).trans q4
  have q2 := (grew_add (addG (addG s 5 (someArgs p k1)) 4 [g, here s]) 6 [here (addG s 5 (someArgs p k1))]).trans q3
  have q1 := (grew_add (addG s 5 (someArgs p k1)) 4 [g, here s]).trans q2
  have v2 : V (here (addG s 5 (someArgs p k1))) = (V g && someP p ws k1) := by rw [E.all q2, E.some hok hk1 q1]
  have v4 : V (here (addG (addG (addG s 5 (someArgs p k1)) 4 [g, here s]) 6 [here (addG s 5 (someArgs p k1))])) = (V g && !(V g && someP p ws k1)) := by rw [E.all q4, E.not q3, v2]
  have v4' : (V g && !(V g && someP p ws k1)) = (V g && !(someP p ws k1)) := by cases V g <;> simp
  rw [v2] at hs1
  rw [v4, v4'] at hs2
  obtain ⟨x1, x2⟩ := hs1 (r2.grew.trans hF) ((((hS.add _ _).add _ _).add _ _).add _ _) (by revert hno; cases V b <;> cases V g <;> simp) (fun e => by revert e; cases V g <;> simp)
  rw [← e1] at x1 x2
  rw [he] at x1
  rw [x2] at hs2
  have hno2 : (t1.2 && (V g && !(someP p ws k1))) = false := by
    rw [e1]
    unfold actF
    revert hno
    cases V b <;> cases V g <;> cases someP p ws k1 <;> simp
  obtain ⟨y1, y2⟩ := hs2 x1 hno2 (fun e => by
    cases hg' : V g
    · rw [hg'] at e; simp at e
    · cases hs' : someP p ws k1
      · rcases hsome hg' with h | h
        · rw [hs'] at h; exact absurd h (by decide)
        · exact h
      · rw [hs'] at e; simp at e)
  rw [← e2] at y1 y2
  exact ⟨y1, y2⟩

theorem kinds9 {x : Int} (h : 0 ≤ x ∧ x ≤ 8) : x = 0 ∨ x = 1 ∨ x = 2 ∨ x = 3 ∨ x = 4 ∨ x = 5 ∨ x = 6 ∨ x = 7 ∨ x = 8 := by omega
theorem node_sim {p : List NodeD} (hok : POk p) {F : List GateD} {V : Int → Bool} {ws wo : List Bool} {ins : List Int} (E : Env p F V ws wo ins) : ∀ m, Sims p F V ws wo ins m (nodeF p m)
  | 0 => fun k b g s n hk hm _ _ _ _ _ _ _ => by have := end_gt hk; omega
  | m + 1 => fun k b g s n hk hm h hb hg hF hS hno hsm => by
    have ihm := node_made hok m
    have ih := node_sim hok E m
    have hgt := end_gt hk
    have hkk := kindAt_get hk
    have hkd := hok.kinds p[k] (List.getElem_mem hk)
    rw [← hkk] at hkd
    have hsg := hok.sigs p[k] (List.getElem_mem hk)
    have hsig : sigI p k = p[k].sig := by simp [sigI, sigAt, List.getD_eq_getElem?_getD, hk]; omega
    have hs2 : 0 ≤ sigI p k ∧ sigI p k ≤ 2 := by
      rw [hsig]
      refine ⟨hsg.1, ?_⟩
      have := hsg.2
      unfold mostS at this
      split at this <;> omega
    have hs3 : sigAt p k ≤ 2 := by unfold sigI at hs2; omega
    have vin : V (sigI p k) = (ins.getD (sigAt p k) 0 == 1) := E.inp _ hs3
    have vwas : V (4 + sigI p k) = wo.getD (sigAt p k) false := E.was _ hs3
    have hbit := E.bit (sigAt p k)
    have hkl : k < n.1.length := by rw [hS.len]; exact hk
    have hsgI := h.lowIn hs2.1 (by omega)
    have hnode : ∀ x, kindAt p k = x → hasP x = true → k + 1 < p.length ∧ endP p (k + 1) < p.length ∧ endP p (k + 1) - (k + 1) ≤ m ∧ endP p (endP p (k + 1)) - endP p (k + 1) ≤ m ∧ endP p k = endP p (endP p (k + 1)) ∧ (someP p ws k = true → someP p ws (k + 1) = true ∨ someP p ws (endP p (k + 1)) = true) := fun x e hx => by
      have hp : hasP p[k].kind = true := by rw [← hkk, e]; exact hx
      obtain ⟨t1, t2⟩ := end_two hok.form hk hp
      have hn := end_node hk hp
      have g1 := end_gt t1
      have g2 := end_gt t2
      exact ⟨t1, t2, by omega, by omega, hn, some_parts hk hp E.may⟩
    have hleaf : ∀ x, kindAt p k = x → hasP x = false → endP p k = k + 1 := fun x e hx => end_leaf hk (by rw [← hkk, e]; exact hx)
    have hset : (n.1.set k true).getD k false = true := by rw [set_getD' true k hkl, if_pos rfl]
    have hset' : ∀ i, i ≠ k → (n.1.set k true).getD i false = n.1.getD i false := fun i hi => by rw [set_getD' true i hkl, if_neg hi]
    have hn0 := hS.none k (Nat.le_refl _)
    have hg0 : hasP (kindAt p k) = false → waitK (kindAt p k) = false → V g = false := fun h1 h2 => by
      cases e : V g
      · rfl
      · rcases some_kind hk E.may (hsm e) with h3 | h3
        · rw [h1] at h3; exact absurd h3 (by decide)
        · rw [h2] at h3; exact absurd h3 (by decide)
    rcases kinds9 hkd with e | e | e | e | e | e | e | e | e
    · -- nothing
      have hw : waitK (kindAt p k) = false := by rw [e]; rfl
      have hg' := hg0 (by rw [e]; rfl) hw
      rw [hleaf 0 e rfl]
      have hr : nodeF p (m + 1) k b g s = (s, b) := by unfold nodeF; simp [e]
      rw [hr, hg']
      refine ⟨?_, ?_⟩
      · have : (actF p ws wo ins (m + 1) k (V b) false n).1 = n := by
          unfold actF; cases V b
          · rfl
          · simp [beginF, e, waitK]
        rw [this]; exact hS.pass hw
      · unfold actF; cases V b
        · rfl
        · simp [beginF, e, waitK]
    · -- pause
      have hw : waitK (kindAt p k) = true := by rw [e]; rfl
      rw [hleaf 1 e rfl]
      have hr : nodeF p (m + 1) k b g s = (storeG s (waitG p k) b, g) := by unfold nodeF; simp [e]
      rw [hr]
      cases hvb : V b
      · cases hvg : V g
        · exact ⟨hS.store h hk hw b (n' := n) rfl rfl (by rw [hvb]; exact hn0) (fun _ _ => rfl), rfl⟩
        · have : actF p ws wo ins (m + 1) k false true n = (n, true) := by unfold actF; simp [onF, e]
          rw [this]
          exact ⟨hS.store h hk hw b (n' := n) rfl rfl (by rw [hvb]; exact hn0) (fun _ _ => rfl), rfl⟩
      · have : ∀ y, actF p ws wo ins (m + 1) k true y n = ((n.1.set k true, n.2), false) := fun y => by unfold actF; simp [beginF, e, waitK]
        rw [this]
        have hvg : V g = false := by rw [hvb] at hno; simpa using hno
        exact ⟨hS.store h hk hw b (n' := (n.1.set k true, n.2)) rfl (by simp) (by rw [hvb]; exact hset) hset', hvg⟩
    · -- halt
      have hw : waitK (kindAt p k) = true := by rw [e]; rfl
      rw [hleaf 2 e rfl]
      have hr : nodeF p (m + 1) k b g s = haltF p k b g s := by unfold nodeF; simp [e]
      rw [hr] at hF ⊢
      have h1 := h.add 5 [b, g] (fun x hx => by rcases List.mem_cons.1 hx with rfl | hx; exact hb; (have : x = g := by simpa using hx); rw [this]; exact hg) (Or.inl ⟨by omega, by omega, by simp⟩)
      unfold haltF at hF ⊢
      simp only [] at hF ⊢
      have p1 : (addG s 5 [b, g]).gates <+: F := (grew_add (storeG (addG s 5 [b, g]) (waitG p k) (here s)) 0 []).trans hF
      have v1 : V (here s) = (V b || V g) := E.any p1
      have v2 : V (here (storeG (addG s 5 [b, g]) (waitG p k) (here s))) = false := E.never hF
      have : actF p ws wo ins (m + 1) k (V b) (V g) n = ((if (V b || V g) then (n.1.set k true, n.2) else n), false) := by
        unfold actF; cases V b <;> cases V g <;> simp [beginF, onF, e, waitK]
      rw [this]
      refine ⟨Sim.add (Sim.store (hS.add _ _) h1 hk hw (here s) (n' := if (V b || V g) then (n.1.set k true, n.2) else n) (by split <;> rfl) (by split <;> simp) ?_ ?_) _ _, v2⟩
      · rw [v1]; cases (V b || V g)
        · exact hn0
        · exact hset
      · intro i hi; cases (V b || V g)
        · rfl
        · exact hset' i hi
    · -- emit
      have hw : waitK (kindAt p k) = false := by rw [e]; rfl
      have hg' := hg0 (by rw [e]; rfl) hw
      rw [hleaf 3 e rfl]
      have hr : nodeF p (m + 1) k b g s = (putG s (sigAt p k) b, b) := by unfold nodeF; simp [e]
      rw [hr, hg']
      have : actF p ws wo ins (m + 1) k (V b) false n = ((n.1, if V b then n.2.set (sigAt p k) true else n.2), V b) := by
        unfold actF; cases V b
        · simp
        · simp [beginF, e, waitK]
      rw [this]
      exact ⟨(hS.put h.puts hs3 b).pass hw, rfl⟩
    · -- await
      have hw : waitK (kindAt p k) = true := by rw [e]; rfl
      rw [hleaf 4 e rfl]
      have hr : nodeF p (m + 1) k b g s = awaitF p k b g s := by unfold nodeF; simp [e]
      rw [hr] at hF ⊢
      have h1 := h.add 6 [sigI p k] (fun x hx => by (have : x = sigI p k := by simpa using hx); rw [this]; exact hsgI) (Or.inr (Or.inl ⟨rfl, rfl⟩))
      have n1 := inG.new s 6 [sigI p k]
      have h2 := h1.add 4 [g, here s] (fun x hx => by rcases List.mem_cons.1 hx with rfl | hx; exact hg.add _ _; (have : x = here s := by simpa using hx); rw [this]; exact n1) (Or.inl ⟨by omega, by omega, by simp⟩)
      have n2 := inG.new (addG s 6 [sigI p k]) 4 [g, here s]
      have h3 := h2.add 5 [b, here (addG s 6 [sigI p k])] (fun x hx => by rcases List.mem_cons.1 hx with rfl | hx; exact (hb.add _ _).add _ _; (have : x = here (addG s 6 [sigI p k]) := by simpa using hx); rw [this]; exact n2) (Or.inl ⟨by omega, by omega, by simp⟩)
      unfold awaitF at hF ⊢
      simp only [] at hF ⊢
      have p3 : (addG (addG (addG s 6 [sigI p k]) 4 [g, here s]) 5 [b, here (addG s 6 [sigI p k])]).gates <+: F := (grew_add (storeG (addG (addG (addG s 6 [sigI p k]) 4 [g, here s]) 5 [b, here (addG s 6 [sigI p k])]) (waitG p k) (here (addG (addG s 6 [sigI p k]) 4 [g, here s]))) 4 [g, sigI p k]).trans hF
      have p2 := (grew_add (addG (addG s 6 [sigI p k]) 4 [g, here s]) 5 [b, here (addG s 6 [sigI p k])]).trans p3
      have p1 := (grew_add (addG s 6 [sigI p k]) 4 [g, here s]).trans p2
      have v3 : V (here (addG (addG s 6 [sigI p k]) 4 [g, here s])) = (V b || (V g && !(ins.getD (sigAt p k) 0 == 1))) := by rw [E.any p3, E.all p2, E.not p1, vin]
      have v4 : V (here (storeG (addG (addG (addG s 6 [sigI p k]) 4 [g, here s]) 5 [b, here (addG s 6 [sigI p k])]) (waitG p k) (here (addG (addG s 6 [sigI p k]) 4 [g, here s])))) = (V g && (ins.getD (sigAt p k) 0 == 1)) := by rw [E.all hF, vin]
      have hz : (ins.getD (sigAt p k) 0 == 0) = !(ins.getD (sigAt p k) 0 == 1) := by rcases hbit with h' | h' <;> rw [h'] <;> rfl
      have : actF p ws wo ins (m + 1) k (V b) (V g) n = ((if V b then (n.1.set k true, n.2) else if V g then (n.1.set k (!(ins.getD (sigAt p k) 0 == 1)), n.2) else n), if V b then false else (V g && (ins.getD (sigAt p k) 0 == 1))) := by
        unfold actF
        cases V b
        · cases V g
          · rfl
          · simp only [Bool.false_eq_true, if_false, if_true, onF, e, hz]
            simp
        · simp [beginF, e, waitK]
      rw [this]
      refine ⟨Sim.add (Sim.store (((hS.add _ _).add _ _).add _ _) h3 hk hw _ (n' := if V b then (n.1.set k true, n.2) else if V g then (n.1.set k (!(ins.getD (sigAt p k) 0 == 1)), n.2) else n) (by split <;> (try split) <;> rfl) (by split <;> (try split) <;> simp) ?_ ?_) _ _, ?_⟩
      · rw [v3]
        cases hvb : V b
        · cases hvg : V g
          · exact hn0
          · simp only [Bool.false_eq_true, if_false, if_true, Bool.false_or, Bool.true_and]
            rw [set_getD' _ k hkl, if_pos rfl]
        · simpa using hset
      · intro i hi
        cases hvb : V b
        · cases hvg : V g
          · rfl
          · simp only [Bool.false_eq_true, if_false, if_true]
            rw [set_getD' _ i hkl, if_neg hi]
        · exact hset' i hi
      · rw [v4]
        cases hvb : V b
        · rfl
        · have hvg : V g = false := by rw [hvb] at hno; simpa using hno
          rw [hvg]; rfl
    · -- one behind the other
      obtain ⟨t1, t2, t3, t4, t5, t6⟩ := hnode _ e rfl
      rw [t5]
      have hr : nodeF p (m + 1) k b g s = behindF (nodeF p m) p (k + 1) (endP p (k + 1)) b g s := by conv => lhs; unfold nodeF; simp [e]
      rw [hr] at hF ⊢
      obtain ⟨x1, x2⟩ := behind_sim hok E ihm ih (n := n) t1 t2 t3 t4 rfl h hb hg hF (hS.pass (by rw [e]; rfl)) hno (fun h' => t6 (hsm h')) rfl rfl
      rw [x2]
      generalize hR : behindF (nodeF p m) p (k + 1) (endP p (k + 1)) b g s = R at x1 ⊢
      have : actF p ws wo ins (m + 1) k (V b) (V g) n = actF p ws wo ins m (endP p (k + 1)) (actF p ws wo ins m (k + 1) (V b) (V g && someP p ws (k + 1)) n).2 (V g && !(someP p ws (k + 1))) (actF p ws wo ins m (k + 1) (V b) (V g && someP p ws (k + 1)) n).1 := by
        unfold actF
        cases hvb : V b
        · cases hvg : V g
          · simp
          · cases hvs : someP p ws (k + 1)
            · simp [onF, e, hvs]
            · simp [onF, e, hvs]
        · have hvg : V g = false := by rw [hvb] at hno; simpa using hno
          simp [hvg, beginF, e, waitK]
      rw [this]
      exact ⟨x1, rfl⟩
    · -- both at once
      obtain ⟨t1, t2, t3, t4, t5, t6⟩ := hnode _ e rfl
      rw [t5]
      have hr : nodeF p (m + 1) k b g s = atOnceF (nodeF p m) p g (k + 1) b (endP p (k + 1)) b s := by conv => lhs; unfold nodeF; simp [e]
      rw [hr] at hF ⊢
      obtain ⟨x1, x2⟩ := atOnce_sim hok E ihm ih (n := n) t1 t2 t3 t4 rfl h hb hb hg hF (hS.pass (by rw [e]; rfl)) hno hno rfl rfl
      rw [x2]
      generalize hR : atOnceF (nodeF p m) p g (k + 1) b (endP p (k + 1)) b s = R at x1 ⊢
      cases hvb : V b
      · rw [hvb] at x1
        cases hvg : V g
        · rw [hvg] at x1
          refine ⟨?_, by simp [actF]⟩
          simpa [actF] using x1
        · rw [hvg] at x1
          have hs' := t6 (hsm hvg)
          cases hs1 : someP p ws (k + 1) <;> cases hs2' : someP p ws (endP p (k + 1)) <;> simp [hs1, hs2', actF] at x1 hs' ⊢
          · refine ⟨?_, ?_⟩ <;> simp [onF, e, hs1, hs2'] <;> first | exact x1 | skip
          · refine ⟨?_, ?_⟩ <;> simp [onF, e, hs1, hs2'] <;> first | exact x1 | skip
          · refine ⟨?_, ?_⟩
            · simp [onF, e, hs1, hs2']; exact x1
            · simp only [onF, e, hs1, hs2']
              simp
              cases (onF p ws wo ins m (k + 1) n).2 <;> simp
      · have hvg : V g = false := by rw [hvb] at hno; simpa using hno
        rw [hvb, hvg] at x1
        simp [actF, hvg] at x1 ⊢
        refine ⟨?_, ?_⟩
        · simp [beginF, e, waitK]; exact x1
        · simp [beginF, e, waitK]
          cases (beginF p wo ins m (k + 1) n).2 <;> simp
    · -- if
      obtain ⟨t1, t2, t3, t4, t5, t6⟩ := hnode _ e rfl
      rw [t5]
      have hr : nodeF p (m + 1) k b g s = choiceF (nodeF p m) p (sigI p k) (k + 1) (endP p (k + 1)) b g s := by conv => lhs; unfold nodeF; simp [e]
      rw [hr] at hF ⊢
      obtain ⟨x1, x2⟩ := choice_sim hok E ihm ih (n := n) t1 t2 t3 t4 rfl h hsgI hb hg hF (hS.pass (by rw [e]; rfl)) hno rfl rfl
      have hask : askB p wo ins k = V (sigI p k) := by rw [vin]; simp [askB, e]
      rw [x2]
      generalize hR : choiceF (nodeF p m) p (sigI p k) (k + 1) (endP p (k + 1)) b g s = R at x1 ⊢
      cases hvb : V b
      · rw [hvb] at x1
        cases hvg : V g
        · rw [hvg] at x1
          refine ⟨?_, by simp [actF]⟩
          simpa [actF] using x1
        · rw [hvg] at x1
          have hs' := t6 (hsm hvg)
          cases hs1 : someP p ws (k + 1) <;> cases hs2' : someP p ws (endP p (k + 1)) <;> simp [hs1, hs2', actF] at x1 hs' ⊢
          · refine ⟨?_, ?_⟩ <;> simp [onF, e, hs1, hs2'] <;> first | exact x1 | skip
          · refine ⟨?_, ?_⟩ <;> simp [onF, e, hs1, hs2'] <;> first | exact x1 | skip
          · refine ⟨?_, ?_⟩
            · simp [onF, e, hs1, hs2']; exact x1
            · simp only [onF, e, hs1, hs2']
              simp
              cases (onF p ws wo ins m (k + 1) n).2 <;> simp
      · have hvg : V g = false := by rw [hvb] at hno; simpa using hno
        rw [hvb, hvg] at x1
        cases hvi : V (sigI p k) <;> rw [hvi] at x1 hask <;> simp [actF, hvg] at x1 ⊢
        · refine ⟨?_, ?_⟩ <;> simp [beginF, e, waitK, hask] <;> first | exact x1 | skip
        · refine ⟨?_, ?_⟩ <;> simp [beginF, e, waitK, hask] <;> first | exact x1 | skip
    · -- was
      obtain ⟨t1, t2, t3, t4, t5, t6⟩ := hnode _ e rfl
      rw [t5]
      have hr : nodeF p (m + 1) k b g s = choiceF (nodeF p m) p (4 + sigI p k) (k + 1) (endP p (k + 1)) b g s := by conv => lhs; unfold nodeF; simp [e]
      rw [hr] at hF ⊢
      obtain ⟨x1, x2⟩ := choice_sim hok E ihm ih (n := n) t1 t2 t3 t4 rfl h (h.lowIn (x := 4 + sigI p k) (by omega) (by omega)) hb hg hF (hS.pass (by rw [e]; rfl)) hno rfl rfl
      have hask : askB p wo ins k = V (4 + sigI p k) := by rw [vwas]; simp [askB, e]
      rw [x2]
      generalize hR : choiceF (nodeF p m) p (4 + sigI p k) (k + 1) (endP p (k + 1)) b g s = R at x1 ⊢
      cases hvb : V b
      · rw [hvb] at x1
        cases hvg : V g
        · rw [hvg] at x1
          refine ⟨?_, by simp [actF]⟩
          simpa [actF] using x1
        · rw [hvg] at x1
          have hs' := t6 (hsm hvg)
          cases hs1 : someP p ws (k + 1) <;> cases hs2' : someP p ws (endP p (k + 1)) <;> simp [hs1, hs2', actF] at x1 hs' ⊢
          · refine ⟨?_, ?_⟩ <;> simp [onF, e, hs1, hs2'] <;> first | exact x1 | skip
          · refine ⟨?_, ?_⟩ <;> simp [onF, e, hs1, hs2'] <;> first | exact x1 | skip
          · refine ⟨?_, ?_⟩
            · simp [onF, e, hs1, hs2']; exact x1
            · simp only [onF, e, hs1, hs2']
              simp
              cases (onF p ws wo ins m (k + 1) n).2 <;> simp
      · have hvg : V g = false := by rw [hvb] at hno; simpa using hno
        rw [hvb, hvg] at x1
        cases hvi : V (4 + sigI p k) <;> rw [hvi] at x1 hask <;> simp [actF, hvg] at x1 ⊢
        · refine ⟨?_, ?_⟩ <;> simp [beginF, e, waitK, hask] <;> first | exact x1 | skip
        · refine ⟨?_, ?_⟩ <;> simp [beginF, e, waitK, hask] <;> first | exact x1 | skip

theorem restE_len {p : List NodeD} {r : RestD} (h : restE p r = 0) : checkP p = 0 ∧ r.waits.length = p.length ∧ r.outs.length = 3 := by
  obtain ⟨h1, h2, h3, _⟩ := restE_ok h
  exact ⟨h1, h2, h3⟩
theorem rest_fresh {p : List NodeD} {r : RestD} (h : restE p r = 0) (hf : r.fresh = true) : allF r.waits := by
  obtain ⟨_, h2, _, h4⟩ := restE_ok h
  intro i
  by_cases hi : i < p.length
  · have := h4 i hi
    unfold badAt at this
    rw [hf] at this
    simpa using this
  · rw [List.getD_eq_getElem?_getD, List.getElem?_eq_none (by omega)]; rfl
theorem restE_fresh {p : List NodeD} (h0 : checkP p = 0) : restE p ⟨true, falsesL p.length, falsesL 3⟩ = 0 := by
  unfold restE
  rw [if_pos h0, if_pos ⟨falses_len _, falses_len _⟩, if_pos]
  unfold restB
  rw [List.all_eq_true]
  intro k _
  unfold badAt
  simp only [falses_get]
  rfl
theorem lfp_len (d : NetD) (regs ins : List Int) : (lfp d regs ins).length = d.gates.length := (lfp_least d regs ins).len
/-- Where each gate stands behind its args, there is an order. -/
theorem all_in : ∀ (n : Nat) (o : List Nat), (∀ k, k < n → k ∈ o) → n ≤ o.length
  | 0, _, _ => Nat.zero_le _
  | n + 1, o, h => by
    have hn := h n (Nat.lt_succ_self n)
    have := all_in n (o.erase n) (fun k hk => (List.mem_erase_of_ne (by omega)).2 (h k (by omega)))
    rw [List.length_erase_of_mem hn] at this
    have hp := List.length_pos_of_mem hn
    omega
theorem least_out {o : List Nat} : ∀ (n : Nat), (∃ k, k < n ∧ k ∉ o) → ∃ k, k < n ∧ k ∉ o ∧ ∀ j, j < k → j ∈ o
  | 0, h => by obtain ⟨k, hk, _⟩ := h; omega
  | n + 1, h => by
    by_cases e : ∃ k, k < n ∧ k ∉ o
    · obtain ⟨k, h1, h2, h3⟩ := least_out n e
      exact ⟨k, by omega, h2, h3⟩
    · obtain ⟨k, h1, h2⟩ := h
      have hk : k = n := by
        rcases Nat.lt_or_ge k n with h3 | h3
        · exact absurd ⟨k, h3, h2⟩ e
        · omega
      subst hk
      refine ⟨k, h1, h2, fun j hj => ?_⟩
      rcases Decidable.em (j ∈ o) with h3 | h3
      · exact h3
      · exact absurd ⟨j, hj, h3⟩ e
theorem rise_next {d : NetD} (hr : ∀ i (hi : i < d.gates.length), ∀ x ∈ d.gates[i].args, 0 ≤ x ∧ x < (i : Int)) {o : List Nat} (h : o.length < d.gates.length) : ∃ k, nxt d o = some k := by
  have h0 : ∃ k, k < d.gates.length ∧ k ∉ o := by
    apply Classical.byContradiction
    intro hno
    have := all_in d.gates.length o (fun k hk => Classical.byContradiction (fun h1 => hno ⟨k, hk, h1⟩))
    omega
  obtain ⟨k, h1, h2, h3⟩ := least_out _ h0
  have hrd : rdy d o k = true := by
    unfold rdy
    simp only [Bool.and_eq_true, decide_eq_true_iff, List.all_eq_true]
    refine ⟨h2, fun x hx => ?_⟩
    rw [List.getD_eq_getElem?_getD, List.getElem?_eq_getElem h1] at hx
    have := hr k h1 x hx
    exact h3 _ (by omega)
  unfold nxt nxtFrom
  rw [List.drop_zero]
  cases e : (List.range d.gates.length).find? (rdy d o) with
  | none => exact absurd hrd (by have := (List.find?_eq_none.1 e) k (List.mem_range.2 h1); simpa using this)
  | some j => exact ⟨j, rfl⟩
theorem rise_ord {d : NetD} (hr : ∀ i (hi : i < d.gates.length), ∀ x ∈ d.gates[i].args, 0 ≤ x ∧ x < (i : Int)) : hasOrd d = true := by
  have key : ∀ m, m ≤ d.gates.length → (ordTo d m).length = m := by
    intro m
    induction m with
    | zero => intro _; rfl
    | succ m ih =>
      intro hm
      have hl := ih (by omega)
      obtain ⟨k, hk⟩ := rise_next hr (o := ordTo d m) (by omega)
      rw [ordTo_some hk, List.length_append, hl]; rfl
  unfold hasOrd
  rw [key _ (Nat.le_refl _)]
  simp
theorem forge_ord {p : List NodeD} (hok : POk p) : hasOrd (forgeD p) = true := rise_ord (forge_rise hok)

/-- What gates tell, as truths. -/
def netV (d : NetD) (r i : List Int) (x : Int) : Bool := (lfp d r i).getD x.toNat 2 == 1
theorem tell_all {v : List Int} {l : List Int} (h : ∀ x ∈ l, v.getD x.toNat 2 = 0 ∨ v.getD x.toNat 2 = 1) : (tellV 0 1 (l.map (fun x => v.getD x.toNat 2)) == 1) = l.all (fun x => v.getD x.toNat 2 == 1) := by
  have h2 : has 2 (l.map (fun x => v.getD x.toNat 2)) = false := by
    unfold has
    rw [List.any_eq_false]
    intro y hy
    obtain ⟨x, hx, rfl⟩ := List.mem_map.1 hy
    rcases h x hx with e | e <;> rw [e] <;> decide
  unfold tellV
  rw [h2]
  cases e : has 0 (l.map (fun x => v.getD x.toNat 2))
  · simp only [Bool.false_eq_true, if_false]
    symm
    show (l.all _) = true
    rw [List.all_eq_true]
    intro x hx
    rcases h x hx with e1 | e1
    · exfalso
      unfold has at e
      rw [List.any_eq_false] at e
      exact e _ (List.mem_map.2 ⟨x, hx, rfl⟩) (by rw [e1]; rfl)
    · rw [e1]; rfl
  · simp only [if_true]
    symm
    show (l.all _) = false
    rw [List.all_eq_false]
    unfold has at e
    rw [List.any_eq_true] at e
    obtain ⟨y, hy, e1⟩ := e
    obtain ⟨x, hx, rfl⟩ := List.mem_map.1 hy
    refine ⟨x, hx, ?_⟩
    have : v.getD x.toNat 2 = 0 := by have := beq_iff_eq.1 e1; exact this.symm
    rw [this]; decide
theorem tell_any' {v : List Int} {l : List Int} (h : ∀ x ∈ l, v.getD x.toNat 2 = 0 ∨ v.getD x.toNat 2 = 1) : (tellV 1 0 (l.map (fun x => v.getD x.toNat 2)) == 1) = l.any (fun x => v.getD x.toNat 2 == 1) := by
  have h2 : has 2 (l.map (fun x => v.getD x.toNat 2)) = false := by
    unfold has
    rw [List.any_eq_false]
    intro y hy
    obtain ⟨x, hx, rfl⟩ := List.mem_map.1 hy
    rcases h x hx with e | e <;> rw [e] <;> decide
  unfold tellV
  rw [h2]
  have hh : has 1 (l.map (fun x => v.getD x.toNat 2)) = l.any (fun x => v.getD x.toNat 2 == 1) := by
    unfold has
    rw [List.any_map]
    congr 1
    funext x
    show ((1 : Int) == v.getD x.toNat 2) = (v.getD x.toNat 2 == 1)
    rw [Bool.eq_iff_iff, beq_iff_eq, beq_iff_eq]
    exact ⟨Eq.symm, Eq.symm⟩
  rw [hh]
  cases l.any (fun x => v.getD x.toNat 2 == 1) <;> simp
/-- A gate of the net, told. -/
theorem netV_op {d : NetD} {r i : List Int} (hv : ∀ k, k < d.gates.length → (lfp d r i).getD k 2 = 0 ∨ (lfp d r i).getD k 2 = 1) {k : Nat} (hk : k < d.gates.length) {kd : Int} {l : List Int} (hg : d.gates[k] = ⟨kd, 0, l⟩) (hl : ∀ x ∈ l, 0 ≤ x ∧ x.toNat < d.gates.length) (h1 : kd = 6 → l.length = 1) (hkd : kd = 0 ∨ kd = 4 ∨ kd = 5 ∨ kd = 6) : netV d r i (k : Int) = opB kd l (netV d r i) := by
  have hw := lfp_at d r i k hk
  have hl' : ∀ x ∈ l, (lfp d r i).getD x.toNat 2 = 0 ∨ (lfp d r i).getD x.toNat 2 = 1 := fun x hx => hv _ (hl x hx).2
  unfold netV
  rw [Int.toNat_natCast, ← hw, hg]
  rcases hkd with rfl | rfl | rfl | rfl
  · rfl
  · show (tellV 0 1 (l.map (fun x => (lfp d r i).getD x.toNat 2)) == 1) = l.all _
    exact tell_all hl'
  · show (tellV 1 0 (l.map (fun x => (lfp d r i).getD x.toNat 2)) == 1) = l.any _
    exact tell_any' hl'
  · show (not1 ((l.map (fun x => (lfp d r i).getD x.toNat 2)).getD 0 2) == 1) = !_
    match l, h1 rfl, hl' with
    | [x], _, hl' =>
      have := hl' x (by simp)
      show (not1 ((lfp d r i).getD x.toNat 2) == 1) = !((lfp d r i).getD x.toNat 2 == 1)
      rcases this with e | e <;> rw [e] <;> rfl
theorem filter_at {f : Nat → Bool} {n k : Nat} (hk : k < n) (hf : f k = true) : ((List.range n).filter f)[((List.range k).filter f).length]? = some k := by
  obtain ⟨q, rfl⟩ : ∃ q, n = k + 1 + q := ⟨n - (k + 1), by omega⟩
  rw [List.range_add, List.range_succ, List.filter_append, List.filter_append, List.append_assoc, List.getElem?_append_right (Nat.le_refl _), Nat.sub_self]
  simp [hf]
/-- Where a program rests, as its net's registers have it. -/
def encR (p : List NodeD) (r : RestD) : List Int := (if r.fresh then 1 else 0) :: (toldV r.outs ++ ((List.range p.length).filter (fun i => waitK (kindAt p i))).map (fun i => if r.waits.getD i false then 1 else 0))
theorem enc_len {p : List NodeD} {r : RestD} (h : r.outs.length = 3) : (encR p r).length = 4 + numW p := by
  simp [encR, toldV, h, numW, mayN]; omega
theorem enc_fresh (p : List NodeD) (r : RestD) (z : Int) : (encR p r).getD 0 z = if r.fresh then 1 else 0 := rfl
theorem enc_out {p : List NodeD} {r : RestD} (h : r.outs.length = 3) {c : Nat} (hc : c ≤ 2) (z : Int) : (encR p r).getD (1 + c) z = if r.outs.getD c false then 1 else 0 := by
  unfold encR
  rw [Nat.add_comm 1 c, List.getD_cons_succ, List.getD_eq_getElem?_getD, List.getElem?_append_left (by simp [toldV, h]; omega)]
  simp [toldV, List.getD_eq_getElem?_getD, show c < r.outs.length by omega]
theorem enc_wait {p : List NodeD} {r : RestD} (h : r.outs.length = 3) {k : Nat} (hk : k < p.length) (hw : waitK (kindAt p k) = true) (z : Int) : (encR p r).getD (4 + mayN p k) z = if r.waits.getD k false then 1 else 0 := by
  unfold encR
  rw [show 4 + mayN p k = (3 + mayN p k) + 1 by omega, List.getD_cons_succ, List.getD_eq_getElem?_getD, List.getElem?_append_right (by simp [toldV, h])]
  have : 3 + mayN p k - (toldV r.outs).length = mayN p k := by simp [toldV, h]
  rw [this, List.getElem?_map]
  unfold mayN
  rw [filter_at hk hw]
  rfl
theorem enc_bits {p : List NodeD} {r : RestD} : ∀ x ∈ encR p r, x = 0 ∨ x = 1 := by
  intro x hx
  simp only [encR, toldV, List.mem_cons, List.mem_append, List.mem_map] at hx
  rcases hx with h | ⟨b, _, h⟩ | ⟨b, _, h⟩
  · rw [h]; split <;> simp
  · rw [← h]; split <;> simp
  · rw [← h]; split <;> simp
theorem bits_bit (x : Int) (n : Nat) : ∀ y ∈ bitsV x n, y = 0 ∨ y = 1 := by
  intro y hy
  obtain ⟨k, _, rfl⟩ := List.mem_map.1 hy
  have := Int.emod_two_eq (x / 2 ^ k)
  exact this
theorem zo_vals {l : List Int} (h : ∀ y ∈ l, y = 0 ∨ y = 1) : vals l = true := by
  unfold vals
  rw [List.all_eq_true]
  intro y hy
  rcases h y hy with e | e <;> rw [e] <;> decide
theorem gates0_at {p : List NodeD} {F : List GateD} (h : gates0 p <+: F) {k : Nat} {g : GateD} (hg : (gates0 p)[k]? = some g) : F[k]? = some g := by
  obtain ⟨t, rfl⟩ := h
  have : k < (gates0 p).length := by
    rcases Nat.lt_or_ge k (gates0 p).length with h1 | h1
    · exact h1
    · rw [List.getElem?_eq_none h1] at hg; simp at hg
  rw [List.getElem?_append_left this]; exact hg
/-- The net of a program, in whatever state: all is settled, and the gates tell what is so. -/
theorem forge_env {p : List NodeD} (hok : POk p) {r : RestD} (hr : restE p r = 0) (x : Int) :
    stepE (forgeD p) (encR p r) (bitsV x 3) = 0 ∧ (∀ k, k < (forgeD p).gates.length → (lfp (forgeD p) (encR p r) (bitsV x 3)).getD k 2 = 0 ∨ (lfp (forgeD p) (encR p r) (bitsV x 3)).getD k 2 = 1) ∧ Env p (forgeD p).gates (netV (forgeD p) (encR p r) (bitsV x 3)) r.waits r.outs (bitsV x 3) ∧ netV (forgeD p) (encR p r) (bitsV x 3) 3 = r.fresh := by
  obtain ⟨_, r1, r2⟩ := restE_len hr
  have hNok := forge_ok hok
  have hck := check_of hNok
  have hmade := (forge_made hok).1
  have hrl : (encR p r).length = (forgeD p).regs.length := by rw [enc_len r2]; exact hmade.regs.symm
  have hvr := zo_vals (enc_bits (p := p) (r := r))
  have hvi := zo_vals (bits_bit x 3)
  have hil : ((bitsV x 3).length : Int) = (forgeD p).ins := by simp [bitsV]; rfl
  have hst : stepE (forgeD p) (encR p r) (bitsV x 3) = 0 := by
    unfold stepE
    rw [if_pos hck, if_pos ⟨hrl, hil⟩, hvr, hvi]; rfl
  have hcl := lfp_closed hck (forge_ord hok) hst (fun y hy => by rcases enc_bits y hy with e | e <;> omega) (fun y hy => by rcases bits_bit x 3 y hy with e | e <;> omega)
  have hv : ∀ k, k < (forgeD p).gates.length → (lfp (forgeD p) (encR p r) (bitsV x 3)).getD k 2 = 0 ∨ (lfp (forgeD p) (encR p r) (bitsV x 3)).getD k 2 = 1 := fun k hk => by
    have h1 := hcl k hk
    have h2 := lfp_vals (forgeD p) hvr hvi k
    omega
  have hlow : ∀ (k : Nat) (g : GateD), (gates0 p)[k]? = some g → netV (forgeD p) (encR p r) (bitsV x 3) (k : Int) = (worthV g (encR p r) (bitsV x 3) (lfp (forgeD p) (encR p r) (bitsV x 3)) == 1) := fun k g hg => by
    have h1 : (forgeD p).gates[k]? = some g := gates0_at hmade.base hg
    obtain ⟨hk, h2⟩ := List.getElem?_eq_some_iff.1 h1
    unfold netV
    rw [Int.toNat_natCast, ← lfp_at _ _ _ k hk, h2]
  have hins : ∀ c : Nat, c ≤ 2 → ∀ z, (bitsV x 3).getD c z = x / 2 ^ c % 2 := fun c hc z => by
    simp [bitsV, List.getD_eq_getElem?_getD, show c < 3 by omega]
  refine ⟨hst, hv, ?_, ?_⟩
  · refine ⟨fun s kd l hp hkd => ?_, fun c hc => ?_, fun c => ?_, fun c hc => ?_, fun k hk hw => ?_, rest_may hr⟩
    · have hlen := hp.length_le
      rw [add_len] at hlen
      have hk : s.gates.length < (forgeD p).gates.length := by omega
      have hg : (forgeD p).gates[s.gates.length] = ⟨kd, 0, l⟩ := by
        obtain ⟨t, ht⟩ := hp
        have h1 : (forgeD p).gates[s.gates.length]? = some ⟨kd, 0, l⟩ := by
          rw [← ht]; simp [addG]
        exact (List.getElem?_eq_some_iff.1 h1).2
      refine netV_op hv hk hg (fun y hy => ?_) (fun e => ?_) hkd
      · have := forge_rise hok s.gates.length hk y (by rw [hg]; exact hy)
        omega
      · have := (hmade.form _ (List.getElem_mem hk)).2.2.2
        have h9 : argB (forgeD p).gates[s.gates.length] = true := this
        rw [hg, e] at h9
        have h10 : (l.length : Int) = 1 := by simpa [argB] using h9
        omega
    · have h1 : (gates0 p)[c]? = some ⟨2, (c : Int), []⟩ := by
        have : c = 0 ∨ c = 1 ∨ c = 2 := by omega
        rcases this with rfl | rfl | rfl <;> rfl
      rw [hlow c _ h1]
      show ((bitsV x 3).getD ((c : Int)).toNat 2 == 1) = _
      rw [Int.toNat_natCast, hins c hc, hins c hc]
    · rw [List.getD_eq_getElem?_getD]
      cases e : (bitsV x 3)[c]? with
      | none => exact Or.inl rfl
      | some y => exact bits_bit x 3 y (List.mem_of_getElem? e)
    · have h1 : (gates0 p)[4 + c]? = some ⟨3, ((1 + c : Nat) : Int), []⟩ := by
        have : c = 0 ∨ c = 1 ∨ c = 2 := by omega
        rcases this with rfl | rfl | rfl <;> rfl
      have h2 := hlow (4 + c) _ h1
      rw [show ((4 + c : Nat) : Int) = 4 + (c : Int) by omega] at h2
      rw [h2]
      show ((encR p r).getD ((1 + c : Nat) : Int).toNat 2 == 1) = _
      rw [Int.toNat_natCast, enc_out r2 hc]
      cases r.outs.getD c false <;> rfl
    · have hm : mayN p k < numW p := may_lt hk hw
      have h1 : (gates0 p)[7 + mayN p k]? = some ⟨3, ((4 + mayN p k : Nat) : Int), []⟩ := by
        unfold gates0
        rw [List.getElem?_append_right (by simp)]
        simp [hm]
      have h2 := hlow (7 + mayN p k) _ h1
      unfold waitG
      rw [h2]
      show ((encR p r).getD ((4 + mayN p k : Nat) : Int).toNat 2 == 1) = _
      rw [Int.toNat_natCast, enc_wait r2 hk hw]
      cases r.waits.getD k false <;> rfl
  · have h2 := hlow 3 ⟨3, 0, []⟩ rfl
    rw [show ((3 : Nat) : Int) = 3 by rfl] at h2
    rw [h2]
    show ((encR p r).getD 0 2 == 1) = _
    rw [enc_fresh]
    cases r.fresh <;> rfl

/-- What a register begins with stays, and the first four are as they were. -/
structure Keep (s t : SmD) : Prop where
  len : t.regs.length = s.regs.length
  begins : ∀ j, (t.regs.getD j (false, 0)).1 = (s.regs.getD j (false, 0)).1
  low : ∀ j, j < 4 → t.regs.getD j (false, 0) = s.regs.getD j (false, 0)
theorem Keep.refl (s : SmD) : Keep s s := ⟨rfl, fun _ => rfl, fun _ _ => rfl⟩
theorem Keep.trans {s t u : SmD} (h : Keep s t) (h' : Keep t u) : Keep s u := ⟨h'.len.trans h.len, fun j => (h'.begins j).trans (h.begins j), fun j hj => (h'.low j hj).trans (h.low j hj)⟩
theorem Keep.add {s t : SmD} (h : Keep s t) (kd : Int) (l : List Int) : Keep s (addG t kd l) := ⟨h.len, h.begins, h.low⟩
theorem store_begins (s : SmD) (g x : Int) (j : Nat) : ((storeG s g x).regs.getD j (false, 0)).1 = (s.regs.getD j (false, 0)).1 := by
  unfold storeG
  simp only []
  rw [List.getD_eq_getElem?_getD, List.getElem?_set]
  by_cases e : (g - 3).toNat = j
  · rw [if_pos e]
    by_cases hj : (g - 3).toNat < s.regs.length
    · rw [if_pos hj, e]; rfl
    · rw [if_neg hj, List.getD_eq_getElem?_getD, List.getElem?_eq_none (by omega)]
  · rw [if_neg e, List.getD_eq_getElem?_getD]
theorem store_far (s : SmD) (g x : Int) {j : Nat} (hj : (g - 3).toNat ≠ j) : (storeG s g x).regs.getD j (false, 0) = s.regs.getD j (false, 0) := by
  unfold storeG
  simp only []
  rw [List.getD_eq_getElem?_getD, List.getElem?_set_ne hj, List.getD_eq_getElem?_getD]
theorem store_at (s : SmD) (g x : Int) (hj : (g - 3).toNat < s.regs.length) : ((storeG s g x).regs.getD (g - 3).toNat (false, 0)).2 = x := by
  unfold storeG
  simp only []
  rw [List.getD_eq_getElem?_getD, List.getElem?_set_self hj]; rfl
theorem Keep.wait {p : List NodeD} {s t : SmD} (h : Keep s t) (k : Nat) (x : Int) : Keep s (storeG t (waitG p k) x) :=
  ⟨by rw [← h.len]; simp [storeG], fun j => (store_begins _ _ _ j).trans (h.begins j), fun j hj => (store_far _ _ _ (by unfold waitG; omega)).trans (h.low j hj)⟩
theorem Keep.put {s t : SmD} (h : Keep s t) (c : Nat) (x : Int) : Keep s (putG t c x) := ⟨h.len, h.begins, h.low⟩
def Keeps (f : PartF) : Prop := ∀ k b g s, Keep s (f k b g s).1
theorem part_keep {f : PartF} (hf : Keeps f) (p : List NodeD) (g : Int) (k : Nat) (b : Int) (s : SmD) : Keep s (partF f p g k b s).1 := by
  unfold partF
  exact (((((((Keep.refl s).add _ _).add _ _).trans (hf _ _ _ _)).add _ _).add _ _).add _ _)
theorem atOnce_keep {f : PartF} (hf : Keeps f) (p : List NodeD) (g : Int) (k1 : Nat) (b1 : Int) (k2 : Nat) (b2 : Int) (s : SmD) : Keep s (atOnceF f p g k1 b1 k2 b2 s).1 := by
  unfold atOnceF
  exact ((((((part_keep hf _ _ _ _ _).trans (part_keep hf _ _ _ _ _)).add _ _).add _ _).add _ _).add _ _)
theorem node_keep (p : List NodeD) : ∀ m, Keeps (nodeF p m)
  | 0 => fun k b g s => Keep.refl s
  | m + 1 => fun k b g s => by
    have ih := node_keep p m
    unfold nodeF
    split
    · exact (Keep.refl s).wait k b
    split
    · unfold haltF; exact (((Keep.refl s).add _ _).wait _ _).add _ _
    split
    · unfold awaitF; exact (((((Keep.refl s).add _ _).add _ _).add _ _).wait _ _).add _ _
    split
    · exact (Keep.refl s).put _ _
    split
    · unfold behindF; exact (((((Keep.refl s).add _ _).add _ _).add _ _).add _ _).trans ((ih _ _ _ _).trans (ih _ _ _ _))
    split
    · exact atOnce_keep ih _ _ _ _ _ _ _
    split
    · unfold choiceF; exact ((((Keep.refl s).add _ _).add _ _).add _ _).trans (atOnce_keep ih _ _ _ _ _ _ _)
    split
    · unfold choiceF; exact ((((Keep.refl s).add _ _).add _ _).add _ _).trans (atOnce_keep ih _ _ _ _ _ _ _)
    · exact Keep.refl s
theorem may_succ (p : List NodeD) (n : Nat) : mayN p (n + 1) = mayN p n + (if waitK (kindAt p n) then 1 else 0) := by
  unfold mayN
  rw [List.range_succ, List.filter_append, List.length_append]
  congr 1
  simp only [List.filter_cons, List.filter_nil]
  split <;> rfl
theorem may_onto {p : List NodeD} : ∀ (n i : Nat), i < mayN p n → ∃ k, k < n ∧ waitK (kindAt p k) = true ∧ mayN p k = i
  | 0, i, h => by simp [mayN] at h
  | n + 1, i, h => by
    rw [may_succ] at h
    by_cases e : i < mayN p n
    · obtain ⟨k, h1, h2, h3⟩ := may_onto n i e
      exact ⟨k, by omega, h2, h3⟩
    · cases hw : waitK (kindAt p n)
      · rw [hw] at h; simp at h; omega
      · rw [hw] at h; simp at h
        exact ⟨n, by omega, hw, by omega⟩
/-- A list of the registers' length, told place by place. -/
theorem regs_ext {p : List NodeD} {xs ys : List Int} (hx : xs.length = 4 + numW p) (hy : ys.length = 4 + numW p) (h0 : xs.getD 0 0 = ys.getD 0 0) (h1 : ∀ c, c ≤ 2 → xs.getD (1 + c) 0 = ys.getD (1 + c) 0) (h2 : ∀ k, k < p.length → waitK (kindAt p k) = true → xs.getD (4 + mayN p k) 0 = ys.getD (4 + mayN p k) 0) : xs = ys := by
  apply List.ext_getElem (by omega)
  intro j j1 j2
  have key : xs.getD j 0 = ys.getD j 0 := by
    by_cases e : j = 0
    · rw [e]; exact h0
    · by_cases e1 : j ≤ 3
      · have := h1 (j - 1) (by omega)
        rwa [show 1 + (j - 1) = j by omega] at this
      · obtain ⟨k, k1, k2, k3⟩ := may_onto (p := p) p.length (j - 4) (by unfold numW at hx; omega)
        have := h2 k k1 k2
        rwa [show 4 + mayN p k = j by omega] at this
  simpa [List.getD_eq_getElem?_getD, j1, j2] using key
theorem mid_keep (p : List NodeD) : Keep (storeG (addG (smith0 p) 0 []) 3 (here (smith0 p))) (mid p).1 := by
  unfold mid
  exact ((Keep.refl _).add _ _).trans (node_keep p _ _ _ _ _)
theorem pick_net (d : NetD) (r i : List Int) (l : List Int) (hv : ∀ k, k < d.gates.length → (lfp d r i).getD k 2 = 0 ∨ (lfp d r i).getD k 2 = 1) (hl : ∀ x ∈ l, 0 ≤ x ∧ x.toNat < d.gates.length) (hlen : (lfp d r i).length = d.gates.length) : pickV (lfp d r i) l = l.map (fun x => if netV d r i x then 1 else 0) := by
  unfold pickV
  apply List.map_congr_left
  intro x hx
  have h1 := (hl x hx).2
  have h2 : (lfp d r i).getD x.toNat 0 = (lfp d r i).getD x.toNat 2 := by
    simp [List.getD_eq_getElem?_getD, show x.toNat < (lfp d r i).length by omega]
  rw [h2]
  unfold netV
  rcases hv _ h1 with e | e <;> rw [e] <;> rfl
/-- One instant of the net is one instant of the program. -/
theorem forge_step {p : List NodeD} (hok : POk p) {r : RestD} {x : Int} (hw0 : walkE p r x = 0) :
    doE (forgeD p) (encR p r) (bitsV x 3) = 0 ∧ doOuts (forgeD p) (encR p r) (bitsV x 3) = toldV (walkR p r x).outs ∧ doNext (forgeD p) (encR p r) (bitsV x 3) = encR p (walkR p r x) := by
  have hr : restE p r = 0 := by
    unfold walkE at hw0
    split at hw0
    · assumption
    · rename_i h; exact absurd hw0 h
  have hpos : 0 < p.length := ok_some (o := 0) hok.form
  obtain ⟨_, r1, r2⟩ := restE_len hr
  obtain ⟨hst, hv, E, v3⟩ := forge_env hok hr x
  obtain ⟨hF, hin, hle, hmidF⟩ := forge_made hok
  obtain ⟨m1, m2, m3, m4⟩ := mid_made hok
  have hrest := walk_rest hw0
  obtain ⟨_, w1, w2⟩ := restE_len hrest
  have hlen := lfp_len (forgeD p) (encR p r) (bitsV x 3)
  generalize hV : netV (forgeD p) (encR p r) (bitsV x 3) = V at E v3
  have hdo : doE (forgeD p) (encR p r) (bitsV x 3) = 0 := by
    unfold doE
    rw [if_pos hst, if_pos]
    unfold opens
    rw [List.length_eq_zero_iff, List.filter_eq_nil_iff]
    intro y hy
    obtain ⟨k, hk, rfl⟩ := List.mem_iff_getElem.1 hy
    have := hv k (by omega)
    rw [show (lfp (forgeD p) (encR p r) (bitsV x 3)).getD k 2 = (lfp (forgeD p) (encR p r) (bitsV x 3))[k] by simp [List.getD_eq_getElem?_getD, hk]] at this
    rcases this with e | e <;> rw [e] <;> decide
  -- the nodes
  have h0 := smith0_ok p
  have h1 := h0.add 0 [] (fun x hx => by simp at hx) (Or.inr (Or.inr ⟨rfl, rfl⟩))
  have h2 := h1.store 3 (here (smith0 p)) (inG.new _ _ _)
  have hsf := some_few hok hpos
  have h3 := h2.add 5 (someArgs p 0) (some_in hok h2 hpos) (Or.inl ⟨by omega, by omega, by omega⟩)
  have hV2 : V (here (storeG (addG (smith0 p) 0 []) 3 (here (smith0 p)))) = someP p r.waits 0 := E.some hok hpos (m4.trans hmidF)
  have hV1 : V (here (smith0 p)) = false := E.never (l := []) ((grew_add (storeG (addG (smith0 p) 0 []) 3 (here (smith0 p))) 5 (someArgs p 0)).trans (m4.trans hmidF))
  have hS0 : Sim p V 0 (addG (storeG (addG (smith0 p) 0 []) 3 (here (smith0 p))) 5 (someArgs p 0)) (falsesL p.length, falsesL 3) :=
    ⟨falses_len _, falses_len _, fun c hc => by
      rw [falses_get]
      have : c = 0 ∨ c = 1 ∨ c = 2 := by omega
      rcases this with rfl | rfl | rfl <;> rfl, fun i hi => by omega, fun i _ => falses_get _ _⟩
  obtain ⟨hS, _⟩ := node_sim hok E p.length 0 3 (here (storeG (addG (smith0 p) 0 []) 3 (here (smith0 p)))) _ _ hpos (by rw [end_all hok]; omega) h3 (h3.lowIn (x := 3) (by omega) (by omega)) (inG.new _ _ _) hmidF hS0 (by
    rw [v3, hV2]
    cases hf : r.fresh
    · rfl
    · rw [some_no (rest_fresh hr hf)]; rfl) (fun e => by rw [hV2] at e; exact e)
  rw [end_all hok, v3, hV2] at hS
  have hT : (actF p r.waits r.outs (bitsV x 3) p.length 0 r.fresh (someP p r.waits 0) (falsesL p.length, falsesL 3)) = walkT p r x := rfl
  rw [hT] at hS
  have hR : walkR p r x = ⟨false, (walkT p r x).1.1, (walkT p r x).1.2⟩ := by unfold walkR; rw [if_pos hw0]
  change Sim p V p.length (mid p).1 (walkT p r x).1 at hS
  generalize walkT p r x = T at hS hR hT
  rw [hR] at w1 w2
  simp only at w1 w2
  -- the outs
  obtain ⟨a1, a2, a3, a4, a5⟩ := out_made m1 m3 0
  have t1 : total (outF (mid p).1 0).1 ≤ 14 := by unfold total at m3 ⊢; rw [a5]; exact m3
  obtain ⟨b1, b2, b3, b4, b5⟩ := out_made a1 t1 1
  have t2 : total (outF (outF (mid p).1 0).1 1).1 ≤ 14 := by unfold total at t1 ⊢; rw [b5]; exact t1
  obtain ⟨c1, c2, c3, c4, c5⟩ := out_made b1 t2 2
  have q3 : (outF (outF (outF (mid p).1 0).1 1).1 2).1.gates <+: (forgeD p).gates := List.prefix_refl _
  have q2 := c3.trans q3
  have q1 := b3.trans q2
  have any5 : ∀ (s : SmD) (l : List Int), (addG s 5 l).gates <+: (forgeD p).gates → V (here s) = l.any V := fun s l hp => by rw [E.new s 5 l hp (by simp)]; rfl
  have o0 : V (here (mid p).1) = T.1.2.getD 0 false := by rw [any5 (mid p).1 _ q1]; exact hS.puts 0 (by omega)
  have o1 : V (here (outF (mid p).1 0).1) = T.1.2.getD 1 false := by rw [any5 (outF (mid p).1 0).1 _ q2, a5]; exact hS.puts 1 (by omega)
  have o2 : V (here (outF (outF (mid p).1 0).1 1).1) = T.1.2.getD 2 false := by rw [any5 (outF (outF (mid p).1 0).1 1).1 _ q3, b5, a5]; exact hS.puts 2 (by omega)
  refine ⟨hdo, ?_, ?_⟩
  · unfold doOuts
    rw [if_pos hdo, pick_net _ _ _ _ hv (fun y hy => by have := hin y hy; unfold inG at this; exact ⟨this.1, by show y.toNat < (forgeF p).1.gates.length; omega⟩) hlen, hV, hR]
    show [here (mid p).1, here (outF (mid p).1 0).1, here (outF (outF (mid p).1 0).1 1).1].map _ = toldV T.1.2
    simp only [List.map_cons, List.map_nil, o0, o1, o2, toldV]
    match T.1.2, w2 with
    | [x, y, z], _ => rfl
  · unfold doNext
    rw [if_pos hdo, pick_net _ _ _ _ hv (fun y hy => by
      obtain ⟨z, hz, rfl⟩ := List.mem_map.1 hy
      have := hF.nexts z hz
      unfold inG at this
      exact ⟨this.1, by show z.2.toNat < (forgeF p).1.gates.length; omega⟩) hlen, hV, hR]
    have hmr := m1.regs
    have hmk := mid_keep p
    have hlr : (forgeD p).regs.length = 4 + numW p := hF.regs
    have hgd : ∀ j, j < 4 + numW p → ((nextsV (forgeD p)).map (fun x => if V x then (1 : Int) else 0)).getD j 0 = if V ((forgeD p).regs.getD j (false, 0)).2 then 1 else 0 := fun j hj => by
      rw [List.getD_eq_getElem?_getD]
      simp [nextsV, List.getD_eq_getElem?_getD, show j < (forgeD p).regs.length by omega]
    have hregs : (forgeD p).regs = (storeG (storeG (storeG (mid p).1 4 (here (mid p).1)) 5 (here (outF (mid p).1 0).1)) 6 (here (outF (outF (mid p).1 0).1 1).1)).regs := rfl
    apply regs_ext (p := p) (by simp [nextsV, hlr]) (enc_len w2)
    · rw [hgd 0 (by omega), enc_fresh, hregs, store_far _ _ _ (by decide), store_far _ _ _ (by decide), store_far _ _ _ (by decide), hmk.low 0 (by omega)]
      have e0 : ((storeG (addG (smith0 p) 0 []) 3 (here (smith0 p))).regs.getD 0 (false, 0)).2 = here (smith0 p) := by
        have := store_at (addG (smith0 p) 0 []) 3 (here (smith0 p)) (by show 0 < (regs0 p).length; rw [regs0_len]; omega)
        exact this
      rw [e0, hV1]
    · intro c hc
      rw [hgd (1 + c) (by omega), enc_out w2 hc, hregs]
      have : c = 0 ∨ c = 1 ∨ c = 2 := by omega
      rcases this with rfl | rfl | rfl
      · rw [store_far _ _ _ (by decide), store_far _ _ _ (by decide)]
        have := store_at (mid p).1 4 (here (mid p).1) (by show 1 < _; omega)
        rw [show ((4 : Int) - 3).toNat = 1 + 0 by decide] at this
        rw [this, o0]
      · rw [store_far _ _ _ (by decide)]
        have := store_at (storeG (mid p).1 4 (here (mid p).1)) 5 (here (outF (mid p).1 0).1) (by show 2 < _; simp [storeG]; omega)
        rw [show ((5 : Int) - 3).toNat = 1 + 1 by decide] at this
        rw [this, o1]
      · have := store_at (storeG (storeG (mid p).1 4 (here (mid p).1)) 5 (here (outF (mid p).1 0).1)) 6 (here (outF (outF (mid p).1 0).1 1).1) (by show 3 < _; simp [storeG]; omega)
        rw [show ((6 : Int) - 3).toNat = 1 + 2 by decide] at this
        rw [this, o2]
    · intro k hk hwk
      have hm : mayN p k < numW p := may_lt hk hwk
      rw [hgd _ (by omega), enc_wait w2 hk hwk, hregs, store_far _ _ _ (by omega), store_far _ _ _ (by omega), store_far _ _ _ (by omega)]
      have := hS.waits k hk hk hwk
      unfold nextOf at this
      rw [this]
theorem forge_begins {p : List NodeD} (hok : POk p) : begins (forgeD p) = encR p ⟨true, falsesL p.length, falsesL 3⟩ := by
  have hlr : (forgeD p).regs.length = 4 + numW p := (forge_made hok).1.regs
  have hmk := mid_keep p
  have hf : ∀ j, ((forgeD p).regs.getD j (false, 0)).1 = ((regs0 p).getD j (false, 0)).1 := fun j => by
    have hregs : (forgeD p).regs = (storeG (storeG (storeG (mid p).1 4 (here (mid p).1)) 5 (here (outF (mid p).1 0).1)) 6 (here (outF (outF (mid p).1 0).1 1).1)).regs := rfl
    rw [hregs, store_begins, store_begins, store_begins, hmk.begins, store_begins]
    rfl
  have hgd : ∀ j, j < 4 + numW p → (begins (forgeD p)).getD j 0 = if ((regs0 p).getD j (false, 0)).1 then 1 else 0 := fun j hj => by
    rw [← hf j, List.getD_eq_getElem?_getD]
    simp [begins, List.getD_eq_getElem?_getD, show j < (forgeD p).regs.length by omega]
  have hlow : ∀ c, c ≤ 2 → ((regs0 p).getD (1 + c) (false, 0)).1 = false := fun c hc => by
    have : c = 0 ∨ c = 1 ∨ c = 2 := by omega
    rcases this with rfl | rfl | rfl <;> rfl
  apply regs_ext (p := p) (by simp [begins, hlr]) (enc_len (by simp [falsesL]))
  · rw [hgd 0 (by omega), enc_fresh]; rfl
  · intro c hc
    rw [hgd _ (by omega), enc_out (by simp [falsesL]) hc, hlow c hc, falses_get]
  · intro k hk hwk
    have hm : mayN p k < numW p := may_lt hk hwk
    rw [hgd _ (by omega), enc_wait (by simp [falsesL]) hk hwk, falses_get]
    have : ((regs0 p).getD (4 + mayN p k) (false, 0)).1 = false := by
      unfold regs0
      rw [List.getD_eq_getElem?_getD, List.getElem?_append_right (by simp)]
      simp [hm]
    rw [this]
/-- Where the program rests behind k instants. -/
def restTo (p : List NodeD) (l : List Int) : Nat → RestD
  | 0 => ⟨true, falsesL p.length, falsesL 3⟩
  | k + 1 => walkR p (restTo p l k) (l.getD k 0)
theorem forge_states {p : List NodeD} (hok : POk p) {l : List Int} (hl : inPow l 3 = true) : ∀ k, k ≤ l.length → restE p (restTo p l k) = 0 ∧ stateAt (forgeD p) l k = encR p (restTo p l k)
  | 0, _ => ⟨restE_fresh (of_pok hok), forge_begins hok⟩
  | k + 1, hk => by
    obtain ⟨h1, h2⟩ := forge_states hok hl k (by omega)
    have hx : walkE p (restTo p l k) (l.getD k 0) = 0 := by
      unfold walkE
      rw [if_pos h1, if_pos]
      unfold inPow at hl
      rw [List.all_eq_true] at hl
      have := hl (l.getD k 0) (by rw [List.getD_eq_getElem?_getD, List.getElem?_eq_getElem (by omega)]; exact List.getElem_mem _)
      simp only [wth, decide_eq_true_iff] at this
      omega
    obtain ⟨_, _, h5⟩ := forge_step hok hx
    refine ⟨walk_rest hx, ?_⟩
    show doNext (forgeD p) (stateAt (forgeD p) l k) (bitsV (l.getD k 0) (forgeD p).ins.toNat) = _
    rw [h2]
    exact h5
theorem forge_at {p : List NodeD} (hok : POk p) {l : List Int} (hl : inPow l 3 = true) {k : Nat} (hk : k < l.length) : walkE p (restTo p l k) (l.getD k 0) = 0 ∧ errAt (forgeD p) l k = 0 ∧ outAt (forgeD p) l k = toldV (restTo p l (k + 1)).outs := by
  obtain ⟨h1, h2⟩ := forge_states hok hl k (by omega)
  have hx : walkE p (restTo p l k) (l.getD k 0) = 0 := by
    unfold walkE
    rw [if_pos h1, if_pos]
    unfold inPow at hl
    rw [List.all_eq_true] at hl
    have := hl (l.getD k 0) (by rw [List.getD_eq_getElem?_getD, List.getElem?_eq_getElem hk]; exact List.getElem_mem _)
    simp only [wth, decide_eq_true_iff] at this
    omega
  obtain ⟨h3, h4, _⟩ := forge_step hok hx
  refine ⟨hx, ?_, ?_⟩
  · unfold errAt; rw [h2]; exact h3
  · unfold outAt; rw [h2]; exact h4
/-- What the document's Run tells. -/
def playE (p : List NodeD) (l : List Int) : Int := if checkP p = 0 then timesE l 3 else checkP p
def playRows (p : List NodeD) (l : List Int) : List (List Int) := if playE p l = 0 then (List.range l.length).map (fun k => toldV (restTo p l (k + 1)).outs) else []
theorem forge_run {p : List NodeD} (hok : POk p) (l : List Int) : runE (forgeD p) l = playE p l ∧ runRows (forgeD p) l = playRows p l := by
  have hck := check_of (forge_ok hok)
  have hi : (forgeD p).ins.toNat = 3 := rfl
  have hE : runE (forgeD p) l = playE p l := by
    unfold runE playE
    rw [if_pos hck, if_pos (of_pok hok), hi]
    split
    · rename_i ht
      rw [ht]
      obtain ⟨_, hl⟩ := times_ok ht
      have : ∀ k, k ≤ l.length → errTo (forgeD p) l k = 0 := by
        intro k
        induction k with
        | zero => intro _; rfl
        | succ k ih =>
          intro hk
          show (if errTo (forgeD p) l k = 0 then errAt (forgeD p) l k else errTo (forgeD p) l k) = 0
          rw [if_pos (ih (by omega))]
          exact (forge_at hok hl (by omega)).2.1
      exact this _ (Nat.le_refl _)
    · rfl
  refine ⟨hE, ?_⟩
  unfold runRows playRows
  rw [hE]
  split
  · rename_i h0
    have ht : timesE l 3 = 0 := by unfold playE at h0; rwa [if_pos (of_pok hok)] at h0
    obtain ⟨_, hl⟩ := times_ok ht
    unfold rowsTo
    apply List.map_congr_left
    intro k hk
    exact (forge_at hok hl (List.mem_range.1 hk)).2.2
  · rfl
end Go.Proofs.YtongajonecgdpagGreatDoor
