/- The document's WalkOf. -/
import Derived.Test.YtopacgdfafhfhafWalkD
import Derived.Test.YtopacgdfafhfhafTickA
namespace Go.Proofs.Ytopacgdfafhfhaf
open Go.RowKit

def walkE (p : List NodeD) (r : RestD) (x : Int) : Int := if restE p r = 0 then (if 0 ≤ x ∧ x ≤ 7 then 0 else 3) else restE p r
def walkT (p : List NodeD) (r : RestD) (x : Int) : NextD × Bool := if r.fresh then beginF p r.outs (bitsV x 3) p.length 0 (falsesL p.length, falsesL 3) else if someP p r.waits 0 then onF p r.waits r.outs (bitsV x 3) p.length 0 (falsesL p.length, falsesL 3) else ((falsesL p.length, falsesL 3), false)
def walkR (p : List NodeD) (r : RestD) (x : Int) : RestD := if walkE p r x = 0 then ⟨false, (walkT p r x).1.1, (walkT p r x).1.2⟩ else ⟨false, [], []⟩
def walkO (p : List NodeD) (r : RestD) (x : Int) : Bool := if walkE p r x = 0 then (walkT p r x).2 else false
def WalkRet (p : List NodeD) (r : RestD) (x : Int) (w w' : World) (e : Ending) : Prop := ∃ f wa wn wc oa on oc, e = .returned (.tuple #[.agg #[.bool f, .slice wa wn wc, .slice oa on oc], .bool (walkO p r x), .int .i64 (walkE p r x)]) ∧ RestAt w' (walkR p r x) f wa wn oa on ∧ Below w.heap.size w w'
theorem walk_err {p : List NodeD} {r : RestD} {x : Int} {w w' : World} {er : Int} (he : walkE p r x = er) (h0 : er ≠ 0) (hb : Below w.heap.size w w') : WalkRet p r x w w' (.returned (.tuple #[.agg #[.bool false, .slice none 0 0, .slice none 0 0], .bool false, .int .i64 er])) := by
  have h1 : walkE p r x ≠ 0 := by rw [he]; exact h0
  refine ⟨false, none, 0, 0, none, 0, 0, by unfold walkO; rw [if_neg h1, he], ?_, hb⟩
  unfold walkR
  rw [if_neg h1]
  exact ⟨rfl, ⟨rfl, Nat.zero_le _, Or.inl rfl⟩, ⟨rfl, Nat.zero_le _, Or.inl rfl⟩⟩
theorem restE_ok {p : List NodeD} {r : RestD} (h : restE p r = 0) : checkP p = 0 ∧ r.waits.length = p.length ∧ r.outs.length = 3 ∧ ∀ k, k < p.length → badAt p r k = false := by
  unfold restE at h
  split at h
  · rename_i h1
    split at h
    · rename_i h2
      split at h
      · rename_i h3
        refine ⟨h1, h2.1, h2.2, fun k hk => ?_⟩
        simp only [restB, List.all_eq_true, List.mem_range] at h3
        have := h3 k hk
        simpa using this
      · simp at h
    · simp at h
  · rename_i h1; exact absurd h h1
theorem rest_may {p : List NodeD} {r : RestD} (h : restE p r = 0) : ∀ i, r.waits.getD i false = true → waitK (kindAt p i) = true := by
  obtain ⟨_, h2, _, h4⟩ := restE_ok h
  intro i hi
  have hl : i < p.length := by
    rw [← h2]
    rcases Nat.lt_or_ge i r.waits.length with h5 | h5
    · exact h5
    · rw [List.getD_eq_getElem?_getD, List.getElem?_eq_none h5] at hi; simp at hi
  have h6 := h4 i hl
  unfold badAt at h6
  rw [hi] at h6
  simp at h6
  exact h6.2

theorem falses_get (n i : Nat) : (falsesL n).getD i false = false := by
  unfold falsesL
  rw [List.getD_eq_getElem?_getD, List.getElem?_replicate]
  split <;> rfl
theorem falses_all (n : Nat) : allF (falsesL n) := falses_get n
theorem falses_len (n : Nat) : (falsesL n).length = n := by simp [falsesL]
theorem all_falses {l : List Bool} (h : allF l) : l = falsesL l.length := by
  apply List.ext_getElem (by simp [falsesL])
  intro i h1 h2
  have := h i
  rw [List.getD_eq_getElem?_getD, List.getElem?_eq_getElem h1] at this
  simpa [falsesL] using this
theorem walk_ok {p : List NodeD} {r : RestD} {x : Int} (h : walkE p r x = 0) : restE p r = 0 ∧ 0 ≤ x ∧ x ≤ 7 := by
  unfold walkE at h
  split at h
  · split at h
    · rename_i h1 h2; exact ⟨h1, h2⟩
    · simp at h
  · rename_i h1; exact absurd h h1
theorem walkT_went (p : List NodeD) (r : RestD) (x : Int) : Went4 p (falsesL p.length, falsesL 3) (walkT p r x).1 := by
  unfold walkT
  split
  · exact begin_went _ _ _ _ _ _
  split
  · exact on_went _ _ _ _ _ _ _
  · exact Went4.refl _ _
theorem walkT_over (p : List NodeD) (r : RestD) (x : Int) (h : (walkT p r x).2 = true) : (walkT p r x).1.1 = falsesL p.length := by
  unfold walkT at h ⊢
  split at h
  · rename_i h1
    rw [if_pos h1]
    exact begin_over _ _ _ _ _ _ h
  rename_i h1
  rw [if_neg h1]
  split at h
  · rename_i h2
    rw [if_pos h2]
    exact on_over _ _ _ _ _ _ _ (falses_all _) h
  · simp at h
theorem walkR_eq {p : List NodeD} {r : RestD} {x : Int} (h : walkE p r x = 0) : walkR p r x = ⟨false, (walkT p r x).1.1, (walkT p r x).1.2⟩ := by unfold walkR; rw [if_pos h]
theorem walkO_eq {p : List NodeD} {r : RestD} {x : Int} (h : walkE p r x = 0) : walkO p r x = (walkT p r x).2 := by unfold walkO; rw [if_pos h]
theorem restE_of {p : List NodeD} {q : RestD} (h0 : checkP p = 0) (h1 : q.waits.length = p.length) (h2 : q.outs.length = 3) (h3 : q.fresh = false) (h4 : ∀ i, q.waits.getD i false = true → waitK (kindAt p i) = true) : restE p q = 0 := by
  unfold restE
  rw [if_pos h0, if_pos ⟨h1, h2⟩, if_pos]
  simp only [restB, List.all_eq_true, List.mem_range]
  intro k _
  unfold badAt
  rw [h3]
  cases hb : q.waits.getD k false
  · rfl
  · rw [h4 k hb]; rfl
theorem walk_rest {p : List NodeD} {r : RestD} {x : Int} (h : walkE p r x = 0) : restE p (walkR p r x) = 0 := by
  have hw := walkT_went p r x
  have h1 := restE_ok (walk_ok h).1
  rw [walkR_eq h]
  refine restE_of h1.1 ?_ ?_ rfl ?_
  · exact hw.len.trans (falses_len _)
  · exact hw.outs.trans (falses_len _)
  · intro i hi
    rcases hw.may i hi with h2 | h2
    · rw [falses_get] at h2; simp at h2
    · exact h2
theorem walk_over {p : List NodeD} {r : RestD} {x : Int} (h : walkE p r x = 0) (ho : walkO p r x = true) : allF (walkR p r x).waits := by
  rw [walkO_eq h] at ho
  rw [walkR_eq h]
  show allF (walkT p r x).1.1
  rw [walkT_over p r x ho]
  exact falses_all _
theorem walk_idle {p : List NodeD} {q : RestD} {y : Int} (h : restE p q = 0) (hf : q.fresh = false) (ha : allF q.waits) (hy : 0 ≤ y ∧ y ≤ 7) : walkE p q y = 0 ∧ walkR p q y = ⟨false, falsesL p.length, falsesL 3⟩ ∧ walkO p q y = false := by
  have hE : walkE p q y = 0 := by unfold walkE; rw [if_pos h, if_pos hy]
  have hT : walkT p q y = ((falsesL p.length, falsesL 3), false) := by
    unfold walkT
    rw [if_neg (by rw [hf]; simp), if_neg (by rw [some_no ha]; simp)]
  refine ⟨hE, ?_, ?_⟩
  · rw [walkR_eq hE, hT]
  · rw [walkO_eq hE, hT]

def toldV (l : List Bool) : List Int := l.map (fun b => if b then 1 else 0)
theorem toldV_take (l : List Bool) (k : Nat) (h : k < l.length) : intsV ((toldV l).take (k + 1)) = intsV ((toldV l).take k) ++ [.int .i64 (if l[k] then 1 else 0)] := by
  rw [intsV_succ _ _ (by simpa [toldV] using h)]
  simp [toldV]
set_option maxHeartbeats 1000000 in
theorem Told_any (l : List Bool) (a : Option Addr) (n c : Nat) (w : World) (h : Bools w a n l) (hn14 : n ≤ 14) :
    Calls Try.prog 24 #[.slice a n c] w fun e w' => ∃ a' c', e = .returned (.slice a' n c') ∧ Ints w' a' n (toldV l) ∧ Below w.heap.size w w' := by
  have HN := hide h.1
  obtain ⟨i0, hi, hz0, hz1, hz2⟩ := info_parts Try.infoInt
  go_enter Try.func24, Try.ntmps24
  go_wp2_with fail
  go_loopw [3, 4] (fun v' iv wr => ∃ k : Nat, k ≤ n ∧ iv = .int .i64 k ∧ wr.ownsRow w.heap.size 3 1 v' k (intsV ((toldV l).take k)) ∧ Below w.heap.size w wr) (fun _ iv _ => n - (intOf iv).toNat)
  case atStart => exact ⟨0, Nat.zero_le _, rfl, World.ownsRow_nil _ _ _ _, Below.refl _ _⟩
  case round =>
    obtain ⟨k, hk, rfl, hown, hbel⟩ := hrel
    by_cases hlt : k < n
    · have hki : (k : Int) < (n : Int) := by omega
      have hkp : k < l.length := by have := unhide HN; omega
      obtain ⟨b, off, rfl, hbb, c1⟩ := (h.below hbel).at hkp
      have HT := hide (toldV_take l k hkp)
      generalize l[k] = lk at *
      cases lk
      all_goals
        simp only [Bool.false_eq_true, if_false, if_true] at HT
      · go_wp2_with (at_builtin; refine wpList_append_own _ rfl _ _ 41 rfl (w.heap.size) 3 i0 (.int .i64 0) 1 8 Try.underlying41 hi hz0 hz1 hz2 rfl (by decide) _ _ _ rfl (hown.alloc _) ⟨wr.heap.size, 0, none⟩ 1 1 [.int .i64 0] rfl rfl ?c1 ?c2 ?c3 ?c4 ?c5 ?_)
        case c1 =>
          intro j u hj
          match j, hj with
          | 0, hj => simp at hj; subst hj; simp [Addr.add]
        case c2 => intro u hu; simp at hu; subst hu; rfl
        case c3 => unfold maxLen; omega
        case c4 => omega
        case c5 => have := hbel.size; simp; omega
        intro v' w3 hown' hgrow _
        have hown2 := hown'
        rw [← unhide HT] at hown2
        have hb3 : Below w.heap.size w w3 := hbel.trans (((Below.refl _ wr).alloc (hbel.size) _).grown hgrow (by have := hbel.size; simp; omega) (fun k hk => (hown.lt k hk).1))
        have R := hide (And.intro hown2 hb3)
        clear hown hown' hgrow hown2 hb3 c1 hbel
        go_wp2_with fail
        exact ⟨⟨k + 1, by omega, by go_num, (unhide R).1, (unhide R).2⟩, by simp [intOf]; omega⟩
      · go_wp2_with (at_builtin; refine wpList_append_own _ rfl _ _ 41 rfl (w.heap.size) 3 i0 (.int .i64 0) 1 8 Try.underlying41 hi hz0 hz1 hz2 rfl (by decide) _ _ _ rfl (hown.alloc _) ⟨wr.heap.size, 0, none⟩ 1 1 [.int .i64 1] rfl rfl ?c1 ?c2 ?c3 ?c4 ?c5 ?_)
        case c1 =>
          intro j u hj
          match j, hj with
          | 0, hj => simp at hj; subst hj; simp [Addr.add]
        case c2 => intro u hu; simp at hu; subst hu; rfl
        case c3 => unfold maxLen; omega
        case c4 => omega
        case c5 => have := hbel.size; simp; omega
        intro v' w3 hown' hgrow _
        have hown2 := hown'
        rw [← unhide HT] at hown2
        have hb3 : Below w.heap.size w w3 := hbel.trans (((Below.refl _ wr).alloc (hbel.size) _).grown hgrow (by have := hbel.size; simp; omega) (fun k hk => (hown.lt k hk).1))
        have R := hide (And.intro hown2 hb3)
        clear hown hown' hgrow hown2 hb3 c1 hbel
        go_wp2_with fail
        exact ⟨⟨k + 1, by omega, by go_num, (unhide R).1, (unhide R).2⟩, by simp [intOf]; omega⟩
    · have hkn : k = n := by omega
      subst hkn
      rw [List.take_of_length_le (by have := unhide HN; simp [toldV]; omega)] at hown
      obtain ⟨a2, c2, hv', hI⟩ := own_ints hown (by unfold maxLen; omega)
      rw [hv']
      clear hv' hown
      go_wp2_with fail
      go_ret
      exact ⟨_, _, rfl, hI, hbel⟩
end Go.Proofs.Ytopacgdfafhfhaf
