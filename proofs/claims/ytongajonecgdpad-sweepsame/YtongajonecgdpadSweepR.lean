/- slices.Clone; rows of registers and gates of the call's own. -/
import Derived.Test.YtongajonecgdpadSweepQ
namespace Go.Proofs.Ytongajonecgdpad
open Go.RowKit

theorem own_nil {w : World} {base : Nat} {e : TypeId} {size : Nat} {a : Option Addr} {n c k : Nat} {xs : List Value} (h : w.ownsRow base e size (.slice a n c) k xs) : a = none → c = 0 := by
  intro ha
  rcases h.2 with ⟨h1, _⟩ | ⟨g, cap, cur, hv, _⟩
  · injection h1 with _ _ h3
  · injection hv with h3 _ _; rw [ha] at h3; simp at h3

set_option maxRecDepth 100000 in
set_option maxHeartbeats 1000000 in
theorem CloneI_any (xs : List Int) (a : Option Addr) (n c : Nat) (w : World) (h : Ints w a n xs) (hn : n ≤ 100) :
    Calls Try.prog 29 #[.slice a n c] w fun e w' => ∃ a' c', e = .returned (.slice a' n c') ∧ Ints w' a' n xs ∧ Fresh w.heap.size a' n ∧ Hid (a' = none → c' = 0) ∧ Below w.heap.size w w' := by
  cases a with
  | none =>
    have hx : xs = [] := by
      rcases h.2.2 with h | ⟨b, off, h, _⟩
      · exact h
      · simp at h
    subst hx
    have hn0 : n = 0 := h.1
    subst hn0
    have hne := nil_eqc w c
    go_enter Try.func29, Try.ntmps29
    go_wp2_with fail
    go_ret
    exact ⟨_, _, rfl, Ints.none _, Or.inl rfl, fun _ => rfl, Below.refl _ _⟩
  | some ad =>
    obtain ⟨i0, hi, hz0, hz1, hz2⟩ := info_parts Try.infoInt
    have HI := hide h
    have HN := hide h.1
    have hne := nil_nec w ad n c
    clear h
    go_enter Try.func29, Try.ntmps29
    go_wp2_with (at_builtin; refine wpList_append_own _ rfl _ _ 24 rfl w.heap.size 3 i0 (.int .i64 0) 1 8 Try.underlying24 hi hz0 hz1 hz2 rfl (by decide) _ 0 (([] : List Int).map (fun x => Value.int .i64 x)) rfl (app_empty w w.heap.size w.heap.size rfl (Nat.le_refl _)) ad n c (xs.map (fun x => Value.int .i64 x)) rfl ?c0 ?c1 ?c2 ?c3 ?c4 ?c5 ?_)
    case c0 => have := unhide HN; simp; omega
    case c1 =>
      intro j u hj
      obtain ⟨h1, h2, h3⟩ := (unhide HI).below ((Below.refl _ w).alloc (Nat.le_refl _) (.cells #[] 3))
      rcases h3 with h3 | ⟨b, off, h4, _, hcell⟩
      · subst h3; simp at hj
      · simp at h4; subst h4
        have hj' : j < xs.length := by
          rcases Nat.lt_or_ge j xs.length with h | h
          · exact h
          · rw [List.getElem?_eq_none (by simpa using h)] at hj; simp at hj
        rw [addr_plus, hcell j hj']
        simpa [hj'] using hj
    case c2 =>
      intro u hu
      obtain ⟨z, _, rfl⟩ := List.mem_map.1 hu
      rfl
    case c3 => unfold maxLen; omega
    case c4 => omega
    case c5 => simp
    intro v' w3 hown' hgrow _
    have hb3 : Below w.heap.size w w3 := ((Below.refl _ w).alloc (Nat.le_refl _) _).grown hgrow (by simp) (fun k hk => by simp [Value.ownBlock] at hk; omega)
    have hown2 : w3.ownsRow w.heap.size 3 1 v' n (xs.map (fun x => Value.int .i64 x)) := by
      simpa using hown'
    obtain ⟨a2, c2, rfl, hI2⟩ := own_ints hown2 (by unfold maxLen; omega)
    have hF2 := own_fresh hown2
    have hN2 := hide (own_nil hown2)
    clear hown' hgrow hown2
    go_wp2_with fail
    go_ret
    exact ⟨_, _, rfl, hI2, hF2, hN2, hb3⟩

/-- Registers as cells. -/
def regsV : List (Bool × Int) → List Value
  | [] => []
  | r :: rs => .bool r.1 :: .int .i64 r.2 :: regsV rs
theorem regsV_len : ∀ rs : List (Bool × Int), (regsV rs).length = 2 * rs.length
  | [] => rfl
  | r :: rs => by simp only [regsV, List.length_cons, regsV_len rs]; omega
theorem regsV_at : ∀ (rs : List (Bool × Int)) (i : Nat) (hi : i < rs.length), (regsV rs)[i * 2]? = some (.bool rs[i].1) ∧ (regsV rs)[i * 2 + 1]? = some (.int .i64 rs[i].2)
  | r :: rs, 0, _ => ⟨rfl, rfl⟩
  | r :: rs, i + 1, hi => by
    have h := regsV_at rs i (by simpa using hi)
    have e1 : (i + 1) * 2 = i * 2 + 1 + 1 := by omega
    rw [e1]
    simp only [regsV, List.getElem?_cons_succ, List.getElem_cons_succ]
    exact h
theorem regsV_of : ∀ (rs : List (Bool × Int)) (j : Nat) (u : Value), (regsV rs)[j]? = some u → ∃ i, ∃ hi : i < rs.length, (j = i * 2 ∧ u = .bool rs[i].1) ∨ (j = i * 2 + 1 ∧ u = .int .i64 rs[i].2)
  | [], j, u, h => by simp [regsV] at h
  | r :: rs, 0, u, h => ⟨0, by simp, Or.inl ⟨rfl, by simp [regsV] at h; exact h.symm⟩⟩
  | r :: rs, 1, u, h => ⟨0, by simp, Or.inr ⟨rfl, by simp [regsV] at h; exact h.symm⟩⟩
  | r :: rs, j + 2, u, h => by
    have h' : (regsV rs)[j]? = some u := by simpa [regsV] using h
    obtain ⟨i, hi, h9⟩ := regsV_of rs j u h'
    refine ⟨i + 1, by simpa using hi, ?_⟩
    rcases h9 with ⟨h1, h2⟩ | ⟨h1, h2⟩
    · exact Or.inl ⟨by omega, by simpa using h2⟩
    · exact Or.inr ⟨by omega, by simpa using h2⟩
theorem regsV_one (rs : List (Bool × Int)) : ∀ u ∈ regsV rs, u.oneCell' = true := by
  intro u hu
  obtain ⟨j, hj⟩ := List.getElem?_of_mem hu
  obtain ⟨i, hi, h | h⟩ := regsV_of rs j u hj
  · rw [h.2]; rfl
  · rw [h.2]; rfl
theorem Regs.cells {w : World} {ad : Addr} {n : Nat} {rs : List (Bool × Int)} (h : Regs w (some ad) n rs) : ∀ j u, (regsV rs)[j]? = some u → w.cell? (ad.add j) = some u := by
  intro j u hj
  obtain ⟨i, hi, h9⟩ := regsV_of rs j u hj
  rcases h.2.2 with h0 | ⟨b, off, ha, _, hc⟩
  · subst h0; simp at hi
  · simp at ha; subst ha
    rw [addr_plus]
    rcases h9 with ⟨rfl, rfl⟩ | ⟨rfl, rfl⟩
    · exact (hc i hi).1
    · rw [← Nat.add_assoc]; exact (hc i hi).2
theorem own_regs {w : World} {base : Nat} {e : TypeId} {v : Value} {n : Nat} {rs : List (Bool × Int)} (h : w.ownsRow base e 2 v n (regsV rs)) (hn : n = rs.length) (hm : n ≤ maxLen) :
    ∃ a cap, v = .slice a n cap ∧ Regs w a n rs ∧ Fresh base a n := by
  rcases h.2 with ⟨h1, h2⟩ | ⟨g, cap, cur, hv, hg, hh, r⟩
  · subst h2
    have : rs = [] := List.eq_nil_of_length_eq_zero hn.symm
    exact ⟨_, _, h1, ⟨hn, by omega, Or.inl this⟩, Or.inl rfl⟩
  · refine ⟨_, cap, hv, ⟨hn, by omega, Or.inr ⟨g, 0, rfl, (Array.getElem?_eq_some_iff.1 hh).1, fun i hi => ?_⟩⟩, Or.inr ⟨g, 0, rfl, hg⟩⟩
    obtain ⟨h1, h2⟩ := regsV_at rs i hi
    have c1 := h.cells (g := g) (by rw [hv]; rfl) _ _ h1
    have c2 := h.cells (g := g) (by rw [hv]; rfl) _ _ h2
    rw [addr_plus] at c1 c2
    exact ⟨c1, by rw [← Nat.add_assoc] at c2; exact c2⟩
theorem Try.infoStore : (Try.prog.info? 53).map (fun i => (i.zero, i.size, i.bytes)) = some (some (.agg #[.bool false, .int .i64 0]), 2, 16) := by kernel_rfl
theorem Regs.none (w : World) : Regs w Option.none 0 [] := ⟨rfl, Nat.zero_le _, Or.inl rfl⟩

set_option maxRecDepth 100000 in
set_option maxHeartbeats 1000000 in
theorem CloneS_any (rs : List (Bool × Int)) (a : Option Addr) (n c : Nat) (w : World) (h : Regs w a n rs) (hn : n ≤ 100) :
    Calls Try.prog 28 #[.slice a n c] w fun e w' => ∃ a' c', e = .returned (.slice a' n c') ∧ Regs w' a' n rs ∧ Fresh w.heap.size a' n ∧ Below w.heap.size w w' := by
  cases a with
  | none =>
    have hx : rs = [] := by
      rcases h.2.2 with h | ⟨b, off, h, _⟩
      · exact h
      · simp at h
    subst hx
    have hn0 : n = 0 := h.1
    subst hn0
    have hne := nil_eqs w c
    go_enter Try.func28, Try.ntmps28
    go_wp2_with fail
    go_ret
    exact ⟨_, _, rfl, Regs.none _, Or.inl rfl, Below.refl _ _⟩
  | some ad =>
    obtain ⟨i0, hi, hz0, hz1, hz2⟩ := info_parts Try.infoStore
    have HI := hide h
    have HN := hide h.1
    have hne := nil_nes w ad n c
    clear h
    go_enter Try.func28, Try.ntmps28
    go_wp2_with (at_builtin; refine wpList_append_own _ rfl _ _ 23 rfl w.heap.size 53 i0 (.agg #[.bool false, .int .i64 0]) 2 16 Try.underlying23 hi hz0 hz1 hz2 rfl (by decide) _ 0 (regsV []) rfl (World.ownsRow_lit w #[] 0 (Nat.le_refl _) (Nat.zero_le _) rfl) ad n c (regsV rs) rfl ?c0 ?c1 ?c2 ?c3 ?c4 ?c5 ?_)
    case c0 => have := unhide HN; rw [regsV_len]; omega
    case c1 => exact ((unhide HI).below ((Below.refl _ w).alloc (Nat.le_refl _) (.cells #[] 53))).cells
    case c2 => exact regsV_one rs
    case c3 => unfold maxLen; omega
    case c4 => omega
    case c5 => simp
    intro v' w3 hown' hgrow _
    have hb3 : Below w.heap.size w w3 := ((Below.refl _ w).alloc (Nat.le_refl _) _).grown hgrow (by simp) (fun k hk => by simp [Value.ownBlock] at hk; omega)
    have hown2 : w3.ownsRow w.heap.size 53 2 v' n (regsV rs) := hown'
    obtain ⟨a2, c2, rfl, hI2, hF2⟩ := own_regs hown2 (unhide HN) (by unfold maxLen; omega)
    clear hown' hgrow hown2
    go_wp2_with fail
    go_ret
    exact ⟨_, _, rfl, hI2, hF2, hb3⟩
end Go.Proofs.Ytongajonecgdpad
