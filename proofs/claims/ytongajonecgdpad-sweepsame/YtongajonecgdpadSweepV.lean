/- Rows whose lists lie off some blocks: what sweep.moved keeps. -/
import Derived.Test.YtongajonecgdpadSweepU
import Derived.Deep.AppendLies
namespace Go.Proofs.Ytongajonecgdpad
open Go.RowKit Go.Maps

def OffI (w : World) (G : List Nat) (a : Option Addr) (n : Nat) (xs : List Int) : Prop := Ints w a n xs ∧ (n = 0 ∨ ∃ b off, a = some ⟨b, off, none⟩ ∧ b < w.heap.size ∧ b ∉ G)
theorem KeptG.cells {G : List Nat} {w w' : World} (h : KeptG G w w') {g : Nat} {vs : List Value} {T : TypeId} (hc : Cells w g vs T) (hG : g ∉ G) : Cells w' g vs T := (h.2 g hc.lt hG).trans hc
theorem OffI.keep {w w' : World} {G : List Nat} {a : Option Addr} {n : Nat} {xs : List Int} (h : OffI w G a n xs) (hk : KeptG G w w') : OffI w' G a n xs := by
  obtain ⟨⟨h1, h2, h3⟩, h4⟩ := h
  rcases h4 with h4 | ⟨b, off, ha, hlt, hG⟩
  · exact ⟨⟨h1, h2, Or.inl (List.length_eq_zero_iff.1 (by omega))⟩, Or.inl h4⟩
  · refine ⟨⟨h1, h2, ?_⟩, Or.inr ⟨b, off, ha, Nat.lt_of_lt_of_le hlt hk.1, hG⟩⟩
    rcases h3 with h3 | ⟨b', off', ha', hlt', hc⟩
    · exact Or.inl h3
    · rw [ha] at ha'
      injection ha' with ha'
      injection ha' with e1 e2 _
      subst e1
      subst e2
      exact Or.inr ⟨b, off, ha, Nat.lt_of_lt_of_le hlt hk.1, fun i hi => by rw [World.cell?_of_block (a := ⟨b, off + i, Option.none⟩) (hk.2 b hlt hG)]; exact hc i hi⟩
theorem OffI.turn {w : World} {G G' : List Nat} {a : Option Addr} {n : Nat} {xs : List Int} (h : OffI w G a n xs) (hg : ∀ b, b < w.heap.size → b ∉ G → b ∉ G') : OffI w G' a n xs := by
  obtain ⟨h1, h4⟩ := h
  rcases h4 with h4 | ⟨b, off, ha, hlt, hG⟩
  · exact ⟨h1, Or.inl h4⟩
  · exact ⟨h1, Or.inr ⟨b, off, ha, hlt, hg b hlt hG⟩⟩
theorem OffI.of {w : World} {G : List Nat} {a : Option Addr} {n B : Nat} {xs : List Int} (h : Ints w a n xs) (hF : Fresh B a n) (hG : ∀ g ∈ G, g < B) : OffI w G a n xs := by
  refine ⟨h, ?_⟩
  rcases hF with hF | ⟨b, off, ha, hB⟩
  · exact Or.inl hF
  · rcases h.2.2 with h3 | ⟨b', off', ha', hlt, _⟩
    · left; rw [h.1, h3]; rfl
    · rw [ha] at ha'
      injection ha' with ha'
      injection ha' with e1 e2 _
      subst e1
      exact Or.inr ⟨b, off, ha, hlt, fun hg => by have := hG b hg; omega⟩

/-- What a row of gates holds, its lists off the blocks G. -/
def GRow (w : World) (G : List Nat) (cs : List Value) (gs : List GateD) : Prop := cs.length = gs.length * 3 ∧ ∀ j (hj : j < gs.length), ∃ aa an ac, cs[j * 3]? = some (.int .i64 gs[j].kind) ∧ cs[j * 3 + 1]? = some (.int .i64 gs[j].n) ∧ cs[j * 3 + 2]? = some (.slice aa an ac) ∧ OffI w G aa an gs[j].args
theorem GRow.nil (w : World) (G : List Nat) : GRow w G [] [] := ⟨rfl, fun j hj => by simp at hj⟩
theorem GRow.keep {w w' : World} {G : List Nat} {cs : List Value} {gs : List GateD} (h : GRow w G cs gs) (hk : KeptG G w w') : GRow w' G cs gs :=
  ⟨h.1, fun j hj => by obtain ⟨aa, an, ac, h1, h2, h3, h4⟩ := h.2 j hj; exact ⟨aa, an, ac, h1, h2, h3, h4.keep hk⟩⟩
theorem GRow.turn {w : World} {G G' : List Nat} {cs : List Value} {gs : List GateD} (h : GRow w G cs gs) (hg : ∀ b, b < w.heap.size → b ∉ G → b ∉ G') : GRow w G' cs gs :=
  ⟨h.1, fun j hj => by obtain ⟨aa, an, ac, h1, h2, h3, h4⟩ := h.2 j hj; exact ⟨aa, an, ac, h1, h2, h3, h4.turn hg⟩⟩
theorem GRow.more {w : World} {G : List Nat} {cs : List Value} {gs : List GateD} (h : GRow w G cs gs) {x : GateD} {aa : Option Addr} {an ac : Nat} (hI : OffI w G aa an x.args) : GRow w G (cs ++ [.int .i64 x.kind, .int .i64 x.n, .slice aa an ac]) (gs ++ [x]) := by
  have hl := h.1
  refine ⟨by simp [hl]; omega, fun j hj => ?_⟩
  by_cases e : j < gs.length
  · obtain ⟨a', n', c', h1, h2, h3, h4⟩ := h.2 j e
    refine ⟨a', n', c', ?_, ?_, ?_, ?_⟩
    · rw [List.getElem?_append_left (by omega), List.getElem_append_left e]; exact h1
    · rw [List.getElem?_append_left (by omega), List.getElem_append_left e]; exact h2
    · rw [List.getElem?_append_left (by omega)]; exact h3
    · rw [List.getElem_append_left e]; exact h4
  · have ej : j = gs.length := by simp at hj; omega
    subst ej
    refine ⟨aa, an, ac, ?_, ?_, ?_, by simpa using hI⟩
    · rw [List.getElem?_append_right (by omega), show gs.length * 3 - cs.length = 0 by omega]; simp
    · rw [List.getElem?_append_right (by omega), show gs.length * 3 + 1 - cs.length = 1 by omega]; simp
    · rw [List.getElem?_append_right (by omega), show gs.length * 3 + 2 - cs.length = 2 by omega]; simp
theorem own_gates {w : World} {base : Nat} {e : TypeId} {a : Option Addr} {c n : Nat} {G : List Nat} {cs : List Value} {gs : List GateD} (h : w.ownsRow base e 3 (.slice a n c) n cs) (hG : GRow w G cs gs) (hn : n = gs.length) (hm : n ≤ maxLen) : Gates w a n gs := by
  rcases h.2 with ⟨h1, h2⟩ | ⟨g, cap, cur, hv, hg, hh, r⟩
  · subst h2
    exact ⟨hn, by omega, Or.inl (List.eq_nil_of_length_eq_zero hn.symm)⟩
  · injection hv with hv1 hv2 hv3
    subst hv1
    refine ⟨hn, by omega, Or.inr ⟨g, 0, rfl, (Array.getElem?_eq_some_iff.1 hh).1, fun i hi => ?_⟩⟩
    obtain ⟨aa, an, ac, h1, h2, h3, h4⟩ := hG.2 i hi
    have c1 := h.cells (g := g) rfl _ _ h1
    have c2 := h.cells (g := g) rfl _ _ h2
    have c3 := h.cells (g := g) rfl _ _ h3
    rw [addr_plus] at c1 c2 c3
    exact ⟨c1, by rw [← Nat.add_assoc] at c2; exact c2, aa, an, ac, by rw [← Nat.add_assoc] at c3; exact c3, h4.1⟩

/-- The gates that stay of the first k. -/
def gatesTo (d : NetD) (bs : List Bool) (k : Nat) : List GateD := ((List.range k).filter (fun j => bs.getD j false)).map (fun k => dropG bs (d.gates.getD k ⟨0, 0, []⟩))
theorem gatesTo_len (d : NetD) (bs : List Bool) (k : Nat) : (gatesTo d bs k).length = atN bs k := by simp [gatesTo, atN]
theorem gatesTo_yes (d : NetD) (bs : List Bool) (k : Nat) (hk : k < d.gates.length) (hb : bs.getD k false = true) : gatesTo d bs (k + 1) = gatesTo d bs k ++ [dropG bs d.gates[k]] := by
  unfold gatesTo
  rw [List.range_succ, List.filter_append, List.map_append, List.filter_cons_of_pos (by exact hb)]
  simp [List.getD_eq_getElem?_getD, hk]
theorem gatesTo_no (d : NetD) (bs : List Bool) (k : Nat) (hb : bs.getD k false = false) : gatesTo d bs (k + 1) = gatesTo d bs k := by
  unfold gatesTo
  rw [List.range_succ, List.filter_append, List.map_append, List.filter_cons_of_neg (by simpa using hb)]
  simp
theorem gatesTo_full (d : NetD) (bs : List Bool) : (dropW d bs).gates = gatesTo d bs bs.length := rfl

/-- What a row of registers holds so far. -/
def RTo (vs : List Value) (rs : List (Bool × Int)) : Prop := ∀ j (hj : j < rs.length), vs[j * 2]? = some (.bool rs[j].1) ∧ vs[j * 2 + 1]? = some (.int .i64 rs[j].2)
theorem RTo.more {vs : List Value} {rs : List (Bool × Int)} (h : RTo vs rs) (x : Bool × Int) (hl : rs.length * 2 + 1 < vs.length) : RTo ((vs.set (rs.length * 2) (.bool x.1)).set (rs.length * 2 + 1) (.int .i64 x.2)) (rs ++ [x]) := by
  intro j hj
  by_cases e : j < rs.length
  · obtain ⟨h1, h2⟩ := h j e
    refine ⟨?_, ?_⟩
    · rw [List.getElem?_set_ne (by omega), List.getElem?_set_ne (by omega), List.getElem_append_left e]; exact h1
    · rw [List.getElem?_set_ne (by omega), List.getElem?_set_ne (by omega), List.getElem_append_left e]; exact h2
  · have ej : j = rs.length := by simp at hj; omega
    subst ej
    refine ⟨?_, ?_⟩
    · rw [List.getElem?_set_ne (by omega), List.getElem?_set_self (by omega)]; simp
    · rw [List.getElem?_set_self (by simp; omega)]; simp
theorem RTo.regs {w : World} {g n : Nat} {vs : List Value} {rs : List (Bool × Int)} {T : TypeId} (h : RTo vs rs) (hc : Cells w g vs T) (hn : n = rs.length) (hm : n ≤ maxLen) : Regs w (some ⟨g, 0, none⟩) n rs := by
  refine ⟨hn, by omega, Or.inr ⟨g, 0, rfl, hc.lt, fun i hi => ?_⟩⟩
  obtain ⟨h1, h2⟩ := h i hi
  rw [Nat.zero_add]
  exact ⟨(hc.cell _).trans h1, (hc.cell _).trans h2⟩
def dropR (bs : List Bool) (r : Bool × Int) : Bool × Int := (r.1, toV bs r.2.toNat)
theorem dropW_regs (d : NetD) (bs : List Bool) : (dropW d bs).regs = d.regs.map (dropR bs) := rfl
theorem dropW_outs (d : NetD) (bs : List Bool) : (dropW d bs).outs = movedV bs d.outs := rfl

theorem run_madeR (n : Nat) (h : n ≤ 200) : ∃ vs : List Value, vs.length = n * 2 ∧ ∀ W : World, (Instr.makeSlice 23 (.int .i64 (n : Int)) (.int .i64 (n : Int))).run Try.prog W = .ok (.slice (some ⟨W.heap.size, 0, none⟩) n n) (W.alloc (.cells vs.toArray 53)) := by
  obtain ⟨i0, hi, hz0, hz1, hz2⟩ := info_parts Try.infoStore
  refine ⟨(madeCells (Value.agg #[.bool false, .int .i64 0]).cells (n * 2)).toList, by rw [Array.length_toList, size_madeCells], fun W => ?_⟩
  have hr := run_make (P := Try.prog) W 23 53 i0 (.agg #[.bool false, .int .i64 0]) Try.underlying23 hi hz0 .i64 .i64 n n (by omega) (Int.le_refl _) (by rw [hz2]; omega) (by omega)
  simp only [Int.toNat_natCast, hz1] at hr
  rw [Array.toArray_toList]
  exact hr
end Go.Proofs.Ytongajonecgdpad
