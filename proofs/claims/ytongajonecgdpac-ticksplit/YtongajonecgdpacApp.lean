/- append, as one step of a region that draws its order: a list of the call's own, and a list of ints behind it. -/
import Derived.Test.YtongajonecgdpacTickD
import Derived.Deep.RegionLaw
namespace Go.Proofs.Ytongajonecgdpac
open Go.RowKit

theorem addr_plus (b off j : Nat) : (⟨b, off, none⟩ : Addr).add j = ⟨b, off + j, none⟩ := by unfold Addr.add; split <;> simp_all
theorem app_step {ops : Array Oper} {o : Oper} {a : Act} {w : World} {K : Act → World → Prop} {Q : Exit → Act → World → Prop} {E : Prop}
    (hg : o.guard = none) (s x : Operand) (hop : o.op = Op.call { callee := Callee.builtin Builtin.append, args := #[s, x], argTypes := #[24, 24] })
    (base : Nat) (v : Value) (n : Nat) (ys : List Int) (hs : a.eval s = v) (hown : w.ownsRow base 3 1 v n (ys.map (fun x => Value.int .i64 x)))
    (xs : List Int) (la : Option Addr) (m c : Nat) (hx : a.eval x = .slice la m c) (hc : la = none → c = 0) (hI : Ints w la m xs) (hbytes : (n + m) * 8 ≤ 140737488355328) (hbase : base ≤ w.heap.size)
    (hK : ∀ v' w', w'.ownsRow base 3 1 v' (n + m) ((ys ++ xs).map (fun x => Value.int .i64 x)) → w.grownBy w' v.ownBlock → Below base w w' → K (a.put o.dst v') w') :
    if Region.wanted o (yielded ops a.tmps) = true then Oper.wp Try.prog o a w K Q else E := by
  have hw : Region.wanted o (yielded ops a.tmps) = true := by simp [Region.wanted, hg]
  rw [if_pos hw]
  obtain ⟨i0, hi, hz0, hz1, hz2⟩ := info_parts Try.infoInt
  cases la with
  | none =>
    obtain ⟨h1, h2, h3⟩ := hI
    rcases h3 with h3 | ⟨b, off, h4, _⟩
    · subst h3
      have hm : m = 0 := h1
      have hc0 : c = 0 := hc rfl
      subst hm hc0
      have hrun := run_append_owned_none (P := Try.prog) (w := w) base 24 o.type 3 i0 1 Try.underlying24 hi v n _ hown
      unfold Oper.wp
      simp [execOp, hop, resolve, invoke, builtin, hs, hx, hrun, Result.andThen]
      refine hK v w ?_ ⟨rfl, rfl, rfl, Nat.le_refl _, fun _ _ _ => rfl⟩ (Below.refl _ _)
      rw [List.append_nil]; exact hown
    · simp at h4
  | some ad =>
    refine wp_append_own w s x 24 hop base 3 i0 (.int .i64 0) 1 8 Try.underlying24 hi hz0 hz1 hz2 rfl (by decide) v n _ hs hown ad m c (xs.map (fun x => Value.int .i64 x)) hx (by have := hI.1; simp; omega) ?_ ?_ ?_ hbytes hbase ?_
    · intro j u hj
      obtain ⟨h1, h2, h3⟩ := hI
      rcases h3 with h3 | ⟨b, off, h4, _, hcell⟩
      · subst h3; simp at hj
      · simp at h4; subst h4
        have hj' : j < xs.length := by
          rcases Nat.lt_or_ge j xs.length with h | h
          · exact h
          · rw [List.getElem?_eq_none (by simpa using h)] at hj; simp at hj
        rw [addr_plus, hcell j hj']
        simpa [hj'] using hj
    · intro u hu
      obtain ⟨z, _, rfl⟩ := List.mem_map.1 hu
      rfl
    · unfold maxLen; omega
    · intro v' w' h1 h2 _
      refine hK v' w' ?_ h2 ((Below.refl _ _).grown h2 hbase (fun k hk => (hown.lt k hk).1))
      rw [List.map_append]; exact h1
theorem app_empty (w : World) (g base : Nat) (hg : g = w.heap.size) (hb : base ≤ w.heap.size) : (w.alloc (.cells #[] 3)).ownsRow base 3 1 (.slice (some ⟨g, 0, none⟩) 0 0) 0 (([] : List Int).map (fun x => Value.int .i64 x)) := by
  subst hg
  exact World.ownsRow_lit w #[] 0 hb (Nat.zero_le _) rfl
theorem Ints.grownRow {w w' : World} {g n : Nat} {xs : List Int} {row : Option Nat} (h : Ints w (some ⟨g, 0, Option.none⟩) n xs) (hg : w.grownBy w' row) (hr : row ≠ some g) : Ints w' (some ⟨g, 0, Option.none⟩) n xs := by
  obtain ⟨h1, h2, h3⟩ := h
  refine ⟨h1, h2, ?_⟩
  rcases h3 with h3 | ⟨b, off, ha, hlt, hc⟩
  · exact Or.inl h3
  · simp at ha
    obtain ⟨rfl, rfl⟩ := ha
    refine Or.inr ⟨g, 0, rfl, Nat.lt_of_lt_of_le hlt hg.size, fun i hi => ?_⟩
    rw [World.cell?_of_block (w := w) (hg.block g hlt (fun e => hr e.symm))]
    exact hc i hi
end Go.Proofs.Ytongajonecgdpac
