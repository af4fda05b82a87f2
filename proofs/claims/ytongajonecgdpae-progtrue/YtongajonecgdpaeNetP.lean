/- net.Needs and the document's answer beside it. -/
import Derived.Test.YtongajonecgdpaeNetO
namespace Go.Proofs.Ytongajonecgdpae
open Go.RowKit

theorem Try.infoBool : (Try.prog.info? 4).map (fun i => (i.zero, i.size, i.bytes)) = some (some (.bool false), 1, 1) := by kernel_rfl

theorem made_row {w : World} {base g n : Nat} (h : w.ownsRow base 4 1 (.slice (some ⟨g, 0, none⟩) n n) n (madeCells #[Value.bool false] n).toList) : BoolRow w g (List.replicate n false) := by
  rcases h.2 with ⟨h1, _⟩ | ⟨g', cap, cur, hv, _, hh, _, _, hs, ht⟩
  · simp at h1
  · simp only [Value.slice.injEq, Option.some.injEq, Addr.mk.injEq, and_true, true_and] at hv
    obtain ⟨rfl, rfl⟩ := hv
    have e1 : (madeCells #[Value.bool false] n).toList = List.replicate n (Value.bool false) := toList_madeCells_one (Value.bool false) n
    rw [e1, List.take_of_length_le (by simp [hs])] at ht
    unfold BoolRow
    rw [hh]
    congr 2
    apply Array.ext'
    rw [ht]; simp [bs]

theorem Boxed.below' {B : Nat} {w w' : World} {b : Nat} {ins : Int} {ga ra oa : Option Addr} {gn gc rn rc on oc : Nat} (h : Boxed w b ins ga gn gc ra rn rc oa on oc) (hb : Below B w w') (hB : b < B) : Boxed w' b ins ga gn gc ra rn rc oa on oc := by
  obtain ⟨h0, h1, h2, h3, h4⟩ := h
  refine ⟨Nat.lt_of_lt_of_le h0 hb.size, ?_, ?_, ?_, ?_⟩
  · rw [hb.cell (p := ⟨b, 0, none⟩) hB]; exact h1
  · rw [hb.cell (p := ⟨b, 1, none⟩) hB]; exact h2
  · rw [hb.cell (p := ⟨b, 2, none⟩) hB]; exact h3
  · rw [hb.cell (p := ⟨b, 3, none⟩) hB]; exact h4

theorem Round.set {gs : List GateD} {zs ys : List Bool} {k : Nat} (h : Round gs zs ys k) (n : Nat) (hn : n < ys.length) : Round gs zs (ys.set n true) k :=
  ⟨fun j hj => up_set ys n hn j (h.up j hj), fun j hj hk hz x hx => up_set ys n hn _ (h.done j hj hk hz x hx)⟩
theorem Round.start (gs : List GateD) (zs : List Bool) : Round gs zs zs 0 := ⟨fun _ h => h, fun j _ h => by omega⟩
theorem Round.next {gs : List GateD} {zs ys : List Bool} {k : Nat} (h : Round gs zs ys k) (hk : k < gs.length) (hd : zs.getD k false = true → ∀ x ∈ gs[k].args, ys.getD x.toNat false = true) : Round gs zs ys (k + 1) := by
  refine ⟨h.up, fun j hj hlt hz x hx => ?_⟩
  by_cases e : j = k
  · subst e; exact hd hz x hx
  · exact h.done j hj (by omega) hz x hx

theorem needE_check {d : NetD} {l : List Int} (h : needE d l = 0) : checkE d = 0 ∧ inB d l = true := by
  unfold needE at h
  by_cases e : checkE d = 0
  · rw [if_pos e] at h
    cases h2 : inB d l
    · rw [h2] at h; simp at h
    · exact ⟨e, rfl⟩
  · rw [if_neg e] at h; exact absurd h e

theorem ret_sl {a : Option Addr} {n c : Nat} {x y : Int} (h : x = y) : Ending.returned (.tuple #[.slice a n c, .int .i64 x]) = .returned (.tuple #[.slice a n c, .int .i64 y]) := by rw [h]
def NeedsAns (d : NetD) (l : List Int) (ys : List Bool) : Prop := (needE d l = 0 → Marks d.gates l ys) ∧ (needE d l ≠ 0 → ys = [])

/-- The marks so far, where what is asked for is marked first. -/
theorem start_fair (gs : List GateD) (l : List Int) (k : Nat) (ys : List Bool) (n : Nat) (hk : k < l.length) (hn : l[k] = (n : Int)) (hlt : n < gs.length) (hy : ys.length = gs.length) (h1 : ∀ x ∈ l.take k, ys.getD x.toNat false = true) (h2 : ∀ j, ys.getD j false = true → Need gs l j) :
    (ys.set n true).length = gs.length ∧ (∀ x ∈ l.take (k + 1), (ys.set n true).getD x.toNat false = true) ∧ (∀ j, (ys.set n true).getD j false = true → Need gs l j) := by
  have hz : n < ys.length := by omega
  refine ⟨by rw [List.length_set]; exact hy, fun x hx => ?_, fun j hj => ?_⟩
  · rw [take_snoc l k hk, hn] at hx
    rcases List.mem_append.1 hx with hx | hx
    · exact up_set _ _ hz _ (h1 x hx)
    · simp at hx; rw [hx, getD_set ys n _ hz, if_pos (by simp)]
  · rw [getD_set ys n _ hz] at hj
    by_cases e : j = n
    · rw [e]
      have := Need.mem (gs := gs) (l := l) (List.getElem_mem hk)
      rw [hn] at this; simpa using this
    · rw [if_neg e] at hj; exact h2 j hj

end Go.Proofs.Ytongajonecgdpae
