/- net.need: it marks what is needed, and changes nothing but the marks; SameInts and SameBools. -/
import Derived.Test.YtongajonecgdpacNetM
import Derived.Deep.QuietTactic
import Derived.BigQuiet
namespace Go.Proofs.Ytongajonecgdpac
open Go.RowKit

theorem hide {p : Prop} (h : p) : Hid p := h
theorem unhide {p : Prop} (h : Hid p) : p := h

def bs (ys : List Bool) : Array Value := (ys.map (fun b => Value.bool b)).toArray
/-- A row of marks: a block of its own. -/
def BoolRow (w : World) (g : Nat) (ys : List Bool) : Prop := w.heap[g]? = some (.cells (bs ys) 4 (0, 0))

theorem BoolRow.cell {w : World} {g : Nat} {ys : List Bool} (h : BoolRow w g ys) (k : Nat) (hk : k < ys.length) : w.cell? ⟨g, k, none⟩ = some (.bool (ys.getD k false)) := by
  rw [cell_of_row w g k _ _ _ h]
  simp [bs, hk, List.getD_eq_getElem?_getD]
theorem BoolRow.frozen {w : World} {g : Nat} {ys : List Bool} (h : BoolRow w g ys) (k : Nat) : w.frozen? ⟨g, k, none⟩ = false := frozen_of_row w g k _ _ h
theorem BoolRow.set {w : World} {g : Nat} {ys : List Bool} (h : BoolRow w g ys) (k : Nat) (b : Bool) : BoolRow (w.setCell ⟨g, k, none⟩ (.bool b)) g (ys.set k b) := by
  unfold BoolRow
  rw [Go.heap_setCell_same w g k _ _ _ h]
  congr 2
  simp [bs]
theorem BoolRow.lt {w : World} {g : Nat} {ys : List Bool} (h : BoolRow w g ys) : g < w.heap.size := (Array.getElem?_eq_some_iff.1 h).1

/-- Marks that are only read. -/
def Bools (w : World) (a : Option Addr) (n : Nat) (xs : List Bool) : Prop :=
  n = xs.length ∧ xs.length ≤ maxLen ∧ (xs = [] ∨ ∃ b off, a = some ⟨b, off, none⟩ ∧ b < w.heap.size ∧ ∀ i (hi : i < xs.length), w.cell? ⟨b, off + i, none⟩ = some (.bool xs[i]))
theorem Bools.below {w w' : World} {a : Option Addr} {n : Nat} {xs : List Bool} (h : Bools w a n xs) (hb : Below w.heap.size w w') : Bools w' a n xs := by
  obtain ⟨h1, h2, h3⟩ := h
  refine ⟨h1, h2, ?_⟩
  rcases h3 with h3 | ⟨b, off, ha, hlt, hc⟩
  · exact Or.inl h3
  · exact Or.inr ⟨b, off, ha, Nat.lt_of_lt_of_le hlt hb.size, fun i hi => by rw [hb.cell (p := ⟨b, off + i, none⟩) hlt]; exact hc i hi⟩
theorem Bools.nothing (w : World) : Bools w none 0 [] := ⟨rfl, Nat.zero_le _, Or.inl rfl⟩
theorem BoolRow.bools {w : World} {g : Nat} {ys : List Bool} (h : BoolRow w g ys) (hm : ys.length ≤ maxLen) : Bools w (some ⟨g, 0, none⟩) ys.length ys :=
  ⟨rfl, hm, Or.inr ⟨g, 0, rfl, h.lt, fun i hi => by rw [Nat.zero_add, h.cell i hi]; simp [List.getD_eq_getElem?_getD, hi]⟩⟩
theorem Bools.at {w : World} {a : Option Addr} {n : Nat} {xs : List Bool} (h : Bools w a n xs) {k : Nat} (hk : k < xs.length) :
    ∃ b off, a = some ⟨b, off, none⟩ ∧ b < w.heap.size ∧ w.cell? ⟨b, off + k, none⟩ = some (.bool xs[k]) := by
  obtain ⟨h1, h2, h3⟩ := h
  rcases h3 with h3 | ⟨b, off, ha, hlt, hc⟩
  · rw [h3] at hk; simp at hk
  · exact ⟨b, off, ha, hlt, hc k hk⟩
theorem Bools.new' (w : World) (C : Array Value) (T : TypeId) (g n : Nat) (xs : List Bool) (hg : g = w.heap.size) (hC : C = (xs.map (fun x => Value.bool x)).toArray) (hn : n = xs.length) (hm : xs.length ≤ maxLen) :
    Bools (w.alloc (.cells C T)) (some ⟨g, 0, Option.none⟩) n xs := by
  subst hg
  refine ⟨hn, hm, Or.inr ⟨w.heap.size, 0, rfl, by simp, fun i hi => ?_⟩⟩
  subst hC
  rw [cell_new _ _ _ i (by simpa using hi)]
  simp

set_option maxHeartbeats 1000000 in
theorem need_any (gs : List GateD) (ga : Option Addr) (gn gc g : Nat) (w0 : World) (hgs : Gates w0 ga gn gs) (hg0 : w0.heap.size ≤ g)
    (hargs : ∀ j (hj : j < gs.length), ∀ x ∈ gs[j].args, 0 ≤ x ∧ x.toNat < gs.length) (m : Nat) :
    ∀ (ys : List Bool) (l : List Int) (la : Option Addr) (ln lc : Nat) (w : World), falses ys < m → ys.length = gs.length → BoolRow w g ys → Below w0.heap.size w0 w → Ints w0 la ln l → (∀ x ∈ l, 0 ≤ x ∧ x.toNat < gs.length) →
    Calls Try.prog 68 #[.slice ga gn gc, .slice (some ⟨g, 0, none⟩) gn gn, .slice la ln lc] w fun e w' => e = .returned (.tuple #[]) ∧ ∃ zs, Went gs l ys zs ∧ BoolRow w' g zs ∧ Below w0.heap.size w0 w' := by
  induction m with
  | zero => intro ys l la ln lc w hm; omega
  | succ m ih =>
    intro ys l la ln lc w hm hlen hrow hbel0 hl hin
    have IH := hide ih
    have HG : Hid (gn = gs.length) := hgs.1
    have HL : Hid (ln = l.length) := hl.1
    have HLY : Hid (ys.length = gs.length) := hlen
    have HM := hide hm
    have hlm : ln ≤ maxLen := by have h1 := hl.1; have h2 := hl.2.1; omega
    unfold maxLen at hlm
    have hgl : gn ≤ gs.length := by have := hgs.1; omega
    have hgl2 : gs.length ≤ gn := by have := hgs.1; omega
    have hll : ln ≤ l.length := by have := hl.1; omega
    have hll2 : l.length ≤ ln := by have := hl.1; omega
    have HIN := hide hin
    have HAR := hide hargs
    clear ih hargs hin hm hlen
    go_enter Try.func68, Try.ntmps68
    go_wp2_with fail
    go_loopw [10] (fun i wr => ∃ k : Nat, k ≤ ln ∧ i = .int .i64 k ∧ ∃ zs, Went gs (l.take k) ys zs ∧ BoolRow wr g zs ∧ Below w0.heap.size w0 wr) (fun i _ => ln - (intOf i).toNat)
    case atStart => exact ⟨0, Nat.zero_le _, rfl, ys, Went.start _ _, hrow, hbel0⟩
    case round =>
      clear hrow hbel0
      obtain ⟨k, hk, rfl, zs, hwent, hrow, hbel⟩ := hrel
      by_cases hlt : k < ln
      · have hltl : k < l.length := by omega
        obtain ⟨b, off, rfl, hbb, c0⟩ := hl.at hltl
        have hx := unhide HIN l[k] (List.getElem_mem hltl)
        obtain ⟨n, hn⟩ := Int.eq_ofNat_of_zero_le hx.1
        have hnl : n < gs.length := by have := hx.2; rw [hn] at this; simpa using this
        have hzl : zs.length = gs.length := by rw [hwent.len, HLY.out]
        have c1 : wr.cell? ⟨b, off + k, none⟩ = some (.int .i64 (n : Int)) := by rw [hbel.cell (p := ⟨b, off + k, none⟩) hbb, c0, hn]
        have HT : Hid (l.take (k + 1) = l.take k ++ [(n : Int)]) := by rw [take_snoc l k hltl, hn]; exact rfl
        have c2 := hrow.cell n (by omega)
        have c3 := hrow.frozen n
        have hnz : n < zs.length := by omega
        have hngn : (n : Int) < (gn : Int) := by omega
        clear hx hn c0
        cases e : zs.getD n false
        · have HE : Hid (zs.getD n false = false) := e
          obtain ⟨b2, off2, aa, ac, rfl, hbb2, d1, d2, d3, hI⟩ := hgs.at hnl
          have hrow2 := hrow.set n true
          have hbel2 : Below w0.heap.size w0 (wr.setCell ⟨g, n, none⟩ (.bool true)) := hbel.setCell hg0 _
          have d4 : (wr.setCell ⟨g, n, none⟩ (.bool true)).cell? ⟨b2, off2 + n * 3 + 2, none⟩ = some (.slice aa gs[n].args.length ac) := by rw [hbel2.cell (p := ⟨b2, off2 + n * 3 + 2, none⟩) hbb2]; exact d3
          rw [e] at c2
          clear e d1 d2 d3
          have HF := hide (falses_set zs n hnz HE.out)
          have HF2 := hide (falses_le hwent.len hwent.up)
          have HZ := hide hzl
          clear hzl
          go_wp2_with fail
          refine (unhide IH (zs.set n true) gs[n].args _ _ _ _ ?_ ?_ hrow2 hbel2 hI ?_).mono ?_
          · have h1 := unhide HF; have h2 := unhide HF2; have h3 := unhide HM; omega
          · rw [List.length_set]; exact unhide HZ
          · exact unhide HAR n hnl
          rintro e w2 ⟨rfl, us, hw2, hr2, hb2⟩
          have R := hwent.step n hnl hnz hw2
          rw [← HT.out] at R
          clear hw2 d4 hrow2 hbel2 c1 c2 c3
          go_wp2_with fail
          exact ⟨⟨k + 1, by omega, by go_num, us, R, hr2, hb2⟩, by simp [intOf]; omega⟩
        · have R := hwent.skip (n : Int) (by simpa using e)
          rw [← HT.out] at R
          rw [e] at c2
          clear e
          go_wp2_with fail
          exact ⟨⟨k + 1, by omega, by go_num, zs, R, hrow, hbel⟩, by simp [intOf]; omega⟩
      · rw [List.take_of_length_le (by omega)] at hwent
        go_wp2_with fail
        go_end0
        exact ⟨rfl, zs, hwent, hrow, hbel⟩
end Go.Proofs.Ytongajonecgdpac
