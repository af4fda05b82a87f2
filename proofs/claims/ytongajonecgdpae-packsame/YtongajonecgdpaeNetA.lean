/- Nets as the walks meet them in memory, and the small askers of net.Check. -/
import Derived.Test.YtongajonecgdpaeTernE
import Derived.Defers
import Derived.Recover
namespace Go.Proofs.Ytongajonecgdpae
open Go.RowKit

structure GateD where
  kind : Int
  n : Int
  args : List Int

structure NetD where
  ins : Int
  gates : List GateD
  regs : List (Bool × Int)
  outs : List Int

/-- A gate's three cells at one place. -/
def GateAt (w : World) (b o : Nat) (g : GateD) : Prop :=
  w.cell? ⟨b, o, none⟩ = some (.int .i64 g.kind) ∧ w.cell? ⟨b, o + 1, none⟩ = some (.int .i64 g.n) ∧
  ∃ aa an ac, w.cell? ⟨b, o + 2, none⟩ = some (.slice aa an ac) ∧ Ints w aa an g.args

def Gates (w : World) (a : Option Addr) (n : Nat) (gs : List GateD) : Prop :=
  n = gs.length ∧ gs.length ≤ maxLen ∧ (gs = [] ∨ ∃ b off, a = some ⟨b, off, none⟩ ∧ b < w.heap.size ∧ ∀ i (hi : i < gs.length), GateAt w b (off + i * 3) gs[i])

def Regs (w : World) (a : Option Addr) (n : Nat) (rs : List (Bool × Int)) : Prop :=
  n = rs.length ∧ rs.length ≤ maxLen ∧ (rs = [] ∨ ∃ b off, a = some ⟨b, off, none⟩ ∧ b < w.heap.size ∧ ∀ i (hi : i < rs.length),
    w.cell? ⟨b, off + i * 2, none⟩ = some (.bool rs[i].1) ∧ w.cell? ⟨b, off + i * 2 + 1, none⟩ = some (.int .i64 rs[i].2))

theorem GateAt.below {w w' : World} {b o : Nat} {g : GateD} (h : GateAt w b o g) (hb : Below w.heap.size w w') (hlt : b < w.heap.size) : GateAt w' b o g := by
  obtain ⟨h1, h2, aa, an, ac, h3, h4⟩ := h
  refine ⟨?_, ?_, aa, an, ac, ?_, h4.below hb⟩
  · rw [hb.cell (p := ⟨b, o, none⟩) hlt]; exact h1
  · rw [hb.cell (p := ⟨b, o + 1, none⟩) hlt]; exact h2
  · rw [hb.cell (p := ⟨b, o + 2, none⟩) hlt]; exact h3

theorem Gates.below {w w' : World} {a : Option Addr} {n : Nat} {gs : List GateD} (h : Gates w a n gs) (hb : Below w.heap.size w w') : Gates w' a n gs := by
  obtain ⟨h1, h2, h3⟩ := h
  refine ⟨h1, h2, ?_⟩
  rcases h3 with h3 | ⟨b, off, ha, hlt, hc⟩
  · exact Or.inl h3
  · exact Or.inr ⟨b, off, ha, Nat.lt_of_lt_of_le hlt hb.size, fun i hi => (hc i hi).below hb hlt⟩

theorem Regs.below {w w' : World} {a : Option Addr} {n : Nat} {rs : List (Bool × Int)} (h : Regs w a n rs) (hb : Below w.heap.size w w') : Regs w' a n rs := by
  obtain ⟨h1, h2, h3⟩ := h
  refine ⟨h1, h2, ?_⟩
  rcases h3 with h3 | ⟨b, off, ha, hlt, hc⟩
  · exact Or.inl h3
  · refine Or.inr ⟨b, off, ha, Nat.lt_of_lt_of_le hlt hb.size, fun i hi => ⟨?_, ?_⟩⟩
    · rw [hb.cell (p := ⟨b, off + i * 2, none⟩) hlt]; exact (hc i hi).1
    · rw [hb.cell (p := ⟨b, off + i * 2 + 1, none⟩) hlt]; exact (hc i hi).2

/-- A net in memory: what its four fields hold. -/
structure NetAt (w : World) (d : NetD) (ins : Int) (ga : Option Addr) (gn : Nat) (ra : Option Addr) (rn : Nat) (oa : Option Addr) (on : Nat) : Prop where
  ins : ins = d.ins
  gates : Gates w ga gn d.gates
  regs : Regs w ra rn d.regs
  outs : Ints w oa on d.outs

theorem NetAt.below {w w' : World} {d : NetD} {ins : Int} {ga ra oa : Option Addr} {gn rn on : Nat} (h : NetAt w d ins ga gn ra rn oa on) (hb : Below w.heap.size w w') : NetAt w' d ins ga gn ra rn oa on :=
  ⟨h.ins, h.gates.below hb, h.regs.below hb, h.outs.below hb⟩

/-- A net's four cells in a box of the call's own. -/
def Boxed (w : World) (b : Nat) (ins : Int) (ga : Option Addr) (gn gc : Nat) (ra : Option Addr) (rn rc : Nat) (oa : Option Addr) (on oc : Nat) : Prop :=
  b < w.heap.size ∧ w.cell? ⟨b, 0, none⟩ = some (.int .i64 ins) ∧ w.cell? ⟨b, 1, none⟩ = some (.slice ga gn gc) ∧ w.cell? ⟨b, 2, none⟩ = some (.slice ra rn rc) ∧ w.cell? ⟨b, 3, none⟩ = some (.slice oa on oc)

theorem Boxed.below {w w' : World} {b : Nat} {ins : Int} {ga ra oa : Option Addr} {gn gc rn rc on oc : Nat} (h : Boxed w b ins ga gn gc ra rn rc oa on oc) (hb : Below w.heap.size w w') : Boxed w' b ins ga gn gc ra rn rc oa on oc := by
  obtain ⟨h0, h1, h2, h3, h4⟩ := h
  refine ⟨Nat.lt_of_lt_of_le h0 hb.size, ?_, ?_, ?_, ?_⟩
  · rw [hb.cell (p := ⟨b, 0, none⟩) h0]; exact h1
  · rw [hb.cell (p := ⟨b, 1, none⟩) h0]; exact h2
  · rw [hb.cell (p := ⟨b, 2, none⟩) h0]; exact h3
  · rw [hb.cell (p := ⟨b, 3, none⟩) h0]; exact h4

theorem Boxed.new (w : World) (ins : Int) (ga ra oa : Option Addr) (gn gc rn rc on oc : Nat) (T : TypeId) :
    Boxed (w.alloc (.cells #[.int .i64 ins, .slice ga gn gc, .slice ra rn rc, .slice oa on oc] T)) w.heap.size ins ga gn gc ra rn rc oa on oc := by
  refine ⟨by simp, ?_, ?_, ?_, ?_⟩ <;> rw [World.cell?_alloc_new] <;> rfl

def isB (k c : Int) : Bool := decide (0 ≤ k ∧ k < c)

set_option maxHeartbeats 400000 in
theorem isBelow_any (k c : Int) (w : World) :
    Calls Try.prog 115 #[.int .i64 k, .int .i64 c] w fun e w' => e = .returned (.bool (isB k c)) ∧ w' = w := by
  by_cases h1 : 0 ≤ k
  · by_cases h2 : k < c
    · have H : Hid (isB k c = true) := by simp [Hid, isB, h1, h2]
      go_enter Try.func115, Try.ntmps115
      go_wp2
      go_ret
      exact ⟨ret_bool H.out.symm, rfl⟩
    · have H : Hid (isB k c = false) := by simp [Hid, isB, h2]
      go_enter Try.func115, Try.ntmps115
      go_wp2
      go_ret
      exact ⟨ret_bool H.out.symm, rfl⟩
  · have H : Hid (isB k c = false) := by simp [Hid, isB, h1]
    go_enter Try.func115, Try.ntmps115
    go_wp2
    go_ret
    exact ⟨ret_bool H.out.symm, rfl⟩

set_option maxHeartbeats 400000 in
theorem isGate_any (k ins : Int) (ga ra oa : Option Addr) (gn gc rn rc on oc : Nat) (w : World) :
    Calls Try.prog 106 #[.agg #[.int .i64 ins, .slice ga gn gc, .slice ra rn rc, .slice oa on oc], .int .i64 k] w fun e w' => e = .returned (.bool (isB k gn)) ∧ Below w.heap.size w w' := by
  go_enter Try.func106, Try.ntmps106
  go_wp2_with fail
  refine (isBelow_any _ _ _).mono ?_
  rintro e w' ⟨rfl, rfl⟩
  go_wp2_with fail
  go_ret
  exact ⟨rfl, (Below.refl _ _).alloc (Nat.le_refl _) _⟩

def fell (f : Int) : Ending := .panicked [{ v := .iface 28 (.int .i64 f), recovered := false }]
def endOf (b : Bool) (f : Int) : Ending := if b then .returned (.tuple #[]) else fell f

set_option maxHeartbeats 400000 in
theorem require_yes (f : Int) (w : World) :
    Calls Try.prog 105 #[.bool true, .int .i64 f] w fun e w' => e = .returned (.tuple #[]) ∧ w' = w := by
  go_enter Try.func105, Try.ntmps105
  go_wp2
  go_end0
  exact ⟨rfl, rfl⟩

set_option maxHeartbeats 400000 in
theorem require_no (f : Int) (w : World) :
    Calls Try.prog 105 #[.bool false, .int .i64 f] w fun e w' => e = .panicked [{ v := .iface 28 (.int .i64 f), recovered := false }] ∧ w' = w := by
  go_enter Try.func105, Try.ntmps105
  go_wp2
  exact ⟨rfl, rfl, rfl⟩

def countsTo (gs : List GateD) (k : Nat) : Bool := (gs.take k).all (fun g => decide (g.args.length ≤ 16))
theorem all_take_succ {α : Type} (p : α → Bool) (l : List α) (k : Nat) (h : k < l.length) : (l.take (k + 1)).all p = ((l.take k).all p && p l[k]) := by
  rw [List.take_succ_eq_append_getElem h, List.all_append]; simp only [List.all_cons, List.all_nil, Bool.and_true]
theorem all_take_no {α : Type} (p : α → Bool) (l : List α) (k : Nat) (h : k < l.length) (e : p l[k] = false) : (l.take l.length).all p = false := by
  rw [List.take_length, List.all_eq_false]
  exact ⟨l[k], List.getElem_mem h, by rw [e]; simp⟩
def countsB (d : NetD) : Bool := decide (d.ins ≤ 3) && decide (d.gates.length ≤ 200) && decide (d.regs.length ≤ 20) && decide (d.outs.length ≤ 3) && countsTo d.gates d.gates.length

/-- A gate of the net, where it lies. -/
theorem Gates.at {w : World} {a : Option Addr} {n : Nat} {gs : List GateD} (h : Gates w a n gs) {k : Nat} (hk : k < gs.length) :
    ∃ b off aa ac, a = some ⟨b, off, Option.none⟩ ∧ b < w.heap.size ∧ w.cell? ⟨b, off + k * 3, Option.none⟩ = some (.int .i64 gs[k].kind) ∧ w.cell? ⟨b, off + k * 3 + 1, Option.none⟩ = some (.int .i64 gs[k].n) ∧
      w.cell? ⟨b, off + k * 3 + 2, Option.none⟩ = some (.slice aa gs[k].args.length ac) ∧ Ints w aa gs[k].args.length gs[k].args := by
  obtain ⟨h1, h2, h3⟩ := h
  rcases h3 with h3 | ⟨b, off, ha, hlt, hc⟩
  · rw [h3] at hk; simp at hk
  · obtain ⟨c1, c2, aa, an, ac, c3, c4⟩ := hc k hk
    have : an = gs[k].args.length := c4.1
    subst this
    exact ⟨b, off, aa, ac, ha, hlt, c1, c2, c3, c4⟩

theorem Regs.at {w : World} {a : Option Addr} {n : Nat} {rs : List (Bool × Int)} (h : Regs w a n rs) {k : Nat} (hk : k < rs.length) :
    ∃ b off, a = some ⟨b, off, Option.none⟩ ∧ b < w.heap.size ∧ w.cell? ⟨b, off + k * 2, Option.none⟩ = some (.bool rs[k].1) ∧ w.cell? ⟨b, off + k * 2 + 1, Option.none⟩ = some (.int .i64 rs[k].2) := by
  obtain ⟨h1, h2, h3⟩ := h
  rcases h3 with h3 | ⟨b, off, ha, hlt, hc⟩
  · rw [h3] at hk; simp at hk
  · exact ⟨b, off, ha, hlt, (hc k hk).1, (hc k hk).2⟩

theorem Ints.at {w : World} {a : Option Addr} {n : Nat} {xs : List Int} (h : Ints w a n xs) {k : Nat} (hk : k < xs.length) :
    ∃ b off, a = some ⟨b, off, Option.none⟩ ∧ b < w.heap.size ∧ w.cell? ⟨b, off + k, Option.none⟩ = some (.int .i64 xs[k]) := by
  obtain ⟨h1, h2, h3⟩ := h
  rcases h3 with h3 | ⟨b, off, ha, hlt, hc⟩
  · rw [h3] at hk; simp at hk
  · exact ⟨b, off, ha, hlt, hc k hk⟩

theorem end_yes {b : Bool} {f : Int} (h : b = true) : Ending.returned (.tuple #[]) = endOf b f := by rw [h]; rfl
theorem end_no {b : Bool} {f : Int} (h : b = false) : Ending.panicked [{ v := .iface 28 (.int .i64 f), recovered := false }] = endOf b f := by rw [h]; rfl

set_option maxHeartbeats 1000000 in
theorem requireCounts_any (d : NetD) (ins : Int) (ga ra oa : Option Addr) (gn gc rn rc on oc : Nat) (w : World) (h : NetAt w d ins ga gn ra rn oa on) :
    Calls Try.prog 91 #[.agg #[.int .i64 ins, .slice ga gn gc, .slice ra rn rc, .slice oa on oc]] w fun e w' => e = endOf (countsB d) 2 ∧ Below w.heap.size w w' := by
  have hb0 : Below w.heap.size w (w.alloc (.cells #[.int .i64 ins, .slice ga gn gc, .slice ra rn rc, .slice oa on oc] 26)) := (Below.refl _ _).alloc (Nat.le_refl _) _
  have hbox : Boxed (w.alloc (.cells #[.int .i64 ins, .slice ga gn gc, .slice ra rn rc, .slice oa on oc] 26)) w.heap.size ins ga gn gc ra rn rc oa on oc := Boxed.new _ _ _ _ _ _ _ _ _ _ _ _
  have hg : d.gates.length = gn := h.gates.1.symm
  have hr : d.regs.length = rn := h.regs.1.symm
  have ho : d.outs.length = on := h.outs.1.symm
  have hi : d.ins = ins := h.ins.symm
  rcases Int.lt_or_le 3 ins with h1 | h1
  · have HB : Hid (countsB d = false) := by
      have e0 : decide (d.ins ≤ 3) = false := by simp; omega
      simp [Hid, countsB, e0]
    have hd : decide (ins ≤ 3) = false := decide_eq_false (by omega)
    clear hg hr ho hi
    go_enter Try.func91, Try.ntmps91
    go_wp2_with fail
    refine (require_no _ _).mono ?_
    rintro e w' ⟨rfl, rfl⟩
    go_wp2_with fail
    exact ⟨rfl, end_no HB.out, hb0⟩

  rcases Int.lt_or_le 200 (gn : Int) with h2 | h2
  · have HB : Hid (countsB d = false) := by
      have e0 : decide (d.gates.length ≤ 200) = false := by simp; omega
      simp [Hid, countsB, e0]
    have hd : decide ((gn : Int) ≤ 200) = false := decide_eq_false (by omega)
    clear hg hr ho hi
    go_enter Try.func91, Try.ntmps91
    go_wp2_with fail
    refine (require_yes _ _).mono ?_
    rintro e w' ⟨rfl, rfl⟩
    go_wp2_with fail
    refine (require_no _ _).mono ?_
    rintro e w' ⟨rfl, rfl⟩
    go_wp2_with fail
    exact ⟨rfl, end_no HB.out, hb0⟩

  rcases Int.lt_or_le 20 (rn : Int) with h3 | h3
  · have HB : Hid (countsB d = false) := by
      have e0 : decide (d.regs.length ≤ 20) = false := by simp; omega
      simp [Hid, countsB, e0]
    have hd : decide ((rn : Int) ≤ 20) = false := decide_eq_false (by omega)
    clear hg hr ho hi
    go_enter Try.func91, Try.ntmps91
    go_wp2_with fail
    refine (require_yes _ _).mono ?_
    rintro e w' ⟨rfl, rfl⟩
    go_wp2_with fail
    refine (require_yes _ _).mono ?_
    rintro e w' ⟨rfl, rfl⟩
    go_wp2_with fail
    refine (require_no _ _).mono ?_
    rintro e w' ⟨rfl, rfl⟩
    go_wp2_with fail
    exact ⟨rfl, end_no HB.out, hb0⟩

  rcases Int.lt_or_le 3 (on : Int) with h4 | h4
  · have HB : Hid (countsB d = false) := by
      have e0 : decide (d.outs.length ≤ 3) = false := by simp; omega
      simp [Hid, countsB, e0]
    have hd : decide ((on : Int) ≤ 3) = false := decide_eq_false (by omega)
    clear hg hr ho hi
    go_enter Try.func91, Try.ntmps91
    go_wp2_with fail
    refine (require_yes _ _).mono ?_
    rintro e w' ⟨rfl, rfl⟩
    go_wp2_with fail
    refine (require_yes _ _).mono ?_
    rintro e w' ⟨rfl, rfl⟩
    go_wp2_with fail
    refine (require_yes _ _).mono ?_
    rintro e w' ⟨rfl, rfl⟩
    go_wp2_with fail
    refine (require_no _ _).mono ?_
    rintro e w' ⟨rfl, rfl⟩
    go_wp2_with fail
    exact ⟨rfl, end_no HB.out, hb0⟩

  have HB : Hid (countsB d = countsTo d.gates d.gates.length) := by
    have e1 : decide (d.ins ≤ 3) = true := by simp; omega
    have e2 : decide (d.gates.length ≤ 200) = true := by simp; omega
    have e3 : decide (d.regs.length ≤ 20) = true := by simp; omega
    have e4 : decide (d.outs.length ≤ 3) = true := by simp; omega
    simp only [Hid, countsB, e1, e2, e3, e4, Bool.true_and]
  have hgl : gn ≤ d.gates.length := by omega
  have hgl2 : d.gates.length ≤ gn := by omega
  have hgs := h.gates
  clear hg hr ho hi h
  go_enter Try.func91, Try.ntmps91
  go_wp2_with fail
  refine (require_yes _ _).mono ?_
  rintro e w' ⟨rfl, rfl⟩
  go_wp2_with fail
  refine (require_yes _ _).mono ?_
  rintro e w' ⟨rfl, rfl⟩
  go_wp2_with fail
  refine (require_yes _ _).mono ?_
  rintro e w' ⟨rfl, rfl⟩
  go_wp2_with fail
  refine (require_yes _ _).mono ?_
  rintro e w' ⟨rfl, rfl⟩
  go_wp2_with fail
  go_loopw [26] (fun i wr => ∃ k : Nat, k ≤ gn ∧ i = .int .i64 k ∧ countsTo d.gates k = true ∧ Below w.heap.size w wr) (fun i _ => gn - (intOf i).toNat)
  case atStart => exact ⟨0, Nat.zero_le _, rfl, rfl, hb0⟩
  case round =>
    obtain ⟨k, hk, rfl, hno, hbel⟩ := hrel
    by_cases hlt : k < gn
    · have hltg : k < d.gates.length := by omega
      obtain ⟨b, off, aa, ac, rfl, hbb, c1, c2, c3, hI⟩ := (hgs.below hbel).at hltg
      have hb3 : Below w.heap.size w (wr.alloc (.cells #[.int .i64 d.gates[k].kind, .int .i64 d.gates[k].n, .slice aa d.gates[k].args.length ac] 96)) := hbel.alloc hbel.size _
      rcases Int.lt_or_le 16 (d.gates[k].args.length : Int) with e | e
      · have HT : Hid (countsB d = false) := by
          rw [HB.out]; exact all_take_no _ d.gates k hltg (by simp; omega)
        have hd : decide ((d.gates[k].args.length : Int) ≤ 16) = false := decide_eq_false (by omega)
        clear hno HB
        go_wp2_with fail
        refine (require_no _ _).mono ?_
        rintro e w' ⟨rfl, rfl⟩
        go_wp2_with fail
        exact ⟨rfl, end_no HT.out, hb3⟩
      · have HT : Hid (countsTo d.gates (k + 1) = true) := by
          have := all_take_succ (fun g : GateD => decide (g.args.length ≤ 16)) d.gates k hltg
          unfold countsTo at hno
          rw [hno] at this
          refine this.trans ?_
          simp; omega
        clear hno
        go_wp2_with fail
        refine (require_yes _ _).mono ?_
        rintro e w' ⟨rfl, rfl⟩
        go_wp2_with fail
        exact ⟨⟨k + 1, by omega, by go_num, HT.out, hb3⟩, by simp [intOf]; omega⟩
    · have HT : Hid (countsB d = true) := by rw [HB.out, ← hno]; exact congrArg (countsTo d.gates) (by omega)
      clear hno HB
      go_wp2_with fail
      go_end0
      exact ⟨end_yes HT.out, hbel⟩
end Go.Proofs.Ytongajonecgdpae
