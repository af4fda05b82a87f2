/- Nets as the walks meet them in memory, and the small askers of net.Check. -/
import Derived.Test.YtongajonecgdpagGreatDoorTernA
import Derived.Defers
import Derived.Recover
import Derived.Deep.QuietTactic
import Derived.BigQuiet
namespace Go.Proofs.YtongajonecgdpagGreatDoor
open Go.RowKit

structure GateD where
  kind : Int
  n : Int
  args : List Int

structure NetD where
  ins : Int
  gates : List GateD
  regs : List (Bool × Int)
  outs : List Int

/-- A gate's three cells at one place. -/
def GateAt (w : World) (b o : Nat) (g : GateD) : Prop :=
  w.cell? ⟨b, o, none⟩ = some (.int .i64 g.kind) ∧ w.cell? ⟨b, o + 1, none⟩ = some (.int .i64 g.n) ∧
  ∃ aa an ac, w.cell? ⟨b, o + 2, none⟩ = some (.slice aa an ac) ∧ Ints w aa an g.args

def Gates (w : World) (a : Option Addr) (n : Nat) (gs : List GateD) : Prop :=
  n = gs.length ∧ gs.length ≤ maxLen ∧ (gs = [] ∨ ∃ b off, a = some ⟨b, off, none⟩ ∧ b < w.heap.size ∧ ∀ i (hi : i < gs.length), GateAt w b (off + i * 3) gs[i])

def Regs (w : World) (a : Option Addr) (n : Nat) (rs : List (Bool × Int)) : Prop :=
  n = rs.length ∧ rs.length ≤ maxLen ∧ (rs = [] ∨ ∃ b off, a = some ⟨b, off, none⟩ ∧ b < w.heap.size ∧ ∀ i (hi : i < rs.length),
    w.cell? ⟨b, off + i * 2, none⟩ = some (.bool rs[i].1) ∧ w.cell? ⟨b, off + i * 2 + 1, none⟩ = some (.int .i64 rs[i].2))

theorem GateAt.below {w w' : World} {b o : Nat} {g : GateD} (h : GateAt w b o g) (hb : Below w.heap.size w w') (hlt : b < w.heap.size) : GateAt w' b o g := by
  obtain ⟨h1, h2, aa, an, ac, h3, h4⟩ := h
  refine ⟨?_, ?_, aa, an, ac, ?_, h4.below hb⟩
  · rw [hb.cell (p := ⟨b, o, none⟩) hlt]; exact h1
  · rw [hb.cell (p := ⟨b, o + 1, none⟩) hlt]; exact h2
  · rw [hb.cell (p := ⟨b, o + 2, none⟩) hlt]; exact h3

theorem Gates.below {w w' : World} {a : Option Addr} {n : Nat} {gs : List GateD} (h : Gates w a n gs) (hb : Below w.heap.size w w') : Gates w' a n gs := by
  obtain ⟨h1, h2, h3⟩ := h
  refine ⟨h1, h2, ?_⟩
  rcases h3 with h3 | ⟨b, off, ha, hlt, hc⟩
  · exact Or.inl h3
  · exact Or.inr ⟨b, off, ha, Nat.lt_of_lt_of_le hlt hb.size, fun i hi => (hc i hi).below hb hlt⟩

theorem Regs.below {w w' : World} {a : Option Addr} {n : Nat} {rs : List (Bool × Int)} (h : Regs w a n rs) (hb : Below w.heap.size w w') : Regs w' a n rs := by
  obtain ⟨h1, h2, h3⟩ := h
  refine ⟨h1, h2, ?_⟩
  rcases h3 with h3 | ⟨b, off, ha, hlt, hc⟩
  · exact Or.inl h3
  · refine Or.inr ⟨b, off, ha, Nat.lt_of_lt_of_le hlt hb.size, fun i hi => ⟨?_, ?_⟩⟩
    · rw [hb.cell (p := ⟨b, off + i * 2, none⟩) hlt]; exact (hc i hi).1
    · rw [hb.cell (p := ⟨b, off + i * 2 + 1, none⟩) hlt]; exact (hc i hi).2

/-- A net in memory: what its four fields hold. -/
structure NetAt (w : World) (d : NetD) (ins : Int) (ga : Option Addr) (gn : Nat) (ra : Option Addr) (rn : Nat) (oa : Option Addr) (on : Nat) : Prop where
  ins : ins = d.ins
  gates : Gates w ga gn d.gates
  regs : Regs w ra rn d.regs
  outs : Ints w oa on d.outs

theorem NetAt.below {w w' : World} {d : NetD} {ins : Int} {ga ra oa : Option Addr} {gn rn on : Nat} (h : NetAt w d ins ga gn ra rn oa on) (hb : Below w.heap.size w w') : NetAt w' d ins ga gn ra rn oa on :=
  ⟨h.ins, h.gates.below hb, h.regs.below hb, h.outs.below hb⟩

/-- A net's four cells in a box of the call's own. -/
def Boxed (w : World) (b : Nat) (ins : Int) (ga : Option Addr) (gn gc : Nat) (ra : Option Addr) (rn rc : Nat) (oa : Option Addr) (on oc : Nat) : Prop :=
  b < w.heap.size ∧ w.cell? ⟨b, 0, none⟩ = some (.int .i64 ins) ∧ w.cell? ⟨b, 1, none⟩ = some (.slice ga gn gc) ∧ w.cell? ⟨b, 2, none⟩ = some (.slice ra rn rc) ∧ w.cell? ⟨b, 3, none⟩ = some (.slice oa on oc)

theorem Boxed.below {w w' : World} {b : Nat} {ins : Int} {ga ra oa : Option Addr} {gn gc rn rc on oc : Nat} (h : Boxed w b ins ga gn gc ra rn rc oa on oc) (hb : Below w.heap.size w w') : Boxed w' b ins ga gn gc ra rn rc oa on oc := by
  obtain ⟨h0, h1, h2, h3, h4⟩ := h
  refine ⟨Nat.lt_of_lt_of_le h0 hb.size, ?_, ?_, ?_, ?_⟩
  · rw [hb.cell (p := ⟨b, 0, none⟩) h0]; exact h1
  · rw [hb.cell (p := ⟨b, 1, none⟩) h0]; exact h2
  · rw [hb.cell (p := ⟨b, 2, none⟩) h0]; exact h3
  · rw [hb.cell (p := ⟨b, 3, none⟩) h0]; exact h4

theorem Boxed.new (w : World) (ins : Int) (ga ra oa : Option Addr) (gn gc rn rc on oc : Nat) (T : TypeId) :
    Boxed (w.alloc (.cells #[.int .i64 ins, .slice ga gn gc, .slice ra rn rc, .slice oa on oc] T)) w.heap.size ins ga gn gc ra rn rc oa on oc := by
  refine ⟨by simp, ?_, ?_, ?_, ?_⟩ <;> rw [World.cell?_alloc_new] <;> rfl

def isB (k c : Int) : Bool := decide (0 ≤ k ∧ k < c)

set_option maxHeartbeats 400000 in
theorem isBelow_any (k c : Int) (w : World) :
    Calls Tryz.prog 167 #[.int .i64 k, .int .i64 c] w fun e w' => e = .returned (.bool (isB k c)) ∧ w' = w := by
  by_cases h1 : 0 ≤ k
  · by_cases h2 : k < c
    · have H : Hid (isB k c = true) := by simp [Hid, isB, h1, h2]
      go_enter Tryz.func167, Tryz.ntmps167
      go_wp2
      go_ret
      exact ⟨ret_bool H.out.symm, rfl⟩
    · have H : Hid (isB k c = false) := by simp [Hid, isB, h2]
      go_enter Tryz.func167, Tryz.ntmps167
      go_wp2
      go_ret
      exact ⟨ret_bool H.out.symm, rfl⟩
  · have H : Hid (isB k c = false) := by simp [Hid, isB, h1]
    go_enter Tryz.func167, Tryz.ntmps167
    go_wp2
    go_ret
    exact ⟨ret_bool H.out.symm, rfl⟩

set_option maxHeartbeats 400000 in
theorem isGate_any (k ins : Int) (ga ra oa : Option Addr) (gn gc rn rc on oc : Nat) (w : World) :
    Calls Tryz.prog 158 #[.agg #[.int .i64 ins, .slice ga gn gc, .slice ra rn rc, .slice oa on oc], .int .i64 k] w fun e w' => e = .returned (.bool (isB k gn)) ∧ Below w.heap.size w w' := by
  go_enter Tryz.func158, Tryz.ntmps158
  go_wp2_with fail
  refine (isBelow_any _ _ _).mono ?_
  rintro e w' ⟨rfl, rfl⟩
  go_wp2_with fail
  go_ret
  exact ⟨rfl, (Below.refl _ _).alloc (Nat.le_refl _) _⟩

def fell (f : Int) : Ending := .panicked [{ v := .iface 22 (.int .i64 f), recovered := false }]
def endOf (b : Bool) (f : Int) : Ending := if b then .returned (.tuple #[]) else fell f

set_option maxHeartbeats 400000 in
theorem require_yes (f : Int) (w : World) :
    Calls Tryz.prog 157 #[.bool true, .int .i64 f] w fun e w' => e = .returned (.tuple #[]) ∧ w' = w := by
  go_enter Tryz.func157, Tryz.ntmps157
  go_wp2
  go_end0
  exact ⟨rfl, rfl⟩

set_option maxHeartbeats 400000 in
theorem require_no (f : Int) (w : World) :
    Calls Tryz.prog 157 #[.bool false, .int .i64 f] w fun e w' => e = .panicked [{ v := .iface 22 (.int .i64 f), recovered := false }] ∧ w' = w := by
  go_enter Tryz.func157, Tryz.ntmps157
  go_wp2
  exact ⟨rfl, rfl, rfl⟩

def countsTo (gs : List GateD) (k : Nat) : Bool := (gs.take k).all (fun g => decide (g.args.length ≤ 16))
theorem all_take_succ {α : Type} (p : α → Bool) (l : List α) (k : Nat) (h : k < l.length) : (l.take (k + 1)).all p = ((l.take k).all p && p l[k]) := by
  rw [List.take_succ_eq_append_getElem h, List.all_append]; simp only [List.all_cons, List.all_nil, Bool.and_true]
theorem all_take_no {α : Type} (p : α → Bool) (l : List α) (k : Nat) (h : k < l.length) (e : p l[k] = false) : (l.take l.length).all p = false := by
  rw [List.take_length, List.all_eq_false]
  exact ⟨l[k], List.getElem_mem h, by rw [e]; simp⟩
def countsB (d : NetD) : Bool := decide (d.ins ≤ 3) && decide (d.gates.length ≤ 200) && decide (d.regs.length ≤ 20) && decide (d.outs.length ≤ 3) && countsTo d.gates d.gates.length

/-- A gate of the net, where it lies. -/
theorem Gates.at {w : World} {a : Option Addr} {n : Nat} {gs : List GateD} (h : Gates w a n gs) {k : Nat} (hk : k < gs.length) :
    ∃ b off aa ac, a = some ⟨b, off, Option.none⟩ ∧ b < w.heap.size ∧ w.cell? ⟨b, off + k * 3, Option.none⟩ = some (.int .i64 gs[k].kind) ∧ w.cell? ⟨b, off + k * 3 + 1, Option.none⟩ = some (.int .i64 gs[k].n) ∧
      w.cell? ⟨b, off + k * 3 + 2, Option.none⟩ = some (.slice aa gs[k].args.length ac) ∧ Ints w aa gs[k].args.length gs[k].args := by
  obtain ⟨h1, h2, h3⟩ := h
  rcases h3 with h3 | ⟨b, off, ha, hlt, hc⟩
  · rw [h3] at hk; simp at hk
  · obtain ⟨c1, c2, aa, an, ac, c3, c4⟩ := hc k hk
    have : an = gs[k].args.length := c4.1
    subst this
    exact ⟨b, off, aa, ac, ha, hlt, c1, c2, c3, c4⟩

theorem Regs.at {w : World} {a : Option Addr} {n : Nat} {rs : List (Bool × Int)} (h : Regs w a n rs) {k : Nat} (hk : k < rs.length) :
    ∃ b off, a = some ⟨b, off, Option.none⟩ ∧ b < w.heap.size ∧ w.cell? ⟨b, off + k * 2, Option.none⟩ = some (.bool rs[k].1) ∧ w.cell? ⟨b, off + k * 2 + 1, Option.none⟩ = some (.int .i64 rs[k].2) := by
  obtain ⟨h1, h2, h3⟩ := h
  rcases h3 with h3 | ⟨b, off, ha, hlt, hc⟩
  · rw [h3] at hk; simp at hk
  · exact ⟨b, off, ha, hlt, (hc k hk).1, (hc k hk).2⟩

theorem Ints.at {w : World} {a : Option Addr} {n : Nat} {xs : List Int} (h : Ints w a n xs) {k : Nat} (hk : k < xs.length) :
    ∃ b off, a = some ⟨b, off, Option.none⟩ ∧ b < w.heap.size ∧ w.cell? ⟨b, off + k, Option.none⟩ = some (.int .i64 xs[k]) := by
  obtain ⟨h1, h2, h3⟩ := h
  rcases h3 with h3 | ⟨b, off, ha, hlt, hc⟩
  · rw [h3] at hk; simp at hk
  · exact ⟨b, off, ha, hlt, hc k hk⟩

theorem end_yes {b : Bool} {f : Int} (h : b = true) : Ending.returned (.tuple #[]) = endOf b f := by rw [h]; rfl
theorem end_no {b : Bool} {f : Int} (h : b = false) : Ending.panicked [{ v := .iface 22 (.int .i64 f), recovered := false }] = endOf b f := by rw [h]; rfl

set_option maxHeartbeats 1000000 in
theorem requireCounts_any (d : NetD) (ins : Int) (ga ra oa : Option Addr) (gn gc rn rc on oc : Nat) (w : World) (h : NetAt w d ins ga gn ra rn oa on) :
    Calls Tryz.prog 143 #[.agg #[.int .i64 ins, .slice ga gn gc, .slice ra rn rc, .slice oa on oc]] w fun e w' => e = endOf (countsB d) 2 ∧ Below w.heap.size w w' := by
  have hb0 : Below w.heap.size w (w.alloc (.cells #[.int .i64 ins, .slice ga gn gc, .slice ra rn rc, .slice oa on oc] 70)) := (Below.refl _ _).alloc (Nat.le_refl _) _
  have hbox : Boxed (w.alloc (.cells #[.int .i64 ins, .slice ga gn gc, .slice ra rn rc, .slice oa on oc] 70)) w.heap.size ins ga gn gc ra rn rc oa on oc := Boxed.new _ _ _ _ _ _ _ _ _ _ _ _
  have hg : d.gates.length = gn := h.gates.1.symm
  have hr : d.regs.length = rn := h.regs.1.symm
  have ho : d.outs.length = on := h.outs.1.symm
  have hi : d.ins = ins := h.ins.symm
  rcases Int.lt_or_le 3 ins with h1 | h1
  · have HB : Hid (countsB d = false) := by
      have e0 : decide (d.ins ≤ 3) = false := by simp; omega
      simp [Hid, countsB, e0]
    have hd : decide (ins ≤ 3) = false := decide_eq_false (by omega)
    clear hg hr ho hi
    go_enter Tryz.func143, Tryz.ntmps143
    go_wp2_with fail
    refine (require_no _ _).mono ?_
    rintro e w' ⟨rfl, rfl⟩
    go_wp2_with fail
    exact ⟨rfl, end_no HB.out, hb0⟩

  rcases Int.lt_or_le 200 (gn : Int) with h2 | h2
  · have HB : Hid (countsB d = false) := by
      have e0 : decide (d.gates.length ≤ 200) = false := by simp; omega
      simp [Hid, countsB, e0]
    have hd : decide ((gn : Int) ≤ 200) = false := decide_eq_false (by omega)
    clear hg hr ho hi
    go_enter Tryz.func143, Tryz.ntmps143
    go_wp2_with fail
    refine (require_yes _ _).mono ?_
    rintro e w' ⟨rfl, rfl⟩
    go_wp2_with fail
    refine (require_no _ _).mono ?_
    rintro e w' ⟨rfl, rfl⟩
    go_wp2_with fail
    exact ⟨rfl, end_no HB.out, hb0⟩

  rcases Int.lt_or_le 20 (rn : Int) with h3 | h3
  · have HB : Hid (countsB d = false) := by
      have e0 : decide (d.regs.length ≤ 20) = false := by simp; omega
      simp [Hid, countsB, e0]
    have hd : decide ((rn : Int) ≤ 20) = false := decide_eq_false (by omega)
    clear hg hr ho hi
    go_enter Tryz.func143, Tryz.ntmps143
    go_wp2_with fail
    refine (require_yes _ _).mono ?_
    rintro e w' ⟨rfl, rfl⟩
    go_wp2_with fail
    refine (require_yes _ _).mono ?_
    rintro e w' ⟨rfl, rfl⟩
    go_wp2_with fail
    refine (require_no _ _).mono ?_
    rintro e w' ⟨rfl, rfl⟩
    go_wp2_with fail
    exact ⟨rfl, end_no HB.out, hb0⟩

  rcases Int.lt_or_le 3 (on : Int) with h4 | h4
  · have HB : Hid (countsB d = false) := by
      have e0 : decide (d.outs.length ≤ 3) = false := by simp; omega
      simp [Hid, countsB, e0]
    have hd : decide ((on : Int) ≤ 3) = false := decide_eq_false (by omega)
    clear hg hr ho hi
    go_enter Tryz.func143, Tryz.ntmps143
    go_wp2_with fail
    refine (require_yes _ _).mono ?_
    rintro e w' ⟨rfl, rfl⟩
    go_wp2_with fail
    refine (require_yes _ _).mono ?_
    rintro e w' ⟨rfl, rfl⟩
    go_wp2_with fail
    refine (require_yes _ _).mono ?_
    rintro e w' ⟨rfl, rfl⟩
    go_wp2_with fail
    refine (require_no _ _).mono ?_
    rintro e w' ⟨rfl, rfl⟩
    go_wp2_with fail
    exact ⟨rfl, end_no HB.out, hb0⟩

  have HB : Hid (countsB d = countsTo d.gates d.gates.length) := by
    have e1 : decide (d.ins ≤ 3) = true := by simp; omega
    have e2 : decide (d.gates.length ≤ 200) = true := by simp; omega
    have e3 : decide (d.regs.length ≤ 20) = true := by simp; omega
    have e4 : decide (d.outs.length ≤ 3) = true := by simp; omega
    simp only [Hid, countsB, e1, e2, e3, e4, Bool.true_and]
  have hgl : gn ≤ d.gates.length := by omega
  have hgl2 : d.gates.length ≤ gn := by omega
  have hgs := h.gates
  clear hg hr ho hi h
  go_enter Tryz.func143, Tryz.ntmps143
  go_wp2_with fail
  refine (require_yes _ _).mono ?_
  rintro e w' ⟨rfl, rfl⟩
  go_wp2_with fail
  refine (require_yes _ _).mono ?_
  rintro e w' ⟨rfl, rfl⟩
  go_wp2_with fail
  refine (require_yes _ _).mono ?_
  rintro e w' ⟨rfl, rfl⟩
  go_wp2_with fail
  refine (require_yes _ _).mono ?_
  rintro e w' ⟨rfl, rfl⟩
  go_wp2_with fail
  go_loopw [26] (fun i wr => ∃ k : Nat, k ≤ gn ∧ i = .int .i64 k ∧ countsTo d.gates k = true ∧ Below w.heap.size w wr) (fun i _ => gn - (intOf i).toNat)
  case atStart => exact ⟨0, Nat.zero_le _, rfl, rfl, hb0⟩
  case round =>
    obtain ⟨k, hk, rfl, hno, hbel⟩ := hrel
    by_cases hlt : k < gn
    · have hltg : k < d.gates.length := by omega
      obtain ⟨b, off, aa, ac, rfl, hbb, c1, c2, c3, hI⟩ := (hgs.below hbel).at hltg
      have hb3 : Below w.heap.size w (wr.alloc (.cells #[.int .i64 d.gates[k].kind, .int .i64 d.gates[k].n, .slice aa d.gates[k].args.length ac] 126)) := hbel.alloc hbel.size _
      rcases Int.lt_or_le 16 (d.gates[k].args.length : Int) with e | e
      · have HT : Hid (countsB d = false) := by
          rw [HB.out]; exact all_take_no _ d.gates k hltg (by simp; omega)
        have hd : decide ((d.gates[k].args.length : Int) ≤ 16) = false := decide_eq_false (by omega)
        clear hno HB
        go_wp2_with fail
        refine (require_no _ _).mono ?_
        rintro e w' ⟨rfl, rfl⟩
        go_wp2_with fail
        exact ⟨rfl, end_no HT.out, hb3⟩
      · have HT : Hid (countsTo d.gates (k + 1) = true) := by
          have := all_take_succ (fun g : GateD => decide (g.args.length ≤ 16)) d.gates k hltg
          unfold countsTo at hno
          rw [hno] at this
          refine this.trans ?_
          simp; omega
        clear hno
        go_wp2_with fail
        refine (require_yes _ _).mono ?_
        rintro e w' ⟨rfl, rfl⟩
        go_wp2_with fail
        exact ⟨⟨k + 1, by omega, by go_num, HT.out, hb3⟩, by simp [intOf]; omega⟩
    · have HT : Hid (countsB d = true) := by rw [HB.out, ← hno]; exact congrArg (countsTo d.gates) (by omega)
      clear hno HB
      go_wp2_with fail
      go_end0
      exact ⟨end_yes HT.out, hbel⟩

def argsIn (gn : Nat) (g : GateD) : Bool := g.args.all (fun x => isB x gn)
def regsTo (d : NetD) (k : Nat) : Bool := (d.regs.take k).all (fun r => isB r.2 d.gates.length)
def outsTo (d : NetD) (k : Nat) : Bool := (d.outs.take k).all (fun x => isB x d.gates.length)
def argsTo (d : NetD) (k : Nat) : Bool := (d.gates.take k).all (argsIn d.gates.length)
def numbersB (d : NetD) : Bool := decide (0 ≤ d.ins) && regsTo d d.regs.length && outsTo d d.outs.length && argsTo d d.gates.length

set_option maxHeartbeats 2000000 in
theorem requireNumbers_any (d : NetD) (ins : Int) (ga ra oa : Option Addr) (gn gc rn rc on oc : Nat) (w : World) (h : NetAt w d ins ga gn ra rn oa on) (hsm : gn ≤ 200) :
    Calls Tryz.prog 144 #[.agg #[.int .i64 ins, .slice ga gn gc, .slice ra rn rc, .slice oa on oc]] w fun e w' => e = endOf (numbersB d) 3 ∧ Below w.heap.size w w' := by
  have hb0 : Below w.heap.size w (w.alloc (.cells #[.int .i64 ins, .slice ga gn gc, .slice ra rn rc, .slice oa on oc] 70)) := (Below.refl _ _).alloc (Nat.le_refl _) _
  have hbox : Boxed (w.alloc (.cells #[.int .i64 ins, .slice ga gn gc, .slice ra rn rc, .slice oa on oc] 70)) w.heap.size ins ga gn gc ra rn rc oa on oc := Boxed.new _ _ _ _ _ _ _ _ _ _ _ _
  have hg : d.gates.length = gn := h.gates.1.symm
  have hr : d.regs.length = rn := h.regs.1.symm
  have ho : d.outs.length = on := h.outs.1.symm
  have hi : d.ins = ins := h.ins.symm
  have hrm : rn ≤ maxLen := by have := h.regs.2.1; omega
  have hom : on ≤ maxLen := by have := h.outs.2.1; omega
  unfold maxLen at hrm hom
  have HG : Hid (d.gates.length = gn) := hg
  by_cases h1 : 0 ≤ ins
  case neg =>
    have HB : Hid (numbersB d = false) := by
      have e0 : decide (0 ≤ d.ins) = false := by simp; omega
      simp [Hid, numbersB, e0]
    have hd : decide (0 ≤ ins) = false := decide_eq_false (by omega)
    clear hg hr ho hi
    go_enter Tryz.func144, Tryz.ntmps144
    go_wp2_with fail
    refine (require_no _ _).mono ?_
    rintro e w' ⟨rfl, rfl⟩
    go_wp2_with fail
    exact ⟨rfl, end_no HB.out, hb0⟩
  have HB : Hid (numbersB d = (regsTo d d.regs.length && outsTo d d.outs.length && argsTo d d.gates.length)) := by
    have e0 : decide (0 ≤ d.ins) = true := by simp; omega
    simp [Hid, numbersB, e0]
  have hgl : gn ≤ d.gates.length := by omega
  have hgl2 : d.gates.length ≤ gn := by omega
  have hrl : rn ≤ d.regs.length := by omega
  have hrl2 : d.regs.length ≤ rn := by omega
  have hol : on ≤ d.outs.length := by omega
  have hol2 : d.outs.length ≤ on := by omega
  have hgs := h.gates
  have hrs := h.regs
  have hos := h.outs
  clear hg hr ho hi h
  go_enter Tryz.func144, Tryz.ntmps144
  go_wp2_with fail
  refine (require_yes _ _).mono ?_
  rintro e w' ⟨rfl, rfl⟩
  go_wp2_with fail
  go_loopw [17] (fun i wr => ∃ k : Nat, k ≤ rn ∧ i = .int .i64 k ∧ regsTo d k = true ∧ Below w.heap.size w wr ∧ Boxed wr w.heap.size ins ga gn gc ra rn rc oa on oc) (fun i _ => rn - (intOf i).toNat)
  case atStart => exact ⟨0, Nat.zero_le _, rfl, rfl, hb0, hbox⟩
  case round =>
    obtain ⟨k, hk, rfl, hno, hbel, hbx⟩ := hrel
    by_cases hlt : k < rn
    · have hltg : k < d.regs.length := by omega
      obtain ⟨b, off, rfl, hbb, c1, c2⟩ := (hrs.below hbel).at hltg
      have hb3 : Below wr.heap.size wr (wr.alloc (.cells #[.bool d.regs[k].1, .int .i64 d.regs[k].2] 133)) := (Below.refl _ _).alloc (Nat.le_refl _) _
      have HX := hbx
      obtain ⟨x0, x1, x2, x3, x4⟩ := hbx
      cases e : isB d.regs[k].2 gn
      · have HT : Hid (numbersB d = false) := by
          have : regsTo d d.regs.length = false := all_take_no _ d.regs k hltg (by rw [HG.out]; exact e)
          rw [HB.out, this]; rfl
        have HE : Hid (isB d.regs[k].2 gn = false) := e
        clear hno HB e
        go_wp2_with fail
        refine (isGate_any _ _ _ _ _ _ _ _ _ _ _ _).mono ?_
        rintro e w2 ⟨rfl, hb4⟩
        rw [HE.out]
        go_wp2_with fail
        refine (require_no _ _).mono ?_
        rintro e w' ⟨rfl, rfl⟩
        go_wp2_with fail
        exact ⟨rfl, end_no HT.out, bstep hbel (bstep hb3 hb4)⟩
      · have HT : Hid (regsTo d (k + 1) = true) := by
          have := all_take_succ (fun r : Bool × Int => isB r.2 d.gates.length) d.regs k hltg
          unfold regsTo at hno
          rw [hno, HG.out, e] at this
          rw [Hid, regsTo, HG.out]; exact this
        have HE : Hid (isB d.regs[k].2 gn = true) := e
        clear hno e
        go_wp2_with fail
        refine (isGate_any _ _ _ _ _ _ _ _ _ _ _ _).mono ?_
        rintro e w2 ⟨rfl, hb4⟩
        rw [HE.out]
        have hb5 := bstep hb3 hb4
        clear x1 x2 x3 x4 c1 c2 hb3 hb4
        go_wp2_with fail
        refine (require_yes _ _).mono ?_
        rintro e w' ⟨rfl, rfl⟩
        go_wp2_with fail
        exact ⟨⟨k + 1, by omega, by go_num, HT.out, bstep hbel hb5, HX.below hb5⟩, by simp [intOf]; omega⟩
    · have HT : Hid (numbersB d = (outsTo d d.outs.length && argsTo d d.gates.length)) := by
        have : regsTo d d.regs.length = true := by rw [← hno]; exact congrArg (regsTo d) (by omega)
        rw [HB.out, this]; rfl
      clear hno HB
      have hbel1 := hbel
      have HX1 := hbx
      obtain ⟨x0, x1, x2, x3, x4⟩ := hbx
      go_wp2_with fail
      clear x1 x2 x3 x4 hbel
      go_loopw [30] (fun i wr => ∃ k : Nat, k ≤ on ∧ i = .int .i64 k ∧ outsTo d k = true ∧ Below w.heap.size w wr ∧ Boxed wr w.heap.size ins ga gn gc ra rn rc oa on oc) (fun i _ => on - (intOf i).toNat)
      case atStart => exact ⟨0, Nat.zero_le _, rfl, rfl, hbel1, HX1⟩
      case round =>
        clear hbel1 HX1
        obtain ⟨k, hk, rfl, hno, hbel, hbx⟩ := hrel
        by_cases hlt : k < on
        · have hltg : k < d.outs.length := by omega
          obtain ⟨b, off, rfl, hbb, c1⟩ := (hos.below hbel).at hltg
          have HX := hbx
          obtain ⟨x0, x1, x2, x3, x4⟩ := hbx
          cases e : isB d.outs[k] gn
          · have HT2 : Hid (numbersB d = false) := by
              have : outsTo d d.outs.length = false := all_take_no _ d.outs k hltg (by rw [HG.out]; exact e)
              rw [HT.out, this]; rfl
            have HE : Hid (isB d.outs[k] gn = false) := e
            clear hno HT e
            go_wp2_with fail
            refine (isGate_any _ _ _ _ _ _ _ _ _ _ _ _).mono ?_
            rintro e w2 ⟨rfl, hb4⟩
            rw [HE.out]
            go_wp2_with fail
            refine (require_no _ _).mono ?_
            rintro e w' ⟨rfl, rfl⟩
            go_wp2_with fail
            exact ⟨rfl, end_no HT2.out, bstep hbel hb4⟩
          · have HT2 : Hid (outsTo d (k + 1) = true) := by
              have := all_take_succ (fun x : Int => isB x d.gates.length) d.outs k hltg
              unfold outsTo at hno
              rw [hno, HG.out, e] at this
              rw [Hid, outsTo, HG.out]; exact this
            have HE : Hid (isB d.outs[k] gn = true) := e
            clear hno e
            go_wp2_with fail
            refine (isGate_any _ _ _ _ _ _ _ _ _ _ _ _).mono ?_
            rintro e w2 ⟨rfl, hb4⟩
            rw [HE.out]
            clear x1 x2 x3 x4 c1
            go_wp2_with fail
            refine (require_yes _ _).mono ?_
            rintro e w' ⟨rfl, rfl⟩
            go_wp2_with fail
            exact ⟨⟨k + 1, by omega, by go_num, HT2.out, bstep hbel hb4, HX.below hb4⟩, by simp [intOf]; omega⟩
        · have HT2 : Hid (numbersB d = argsTo d d.gates.length) := by
            have : outsTo d d.outs.length = true := by rw [← hno]; exact congrArg (outsTo d) (by omega)
            rw [HT.out, this]; rfl
          clear hno HT
          have hbel1 := hbel
          have HX1 := hbx
          obtain ⟨x0, x1, x2, x3, x4⟩ := hbx
          go_wp2_with fail
          clear x1 x2 x3 x4 hbel
          go_loopw [42] (fun i wr => ∃ k : Nat, k ≤ gn ∧ i = .int .i64 k ∧ argsTo d k = true ∧ Below w.heap.size w wr ∧ Boxed wr w.heap.size ins ga gn gc ra rn rc oa on oc) (fun i _ => gn - (intOf i).toNat)
          case atStart => exact ⟨0, Nat.zero_le _, rfl, rfl, hbel1, HX1⟩
          case round =>
            clear hbel1 HX1
            obtain ⟨k, hk, rfl, hno, hbel, hbx⟩ := hrel
            by_cases hlt : k < gn
            · have hltg : k < d.gates.length := by omega
              obtain ⟨b, off, aa, ac, rfl, hbb, c1, c2, c3, hI⟩ := (hgs.below hbel).at hltg
              have hb3 : Below wr.heap.size wr (wr.alloc (.cells #[.int .i64 d.gates[k].kind, .int .i64 d.gates[k].n, .slice aa d.gates[k].args.length ac] 126)) := (Below.refl _ _).alloc (Nat.le_refl _) _
              have hal : d.gates[k].args.length ≤ maxLen := hI.2.1
              unfold maxLen at hal
              have HX := hbx
              have HQ : Hid (argsTo d (k + 1) = argsIn gn d.gates[k]) := by
                have := all_take_succ (argsIn d.gates.length) d.gates k hltg
                unfold argsTo at hno
                rw [hno] at this
                rw [Hid, argsTo, this, HG.out]; rfl
              have HN : Hid (argsIn gn d.gates[k] = false → numbersB d = false) := by
                intro e
                rw [HT2.out]; exact all_take_no _ d.gates k hltg (by rw [HG.out]; exact e)
              clear hno
              obtain ⟨x0, x1, x2, x3, x4⟩ := hbx
              go_wp2_with fail
              clear x1 x2 x3 x4 c1 c2 c3
              go_loopw [49] (fun i wq => ∃ j : Nat, j ≤ d.gates[k].args.length ∧ i = .int .i64 j ∧ (d.gates[k].args.take j).all (fun x => isB x gn) = true ∧ Below wr.heap.size wr wq) (fun i _ => d.gates[k].args.length - (intOf i).toNat)
              case atStart => exact ⟨0, Nat.zero_le _, rfl, rfl, hb3⟩
              case round =>
                obtain ⟨j, hj, rfl, hno2, hbq⟩ := hrel
                by_cases hlt2 : j < d.gates[k].args.length
                · obtain ⟨b2, off2, rfl, hbb2, c1⟩ := (hI.below hbq).at hlt2
                  obtain ⟨x0, x1, x2, x3, x4⟩ := HX.below hbq
                  cases e : isB d.gates[k].args[j] gn
                  · have HT4 : Hid (numbersB d = false) := by
                      apply HN.out
                      unfold argsIn
                      rw [List.all_eq_false]
                      exact ⟨_, List.getElem_mem hlt2, by rw [e]; simp⟩
                    have HE : Hid (isB d.gates[k].args[j] gn = false) := e
                    clear hno2 e
                    go_wp2_with fail
                    refine (isGate_any _ _ _ _ _ _ _ _ _ _ _ _).mono ?_
                    rintro e w2 ⟨rfl, hb4⟩
                    rw [HE.out]
                    go_wp2_with fail
                    refine (require_no _ _).mono ?_
                    rintro e w' ⟨rfl, rfl⟩
                    go_wp2_with fail
                    exact ⟨rfl, end_no HT4.out, bstep hbel (bstep hbq hb4)⟩
                  · have HT4 : Hid ((d.gates[k].args.take (j + 1)).all (fun x => isB x gn) = true) := by
                      have := all_take_succ (fun x : Int => isB x gn) d.gates[k].args j hlt2
                      rw [hno2, e] at this
                      exact this
                    have HE : Hid (isB d.gates[k].args[j] gn = true) := e
                    clear hno2 e
                    go_wp2_with fail
                    refine (isGate_any _ _ _ _ _ _ _ _ _ _ _ _).mono ?_
                    rintro e w2 ⟨rfl, hb4⟩
                    rw [HE.out]
                    clear x1 x2 x3 x4 c1
                    go_wp2_with fail
                    refine (require_yes _ _).mono ?_
                    rintro e w' ⟨rfl, rfl⟩
                    go_wp2_with fail
                    exact ⟨⟨j + 1, by omega, by go_num, HT4.out, bstep hbq hb4⟩, by simp [intOf]; omega⟩
                · have HT4 : Hid (argsTo d (k + 1) = true) := by
                    rw [HQ.out]; unfold argsIn
                    rw [List.take_of_length_le (by omega)] at hno2; exact hno2
                  clear hno2
                  go_wp2_with fail
                  exact ⟨⟨k + 1, by omega, by go_num, HT4.out, bstep hbel hbq, HX.below hbq⟩, by simp [intOf]; omega⟩
            · have HT3 : Hid (numbersB d = true) := by
                rw [HT2.out, ← hno]; exact congrArg (argsTo d) (by omega)
              clear hno HT2
              go_wp2_with fail
              go_end0
              exact ⟨end_yes HT3.out, hbel⟩

def kindB (g : GateD) : Bool := decide (0 ≤ g.kind ∧ g.kind ≤ 6)
def kindsTo (d : NetD) (k : Nat) : Bool := (d.gates.take k).all kindB
def kindsB (d : NetD) : Bool := kindsTo d d.gates.length
def numB (ins : Int) (rn : Nat) (g : GateD) : Bool := if g.kind = 2 then isB g.n ins else if g.kind = 3 then isB g.n rn else g.n == 0
def argB (g : GateD) : Bool := if g.kind = 0 ∨ g.kind = 1 ∨ g.kind = 2 ∨ g.kind = 3 then (g.args.length : Int) == 0 else if g.kind = 6 then (g.args.length : Int) == 1 else true
def formB (d : NetD) (g : GateD) : Bool := numB d.ins d.regs.length g && argB g
def formsTo (d : NetD) (k : Nat) : Bool := (d.gates.take k).all (formB d)
def formsB (d : NetD) : Bool := formsTo d d.gates.length
def checkE (d : NetD) : Int := if countsB d then (if numbersB d then (if kindsB d then (if formsB d then 0 else 1) else 4) else 3) else 2

set_option maxHeartbeats 1000000 in
theorem requireKinds_any (d : NetD) (ins : Int) (ga ra oa : Option Addr) (gn gc rn rc on oc : Nat) (w : World) (h : NetAt w d ins ga gn ra rn oa on) (hsm : gn ≤ 200) :
    Calls Tryz.prog 145 #[.agg #[.int .i64 ins, .slice ga gn gc, .slice ra rn rc, .slice oa on oc]] w fun e w' => e = endOf (kindsB d) 4 ∧ Below w.heap.size w w' := by
  have hb0 : Below w.heap.size w (w.alloc (.cells #[.int .i64 ins, .slice ga gn gc, .slice ra rn rc, .slice oa on oc] 70)) := (Below.refl _ _).alloc (Nat.le_refl _) _
  have hbox : Boxed (w.alloc (.cells #[.int .i64 ins, .slice ga gn gc, .slice ra rn rc, .slice oa on oc] 70)) w.heap.size ins ga gn gc ra rn rc oa on oc := Boxed.new _ _ _ _ _ _ _ _ _ _ _ _
  have hg : d.gates.length = gn := h.gates.1.symm
  have hgl : gn ≤ d.gates.length := by omega
  have hgl2 : d.gates.length ≤ gn := by omega
  have hgs := h.gates
  clear hg h
  go_enter Tryz.func145, Tryz.ntmps145
  go_wp2_with fail
  go_loopw [7] (fun i wr => ∃ k : Nat, k ≤ gn ∧ i = .int .i64 k ∧ kindsTo d k = true ∧ Below w.heap.size w wr) (fun i _ => gn - (intOf i).toNat)
  case atStart => exact ⟨0, Nat.zero_le _, rfl, rfl, hb0⟩
  case round =>
    obtain ⟨k, hk, rfl, hno, hbel⟩ := hrel
    by_cases hlt : k < gn
    · have hltg : k < d.gates.length := by omega
      obtain ⟨b, off, aa, ac, rfl, hbb, c1, c2, c3, hI⟩ := (hgs.below hbel).at hltg
      have hb3 : Below w.heap.size w (wr.alloc (.cells #[.int .i64 d.gates[k].kind, .int .i64 d.gates[k].n, .slice aa d.gates[k].args.length ac] 126)) := hbel.alloc hbel.size _
      by_cases e1 : 0 ≤ d.gates[k].kind
      · by_cases e2 : d.gates[k].kind ≤ 6
        · have HT : Hid (kindsTo d (k + 1) = true) := by
            have := all_take_succ kindB d.gates k hltg
            unfold kindsTo at hno
            rw [hno] at this
            refine this.trans ?_
            simp [kindB]; omega
          clear hno
          go_wp2_with fail
          refine (require_yes _ _).mono ?_
          rintro e w' ⟨rfl, rfl⟩
          go_wp2_with fail
          exact ⟨⟨k + 1, by omega, by go_num, HT.out, hb3⟩, by simp [intOf]; omega⟩
        · have HT : Hid (kindsB d = false) := all_take_no kindB d.gates k hltg (by simp [kindB]; omega)
          have hd : decide (d.gates[k].kind ≤ 6) = false := decide_eq_false (by omega)
          clear hno
          go_wp2_with fail
          refine (require_no _ _).mono ?_
          rintro e w' ⟨rfl, rfl⟩
          go_wp2_with fail
          exact ⟨rfl, end_no HT.out, hb3⟩
      · have HT : Hid (kindsB d = false) := all_take_no kindB d.gates k hltg (by simp [kindB]; omega)
        have hd : decide (0 ≤ d.gates[k].kind) = false := decide_eq_false (by omega)
        clear hno
        go_wp2_with fail
        refine (require_no _ _).mono ?_
        rintro e w' ⟨rfl, rfl⟩
        go_wp2_with fail
        exact ⟨rfl, end_no HT.out, hb3⟩
    · have HT : Hid (kindsB d = true) := by rw [← hno]; exact congrArg (kindsTo d) (by omega)
      clear hno
      go_wp2_with fail
      go_end0
      exact ⟨end_yes HT.out, hbel⟩

set_option maxHeartbeats 1000000 in
theorem numberFits_any (ins : Int) (ga ra oa : Option Addr) (gn gc rn rc on oc : Nat) (w : World) (g : GateD) (aa : Option Addr) (ac : Nat) :
    Calls Tryz.prog 159 #[.agg #[.int .i64 ins, .slice ga gn gc, .slice ra rn rc, .slice oa on oc], .agg #[.int .i64 g.kind, .int .i64 g.n, .slice aa g.args.length ac]] w fun e w' => e = .returned (.bool (numB ins rn g)) ∧ Below w.heap.size w w' := by
  by_cases h2 : g.kind = 2
  · have HT : Hid (numB ins rn g = isB g.n ins) := by simp [Hid, numB, h2]
    have hk : (g.kind == 2) = true := by simp [h2]
    clear h2
    go_enter Tryz.func159, Tryz.ntmps159
    go_wp2_with fail
    refine (isBelow_any _ _ _).mono ?_
    rintro e w' ⟨rfl, rfl⟩
    rw [← HT.out]
    go_wp2_with fail
    go_ret
    exact ⟨rfl, (((Below.refl _ _).alloc (Nat.le_refl _) _).alloc (by simp) _)⟩
  have hk : (g.kind == 2) = false := by simp [h2]
  by_cases h3 : g.kind = 3
  · have HT : Hid (numB ins rn g = isB g.n rn) := by simp [Hid, numB, h3]
    have hk3 : (g.kind == 3) = true := by simp [h3]
    clear h2 h3
    go_enter Tryz.func159, Tryz.ntmps159
    go_wp2_with fail
    refine (isBelow_any _ _ _).mono ?_
    rintro e w' ⟨rfl, rfl⟩
    rw [← HT.out]
    go_wp2_with fail
    go_ret
    exact ⟨rfl, (((Below.refl _ _).alloc (Nat.le_refl _) _).alloc (by simp) _)⟩
  · have HT : Hid (numB ins rn g = (g.n == 0)) := by simp [Hid, numB, h2, h3]
    have hk3 : (g.kind == 3) = false := by simp [h3]
    clear h2 h3
    go_enter Tryz.func159, Tryz.ntmps159
    go_wp2_with fail
    go_ret
    exact ⟨ret_bool HT.out.symm, (((Below.refl _ _).alloc (Nat.le_refl _) _).alloc (by simp) _)⟩

set_option maxHeartbeats 1000000 in
theorem argsFit_any (w : World) (g : GateD) (aa : Option Addr) (ac : Nat) :
    Calls Tryz.prog 160 #[.agg #[.int .i64 g.kind, .int .i64 g.n, .slice aa g.args.length ac]] w fun e w' => e = .returned (.bool (argB g)) ∧ Below w.heap.size w w' := by
  have hk : g.kind = 0 ∨ g.kind = 1 ∨ g.kind = 2 ∨ g.kind = 3 ∨ g.kind = 6 ∨ (g.kind ≠ 0 ∧ g.kind ≠ 1 ∧ g.kind ≠ 2 ∧ g.kind ≠ 3 ∧ g.kind ≠ 6) := by omega
  rcases hk with hk | hk | hk | hk | hk | hk
  · have HT : Hid (argB g = ((g.args.length : Int) == 0)) := by unfold Hid argB; first | (rw [if_pos (by omega)]; done) | (rw [if_neg (by omega), if_pos (by omega)]; done) | (rw [if_neg (by omega), if_neg (by omega)]; done)
    have q0 : (g.kind == 0) = true := by simp; omega
    clear hk
    go_enter Tryz.func160, Tryz.ntmps160
    go_wp2_with fail
    go_ret
    exact ⟨ret_bool HT.out.symm, ((Below.refl _ _).alloc (Nat.le_refl _) _)⟩
  · have HT : Hid (argB g = ((g.args.length : Int) == 0)) := by unfold Hid argB; first | (rw [if_pos (by omega)]; done) | (rw [if_neg (by omega), if_pos (by omega)]; done) | (rw [if_neg (by omega), if_neg (by omega)]; done)
    have q0 : (g.kind == 0) = false := by simp; omega
    have q1 : (g.kind == 1) = true := by simp; omega
    clear hk
    go_enter Tryz.func160, Tryz.ntmps160
    go_wp2_with fail
    go_ret
    exact ⟨ret_bool HT.out.symm, ((Below.refl _ _).alloc (Nat.le_refl _) _)⟩
  · have HT : Hid (argB g = ((g.args.length : Int) == 0)) := by unfold Hid argB; first | (rw [if_pos (by omega)]; done) | (rw [if_neg (by omega), if_pos (by omega)]; done) | (rw [if_neg (by omega), if_neg (by omega)]; done)
    have q0 : (g.kind == 0) = false := by simp; omega
    have q1 : (g.kind == 1) = false := by simp; omega
    have q2 : (g.kind == 2) = true := by simp; omega
    clear hk
    go_enter Tryz.func160, Tryz.ntmps160
    go_wp2_with fail
    go_ret
    exact ⟨ret_bool HT.out.symm, ((Below.refl _ _).alloc (Nat.le_refl _) _)⟩
  · have HT : Hid (argB g = ((g.args.length : Int) == 0)) := by unfold Hid argB; first | (rw [if_pos (by omega)]; done) | (rw [if_neg (by omega), if_pos (by omega)]; done) | (rw [if_neg (by omega), if_neg (by omega)]; done)
    have q0 : (g.kind == 0) = false := by simp; omega
    have q1 : (g.kind == 1) = false := by simp; omega
    have q2 : (g.kind == 2) = false := by simp; omega
    have q3 : (g.kind == 3) = true := by simp; omega
    clear hk
    go_enter Tryz.func160, Tryz.ntmps160
    go_wp2_with fail
    go_ret
    exact ⟨ret_bool HT.out.symm, ((Below.refl _ _).alloc (Nat.le_refl _) _)⟩
  · have HT : Hid (argB g = ((g.args.length : Int) == 1)) := by unfold Hid argB; first | (rw [if_pos (by omega)]; done) | (rw [if_neg (by omega), if_pos (by omega)]; done) | (rw [if_neg (by omega), if_neg (by omega)]; done)
    have q0 : (g.kind == 0) = false := by simp; omega
    have q1 : (g.kind == 1) = false := by simp; omega
    have q2 : (g.kind == 2) = false := by simp; omega
    have q3 : (g.kind == 3) = false := by simp; omega
    have q6 : (g.kind == 6) = true := by simp; omega
    clear hk
    go_enter Tryz.func160, Tryz.ntmps160
    go_wp2_with fail
    go_ret
    exact ⟨ret_bool HT.out.symm, ((Below.refl _ _).alloc (Nat.le_refl _) _)⟩
  · have HT : Hid (argB g = true) := by unfold Hid argB; first | (rw [if_pos (by omega)]; done) | (rw [if_neg (by omega), if_pos (by omega)]; done) | (rw [if_neg (by omega), if_neg (by omega)]; done)
    have q0 : (g.kind == 0) = false := by simp; omega
    have q1 : (g.kind == 1) = false := by simp; omega
    have q2 : (g.kind == 2) = false := by simp; omega
    have q3 : (g.kind == 3) = false := by simp; omega
    have q6 : (g.kind == 6) = false := by simp; omega
    clear hk
    go_enter Tryz.func160, Tryz.ntmps160
    go_wp2_with fail
    go_ret
    exact ⟨ret_bool HT.out.symm, ((Below.refl _ _).alloc (Nat.le_refl _) _)⟩

set_option maxHeartbeats 1000000 in
theorem requireForms_any (d : NetD) (ins : Int) (ga ra oa : Option Addr) (gn gc rn rc on oc : Nat) (w : World) (h : NetAt w d ins ga gn ra rn oa on) (hsm : gn ≤ 200) :
    Calls Tryz.prog 146 #[.agg #[.int .i64 ins, .slice ga gn gc, .slice ra rn rc, .slice oa on oc]] w fun e w' => e = endOf (formsB d) 1 ∧ Below w.heap.size w w' := by
  have hb0 : Below w.heap.size w (w.alloc (.cells #[.int .i64 ins, .slice ga gn gc, .slice ra rn rc, .slice oa on oc] 70)) := (Below.refl _ _).alloc (Nat.le_refl _) _
  have hbox : Boxed (w.alloc (.cells #[.int .i64 ins, .slice ga gn gc, .slice ra rn rc, .slice oa on oc] 70)) w.heap.size ins ga gn gc ra rn rc oa on oc := Boxed.new _ _ _ _ _ _ _ _ _ _ _ _
  have hg : d.gates.length = gn := h.gates.1.symm
  have HR : Hid (d.regs.length = rn) := h.regs.1.symm
  have HI : Hid (d.ins = ins) := h.ins.symm
  have hgl : gn ≤ d.gates.length := by omega
  have hgl2 : d.gates.length ≤ gn := by omega
  have hgs := h.gates
  clear hg h
  go_enter Tryz.func146, Tryz.ntmps146
  go_wp2_with fail
  go_loopw [7] (fun i wr => ∃ k : Nat, k ≤ gn ∧ i = .int .i64 k ∧ formsTo d k = true ∧ Below w.heap.size w wr ∧ Boxed wr w.heap.size ins ga gn gc ra rn rc oa on oc) (fun i _ => gn - (intOf i).toNat)
  case atStart => exact ⟨0, Nat.zero_le _, rfl, rfl, hb0, hbox⟩
  case round =>
    obtain ⟨k, hk, rfl, hno, hbel, hbx⟩ := hrel
    by_cases hlt : k < gn
    · have hltg : k < d.gates.length := by omega
      obtain ⟨b, off, aa, ac, rfl, hbb, c1, c2, c3, hI⟩ := (hgs.below hbel).at hltg
      have hb3 : Below wr.heap.size wr (wr.alloc (.cells #[.int .i64 d.gates[k].kind, .int .i64 d.gates[k].n, .slice aa d.gates[k].args.length ac] 126)) := (Below.refl _ _).alloc (Nat.le_refl _) _
      have HX := hbx
      have HQ : Hid (formsTo d (k + 1) = (numB ins rn d.gates[k] && argB d.gates[k])) := by
        have := all_take_succ (formB d) d.gates k hltg
        unfold formsTo at hno
        rw [hno] at this
        rw [Hid, formsTo, this, formB, HR.out, HI.out]; rfl
      have HN : Hid ((numB ins rn d.gates[k] && argB d.gates[k]) = false → formsB d = false) := by
        intro e
        exact all_take_no (formB d) d.gates k hltg (by rw [formB, HR.out, HI.out]; exact e)
      clear hno
      obtain ⟨x0, x1, x2, x3, x4⟩ := hbx
      go_wp2_with fail
      refine (numberFits_any _ _ _ _ _ _ _ _ _ _ _ d.gates[k] _ _).mono ?_
      rintro e w2 ⟨rfl, hb4⟩
      have hb5 := bstep hb3 hb4
      have hgc : w2.cell? ⟨wr.heap.size, 0, none⟩ = some (.int .i64 d.gates[k].kind) ∧ w2.cell? ⟨wr.heap.size, 1, none⟩ = some (.int .i64 d.gates[k].n) ∧ w2.cell? ⟨wr.heap.size, 2, none⟩ = some (.slice aa d.gates[k].args.length ac) := by
        refine ⟨?_, ?_, ?_⟩
        all_goals (rw [hb4.cell (by simp)]; rw [World.cell?_alloc_new]; rfl)
      obtain ⟨y0, y1, y2⟩ := hgc
      clear x1 x2 x3 x4 c1 c2 c3 hb3
      cases e : numB ins rn d.gates[k]
      · have HT : Hid (formsB d = false) := HN.out (by rw [e]; rfl)
        clear e
        go_wp2_with fail
        refine (require_no _ _).mono ?_
        rintro e w' ⟨rfl, rfl⟩
        go_wp2_with fail
        exact ⟨rfl, end_no HT.out, bstep hbel hb5⟩
      · have HE : Hid (numB ins rn d.gates[k] = true) := e
        clear e
        go_wp2_with fail
        refine (require_yes _ _).mono ?_
        rintro e w' ⟨rfl, rfl⟩
        go_wp2_with fail
        refine (argsFit_any _ d.gates[k] _ _).mono ?_
        rintro e w3 ⟨rfl, hb6⟩
        have hb7 := bstep hb5 hb6
        clear y0 y1 y2 hb4
        cases e : argB d.gates[k]
        · have HT : Hid (formsB d = false) := HN.out (by rw [e, HE.out]; rfl)
          clear e
          go_wp2_with fail
          refine (require_no _ _).mono ?_
          rintro e w' ⟨rfl, rfl⟩
          go_wp2_with fail
          exact ⟨rfl, end_no HT.out, bstep hbel hb7⟩
        · have HT : Hid (formsTo d (k + 1) = true) := by rw [HQ.out, HE.out, e]; rfl
          clear e
          go_wp2_with fail
          refine (require_yes _ _).mono ?_
          rintro e w' ⟨rfl, rfl⟩
          go_wp2_with fail
          exact ⟨⟨k + 1, by omega, by go_num, HT.out, bstep hbel hb7, HX.below hb7⟩, by simp [intOf]; omega⟩
    · have HT : Hid (formsB d = true) := by rw [← hno]; exact congrArg (formsTo d) (by omega)
      clear hno
      go_wp2_with fail
      go_end0
      exact ⟨end_yes HT.out, hbel⟩

theorem assert_errno (f : Int) (w : World) : (Instr.typeAssert (.iface 22 (.int .i64 f)) 20 22 false).run Tryz.prog w = .ok (.int .i64 f) w := by
  simp [Instr.typeAssert, run_underlying Tryz.underlying22]

theorem catch_panicking (p : Addr) (x f : Int) (w : World) (hc : w.cell? p = some (.int .i64 x)) (hz : w.frozen? p = false) :
    CallsD Tryz.prog 142 #[.pointer (some p)] (.panicking [{ v := .iface 22 (.int .i64 f), recovered := false }]) w fun e u' w' =>
      e = .returned (.tuple #[]) ∧ u' = .panicking [{ v := .iface 22 (.int .i64 f), recovered := true }] ∧ w' = w.setCell p (.int .i64 f) := by
  refine callsD_of_wpS Tryz.func142 rfl fun c₀ cs hu => ?_
  apply wpS_seq
  apply wpS_region
  simp [wpOpsS, go_sem, recoverD, hu, Tryz.ntmps142, Exit.thenS]
  refine wpS_of_wp ?_
  simp only [Array.replicate]
  have hta := assert_errno f w
  go_wp2
  simp [bodyPostS, results, Tryz.results142]

theorem catch_idle (p : Addr) (w : World) :
    CallsD Tryz.prog 142 #[.pointer (some p)] .returning w fun e u' w' => e = .returned (.tuple #[]) ∧ u' = .returning ∧ w' = w := by
  refine callsD_of_wpS Tryz.func142 rfl fun c₀ cs hu => ?_
  apply wpS_seq
  apply wpS_region
  simp [wpOpsS, go_sem, recoverD, hu, Tryz.ntmps142, Exit.thenS]
  refine wpS_of_wp ?_
  simp only [Array.replicate]
  go_wp2
  cases c₀
  simp_all [bodyPostS, results, Tryz.results142]

theorem endOf_true (f : Int) : endOf true f = .returned (.tuple #[]) := rfl
theorem endOf_false (f : Int) : endOf false f = .panicked [{ v := .iface 22 (.int .i64 f), recovered := false }] := rfl
theorem counts_gates {d : NetD} (h : countsB d = true) : d.ins ≤ 3 ∧ d.gates.length ≤ 200 ∧ d.regs.length ≤ 20 ∧ d.outs.length ≤ 3 := by
  simp only [countsB, Bool.and_eq_true, decide_eq_true_iff] at h
  exact ⟨h.1.1.1.1, h.1.1.1.2, h.1.1.2, h.1.2⟩

/-- The deferred call, behind a panic: the fault is laid, and handed back. -/
theorem fault_out {w w1 : World} {f : Int} {o1 : Obj} (h : Below ((w.alloc o1).alloc (.cells #[.int .i64 0] 22)).heap.size ((w.alloc o1).alloc (.cells #[.int .i64 0] 22)) w1) :
    w1.cell? ⟨w.heap.size + 1, 0, none⟩ = some (.int .i64 0) ∧ w1.frozen? ⟨w.heap.size + 1, 0, none⟩ = false ∧ Below w.heap.size w (w1.setCell ⟨w.heap.size + 1, 0, none⟩ (.int .i64 f)) := by
  refine ⟨?_, ?_, ?_⟩
  · rw [h.cell (p := ⟨w.heap.size + 1, 0, none⟩) (by simp), World.cell?_alloc_at _ _ _ _ (by simp)]; rfl
  · rw [h.frozen (p := ⟨w.heap.size + 1, 0, none⟩) (by simp)]; exact World.frozen?_alloc_at _ _ _ _ (by simp)
  · refine Below.setCell ?_ (by simp) _
    exact (((Below.refl _ _).alloc (Nat.le_refl _) _).alloc (by simp) _).trans (h.mono (by simp; omega))

set_option maxHeartbeats 2000000 in
theorem firstFault_any (d : NetD) (ins : Int) (ga ra oa : Option Addr) (gn gc rn rc on oc : Nat) (w : World) (h : NetAt w d ins ga gn ra rn oa on) :
    Calls Tryz.prog 125 #[.agg #[.int .i64 ins, .slice ga gn gc, .slice ra rn rc, .slice oa on oc]] w fun e w' => e = .returned (.int .i64 (checkE d)) ∧ Below w.heap.size w w' := by
  have hmf : ∀ (fn : Fn) (first cap : Array Value) (w : World), (Instr.makeFunc fn first cap).run Tryz.prog w = .ok (.func fn first cap) w := fun _ _ _ _ => rfl
  have hbb : Below w.heap.size w ((w.alloc (.cells #[.int .i64 ins, .slice ga gn gc, .slice ra rn rc, .slice oa on oc] 70)).alloc (.cells #[.int .i64 0] 22)) := ((Below.refl _ _).alloc (Nat.le_refl _) _).alloc (by simp) _
  have hN : NetAt ((w.alloc (.cells #[.int .i64 ins, .slice ga gn gc, .slice ra rn rc, .slice oa on oc] 70)).alloc (.cells #[.int .i64 0] 22)) d ins ga gn ra rn oa on := h.below hbb
  have hbox : Boxed ((w.alloc (.cells #[.int .i64 ins, .slice ga gn gc, .slice ra rn rc, .slice oa on oc] 70)).alloc (.cells #[.int .i64 0] 22)) w.heap.size ins ga gn gc ra rn rc oa on oc := (Boxed.new _ _ _ _ _ _ _ _ _ _ _ _).below ((Below.refl _ _).alloc (Nat.le_refl _) _)
  cases e1 : countsB d
  · have HE : Hid (checkE d = 2) := by simp [Hid, checkE, e1]
    have H1 : Hid (countsB d = false) := e1
    clear e1 h
    go_enter_defers Tryz.func125, Tryz.ntmps125
    go_wp2_with fail
    refine (requireCounts_any d _ _ _ _ _ _ _ _ _ _ _ hN).mono ?_
    rintro e w1 ⟨rfl, hb⟩
    have b1 := hb
    clear hb
    rw [H1.out, endOf_false]
    go_wp2_with fail
    obtain ⟨q1, q2, q3⟩ := fault_out (f := 2) b1
    refine leaves_cons (f := 142) (args := #[.pointer (some ⟨w.heap.size + 1, 0, none⟩)]) (by simp) (by simp [go_sem]) ?_
    refine (catch_panicking ⟨w.heap.size + 1, 0, none⟩ 0 2 _ q1 q2).mono ?_
    rintro e u' w'' ⟨rfl, rfl, rfl⟩
    have q4 : (w1.setCell ⟨w.heap.size + 1, 0, none⟩ (.int .i64 2)).cell? ⟨w.heap.size + 1, 0, none⟩ = some (.int .i64 2) := World.cell?_setCell_same' _ _ _ (by rw [q1]; rfl)
    simp [Leaves, settle, results, Tryz.results125, go_sem, q4, HE.out, q3]
  have H1 : Hid (countsB d = true) := e1
  have hsm : gn ≤ 200 := by have := (counts_gates e1).2.1; have := h.gates.1; omega
  cases e2 : numbersB d
  · have HE : Hid (checkE d = 3) := by simp [Hid, checkE, e1, e2]
    have H2 : Hid (numbersB d = false) := e2
    clear e1 e2 h
    go_enter_defers Tryz.func125, Tryz.ntmps125
    go_wp2_with fail
    refine (requireCounts_any d _ _ _ _ _ _ _ _ _ _ _ hN).mono ?_
    rintro e w1 ⟨rfl, hb⟩
    have b1 := hb
    clear hb
    rw [H1.out, endOf_true]
    obtain ⟨x0, x1, x2, x3, x4⟩ := hbox.below b1
    go_wp2_with fail
    clear x1 x2 x3 x4
    refine (requireNumbers_any d _ _ _ _ _ _ _ _ _ _ _ (hN.below b1) hsm).mono ?_
    rintro e w2 ⟨rfl, hb⟩
    have b2 := bstep b1 hb
    clear b1
    clear hb
    rw [H2.out, endOf_false]
    go_wp2_with fail
    obtain ⟨q1, q2, q3⟩ := fault_out (f := 3) b2
    refine leaves_cons (f := 142) (args := #[.pointer (some ⟨w.heap.size + 1, 0, none⟩)]) (by simp) (by simp [go_sem]) ?_
    refine (catch_panicking ⟨w.heap.size + 1, 0, none⟩ 0 3 _ q1 q2).mono ?_
    rintro e u' w'' ⟨rfl, rfl, rfl⟩
    have q4 : (w2.setCell ⟨w.heap.size + 1, 0, none⟩ (.int .i64 3)).cell? ⟨w.heap.size + 1, 0, none⟩ = some (.int .i64 3) := World.cell?_setCell_same' _ _ _ (by rw [q1]; rfl)
    simp [Leaves, settle, results, Tryz.results125, go_sem, q4, HE.out, q3]
  have H2 : Hid (numbersB d = true) := e2
  cases e3 : kindsB d
  · have HE : Hid (checkE d = 4) := by simp [Hid, checkE, e1, e2, e3]
    have H3 : Hid (kindsB d = false) := e3
    clear e1 e2 e3 h
    go_enter_defers Tryz.func125, Tryz.ntmps125
    go_wp2_with fail
    refine (requireCounts_any d _ _ _ _ _ _ _ _ _ _ _ hN).mono ?_
    rintro e w1 ⟨rfl, hb⟩
    have b1 := hb
    clear hb
    rw [H1.out, endOf_true]
    obtain ⟨x0, x1, x2, x3, x4⟩ := hbox.below b1
    go_wp2_with fail
    clear x1 x2 x3 x4
    refine (requireNumbers_any d _ _ _ _ _ _ _ _ _ _ _ (hN.below b1) hsm).mono ?_
    rintro e w2 ⟨rfl, hb⟩
    have b2 := bstep b1 hb
    clear b1
    clear hb
    rw [H2.out, endOf_true]
    obtain ⟨x0, x1, x2, x3, x4⟩ := hbox.below b2
    go_wp2_with fail
    clear x1 x2 x3 x4
    refine (requireKinds_any d _ _ _ _ _ _ _ _ _ _ _ (hN.below b2) hsm).mono ?_
    rintro e w3 ⟨rfl, hb⟩
    have b3 := bstep b2 hb
    clear b2
    clear hb
    rw [H3.out, endOf_false]
    go_wp2_with fail
    obtain ⟨q1, q2, q3⟩ := fault_out (f := 4) b3
    refine leaves_cons (f := 142) (args := #[.pointer (some ⟨w.heap.size + 1, 0, none⟩)]) (by simp) (by simp [go_sem]) ?_
    refine (catch_panicking ⟨w.heap.size + 1, 0, none⟩ 0 4 _ q1 q2).mono ?_
    rintro e u' w'' ⟨rfl, rfl, rfl⟩
    have q4 : (w3.setCell ⟨w.heap.size + 1, 0, none⟩ (.int .i64 4)).cell? ⟨w.heap.size + 1, 0, none⟩ = some (.int .i64 4) := World.cell?_setCell_same' _ _ _ (by rw [q1]; rfl)
    simp [Leaves, settle, results, Tryz.results125, go_sem, q4, HE.out, q3]
  have H3 : Hid (kindsB d = true) := e3
  cases e4 : formsB d
  · have HE : Hid (checkE d = 1) := by simp [Hid, checkE, e1, e2, e3, e4]
    have H4 : Hid (formsB d = false) := e4
    clear e1 e2 e3 e4 h
    go_enter_defers Tryz.func125, Tryz.ntmps125
    go_wp2_with fail
    refine (requireCounts_any d _ _ _ _ _ _ _ _ _ _ _ hN).mono ?_
    rintro e w1 ⟨rfl, hb⟩
    have b1 := hb
    clear hb
    rw [H1.out, endOf_true]
    obtain ⟨x0, x1, x2, x3, x4⟩ := hbox.below b1
    go_wp2_with fail
    clear x1 x2 x3 x4
    refine (requireNumbers_any d _ _ _ _ _ _ _ _ _ _ _ (hN.below b1) hsm).mono ?_
    rintro e w2 ⟨rfl, hb⟩
    have b2 := bstep b1 hb
    clear b1
    clear hb
    rw [H2.out, endOf_true]
    obtain ⟨x0, x1, x2, x3, x4⟩ := hbox.below b2
    go_wp2_with fail
    clear x1 x2 x3 x4
    refine (requireKinds_any d _ _ _ _ _ _ _ _ _ _ _ (hN.below b2) hsm).mono ?_
    rintro e w3 ⟨rfl, hb⟩
    have b3 := bstep b2 hb
    clear b2
    clear hb
    rw [H3.out, endOf_true]
    obtain ⟨x0, x1, x2, x3, x4⟩ := hbox.below b3
    go_wp2_with fail
    clear x1 x2 x3 x4
    refine (requireForms_any d _ _ _ _ _ _ _ _ _ _ _ (hN.below b3) hsm).mono ?_
    rintro e w4 ⟨rfl, hb⟩
    have b4 := bstep b3 hb
    clear b3
    clear hb
    rw [H4.out, endOf_false]
    go_wp2_with fail
    obtain ⟨q1, q2, q3⟩ := fault_out (f := 1) b4
    refine leaves_cons (f := 142) (args := #[.pointer (some ⟨w.heap.size + 1, 0, none⟩)]) (by simp) (by simp [go_sem]) ?_
    refine (catch_panicking ⟨w.heap.size + 1, 0, none⟩ 0 1 _ q1 q2).mono ?_
    rintro e u' w'' ⟨rfl, rfl, rfl⟩
    have q4 : (w4.setCell ⟨w.heap.size + 1, 0, none⟩ (.int .i64 1)).cell? ⟨w.heap.size + 1, 0, none⟩ = some (.int .i64 1) := World.cell?_setCell_same' _ _ _ (by rw [q1]; rfl)
    simp [Leaves, settle, results, Tryz.results125, go_sem, q4, HE.out, q3]
  have H4 : Hid (formsB d = true) := e4
  have HE : Hid (checkE d = 0) := by simp [Hid, checkE, e1, e2, e3, e4]
  clear e1 e2 e3 e4 h
  go_enter_defers Tryz.func125, Tryz.ntmps125
  go_wp2_with fail
  refine (requireCounts_any d _ _ _ _ _ _ _ _ _ _ _ hN).mono ?_
  rintro e w1 ⟨rfl, hb⟩
  have b1 := hb
  clear hb
  rw [H1.out, endOf_true]
  obtain ⟨x0, x1, x2, x3, x4⟩ := hbox.below b1
  go_wp2_with fail
  clear x1 x2 x3 x4
  refine (requireNumbers_any d _ _ _ _ _ _ _ _ _ _ _ (hN.below b1) hsm).mono ?_
  rintro e w2 ⟨rfl, hb⟩
  have b2 := bstep b1 hb
  clear b1
  clear hb
  rw [H2.out, endOf_true]
  obtain ⟨x0, x1, x2, x3, x4⟩ := hbox.below b2
  go_wp2_with fail
  clear x1 x2 x3 x4
  refine (requireKinds_any d _ _ _ _ _ _ _ _ _ _ _ (hN.below b2) hsm).mono ?_
  rintro e w3 ⟨rfl, hb⟩
  have b3 := bstep b2 hb
  clear b2
  clear hb
  rw [H3.out, endOf_true]
  obtain ⟨x0, x1, x2, x3, x4⟩ := hbox.below b3
  go_wp2_with fail
  clear x1 x2 x3 x4
  refine (requireForms_any d _ _ _ _ _ _ _ _ _ _ _ (hN.below b3) hsm).mono ?_
  rintro e w4 ⟨rfl, hb⟩
  have b4 := bstep b3 hb
  clear b3
  clear hb
  rw [H4.out, endOf_true]
  obtain ⟨q1, q2, q3⟩ := fault_out (f := 0) b4
  have q4 : (w4.setCell ⟨w.heap.size + 1, 0, none⟩ (.int .i64 0)).cell? ⟨w.heap.size + 1, 0, none⟩ = some (.int .i64 0) := World.cell?_setCell_same' _ _ _ (by rw [q1]; rfl)
  go_wp2_with fail
  refine leaves_cons (f := 142) (args := #[.pointer (some ⟨w.heap.size + 1, 0, none⟩)]) (by simp) (by simp [go_sem]) ?_
  refine (catch_idle ⟨w.heap.size + 1, 0, none⟩ _).mono ?_
  rintro e u' w'' ⟨rfl, rfl, rfl⟩
  simp [Leaves, settle, results, Tryz.results125, go_sem, q4, HE.out, q3]

set_option maxHeartbeats 400000 in
theorem Check_any (d : NetD) (ins : Int) (ga ra oa : Option Addr) (gn gc rn rc on oc : Nat) (w : World) (h : NetAt w d ins ga gn ra rn oa on) :
    Calls Tryz.prog 96 #[.agg #[.int .i64 ins, .slice ga gn gc, .slice ra rn rc, .slice oa on oc]] w fun e w' => e = .returned (.int .i64 (checkE d)) ∧ Below w.heap.size w w' := by
  have hbb : Below w.heap.size w (w.alloc (.cells #[.int .i64 ins, .slice ga gn gc, .slice ra rn rc, .slice oa on oc] 70)) := (Below.refl _ _).alloc (Nat.le_refl _) _
  have hN := h.below hbb
  go_enter Tryz.func96, Tryz.ntmps96
  go_wp2_with fail
  refine (firstFault_any d _ _ _ _ _ _ _ _ _ _ _ hN).mono ?_
  rintro e w1 ⟨rfl, hb⟩
  go_wp2_with fail
  go_ret
  exact ⟨rfl, bstep hbb hb⟩

/-- Needed: in every set that holds l and, with a gate, its args. -/
def Need (gs : List GateD) (l : List Int) (k : Nat) : Prop :=
  ∀ S : Nat → Prop, (∀ x ∈ l, S x.toNat) → (∀ j (hj : j < gs.length), S j → ∀ x ∈ gs[j].args, S x.toNat) → S k

theorem Need.mem {gs : List GateD} {l : List Int} {x : Int} (h : x ∈ l) : Need gs l x.toNat := fun _ h1 _ => h1 x h
theorem Need.arg {gs : List GateD} {l : List Int} {j : Nat} (hj : j < gs.length) (h : Need gs l j) {x : Int} (hx : x ∈ gs[j].args) : Need gs l x.toNat :=
  fun S h1 h2 => h2 j hj (h S h1 h2) x hx
theorem Need.trans {gs : List GateD} {l m : List Int} {k : Nat} (h : Need gs m k) (hm : ∀ x ∈ m, Need gs l x.toNat) : Need gs l k :=
  h (Need gs l) hm (fun _ hj hn _ hx => Need.arg hj hn hx)
theorem Need.mono {gs : List GateD} {l m : List Int} {k : Nat} (h : Need gs l k) (hm : ∀ x ∈ l, x ∈ m) : Need gs m k :=
  h.trans (fun x hx => Need.mem (hm x hx))
theorem Need.append {gs : List GateD} {l m : List Int} {k : Nat} : Need gs (l ++ m) k ↔ Need gs l k ∨ Need gs m k := by
  constructor
  · intro h
    refine h (fun k => Need gs l k ∨ Need gs m k) ?_ ?_
    · intro x hx
      rcases List.mem_append.1 hx with hx | hx
      · exact Or.inl (Need.mem hx)
      · exact Or.inr (Need.mem hx)
    · intro j hj hn x hx
      rcases hn with hn | hn
      · exact Or.inl (Need.arg hj hn hx)
      · exact Or.inr (Need.arg hj hn hx)
  · rintro (h | h)
    · exact h.mono (fun x hx => List.mem_append.2 (Or.inl hx))
    · exact h.mono (fun x hx => List.mem_append.2 (Or.inr hx))

/-- The marks tell what is needed. -/
def Marks (gs : List GateD) (l : List Int) (ys : List Bool) : Prop := ys.length = gs.length ∧ ∀ k, k < gs.length → (ys.getD k false = true ↔ Need gs l k)

theorem Marks.same {gs : List GateD} {l : List Int} {ys zs : List Bool} (h : Marks gs l ys) (h' : Marks gs l zs) : ys = zs := by
  apply List.ext_getElem (by rw [h.1, h'.1])
  intro i hi hi'
  have hg : i < gs.length := by have := h.1; omega
  have := (h.2 i hg).trans (h'.2 i hg).symm
  simp only [List.getD_eq_getElem?_getD, List.getElem?_eq_getElem hi, List.getElem?_eq_getElem hi', Option.getD_some] at this
  rw [Bool.eq_iff_iff]; exact this

/-- What a marking walk over l has come to, from the marks ys to the marks zs. -/
structure Went (gs : List GateD) (l : List Int) (ys zs : List Bool) : Prop where
  len : zs.length = ys.length
  up : ∀ k, ys.getD k false = true → zs.getD k false = true
  all : ∀ x ∈ l, zs.getD x.toNat false = true
  shut : ∀ k (hk : k < gs.length), zs.getD k false = true → ys.getD k false = false → ∀ x ∈ gs[k].args, zs.getD x.toNat false = true
  fair : ∀ k, zs.getD k false = true → ys.getD k false = false → Need gs l k

theorem Went.start (gs : List GateD) (ys : List Bool) : Went gs [] ys ys :=
  ⟨rfl, fun _ h => h, fun x hx => by simp at hx, fun k _ h1 h2 => by rw [h1] at h2; simp at h2, fun k h1 h2 => by rw [h1] at h2; simp at h2⟩

theorem Went.skip {gs : List GateD} {l : List Int} {ys zs : List Bool} (h : Went gs l ys zs) (x : Int) (hx : zs.getD x.toNat false = true) : Went gs (l ++ [x]) ys zs :=
  ⟨h.len, h.up, fun y hy => by
    rcases List.mem_append.1 hy with hy | hy
    · exact h.all y hy
    · simp at hy; rw [hy]; exact hx, h.shut, fun k h1 h2 => (h.fair k h1 h2).mono (fun y hy => List.mem_append.2 (Or.inl hy))⟩

theorem getD_set (zs : List Bool) (n k : Nat) (hn : n < zs.length) : (zs.set n true).getD k false = (if k = n then true else zs.getD k false) := by
  simp only [List.getD_eq_getElem?_getD, List.getElem?_set]
  by_cases e : n = k
  · subst e; simp [hn]
  · rw [if_neg e, if_neg (Ne.symm e)]

theorem Went.step {gs : List GateD} {l : List Int} {ys zs us : List Bool} (h : Went gs l ys zs) (n : Nat) (hn : n < gs.length) (hz : n < zs.length) (h' : Went gs gs[n].args (zs.set n true) us) : Went gs (l ++ [(n : Int)]) ys us := by
  have hup : ∀ k, zs.getD k false = true → us.getD k false = true := by
    intro k hk
    apply h'.up
    rw [getD_set zs n k hz]
    by_cases e : k = n
    · rw [if_pos e]
    · rw [if_neg e]; exact hk
  have hnm : us.getD n false = true := by
    apply h'.up
    rw [getD_set zs n n hz, if_pos rfl]
  have hne : Need gs (l ++ [(n : Int)]) n := by
    have : (n : Int) ∈ l ++ [(n : Int)] := by simp
    have := Need.mem (gs := gs) this
    simpa using this
  refine ⟨by rw [h'.len, List.length_set, h.len], fun k hk => hup k (h.up k hk), ?_, ?_, ?_⟩
  · intro x hx
    rcases List.mem_append.1 hx with hx | hx
    · exact hup _ (h.all x hx)
    · simp at hx; rw [hx]; simpa using hnm
  · intro k hk h1 h2 x hx
    by_cases e : k = n
    · subst e; exact h'.all x hx
    · cases hz2 : zs.getD k false
      · refine h'.shut k hk h1 ?_ x hx
        rw [getD_set zs n k hz, if_neg e]; exact hz2
      · exact hup _ (h.shut k hk hz2 h2 x hx)
  · intro k h1 h2
    by_cases e : k = n
    · subst e; exact hne
    · cases hz2 : zs.getD k false
      · have := h'.fair k h1 (by rw [getD_set zs n k hz, if_neg e]; exact hz2)
        exact this.trans (fun x hx => Need.arg hn hne hx)
      · exact (h.fair k hz2 h2).mono (fun y hy => List.mem_append.2 (Or.inl hy))

theorem getD_none (n k : Nat) : (List.replicate n false).getD k false = false := by
  simp only [List.getD_eq_getElem?_getD, List.getElem?_replicate]
  split <;> rfl

theorem Went.marks {gs : List GateD} {l : List Int} {zs : List Bool} (h : Went gs l (List.replicate gs.length false) zs) : Marks gs l zs := by
  refine ⟨by rw [h.len]; simp, fun k hk => ⟨fun hz => h.fair k hz (getD_none _ _), fun hn => ?_⟩⟩
  exact hn (fun k => zs.getD k false = true) h.all (fun j hj hs x hx => h.shut j hj hs (getD_none _ _) x hx)

/-- How many are not marked. -/
def falses (ys : List Bool) : Nat := (ys.filter (fun b => !b)).length

theorem falses_le {ys zs : List Bool} (hl : zs.length = ys.length) (h : ∀ k, ys.getD k false = true → zs.getD k false = true) : falses zs ≤ falses ys := by
  induction ys generalizing zs with
  | nil => have : zs = [] := List.eq_nil_of_length_eq_zero (by simpa using hl); subst this; exact Nat.le_refl _
  | cons y ys ih =>
    cases zs with
    | nil => simp at hl
    | cons z zs =>
      have h0 := h 0
      have hr := ih (zs := zs) (by simpa using hl) (fun k hk => by have := h (k + 1); simpa using this (by simpa using hk))
      simp only [List.getD_cons_zero] at h0
      cases y <;> cases z <;> simp_all [falses] <;> omega

/-- If as few are not marked as before, the marks are the same. -/
theorem falses_eq {ys zs : List Bool} (hl : zs.length = ys.length) (h : ∀ k, ys.getD k false = true → zs.getD k false = true) (he : falses ys ≤ falses zs) : zs = ys := by
  induction ys generalizing zs with
  | nil => exact List.eq_nil_of_length_eq_zero (by simpa using hl)
  | cons y ys ih =>
    cases zs with
    | nil => simp at hl
    | cons z zs =>
      have h0 := h 0
      have ht : ∀ k, ys.getD k false = true → zs.getD k false = true := fun k hk => by have := h (k + 1); simpa using this (by simpa using hk)
      have hle := falses_le (ys := ys) (zs := zs) (by simpa using hl) ht
      simp only [List.getD_cons_zero] at h0
      have hyz : z = y ∧ falses ys ≤ falses zs := by
        cases y <;> cases z <;> simp_all [falses] <;> omega
      rw [hyz.1, ih (by simpa using hl) ht hyz.2]

/-- Marks that hold the args of what they hold. -/
def Shut (gs : List GateD) (ys : List Bool) : Prop := ∀ k (hk : k < gs.length), ys.getD k false = true → ∀ x ∈ gs[k].args, ys.getD x.toNat false = true
/-- Marks that hold l, and nothing that is not needed. -/
structure Fair (gs : List GateD) (l : List Int) (ys : List Bool) : Prop where
  len : ys.length = gs.length
  all : ∀ x ∈ l, ys.getD x.toNat false = true
  fair : ∀ k, ys.getD k false = true → Need gs l k

theorem Fair.marks {gs : List GateD} {l : List Int} {ys : List Bool} (h : Fair gs l ys) (hs : Shut gs ys) : Marks gs l ys :=
  ⟨h.len, fun k _ => ⟨h.fair k, fun hn => hn (fun k => ys.getD k false = true) h.all hs⟩⟩

/-- A round: from zs to ys. -/
structure Round (gs : List GateD) (zs ys : List Bool) (k : Nat) : Prop where
  up : ∀ j, zs.getD j false = true → ys.getD j false = true
  done : ∀ j (hj : j < gs.length), j < k → zs.getD j false = true → ∀ x ∈ gs[j].args, ys.getD x.toNat false = true

/-- How far the rounds have come behind r of them. -/
def Came (gs : List GateD) (ys : List Bool) (r : Nat) : Prop := Shut gs ys ∨ r + 1 + falses ys ≤ gs.length

theorem Came.start {gs : List GateD} {l : List Int} {ys : List Bool} (h : Fair gs l ys) (hin : ∀ x ∈ l, x.toNat < gs.length) : Came gs ys 0 := by
  by_cases hl : l = []
  · left
    intro k hk hy
    exact absurd (h.fair k hy) (fun hn => by
      have := hn (fun _ => False) (fun x hx => by rw [hl] at hx; simp at hx) (fun _ _ hf => hf.elim)
      exact this)
  · right
    obtain ⟨x, hx⟩ := List.exists_mem_of_ne_nil l hl
    have hlt := hin x hx
    have hm := h.all x hx
    have hle : falses ys < ys.length := by
      rcases Nat.lt_or_ge (falses ys) ys.length with h1 | h1
      · exact h1
      · exfalso
        have e : ys = List.replicate ys.length false := by
          have := List.length_filter_eq_length_iff.1 (Nat.le_antisymm (List.length_filter_le (fun b => !b) ys) h1)
          rw [List.eq_replicate_iff]
          exact ⟨rfl, fun b hb => by have := this b hb; simpa using this⟩
        rw [e, getD_none] at hm
        simp at hm
    have := h.len
    omega

theorem Came.step {gs : List GateD} {l : List Int} {zs ys : List Bool} {r : Nat} (hz : Fair gs l zs) (hy : Fair gs l ys) (hr : Round gs zs ys gs.length) (hc : Came gs zs r) : Came gs ys (r + 1) := by
  have hlen : ys.length = zs.length := by rw [hz.len, hy.len]
  have same : ys = zs → Shut gs ys := by
    intro e k hk h1 x hx
    exact hr.done k hk hk (by rw [← e]; exact h1) x hx
  rcases hc with hs | hc
  · left
    have hzm := hz.marks hs
    have e : ys = zs := by
      apply falses_eq hlen hr.up
      apply falses_le hlen.symm
      intro k hk
      by_cases hlt : k < gs.length
      · exact (hzm.2 k hlt).2 (hy.fair k hk)
      · exfalso
        rw [List.getD_eq_getElem?_getD, List.getElem?_eq_none (by have := hy.len; omega)] at hk
        simp at hk
    exact same e
  · have hle := falses_le hlen hr.up
    rcases Nat.lt_or_ge (falses ys) (falses zs) with h1 | h1
    · right; omega
    · left; exact same (falses_eq hlen hr.up h1)

theorem Came.shut {gs : List GateD} {ys : List Bool} (hc : Came gs ys gs.length) : Shut gs ys := by
  rcases hc with h | h
  · exact h
  · omega

theorem Fair.set {gs : List GateD} {l : List Int} {ys : List Bool} (h : Fair gs l ys) (n : Nat) (hn : n < gs.length) (hneed : Need gs l n) : Fair gs l (ys.set n true) := by
  have hz : n < ys.length := by rw [h.len]; exact hn
  refine ⟨by rw [List.length_set]; exact h.len, fun x hx => ?_, fun k hk => ?_⟩
  · rw [getD_set ys n _ hz]; split
    · rfl
    · exact h.all x hx
  · rw [getD_set ys n _ hz] at hk
    by_cases e : k = n
    · rw [e]; exact hneed
    · rw [if_neg e] at hk; exact h.fair k hk
theorem up_set (ys : List Bool) (n : Nat) (hn : n < ys.length) (k : Nat) (h : ys.getD k false = true) : (ys.set n true).getD k false = true := by
  rw [getD_set ys n k hn]; split
  · rfl
  · exact h

theorem hide {p : Prop} (h : p) : Hid p := h
theorem unhide {p : Prop} (h : Hid p) : p := h

def bs (ys : List Bool) : Array Value := (ys.map (fun b => Value.bool b)).toArray
/-- A row of marks: a block of its own. -/
def BoolRow (w : World) (g : Nat) (ys : List Bool) : Prop := w.heap[g]? = some (.cells (bs ys) 4 (0, 0))

theorem BoolRow.cell {w : World} {g : Nat} {ys : List Bool} (h : BoolRow w g ys) (k : Nat) (hk : k < ys.length) : w.cell? ⟨g, k, none⟩ = some (.bool (ys.getD k false)) := by
  rw [cell_of_row w g k _ _ _ h]
  simp [bs, hk, List.getD_eq_getElem?_getD]
theorem BoolRow.frozen {w : World} {g : Nat} {ys : List Bool} (h : BoolRow w g ys) (k : Nat) : w.frozen? ⟨g, k, none⟩ = false := frozen_of_row w g k _ _ h
theorem BoolRow.set {w : World} {g : Nat} {ys : List Bool} (h : BoolRow w g ys) (k : Nat) (b : Bool) : BoolRow (w.setCell ⟨g, k, none⟩ (.bool b)) g (ys.set k b) := by
  unfold BoolRow
  rw [Go.heap_setCell_same w g k _ _ _ h]
  congr 2
  simp [bs]
theorem BoolRow.lt {w : World} {g : Nat} {ys : List Bool} (h : BoolRow w g ys) : g < w.heap.size := (Array.getElem?_eq_some_iff.1 h).1

/-- Marks that are only read. -/
def Bools (w : World) (a : Option Addr) (n : Nat) (xs : List Bool) : Prop :=
  n = xs.length ∧ xs.length ≤ maxLen ∧ (xs = [] ∨ ∃ b off, a = some ⟨b, off, none⟩ ∧ b < w.heap.size ∧ ∀ i (hi : i < xs.length), w.cell? ⟨b, off + i, none⟩ = some (.bool xs[i]))
theorem Bools.below {w w' : World} {a : Option Addr} {n : Nat} {xs : List Bool} (h : Bools w a n xs) (hb : Below w.heap.size w w') : Bools w' a n xs := by
  obtain ⟨h1, h2, h3⟩ := h
  refine ⟨h1, h2, ?_⟩
  rcases h3 with h3 | ⟨b, off, ha, hlt, hc⟩
  · exact Or.inl h3
  · exact Or.inr ⟨b, off, ha, Nat.lt_of_lt_of_le hlt hb.size, fun i hi => by rw [hb.cell (p := ⟨b, off + i, none⟩) hlt]; exact hc i hi⟩
theorem Bools.nothing (w : World) : Bools w none 0 [] := ⟨rfl, Nat.zero_le _, Or.inl rfl⟩
theorem BoolRow.bools {w : World} {g : Nat} {ys : List Bool} (h : BoolRow w g ys) (hm : ys.length ≤ maxLen) : Bools w (some ⟨g, 0, none⟩) ys.length ys :=
  ⟨rfl, hm, Or.inr ⟨g, 0, rfl, h.lt, fun i hi => by rw [Nat.zero_add, h.cell i hi]; simp [List.getD_eq_getElem?_getD, hi]⟩⟩
theorem Bools.at {w : World} {a : Option Addr} {n : Nat} {xs : List Bool} (h : Bools w a n xs) {k : Nat} (hk : k < xs.length) :
    ∃ b off, a = some ⟨b, off, none⟩ ∧ b < w.heap.size ∧ w.cell? ⟨b, off + k, none⟩ = some (.bool xs[k]) := by
  obtain ⟨h1, h2, h3⟩ := h
  rcases h3 with h3 | ⟨b, off, ha, hlt, hc⟩
  · rw [h3] at hk; simp at hk
  · exact ⟨b, off, ha, hlt, hc k hk⟩
end Go.Proofs.YtongajonecgdpagGreatDoor
