/- The document's answers of eval: a gate's worth, what is settled, what solves. -/
import Derived.Test.YtongajonecgdpaeNetR
import Derived.Test.YtongajonecgdpaeEvalM
namespace Go.Proofs.Ytongajonecgdpae
open Go.RowKit

/-- A gate that may be, among so many registers, inputs and gates. -/
structure Right (g : GateD) (rn inn gn : Nat) : Prop where
  kind : 0 ≤ g.kind ∧ g.kind ≤ 6
  inp : g.kind = 2 → 0 ≤ g.n ∧ g.n.toNat < inn
  reg : g.kind = 3 → 0 ≤ g.n ∧ g.n.toNat < rn
  one : g.kind = 6 → g.args.length = 1
  few : g.args.length ≤ 16
  args : ∀ x ∈ g.args, 0 ≤ x ∧ x.toNat < gn

theorem right_of {d : NetD} (h : checkE d = 0) (k : Nat) (hk : k < d.gates.length) : Right d.gates[k] d.regs.length d.ins.toNat d.gates.length := by
  obtain ⟨h1, h2, h3, h4⟩ := check_ok h
  have hins : 0 ≤ d.ins := by
    simp only [numbersB, Bool.and_eq_true, decide_eq_true_iff] at h2
    exact h2.1.1.1
  have hk3 : 0 ≤ d.gates[k].kind ∧ d.gates[k].kind ≤ 6 := by
    unfold kindsB kindsTo at h3
    rw [List.take_length, List.all_eq_true] at h3
    simpa [kindB] using h3 _ (List.getElem_mem hk)
  have hf : numB d.ins d.regs.length d.gates[k] = true ∧ argB d.gates[k] = true := by
    unfold formsB formsTo at h4
    rw [List.take_length, List.all_eq_true] at h4
    have := h4 _ (List.getElem_mem hk)
    simpa [formB] using this
  have hfew : d.gates[k].args.length ≤ 16 := by
    simp only [countsB, countsTo, Bool.and_eq_true] at h1
    have h5 := h1.2
    rw [List.take_length, List.all_eq_true] at h5
    simpa using h5 _ (List.getElem_mem hk)
  refine ⟨hk3, fun e => ?_, fun e => ?_, fun e => ?_, hfew, args_in h2 k hk⟩
  · have := hf.1
    unfold numB at this
    rw [if_pos e] at this
    simp only [isB, decide_eq_true_iff] at this
    omega
  · have := hf.1
    unfold numB at this
    rw [if_neg (by omega), if_pos e] at this
    simp only [isB, decide_eq_true_iff] at this
    omega
  · have := hf.2
    unfold argB at this
    rw [if_neg (by omega), if_pos e] at this
    simp only [beq_iff_eq] at this
    omega

/-- A gate's three cells in a box of the call's own. -/
def GBox (w : World) (b : Nat) (kind n : Int) (aa : Option Addr) (an ac : Nat) : Prop :=
  b < w.heap.size ∧ w.cell? ⟨b, 0, none⟩ = some (.int .i64 kind) ∧ w.cell? ⟨b, 1, none⟩ = some (.int .i64 n) ∧ w.cell? ⟨b, 2, none⟩ = some (.slice aa an ac)
theorem GBox.below' {B : Nat} {w w' : World} {b : Nat} {kind n : Int} {aa : Option Addr} {an ac : Nat} (h : GBox w b kind n aa an ac) (hb : Below B w w') (hB : b < B) : GBox w' b kind n aa an ac := by
  obtain ⟨h0, h1, h2, h3⟩ := h
  refine ⟨Nat.lt_of_lt_of_le h0 hb.size, ?_, ?_, ?_⟩
  · rw [hb.cell (p := ⟨b, 0, none⟩) hB]; exact h1
  · rw [hb.cell (p := ⟨b, 1, none⟩) hB]; exact h2
  · rw [hb.cell (p := ⟨b, 2, none⟩) hB]; exact h3
theorem GBox.new (w : World) (kind n : Int) (aa : Option Addr) (an ac : Nat) (T : TypeId) : GBox (w.alloc (.cells #[.int .i64 kind, .int .i64 n, .slice aa an ac] T)) w.heap.size kind n aa an ac := by
  refine ⟨by simp, ?_, ?_, ?_⟩ <;> rw [World.cell?_alloc_new] <;> rfl

def argsV (g : GateD) (v : List Int) : List Int := g.args.map (fun x => v.getD x.toNat 2)
theorem argsV_val (g : GateD) {v : List Int} (hv : vals v = true) {k : Nat} (h : k < (argsV g v).length) : 0 ≤ (argsV g v)[k] ∧ (argsV g v)[k] ≤ 2 := by
  have h2 : (argsV g v)[k] = 0 ∨ (argsV g v)[k] = 1 ∨ (argsV g v)[k] = 2 := by
    simp only [argsV, List.getElem_map]
    exact getD_val hv _
  omega
def argTo (g : GateD) (v : List Int) (k : Nat) : List Value := ((argsV g v).take k).map (fun x => Value.int .i64 x)
theorem argTo_succ (g : GateD) (v : List Int) (k n : Nat) (h : k < g.args.length) (hn : g.args[k] = (n : Int)) (hv : n < v.length) : argTo g v (k + 1) = argTo g v k ++ [.int .i64 v[n]] := by
  have hk : k < (argsV g v).length := by simpa [argsV] using h
  unfold argTo
  rw [List.take_succ_eq_append_getElem hk, List.map_append]
  simp [argsV, hn, List.getD_eq_getElem?_getD, hv]
theorem argTo_full (g : GateD) (v : List Int) (k : Nat) (h : g.args.length ≤ k) : argTo g v k = (argsV g v).map (fun x => Value.int .i64 x) := by
  unfold argTo; rw [List.take_of_length_le (by simpa [argsV] using h)]

set_option maxHeartbeats 1000000 in
theorem worth_any (g : GateD) (aa : Option Addr) (an ac : Nat) (regs ins v : List Int) (ra ia va : Option Addr) (rn rc inn ic vn vc : Nat) (w : World)
    (hA : Ints w aa an g.args) (hr : Ints w ra rn regs) (hi : Ints w ia inn ins) (hv : Ints w va vn v) (hok : Right g rn inn vn) (hvv : vals v = true) :
    Calls Try.prog 96 #[.agg #[.int .i64 g.kind, .int .i64 g.n, .slice aa an ac], .slice ra rn rc, .slice ia inn ic, .slice va vn vc] w fun e w' => e = .returned (.int .i64 (worthV g regs ins v)) ∧ Below w.heap.size w w' := by
  have hb0 : Below w.heap.size w (w.alloc (.cells #[.int .i64 g.kind, .int .i64 g.n, .slice aa an ac] 96)) := (Below.refl _ _).alloc (Nat.le_refl _) _
  have hbox0 : GBox (w.alloc (.cells #[.int .i64 g.kind, .int .i64 g.n, .slice aa an ac] 96)) w.heap.size g.kind g.n aa an ac := GBox.new _ _ _ _ _ _ _
  have hal : an ≤ g.args.length := by have := hA.1; omega
  have hal2 : g.args.length ≤ an := by have := hA.1; omega
  have hfew : an ≤ 16 := by have := hok.few; omega
  have hvl : vn ≤ v.length := by have := hv.1; omega
  have hvl2 : v.length ≤ vn := by have := hv.1; omega
  obtain ⟨i0, hi0, hz0, hz1, hz2⟩ := info_parts Try.infoInt
  go_enter Try.func96, Try.ntmps96
  go_wp2_with fail
  go_loopw [9, 10] (fun l i wr => ∃ k : Nat, k ≤ an ∧ i = .int .i64 k ∧ wr.ownsRow (w.heap.size + 1) 3 1 l k (argTo g v k) ∧ Below w.heap.size w wr ∧ GBox wr w.heap.size g.kind g.n aa an ac) (fun _ i _ => an - (intOf i).toNat)
  case atStart => exact ⟨0, Nat.zero_le _, rfl, World.ownsRow_nil _ _ _ _, hb0, hbox0⟩
  case round =>
    clear hb0 hbox0
    obtain ⟨k, hk, rfl, hown, hbel, hbx⟩ := hrel
    by_cases hlt : k < an
    · have hltg : k < g.args.length := by omega
      have hki : (k : Int) < (an : Int) := by omega
      obtain ⟨b, off, rfl, hbb, c1⟩ := (hA.below hbel).at hltg
      have hx := hok.args g.args[k] (List.getElem_mem hltg)
      obtain ⟨n, hn⟩ := Int.eq_ofNat_of_zero_le hx.1
      have hnl : n < v.length := by have := hx.2; rw [hn] at this; simp at this; omega
      have hni : (n : Int) < (vn : Int) := by omega
      obtain ⟨b2, off2, rfl, hbb2, c2⟩ := (hv.below hbel).at hnl
      have HT : Hid (argTo g v (k + 1) = argTo g v k ++ [.int .i64 v[n]]) := argTo_succ g v k n hltg hn hnl
      rw [hn] at c1
      have hbx0 := hbx
      obtain ⟨x0, x1, x2, x3⟩ := hbx
      clear hx hn hok hr hi
      go_wp2_with (at_builtin; refine wpList_append_own _ rfl _ _ 24 rfl (w.heap.size + 1) 3 i0 (.int .i64 0) 1 8 Try.underlying24 hi0 hz0 hz1 hz2 rfl (by decide) _ _ _ rfl (hown.alloc _) ⟨wr.heap.size, 0, none⟩ 1 1 [.int .i64 v[n]] rfl rfl ?c1 ?c2 ?c3 ?c4 ?c5 ?_)
      case c1 =>
        intro j u hj
        match j, hj with
        | 0, hj => simp at hj; subst hj; simp [Addr.add]
      case c2 => intro u hu; simp at hu; subst hu; rfl
      case c3 => unfold maxLen; omega
      case c4 => omega
      case c5 => simp; omega
      intro v' w3 hown' hgrow _
      have hown2 := hown'
      rw [← HT.out] at hown2
      have hb9 : Below (w.heap.size + 1) wr w3 := ((Below.refl _ wr).alloc (Nat.succ_le_of_lt x0) _).grown hgrow (by simp; omega) (fun k hk => (hown.lt k hk).1)
      have hb3 : Below w.heap.size w w3 := hbel.trans (hb9.mono (Nat.le_succ _))
      have hbx3 := hbx0.below' hb9 (Nat.lt_succ_self _)
      clear hown' hgrow
      have R := And.intro hown2 (And.intro hb3 hbx3)
      clear hown x1 x2 x3 c1 c2 hown2 hb9 hb3 hbx3
      go_wp2_with fail
      exact ⟨⟨k + 1, by omega, by go_num, R.1, R.2.1, R.2.2⟩, by simp [intOf]; omega⟩
    rw [argTo_full g v k (by omega)] at hown
    obtain ⟨a2, c2, hvs, hI⟩ := own_ints hown (by unfold maxLen; omega)
    rw [hvs]
    clear hvs hown hi0 hz0 hz1 hz2
    have hk06 := hok.kind
    have hkk : g.kind = 1 ∨ g.kind = 2 ∨ g.kind = 3 ∨ g.kind = 4 ∨ g.kind = 5 ∨ g.kind = 6 ∨ g.kind = 0 := by omega
    clear hk06
    rcases hkk with hkk | hkk | hkk | hkk | hkk | hkk | hkk
    · have q1 : (g.kind == 1) = true := by simp only [beq_iff_eq]; omega
      have HW : Hid (worthV g regs ins v = 1) := by unfold Hid worthV; rw [if_pos hkk]
      obtain ⟨x0, x1, x2, x3⟩ := hbx
      clear hkk
      go_wp2_with fail
      go_ret
      exact ⟨ret_int HW.out.symm, hbel⟩
    · have q1 : (g.kind == 1) = false := by simp only [beq_eq_false_iff_ne, ne_eq]; omega
      have q2 : (g.kind == 2) = true := by simp only [beq_iff_eq]; omega
      have hR := hok.inp hkk
      obtain ⟨m, hm⟩ := Int.eq_ofNat_of_zero_le hR.1
      have hml : m < ins.length := by have h1 := hR.2; rw [hm] at h1; have h2 := hi.1; simp at h1; omega
      have hmi : (m : Int) < (inn : Int) := by have h1 := hi.1; omega
      obtain ⟨bi, oi, rfl, hbi, ci⟩ := (hi.below hbel).at hml
      have HW : Hid (worthV g regs ins v = ins[m]) := by
        unfold Hid worthV
        rw [if_neg (by omega), if_pos hkk]
        rw [hm]; simp [List.getD_eq_getElem?_getD, hml]
      obtain ⟨x0, x1, x2, x3⟩ := hbx
      rw [hm] at x2
      clear hm hR hkk hok
      go_wp2_with fail
      go_ret
      exact ⟨ret_int HW.out.symm, hbel⟩
    · have q1 : (g.kind == 1) = false := by simp only [beq_eq_false_iff_ne, ne_eq]; omega
      have q2 : (g.kind == 2) = false := by simp only [beq_eq_false_iff_ne, ne_eq]; omega
      have q3 : (g.kind == 3) = true := by simp only [beq_iff_eq]; omega
      have hR := hok.reg hkk
      obtain ⟨m, hm⟩ := Int.eq_ofNat_of_zero_le hR.1
      have hml : m < regs.length := by have h1 := hR.2; rw [hm] at h1; have h2 := hr.1; simp at h1; omega
      have hmi : (m : Int) < (rn : Int) := by have h1 := hr.1; omega
      obtain ⟨bi, oi, rfl, hbi, ci⟩ := (hr.below hbel).at hml
      have HW : Hid (worthV g regs ins v = regs[m]) := by
        unfold Hid worthV
        rw [if_neg (by omega), if_neg (by omega), if_pos hkk]
        rw [hm]; simp [List.getD_eq_getElem?_getD, hml]
      obtain ⟨x0, x1, x2, x3⟩ := hbx
      rw [hm] at x2
      clear hm hR hkk hok
      go_wp2_with fail
      go_ret
      exact ⟨ret_int HW.out.symm, hbel⟩
    · have q1 : (g.kind == 1) = false := by simp only [beq_eq_false_iff_ne, ne_eq]; omega
      have q2 : (g.kind == 2) = false := by simp only [beq_eq_false_iff_ne, ne_eq]; omega
      have q3 : (g.kind == 3) = false := by simp only [beq_eq_false_iff_ne, ne_eq]; omega
      have q4 : (g.kind == 4) = true := by simp only [beq_iff_eq]; omega
      have HW : Hid (worthV g regs ins v = tellV 0 1 (argsV g v)) := by unfold Hid worthV; rw [if_neg (by omega), if_neg (by omega), if_neg (by omega), if_pos hkk]; rfl
      obtain ⟨x0, x1, x2, x3⟩ := hbx
      clear hkk hok
      go_wp2_with fail
      refine (all_ref _ _ _ _ _ hI).mono ?_
      rintro e w' ⟨rfl, rfl⟩
      go_wp2_with fail
      go_ret
      exact ⟨ret_int HW.out.symm, hbel⟩
    · have q1 : (g.kind == 1) = false := by simp only [beq_eq_false_iff_ne, ne_eq]; omega
      have q2 : (g.kind == 2) = false := by simp only [beq_eq_false_iff_ne, ne_eq]; omega
      have q3 : (g.kind == 3) = false := by simp only [beq_eq_false_iff_ne, ne_eq]; omega
      have q4 : (g.kind == 4) = false := by simp only [beq_eq_false_iff_ne, ne_eq]; omega
      have q5 : (g.kind == 5) = true := by simp only [beq_iff_eq]; omega
      have HW : Hid (worthV g regs ins v = tellV 1 0 (argsV g v)) := by unfold Hid worthV; rw [if_neg (by omega), if_neg (by omega), if_neg (by omega), if_neg (by omega), if_pos hkk]; rfl
      obtain ⟨x0, x1, x2, x3⟩ := hbx
      clear hkk hok
      go_wp2_with fail
      refine (any_ref _ _ _ _ _ hI).mono ?_
      rintro e w' ⟨rfl, rfl⟩
      go_wp2_with fail
      go_ret
      exact ⟨ret_int HW.out.symm, hbel⟩
    · have q1 : (g.kind == 1) = false := by simp only [beq_eq_false_iff_ne, ne_eq]; omega
      have q2 : (g.kind == 2) = false := by simp only [beq_eq_false_iff_ne, ne_eq]; omega
      have q3 : (g.kind == 3) = false := by simp only [beq_eq_false_iff_ne, ne_eq]; omega
      have q4 : (g.kind == 4) = false := by simp only [beq_eq_false_iff_ne, ne_eq]; omega
      have q5 : (g.kind == 5) = false := by simp only [beq_eq_false_iff_ne, ne_eq]; omega
      have q6 : (g.kind == 6) = true := by simp only [beq_iff_eq]; omega
      have hone := hok.one hkk
      have h0l : 0 < (argsV g v).length := by simp [argsV]; omega
      have HW : Hid (worthV g regs ins v = not1 (argsV g v)[0]) := by
        unfold Hid worthV
        rw [if_neg (by omega), if_neg (by omega), if_neg (by omega), if_neg (by omega), if_neg (by omega), if_pos hkk]
        show not1 ((argsV g v).getD 0 2) = _
        rw [List.getD_eq_getElem?_getD, List.getElem?_eq_getElem h0l]; rfl
      have hval : 0 ≤ (argsV g v)[0] ∧ (argsV g v)[0] ≤ 2 := argsV_val g hvv h0l
      obtain ⟨b3, o3, rfl, hb3, c3⟩ := hI.at h0l
      have hk1 : k = 1 := by omega
      subst hk1
      simp only [Nat.add_zero] at c3
      obtain ⟨x0, x1, x2, x3⟩ := hbx
      clear hkk hok hone
      go_wp2_with fail
      refine (not_ref _ _ hval.1 hval.2).mono ?_
      rintro e w' ⟨rfl, rfl⟩
      go_wp2_with fail
      go_ret
      exact ⟨ret_int HW.out.symm, hbel⟩
    · have q1 : (g.kind == 1) = false := by simp only [beq_eq_false_iff_ne, ne_eq]; omega
      have q2 : (g.kind == 2) = false := by simp only [beq_eq_false_iff_ne, ne_eq]; omega
      have q3 : (g.kind == 3) = false := by simp only [beq_eq_false_iff_ne, ne_eq]; omega
      have q4 : (g.kind == 4) = false := by simp only [beq_eq_false_iff_ne, ne_eq]; omega
      have q5 : (g.kind == 5) = false := by simp only [beq_eq_false_iff_ne, ne_eq]; omega
      have q6 : (g.kind == 6) = false := by simp only [beq_eq_false_iff_ne, ne_eq]; omega
      have HW : Hid (worthV g regs ins v = 0) := by unfold Hid worthV; rw [if_neg (by omega), if_neg (by omega), if_neg (by omega), if_neg (by omega), if_neg (by omega), if_neg (by omega)]
      obtain ⟨x0, x1, x2, x3⟩ := hbx
      clear hkk hok
      go_wp2_with fail
      go_ret
      exact ⟨ret_int HW.out.symm, hbel⟩
end Go.Proofs.Ytongajonecgdpae
