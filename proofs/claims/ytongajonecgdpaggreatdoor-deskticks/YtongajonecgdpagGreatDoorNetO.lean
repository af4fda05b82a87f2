/- SameInts, SameBools, NeedsError and net.Needs: what they answer. -/
import Derived.Test.YtongajonecgdpagGreatDoorNetA
import Derived.Test.YtongajonecgdpagGreatDoorNetE
namespace Go.Proofs.YtongajonecgdpagGreatDoor
open Go.RowKit

def wth (n lo hi : Int) : Bool := decide (lo ≤ n ∧ n ≤ hi)
def sameIntsTo (xs ys : List Int) (k : Nat) : Bool := decide (xs.take k = ys.take k)
theorem sameInts_succ (xs ys : List Int) (k : Nat) (h : k < xs.length) (h' : k < ys.length) : sameIntsTo xs ys (k + 1) = (sameIntsTo xs ys k && (xs[k] == ys[k])) := by
  unfold sameIntsTo
  rw [List.take_succ_eq_append_getElem h, List.take_succ_eq_append_getElem h', Bool.eq_iff_iff]
  simp only [decide_eq_true_iff, Bool.and_eq_true, beq_iff_eq]
  constructor
  · intro e
    have := List.append_inj e (by simp; omega)
    exact ⟨this.1, by simpa using this.2⟩
  · rintro ⟨e1, e2⟩; rw [e1, e2]
theorem check_ok {d : NetD} (h : checkE d = 0) : countsB d = true ∧ numbersB d = true ∧ kindsB d = true ∧ formsB d = true := by
  unfold checkE at h
  cases h1 : countsB d <;> cases h2 : numbersB d <;> cases h3 : kindsB d <;> cases h4 : formsB d <;> simp [h1, h2, h3, h4] at h
  exact ⟨rfl, rfl, rfl, rfl⟩
theorem args_in {d : NetD} (h : numbersB d = true) (j : Nat) (hj : j < d.gates.length) : ∀ x ∈ d.gates[j].args, 0 ≤ x ∧ x.toNat < d.gates.length := by
  intro x hx
  simp only [numbersB, argsTo, Bool.and_eq_true] at h
  have h1 := h.2
  rw [List.take_length, List.all_eq_true] at h1
  have h2 := h1 _ (List.getElem_mem hj)
  unfold argsIn at h2
  rw [List.all_eq_true] at h2
  have h3 := h2 x hx
  simp only [isB, decide_eq_true_iff] at h3
  omega
theorem Tryz.infoBool : (Tryz.prog.info? 4).map (fun i => (i.zero, i.size, i.bytes)) = some (some (.bool false), 1, 1) := by kernel_rfl

theorem Boxed.below' {B : Nat} {w w' : World} {b : Nat} {ins : Int} {ga ra oa : Option Addr} {gn gc rn rc on oc : Nat} (h : Boxed w b ins ga gn gc ra rn rc oa on oc) (hb : Below B w w') (hB : b < B) : Boxed w' b ins ga gn gc ra rn rc oa on oc := by
  obtain ⟨h0, h1, h2, h3, h4⟩ := h
  refine ⟨Nat.lt_of_lt_of_le h0 hb.size, ?_, ?_, ?_, ?_⟩
  · rw [hb.cell (p := ⟨b, 0, none⟩) hB]; exact h1
  · rw [hb.cell (p := ⟨b, 1, none⟩) hB]; exact h2
  · rw [hb.cell (p := ⟨b, 2, none⟩) hB]; exact h3
  · rw [hb.cell (p := ⟨b, 3, none⟩) hB]; exact h4

theorem Round.set {gs : List GateD} {zs ys : List Bool} {k : Nat} (h : Round gs zs ys k) (n : Nat) (hn : n < ys.length) : Round gs zs (ys.set n true) k :=
  ⟨fun j hj => up_set ys n hn j (h.up j hj), fun j hj hk hz x hx => up_set ys n hn _ (h.done j hj hk hz x hx)⟩
theorem Round.start (gs : List GateD) (zs : List Bool) : Round gs zs zs 0 := ⟨fun _ h => h, fun j _ h => by omega⟩
theorem Round.next {gs : List GateD} {zs ys : List Bool} {k : Nat} (h : Round gs zs ys k) (hk : k < gs.length) (hd : zs.getD k false = true → ∀ x ∈ gs[k].args, ys.getD x.toNat false = true) : Round gs zs ys (k + 1) := by
  refine ⟨h.up, fun j hj hlt hz x hx => ?_⟩
  by_cases e : j = k
  · subst e; exact hd hz x hx
  · exact h.done j hj (by omega) hz x hx

theorem ret_sl {a : Option Addr} {n c : Nat} {x y : Int} (h : x = y) : Ending.returned (.tuple #[.slice a n c, .int .i64 x]) = .returned (.tuple #[.slice a n c, .int .i64 y]) := by rw [h]
def begins (d : NetD) : List Int := d.regs.map (fun r => if r.1 then 1 else 0)
/-- The row behind k of the registers. -/
def begRow (d : NetD) (k : Nat) : List Value := (List.range d.regs.length).map (fun i => Value.int .i64 (if i < k ∧ (d.regs.getD i (false, 0)).1 = true then 1 else 0))
theorem begRow_len (d : NetD) (k : Nat) : (begRow d k).length = d.regs.length := by simp [begRow]
theorem begRow_zero (d : NetD) : begRow d 0 = List.replicate d.regs.length (.int .i64 0) := by
  simp only [begRow]
  rw [List.eq_replicate_iff]
  exact ⟨by simp, fun v hv => by obtain ⟨i, _, rfl⟩ := List.mem_map.1 hv; simp⟩
theorem begRow_set (d : NetD) (k : Nat) (hk : k < d.regs.length) : (begRow d k).set k (.int .i64 (if d.regs[k].1 = true then 1 else 0)) = begRow d (k + 1) := by
  apply List.ext_getElem (by simp [begRow])
  intro i h1 h2
  have hi : i < d.regs.length := by simpa [begRow] using h2
  simp only [List.getElem_set, begRow, List.getElem_map, List.getElem_range]
  by_cases e : k = i
  · subst e
    rw [if_pos rfl]
    simp [List.getD_eq_getElem?_getD, hk]
  · rw [if_neg e]
    congr 2
    have : (i < k + 1) = (i < k) := by rw [eq_iff_iff]; omega
    rw [this]
theorem begRow_keep (d : NetD) (k : Nat) : (begRow d k).set k (.int .i64 0) = begRow d k := by
  apply List.ext_getElem (by simp)
  intro i h1 h2
  simp only [List.getElem_set]
  by_cases e : k = i
  · subst e; simp [begRow]
  · rw [if_neg e]
theorem begRow_full (d : NetD) : begRow d d.regs.length = (begins d).map (fun x => Value.int .i64 x) := by
  apply List.ext_getElem (by simp [begRow, begins])
  intro i h1 h2
  have hi : i < d.regs.length := by simpa [begRow] using h1
  simp [begRow, begins, hi, List.getD_eq_getElem?_getD]

theorem made_ints {w : World} {base g n : Nat} (h : w.ownsRow base 3 1 (.slice (some ⟨g, 0, none⟩) n n) n (madeCells #[Value.int .i64 0] n).toList) : w.ownsRow base 3 1 (.slice (some ⟨g, 0, none⟩) n n) n (List.replicate n (.int .i64 0)) := by
  rw [toList_madeCells_one] at h; exact h

/-- What Begin answers. -/
def begAns (d : NetD) : List Int := if checkE d = 0 then begins d else []

set_option maxHeartbeats 1000000 in
theorem Begin_any (d : NetD) (ins : Int) (ga ra oa : Option Addr) (gn gc rn rc on oc : Nat) (w : World) (h : NetAt w d ins ga gn ra rn oa on) :
    Calls Tryz.prog 67 #[.agg #[.int .i64 ins, .slice ga gn gc, .slice ra rn rc, .slice oa on oc]] w fun e w' => ∃ a n c, e = .returned (.tuple #[.slice a n c, .int .i64 (checkE d)]) ∧ Ints w' a n (begAns d) ∧ Below w.heap.size w w' := by
  have hb0 : Below w.heap.size w (w.alloc (.cells #[.int .i64 ins, .slice ga gn gc, .slice ra rn rc, .slice oa on oc] 70)) := (Below.refl _ _).alloc (Nat.le_refl _) _
  have hbox : Boxed (w.alloc (.cells #[.int .i64 ins, .slice ga gn gc, .slice ra rn rc, .slice oa on oc] 70)) w.heap.size ins ga gn gc ra rn rc oa on oc := Boxed.new _ _ _ _ _ _ _ _ _ _ _ _
  have hN := h.below hb0
  have HR : Hid (d.regs.length = rn) := h.regs.1.symm
  have hrs := h.regs
  by_cases e : checkE d = 0
  · have HE : Hid (checkE d = 0) := e
    have HQ : Hid (begAns d = begins d) := by simp [Hid, begAns, e]
    have hrn : rn ≤ 20 := by have := (counts_gates (check_ok e).1).2.2.1; have := HR.out; omega
    have hrl : rn ≤ d.regs.length := by have := HR.out; omega
    have hrl2 : d.regs.length ≤ rn := by have := HR.out; omega
    obtain ⟨i0, hi, hz0, hz1, hz2⟩ := info_parts Tryz.infoInt
    clear e h
    go_enter Tryz.func67, Tryz.ntmps67
    go_wp2_with fail
    refine (Check_any d _ _ _ _ _ _ _ _ _ _ _ hN).mono ?_
    rintro e w1 ⟨rfl, hb⟩
    rw [HE.out]
    have b1 := bstep hb0 hb
    have hbx := hbox.below hb
    clear hb hb0 hbox hN
    obtain ⟨x0, x1, x2, x3, x4⟩ := hbx
    go_wp2_with (at_make; refine wpList_make_full _ rfl _ _ 28 rfl w.heap.size 3 i0 (.int .i64 0) 1 Tryz.underlying28 hi hz0 hz1 .i64 .i64 (rn : Int) (rn : Int) rn rfl rfl rfl rfl ?c1 ?c2 ?c3 ?_)
    case c1 => rw [hz2]; omega
    case c2 => unfold maxLen; omega
    case c3 => exact b1.size
    intro w2 hown hgrow
    have hb2 : Below w1.heap.size w1 w2 := (Below.refl _ _).grown hgrow (Nat.le_refl _) (fun k hk => by simp at hk)
    have hown0 := made_ints hown
    rw [show List.replicate rn (Value.int .i64 0) = begRow d 0 from by rw [begRow_zero, HR.out]] at hown0
    have bb : Below w.heap.size w w2 := bstep b1 hb2
    have hsz := b1.size
    have y2 : w2.cell? ⟨w.heap.size, 2, none⟩ = some (.slice ra rn rc) := by rw [hb2.cell (p := ⟨w.heap.size, 2, none⟩) x0]; exact x3
    clear hown hgrow x1 x2 x3 x4 hi hz0 hz1 hz2 hb2
    go_wp2_with fail
    clear y2
    go_loopw [20] (fun i wr => ∃ k : Nat, k ≤ rn ∧ i = .int .i64 k ∧ wr.ownsRow w.heap.size 3 1 (.slice (some ⟨w1.heap.size, 0, none⟩) rn rn) rn (begRow d k) ∧ Below w.heap.size w wr) (fun i _ => rn - (intOf i).toNat)
    case atStart => exact ⟨0, Nat.zero_le _, rfl, hown0, bb⟩
    case round =>
      clear hown0 bb
      obtain ⟨k, hk, rfl, hown, hbel⟩ := hrel
      by_cases hlt : k < rn
      · have hltg : k < d.regs.length := by omega
        have hki : (k : Int) < (rn : Int) := by omega
        obtain ⟨b, off, rfl, hbb, c1, c2⟩ := (hrs.below hbel).at hltg
        have HB1 := begRow_keep d k
        have HB2 := begRow_set d k hltg
        have ho1 := (hown.stored k (.int .i64 0)).1
        rw [HB1] at ho1
        have hb1 : Below w.heap.size w (wr.setCell ⟨w1.heap.size, k, none⟩ (.int .i64 0)) := hbel.setCell (p := ⟨w1.heap.size, k, none⟩) hsz _
        have ho2 := (ho1.stored k (.int .i64 1)).1
        have hb2 : Below w.heap.size w ((wr.setCell ⟨w1.heap.size, k, none⟩ (.int .i64 0)).setCell ⟨w1.heap.size, k, none⟩ (.int .i64 1)) := hb1.setCell (p := ⟨w1.heap.size, k, none⟩) hsz _
        have f1 := hown.frozenAt k
        have q1 : wr.cell? ⟨w1.heap.size, k, none⟩ = some ((begRow d k)[k]'(by rw [begRow_len]; exact hltg)) := by
          rw [hown.cellAt k (by omega)]; exact List.getElem?_eq_getElem _
        have q2 : (wr.setCell ⟨w1.heap.size, k, none⟩ (.int .i64 0)).cell? ⟨w1.heap.size, k, none⟩ = some (.int .i64 0) := World.cell?_setCell_same' _ _ _ (by rw [q1]; rfl)
        have f2 := ho1.frozenAt k
        have hltw : w1.heap.size < wr.heap.size := (hown.lt w1.heap.size rfl).2
        cases e : d.regs[k].1
        · rw [e] at HB2
          simp only [Bool.false_eq_true, if_false] at HB2
          rw [HB1] at HB2
          rw [HB2] at ho1
          rw [e] at c1
          clear HB1 HB2 e ho2 hb2
          go_wp2_with fail
          exact ⟨⟨k + 1, by omega, by go_num, ho1.alloc _, hb1.alloc hb1.size _⟩, by simp [intOf]; omega⟩
        · rw [e] at HB2
          simp only [if_true] at HB2
          rw [HB2] at ho2
          rw [e] at c1
          clear HB1 HB2 e
          go_wp2_with fail
          exact ⟨⟨k + 1, by omega, by go_num, ho2.alloc _, hb2.alloc hb2.size _⟩, by simp [intOf]; omega⟩
      · have hkn : k = rn := by omega
        rw [show begRow d k = (begins d).map (fun x => Value.int .i64 x) from by rw [hkn, ← HR.out]; exact begRow_full d] at hown
        obtain ⟨a2, c2, hv, hI⟩ := own_ints hown (by unfold maxLen; omega)
        simp only [Value.slice.injEq] at hv
        obtain ⟨rfl, _, rfl⟩ := hv
        rw [← HQ.out] at hI
        clear hown hkn
        go_wp2_with fail
        go_ret2
        exact ⟨_, _, rn, ret_sl HE.out.symm, hI, hbel⟩
  · have HQ : Hid (begAns d = []) := by simp [Hid, begAns, e]
    have hne : (checkE d != 0) = true := by simp [e]
    clear e h
    go_enter Tryz.func67, Tryz.ntmps67
    go_wp2_with fail
    refine (Check_any d _ _ _ _ _ _ _ _ _ _ _ hN).mono ?_
    rintro e w1 ⟨rfl, hb⟩
    go_wp2_with fail
    go_ret2
    exact ⟨none, 0, 0, rfl, by rw [HQ.out]; exact Ints.none _, bstep hb0 hb⟩

/-- The blocks of a knot. -/
structure KnotAt (w : World) (b : Nat) (G R : Array Value) : Prop where
  a1 : w.heap[b + 1]? = some (.cells #[.int .i64 1] 3 (0, 0))
  a2 : w.heap[b + 2]? = some (.cells #[.int .i64 0] 3 (0, 0))
  a3 : w.heap[b + 3]? = some (.cells #[.int .i64 0, .int .i64 2] 3 (0, 0))
  a4 : w.heap[b + 4]? = some (.cells #[.int .i64 3, .int .i64 1] 3 (0, 0))
  a5 : w.heap[b + 5]? = some (.cells #[.int .i64 4, .int .i64 5] 3 (0, 0))
  a6 : w.heap[b + 6]? = some (.cells #[.int .i64 6, .int .i64 8] 3 (0, 0))
  a7 : w.heap[b + 7]? = some (.cells #[.int .i64 7, .int .i64 9] 3 (0, 0))
  g : w.heap[b + 8]? = some (.cells G 126 (0, 0))
  r : w.heap[b + 9]? = some (.cells R 133 (0, 0))
  o : w.heap[b + 10]? = some (.cells #[.int .i64 7, .int .i64 1] 3 (0, 0))

theorem KnotAt.lt {w : World} {b : Nat} {G R : Array Value} (h : KnotAt w b G R) : b + 10 < w.heap.size := (Array.getElem?_eq_some_iff.1 h.o).1
theorem KnotAt.below {w w' : World} {b : Nat} {G R : Array Value} (h : KnotAt w b G R) (hb : Below w.heap.size w w') : KnotAt w' b G R := by
  have hl := h.lt
  exact ⟨by rw [hb.block _ (by omega)]; exact h.a1, by rw [hb.block _ (by omega)]; exact h.a2, by rw [hb.block _ (by omega)]; exact h.a3, by rw [hb.block _ (by omega)]; exact h.a4, by rw [hb.block _ (by omega)]; exact h.a5, by rw [hb.block _ (by omega)]; exact h.a6, by rw [hb.block _ (by omega)]; exact h.a7, by rw [hb.block _ (by omega)]; exact h.g, by rw [hb.block _ (by omega)]; exact h.r, by rw [hb.block _ (by omega)]; exact h.o⟩

end Go.Proofs.YtongajonecgdpagGreatDoor
