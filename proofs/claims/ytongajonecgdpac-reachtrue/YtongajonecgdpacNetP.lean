/- net.Needs and the document's answer beside it. -/
import Derived.Test.YtongajonecgdpacNetO
namespace Go.Proofs.Ytongajonecgdpac
open Go.RowKit

theorem Try.infoBool : (Try.prog.info? 4).map (fun i => (i.zero, i.size, i.bytes)) = some (some (.bool false), 1, 1) := by kernel_rfl

theorem made_row {w : World} {base g n : Nat} (h : w.ownsRow base 4 1 (.slice (some ⟨g, 0, none⟩) n n) n (madeCells #[Value.bool false] n).toList) : BoolRow w g (List.replicate n false) := by
  rcases h.2 with ⟨h1, _⟩ | ⟨g', cap, cur, hv, _, hh, _, _, hs, ht⟩
  · simp at h1
  · simp only [Value.slice.injEq, Option.some.injEq, Addr.mk.injEq, and_true, true_and] at hv
    obtain ⟨rfl, rfl⟩ := hv
    have e1 : (madeCells #[Value.bool false] n).toList = List.replicate n (Value.bool false) := toList_madeCells_one (Value.bool false) n
    rw [e1, List.take_of_length_le (by simp [hs])] at ht
    unfold BoolRow
    rw [hh]
    congr 2
    apply Array.ext'
    rw [ht]; simp [bs]

theorem Boxed.below' {B : Nat} {w w' : World} {b : Nat} {ins : Int} {ga ra oa : Option Addr} {gn gc rn rc on oc : Nat} (h : Boxed w b ins ga gn gc ra rn rc oa on oc) (hb : Below B w w') (hB : b < B) : Boxed w' b ins ga gn gc ra rn rc oa on oc := by
  obtain ⟨h0, h1, h2, h3, h4⟩ := h
  refine ⟨Nat.lt_of_lt_of_le h0 hb.size, ?_, ?_, ?_, ?_⟩
  · rw [hb.cell (p := ⟨b, 0, none⟩) hB]; exact h1
  · rw [hb.cell (p := ⟨b, 1, none⟩) hB]; exact h2
  · rw [hb.cell (p := ⟨b, 2, none⟩) hB]; exact h3
  · rw [hb.cell (p := ⟨b, 3, none⟩) hB]; exact h4

theorem Round.set {gs : List GateD} {zs ys : List Bool} {k : Nat} (h : Round gs zs ys k) (n : Nat) (hn : n < ys.length) : Round gs zs (ys.set n true) k :=
  ⟨fun j hj => up_set ys n hn j (h.up j hj), fun j hj hk hz x hx => up_set ys n hn _ (h.done j hj hk hz x hx)⟩
theorem Round.start (gs : List GateD) (zs : List Bool) : Round gs zs zs 0 := ⟨fun _ h => h, fun j _ h => by omega⟩
theorem Round.next {gs : List GateD} {zs ys : List Bool} {k : Nat} (h : Round gs zs ys k) (hk : k < gs.length) (hd : zs.getD k false = true → ∀ x ∈ gs[k].args, ys.getD x.toNat false = true) : Round gs zs ys (k + 1) := by
  refine ⟨h.up, fun j hj hlt hz x hx => ?_⟩
  by_cases e : j = k
  · subst e; exact hd hz x hx
  · exact h.done j hj (by omega) hz x hx

theorem needE_check {d : NetD} {l : List Int} (h : needE d l = 0) : checkE d = 0 ∧ inB d l = true := by
  unfold needE at h
  by_cases e : checkE d = 0
  · rw [if_pos e] at h
    cases h2 : inB d l
    · rw [h2] at h; simp at h
    · exact ⟨e, rfl⟩
  · rw [if_neg e] at h; exact absurd h e

theorem ret_sl {a : Option Addr} {n c : Nat} {x y : Int} (h : x = y) : Ending.returned (.tuple #[.slice a n c, .int .i64 x]) = .returned (.tuple #[.slice a n c, .int .i64 y]) := by rw [h]
def NeedsAns (d : NetD) (l : List Int) (ys : List Bool) : Prop := (needE d l = 0 → Marks d.gates l ys) ∧ (needE d l ≠ 0 → ys = [])

set_option maxHeartbeats 1000000 in
theorem Needs_any (d : NetD) (ins : Int) (ga ra oa : Option Addr) (gn gc rn rc on oc : Nat) (w : World) (h : NetAt w d ins ga gn ra rn oa on) (l : List Int) (la : Option Addr) (ln lc : Nat) (hl : Ints w la ln l) :
    Calls Try.prog 45 #[.agg #[.int .i64 ins, .slice ga gn gc, .slice ra rn rc, .slice oa on oc], .slice la ln lc] w fun e w' => ∃ a n c ys, e = .returned (.tuple #[.slice a n c, .int .i64 (needE d l)]) ∧ Bools w' a n ys ∧ NeedsAns d l ys ∧ Below w.heap.size w w' := by
  have hb0 : Below w.heap.size w (w.alloc (.cells #[.int .i64 ins, .slice ga gn gc, .slice ra rn rc, .slice oa on oc] 26)) := (Below.refl _ _).alloc (Nat.le_refl _) _
  have hbox : Boxed (w.alloc (.cells #[.int .i64 ins, .slice ga gn gc, .slice ra rn rc, .slice oa on oc] 26)) w.heap.size ins ga gn gc ra rn rc oa on oc := Boxed.new _ _ _ _ _ _ _ _ _ _ _ _
  have hN := h.below hb0
  have HG : Hid (d.gates.length = gn) := h.gates.1.symm
  have hgs := h.gates
  have hlm : ln ≤ maxLen := by have h1 := hl.1; have h2 := hl.2.1; omega
  unfold maxLen at hlm
  have hll : ln ≤ l.length := by have := hl.1; omega
  have hll2 : l.length ≤ ln := by have := hl.1; omega
  by_cases e : checkE d = 0
  · have HE : Hid (checkE d = 0) := e
    have HQ : Hid (needE d l = if inB d l then 0 else 3) := by simp [Hid, needE, e]
    have hgn : gn ≤ 200 := by have := (counts_gates (check_ok e).1).2.1; have := HG.out; omega
    have HAR := hide (fun j hj => args_in (check_ok e).2.1 j hj)
    obtain ⟨i0, hi, hz0, hz1, hz2⟩ := info_parts Try.infoBool
    clear e h
    go_enter Try.func45, Try.ntmps45
    go_wp2_with fail
    refine (Check_any d _ _ _ _ _ _ _ _ _ _ _ hN).mono ?_
    rintro e w1 ⟨rfl, hb⟩
    rw [HE.out]
    have b1 := bstep hb0 hb
    have hbx := hbox.below hb
    clear hb hb0 hbox hN
    go_wp2_with fail
    go_loopw [17] (fun i wr => ∃ k : Nat, k ≤ ln ∧ i = .int .i64 k ∧ inTo d l k = true ∧ Below w1.heap.size w1 wr) (fun i _ => ln - (intOf i).toNat)
    case atStart => exact ⟨0, Nat.zero_le _, rfl, rfl, Below.refl _ _⟩
    case round =>
      obtain ⟨k, hk, rfl, hno, hbel⟩ := hrel
      by_cases hlt : k < ln
      · have hltl : k < l.length := by omega
        obtain ⟨b, off, rfl, hbb, c1⟩ := ((hl.below b1).below hbel).at hltl
        obtain ⟨x0, x1, x2, x3, x4⟩ := hbx.below hbel
        cases e : isB l[k] gn
        · have HT : Hid (needE d l = 3) := by
            have : inB d l = false := all_take_no _ l k hltl (by rw [HG.out]; exact e)
            rw [HQ.out, this]; rfl
          have HW : Hid (isB l[k] gn = false) := e
          clear e hno
          go_wp2_with fail
          refine (isGate_any _ _ _ _ _ _ _ _ _ _ _ _).mono ?_
          rintro e w2 ⟨rfl, hb4⟩
          rw [HW.out]
          go_wp2_with fail
          go_ret2
          exact ⟨none, 0, 0, [], ret_sl HT.out.symm, Bools.nothing _, ⟨fun h => by rw [HT.out] at h; simp at h, fun _ => rfl⟩, bstep b1 (bstep hbel hb4)⟩
        · have HT : Hid (inTo d l (k + 1) = true) := by
            have := all_take_succ (fun x : Int => isB x d.gates.length) l k hltl
            unfold inTo at hno
            rw [hno, HG.out, e] at this
            rw [Hid, inTo, HG.out]; exact this
          have HW : Hid (isB l[k] gn = true) := e
          clear e hno
          go_wp2_with fail
          refine (isGate_any _ _ _ _ _ _ _ _ _ _ _ _).mono ?_
          rintro e w2 ⟨rfl, hb4⟩
          rw [HW.out]
          go_wp2_with fail
          exact ⟨⟨k + 1, by omega, by go_num, HT.out, bstep hbel hb4⟩, by simp [intOf]; omega⟩
      · have HIN : Hid (inB d l = true) := by unfold Hid inB; rw [← hno]; exact congrArg (inTo d l) (by omega)
        have HT : Hid (needE d l = 0) := by rw [HQ.out, HIN.out]; rfl
        clear hno
        obtain ⟨x0, x1, x2, x3, x4⟩ := hbx.below hbel
        have hwr : w.heap.size ≤ wr.heap.size := Nat.le_trans b1.size hbel.size
        go_wp2_with (at_make; refine wpList_make_full _ rfl _ _ 79 rfl w.heap.size 4 i0 (.bool false) 1 Try.underlying79 hi hz0 hz1 .i64 .i64 (gn : Int) (gn : Int) gn rfl rfl rfl rfl ?c1 ?c2 ?c3 ?_)
        case c1 => rw [hz2]; omega
        case c2 => unfold maxLen; omega
        case c3 => exact hwr
        intro w2 hown hgrow
        have hb2 : Below wr.heap.size wr w2 := (Below.refl _ _).grown hgrow (Nat.le_refl _) (fun k hk => by simp at hk)
        have hrow := made_row hown
        have bb : Below w.heap.size w w2 := bstep b1 (bstep hbel hb2)
        clear hown hgrow x1 x2 x3 x4
        obtain ⟨x0, x1, x2, x3, x4⟩ := (hbx.below hbel).below hb2
        go_wp2_with fail
        refine (need_any d.gates _ _ _ wr.heap.size w hgs hwr (unhide HAR) (falses (List.replicate gn false) + 1) (List.replicate gn false) l _ _ _ _ (by omega) (by rw [List.length_replicate]; exact HG.out.symm) hrow bb hl (in_in HIN.out)).mono ?_
        rintro e w3 ⟨rfl, zs, hwent, hr3, hb3⟩
        have hzl : zs.length = gn := by rw [hwent.len]; simp
        go_wp2_with fail
        go_ret2
        refine ⟨some ⟨wr.heap.size, 0, none⟩, gn, gn, zs, ret_sl HT.out.symm, ?_, ⟨fun _ => ?_, fun h => absurd HT.out h⟩, hb3⟩
        · have := hr3.bools (by rw [hzl]; unfold maxLen; omega)
          rw [hzl] at this; exact this
        · have hG := HG.out
          rw [← hG] at hwent
          exact hwent.marks
  · have HQ : Hid (needE d l = checkE d) := by simp [Hid, needE, e]
    have hne : (checkE d != 0) = true := by simp [e]
    have HNE : Hid (checkE d ≠ 0) := e
    clear e h
    go_enter Try.func45, Try.ntmps45
    go_wp2_with fail
    refine (Check_any d _ _ _ _ _ _ _ _ _ _ _ hN).mono ?_
    rintro e w1 ⟨rfl, hb⟩
    go_wp2_with fail
    go_ret2
    exact ⟨none, 0, 0, [], ret_sl HQ.out.symm, Bools.nothing _, ⟨fun h => by rw [HQ.out] at h; exact absurd h HNE.out, fun _ => rfl⟩, bstep hb0 hb⟩

/-- The marks so far, where what is asked for is marked first. -/
theorem start_fair (gs : List GateD) (l : List Int) (k : Nat) (ys : List Bool) (n : Nat) (hk : k < l.length) (hn : l[k] = (n : Int)) (hlt : n < gs.length) (hy : ys.length = gs.length) (h1 : ∀ x ∈ l.take k, ys.getD x.toNat false = true) (h2 : ∀ j, ys.getD j false = true → Need gs l j) :
    (ys.set n true).length = gs.length ∧ (∀ x ∈ l.take (k + 1), (ys.set n true).getD x.toNat false = true) ∧ (∀ j, (ys.set n true).getD j false = true → Need gs l j) := by
  have hz : n < ys.length := by omega
  refine ⟨by rw [List.length_set]; exact hy, fun x hx => ?_, fun j hj => ?_⟩
  · rw [take_snoc l k hk, hn] at hx
    rcases List.mem_append.1 hx with hx | hx
    · exact up_set _ _ hz _ (h1 x hx)
    · simp at hx; rw [hx, getD_set ys n _ hz, if_pos (by simp)]
  · rw [getD_set ys n _ hz] at hj
    by_cases e : j = n
    · rw [e]
      have := Need.mem (gs := gs) (l := l) (List.getElem_mem hk)
      rw [hn] at this; simpa using this
    · rw [if_neg e] at hj; exact h2 j hj

set_option maxRecDepth 100000 in
set_option maxHeartbeats 2000000 in
theorem NeedsOf_any (d : NetD) (ins : Int) (ga ra oa : Option Addr) (gn gc rn rc on oc : Nat) (w : World) (h : NetAt w d ins ga gn ra rn oa on) (l : List Int) (la : Option Addr) (ln lc : Nat) (hl : Ints w la ln l) (he : needE d l = 0) :
    Calls Try.prog 72 #[.agg #[.int .i64 ins, .slice ga gn gc, .slice ra rn rc, .slice oa on oc], .slice la ln lc] w fun e w' => ∃ a n c ys, e = .returned (.slice a n c) ∧ Bools w' a n ys ∧ Marks d.gates l ys ∧ Below w.heap.size w w' := by
  have hb0 : Below w.heap.size w (w.alloc (.cells #[.int .i64 ins, .slice ga gn gc, .slice ra rn rc, .slice oa on oc] 26)) := (Below.refl _ _).alloc (Nat.le_refl _) _
  have hbox : Boxed (w.alloc (.cells #[.int .i64 ins, .slice ga gn gc, .slice ra rn rc, .slice oa on oc] 26)) w.heap.size ins ga gn gc ra rn rc oa on oc := Boxed.new _ _ _ _ _ _ _ _ _ _ _ _
  obtain ⟨hc, hib⟩ := needE_check he
  have HG : Hid (d.gates.length = gn) := h.gates.1.symm
  have hgs := h.gates
  have hlm : ln ≤ maxLen := by have h1 := hl.1; have h2 := hl.2.1; omega
  unfold maxLen at hlm
  have hll : ln ≤ l.length := by have := hl.1; omega
  have hll2 : l.length ≤ ln := by have := hl.1; omega
  have hgn : gn ≤ 200 := by have := (counts_gates (check_ok hc).1).2.1; have := HG.out; omega
  have hgl : gn ≤ d.gates.length := by have := HG.out; omega
  have hgl2 : d.gates.length ≤ gn := by have := HG.out; omega
  have HAR := hide (fun j hj => args_in (check_ok hc).2.1 j hj)
  have HIN := hide (in_in hib)
  obtain ⟨i0, hi, hz0, hz1, hz2⟩ := info_parts Try.infoBool
  clear h he hc hib
  go_enter Try.func72, Try.ntmps72
  go_wp2_with (at_make; refine wpList_make_full _ rfl _ _ 79 rfl w.heap.size 4 i0 (.bool false) 1 Try.underlying79 hi hz0 hz1 .i64 .i64 (gn : Int) (gn : Int) gn rfl rfl rfl rfl ?c1 ?c2 ?c3 ?_)
  case c1 => rw [hz2]; omega
  case c2 => unfold maxLen; omega
  case c3 => simp
  intro w2 hown hgrow
  have hb2 : Below (w.alloc (.cells #[.int .i64 ins, .slice ga gn gc, .slice ra rn rc, .slice oa on oc] 26)).heap.size (w.alloc (.cells #[.int .i64 ins, .slice ga gn gc, .slice ra rn rc, .slice oa on oc] 26)) w2 := (Below.refl _ _).grown hgrow (Nat.le_refl _) (fun k hk => by simp at hk)
  have hrow0 := made_row hown
  have bb : Below w.heap.size w w2 := bstep hb0 hb2
  have hbx := hbox.below hb2
  have hlb : w.heap.size + 1 < w2.heap.size := hrow0.lt
  clear hown hgrow hb0 hb2 hbox hi hz0 hz1 hz2
  go_wp2_with fail
  go_loopw [6] (fun i wr => ∃ k : Nat, k ≤ ln ∧ i = .int .i64 k ∧ ∃ ys, (ys.length = d.gates.length ∧ (∀ x ∈ l.take k, ys.getD x.toNat false = true) ∧ (∀ j, ys.getD j false = true → Need d.gates l j)) ∧ BoolRow wr (w.heap.size + 1) ys ∧ Below w.heap.size w wr ∧ Boxed wr w.heap.size ins ga gn gc ra rn rc oa on oc) (fun i _ => ln - (intOf i).toNat)
  case atStart => exact ⟨0, Nat.zero_le _, rfl, _, ⟨by simp [HG.out], fun x hx => by simp at hx, fun j hj => by rw [getD_none] at hj; simp at hj⟩, hrow0, bb, hbx⟩
  case round =>
    clear hrow0 bb hbx
    obtain ⟨k, hk, rfl, ys, ⟨hf1, hf2, hf3⟩, hrow, hbel, hbx⟩ := hrel
    by_cases hlt : k < ln
    · have hltl : k < l.length := by omega
      obtain ⟨b, off, rfl, hbb, c0⟩ := hl.at hltl
      have hx := unhide HIN l[k] (List.getElem_mem hltl)
      obtain ⟨n, hn⟩ := Int.eq_ofNat_of_zero_le hx.1
      have hnl : n < d.gates.length := by have := hx.2; rw [hn] at this; simpa using this
      have c1 : wr.cell? ⟨b, off + k, none⟩ = some (.int .i64 (n : Int)) := by rw [hbel.cell (p := ⟨b, off + k, none⟩) hbb, c0, hn]
      have R := start_fair d.gates l k ys n hltl hn hnl hf1 hf2 hf3
      have c2 := hrow.cell n (by omega)
      have c3 := hrow.frozen n
      have hngn : (n : Int) < (gn : Int) := by omega
      have hrow2 := hrow.set n true
      have hbel2 : Below w.heap.size w (wr.setCell ⟨w.heap.size + 1, n, none⟩ (.bool true)) := hbel.setCell (by simp) _
      have hbx2 := hbx.below' (B := w.heap.size + 1) ((Below.refl _ wr).setCell (p := ⟨w.heap.size + 1, n, none⟩) (Nat.le_refl _) (.bool true)) (Nat.lt_succ_self _)
      have HR := hide R
      clear hx hn c0 hf1 hf2 hf3 R
      go_wp2_with fail
      exact ⟨⟨k + 1, by omega, by go_num, _, unhide HR, hrow2, hbel2, hbx2⟩, by simp [intOf]; omega⟩
    rw [List.take_of_length_le (by omega)] at hf2
    have hfair : Fair d.gates l ys := ⟨hf1, hf2, hf3⟩
    have hcame : Came d.gates ys 0 := Came.start hfair (fun x hx => (unhide HIN x hx).2)
    have HF := hide hfair
    have HC := hide hcame
    clear hf1 hf2 hf3 hfair hcame
    have hrow1 := hrow
    have hbel1 := hbel
    have hbx1 := hbx
    obtain ⟨x0, x1, x2, x3, x4⟩ := hbx
    go_wp2_with fail
    clear x1 x2 x3 x4 hrow hbel
    go_loopw [7] (fun i wr => ∃ r : Nat, r ≤ gn ∧ i = .int .i64 r ∧ ∃ ys, (Fair d.gates l ys ∧ Came d.gates ys r) ∧ BoolRow wr (w.heap.size + 1) ys ∧ Below w.heap.size w wr ∧ Boxed wr w.heap.size ins ga gn gc ra rn rc oa on oc) (fun i _ => gn - (intOf i).toNat)
    case atStart => exact ⟨0, Nat.zero_le _, rfl, _, ⟨unhide HF, unhide HC⟩, hrow1, hbel1, hbx1⟩
    case round =>
      clear hrow1 hbel1 hbx1 HF HC
      obtain ⟨r, hr, rfl, zs, ⟨hfz, hcz⟩, hrow, hbel, hbx⟩ := hrel
      have HFZ := hide hfz
      have HCZ := hide hcz
      clear hfz hcz
      by_cases hlt : r < gn
      · have hrow1 := hrow
        have hbel1 := hbel
        have hbx1 := hbx
        obtain ⟨x0, x1, x2, x3, x4⟩ := hbx
        go_wp2_with fail
        clear x1 x2 x3 x4 hrow hbel
        go_loopw [8] (fun i wr => ∃ k : Nat, k ≤ gn ∧ i = .int .i64 k ∧ ∃ ys, (Fair d.gates l ys ∧ Round d.gates zs ys k) ∧ BoolRow wr (w.heap.size + 1) ys ∧ Below w.heap.size w wr ∧ Boxed wr w.heap.size ins ga gn gc ra rn rc oa on oc) (fun i _ => gn - (intOf i).toNat)
        case atStart => exact ⟨0, Nat.zero_le _, rfl, _, ⟨unhide HFZ, Round.start _ _⟩, hrow1, hbel1, hbx1⟩
        case round =>
          clear hrow1 hbel1 hbx1
          obtain ⟨k, hk, rfl, ys, ⟨hfy, hry⟩, hrow, hbel, hbx⟩ := hrel
          by_cases hltk : k < gn
          · have hltg : k < d.gates.length := by omega
            have hkg : (k : Int) < (gn : Int) := by omega
            have HRY := hide hry
            have HFY := hide hfy
            clear hry hfy
            have hrow1 := hrow
            have hbel1 := hbel
            have hbx1 := hbx
            obtain ⟨x0, x1, x2, x3, x4⟩ := hbx
            go_wp2_with fail
            clear x1 x2 x3 x4 hrow hbel
            go_loopw [9] (fun i wr => ∃ j : Nat, j ≤ d.gates[k].args.length ∧ i = .int .i64 j ∧ ∃ us, (Fair d.gates l us ∧ Round d.gates zs us k ∧ ∀ x ∈ d.gates[k].args.take j, us.getD x.toNat false = true) ∧ BoolRow wr (w.heap.size + 1) us ∧ Below w.heap.size w wr ∧ Boxed wr w.heap.size ins ga gn gc ra rn rc oa on oc) (fun i _ => d.gates[k].args.length - (intOf i).toNat)
            case atStart => exact ⟨0, Nat.zero_le _, rfl, _, ⟨unhide HFY, unhide HRY, fun x hx => by simp at hx⟩, hrow1, hbel1, hbx1⟩
            case round =>
              clear hrow1 hbel1 hbx1 HFY HRY
              obtain ⟨j, hj, rfl, us, ⟨hfu, hru, hau⟩, hrow, hbel, hbx⟩ := hrel
              obtain ⟨b, off, aa, ac, rfl, hbb, d1, d2, d3, hI⟩ := hgs.at hltg
              have hal : d.gates[k].args.length ≤ maxLen := hI.2.1
              unfold maxLen at hal
              have c4 : wr.cell? ⟨b, off + k * 3 + 2, none⟩ = some (.slice aa d.gates[k].args.length ac) := by rw [hbel.cell (p := ⟨b, off + k * 3 + 2, none⟩) hbb]; exact d3
              have hul : us.length = d.gates.length := hfu.len
              have c5 := hrow.cell k (by omega)
              have hbx0 := hbx
              obtain ⟨x0, x1, x2, x3, x4⟩ := hbx
              clear d1 d2 d3
              by_cases hlt2 : j < d.gates[k].args.length
              · cases e : us.getD k false
                · have HZ := hide (⟨hfu, hru.next hltg (fun hz => by have := hru.up k hz; rw [e] at this; simp at this)⟩ : Fair d.gates l us ∧ Round d.gates zs us (k + 1))
                  rw [e] at c5
                  clear e hfu hru hau hul
                  go_wp2_with fail
                  exact ⟨⟨k + 1, by omega, by go_num, us, unhide HZ, hrow, hbel, hbx0⟩, by simp [intOf]; omega⟩
                · obtain ⟨b2, off2, rfl, hbb2, c0⟩ := hI.at hlt2
                  have hx := unhide HAR k hltg d.gates[k].args[j] (List.getElem_mem hlt2)
                  obtain ⟨n, hn⟩ := Int.eq_ofNat_of_zero_le hx.1
                  have hnl : n < d.gates.length := by have := hx.2; rw [hn] at this; simpa using this
                  have c1 : wr.cell? ⟨b2, off2 + j, none⟩ = some (.int .i64 (n : Int)) := by rw [hbel.cell (p := ⟨b2, off2 + j, none⟩) hbb2, c0, hn]
                  have hneed : Need d.gates l n := by
                    have := Need.arg hltg (hfu.fair k e) (List.getElem_mem hlt2)
                    rw [hn] at this; simpa using this
                  have R : Fair d.gates l (us.set n true) ∧ Round d.gates zs (us.set n true) k ∧ ∀ x ∈ d.gates[k].args.take (j + 1), (us.set n true).getD x.toNat false = true := by
                    refine ⟨hfu.set n hnl hneed, hru.set n (by omega), fun x hx => ?_⟩
                    rw [take_snoc _ j hlt2, hn] at hx
                    rcases List.mem_append.1 hx with hx | hx
                    · exact up_set _ _ (by omega) _ (hau x hx)
                    · simp at hx; rw [hx, getD_set us n _ (by omega), if_pos (by simp)]
                  have HR := hide R
                  have c2 := hrow.cell n (by omega)
                  have c3 := hrow.frozen n
                  have hngn : (n : Int) < (gn : Int) := by omega
                  have hrow2 := hrow.set n true
                  have hbel2 : Below w.heap.size w (wr.setCell ⟨w.heap.size + 1, n, none⟩ (.bool true)) := hbel.setCell (by simp) _
                  have hbx2 := hbx0.below' (B := w.heap.size + 1) ((Below.refl _ wr).setCell (p := ⟨w.heap.size + 1, n, none⟩) (Nat.le_refl _) (.bool true)) (Nat.lt_succ_self _)
                  rw [e] at c5
                  clear hx hn c0 R hneed e hfu hru hau hul
                  go_wp2_with fail
                  exact ⟨⟨j + 1, by omega, by go_num, _, unhide HR, hrow2, hbel2, hbx2⟩, by simp [intOf]; omega⟩
              · have HZ := hide (⟨hfu, hru.next hltg (fun _ => by rw [List.take_of_length_le (by omega)] at hau; exact hau)⟩ : Fair d.gates l us ∧ Round d.gates zs us (k + 1))
                clear hfu hru hau hul
                go_wp2_with fail
                exact ⟨⟨k + 1, by omega, by go_num, us, unhide HZ, hrow, hbel, hbx0⟩, by simp [intOf]; omega⟩
          · have hke : k = d.gates.length := by omega
            have HZ := hide (⟨hfy, Came.step (unhide HFZ) hfy (by rw [← hke]; exact hry) (unhide HCZ)⟩ : Fair d.gates l ys ∧ Came d.gates ys (r + 1))
            clear hfy hry hke
            have hbx0 := hbx
            obtain ⟨x0, x1, x2, x3, x4⟩ := hbx
            go_wp2_with fail
            exact ⟨⟨r + 1, by omega, by go_num, ys, unhide HZ, hrow, hbel, hbx0⟩, by simp [intOf]; omega⟩
      · have hre : r = d.gates.length := by omega
        have HMK := hide ((unhide HFZ).marks (by have := unhide HCZ; rw [hre] at this; exact this.shut))
        have hzl : zs.length = gn := by rw [(unhide HFZ).len]; exact HG.out
        have HB : Hid (Bools wr (some ⟨w.heap.size + 1, 0, none⟩) gn zs) := by
          have := hrow.bools (by rw [hzl]; unfold maxLen; omega)
          rw [hzl] at this; exact this
        clear hre hzl
        obtain ⟨x0, x1, x2, x3, x4⟩ := hbx
        go_wp2_with fail
        go_ret
        exact ⟨_, _, gn, zs, rfl, HB.out, unhide HMK, hbel⟩
end Go.Proofs.Ytongajonecgdpac
