/- The document's order, OrderOf and LevelStep. -/
import Derived.Test.YtongajonecgdpaeLevelM
import Derived.Test.YtongajonecgdpaeNetP
import Derived.Test.YtongajonecgdpaeTickD
namespace Go.Proofs.Ytongajonecgdpae
open Go.RowKit

def optI : Option Nat → Int
  | none => -1
  | some k => (k : Int)
theorem BoolRow.below {B : Nat} {w w' : World} {g : Nat} {ys : List Bool} (h : BoolRow w g ys) (hb : Below B w w') (hg : g < B) : BoolRow w' g ys := by
  unfold BoolRow; rw [hb.block g hg]; exact h
theorem ret_ord {a : Option Addr} {n c : Nat} {p q : Bool} (h : p = q) : Ending.returned (.tuple #[.slice a n c, .bool p]) = .returned (.tuple #[.slice a n c, .bool q]) := by rw [h]
/-- The args so far stand there. -/
def argsDone (o : List Nat) (xs : List Int) (j : Nat) : Bool := (xs.take j).all (fun x => decide (x.toNat ∈ o))
theorem argsDone_succ (o : List Nat) (xs : List Int) (j : Nat) (h : j < xs.length) : argsDone o xs (j + 1) = (argsDone o xs j && decide (xs[j].toNat ∈ o)) := all_take_succ _ xs j h
theorem rdy_is {d : NetD} {o : List Nat} {k : Nat} (hk : k < d.gates.length) : rdy d o k = (decide (k ∉ o) && argsDone o d.gates[k].args d.gates[k].args.length) := by
  unfold rdy argsDone
  rw [List.take_length]
  have : d.gates.getD k ⟨0, 0, []⟩ = d.gates[k] := by simp [List.getD_eq_getElem?_getD, hk]
  rw [this]

def ordL (d : NetD) : List Int := if hasOrd d then (ordTo d d.gates.length).map (fun (k : Nat) => (k : Int)) else []
/-- What order answers. -/
def OrdAns (d : NetD) (w w' : World) (e : Ending) : Prop := ∃ a n c, e = .returned (.tuple #[.slice a n c, .bool (hasOrd d)]) ∧ Ints w' a n (ordL d) ∧ Below w.heap.size w w'

set_option maxRecDepth 100000 in
set_option maxHeartbeats 4000000 in
theorem order_any (d : NetD) (ins0 : Int) (ga ra oa : Option Addr) (gn gc rn rc on oc : Nat) (w : World) (h : NetAt w d ins0 ga gn ra rn oa on) (hck : checkE d = 0) :
    Calls Try.prog 66 #[.agg #[.int .i64 ins0, .slice ga gn gc, .slice ra rn rc, .slice oa on oc]] w fun e w' => OrdAns d w w' e := by
  have hb0 : Below w.heap.size w (w.alloc (.cells #[.int .i64 ins0, .slice ga gn gc, .slice ra rn rc, .slice oa on oc] 26)) := (Below.refl _ _).alloc (Nat.le_refl _) _
  have hbox : Boxed (w.alloc (.cells #[.int .i64 ins0, .slice ga gn gc, .slice ra rn rc, .slice oa on oc] 26)) w.heap.size ins0 ga gn gc ra rn rc oa on oc := Boxed.new _ _ _ _ _ _ _ _ _ _ _ _
  have HG : Hid (d.gates.length = gn) := h.gates.1.symm
  have hgn : gn ≤ 200 := by have := (counts_gates (check_ok hck).1).2.1; have := HG.out; omega
  have HRT : Hid (∀ k (hk : k < d.gates.length), Right d.gates[k] d.regs.length d.ins.toNat d.gates.length) := fun k hk => right_of hck k hk
  clear hck
  obtain ⟨i0, hi, hz0, hz1, hz2⟩ := info_parts Try.infoBool
  obtain ⟨j0, hj, hy0, hy1, hy2⟩ := info_parts Try.infoInt
  go_enter Try.func66, Try.ntmps66
  go_wp2_with (at_make; refine wpList_make_full _ rfl _ _ 47 rfl w.heap.size 4 i0 (.bool false) 1 Try.underlying47 hi hz0 hz1 .i64 .i64 (gn : Int) (gn : Int) gn rfl rfl rfl rfl ?c1 ?c2 ?c3 ?_)
  case c1 => rw [hz2]; omega
  case c2 => unfold maxLen; omega
  case c3 => simp
  intro w2 hown hgrow
  have hb2 : Below (w.alloc (.cells #[.int .i64 ins0, .slice ga gn gc, .slice ra rn rc, .slice oa on oc] 26)).heap.size (w.alloc (.cells #[.int .i64 ins0, .slice ga gn gc, .slice ra rn rc, .slice oa on oc] 26)) w2 := (Below.refl _ _).grown hgrow (Nat.le_refl _) (fun k hk => by simp at hk)
  have hrow0 := made_row hown
  have bb : Below w.heap.size w w2 := bstep hb0 hb2
  have hbx := hbox.below hb2
  clear hown hgrow hb0 hb2 hbox hi hz0 hz1 hz2
  go_wp2_with fail
  go_loopg [4] gn (fun fu v wr => ∃ (m : Nat) (pa : Option Addr) (pc : Nat), v = .slice pa m pc ∧ (gn - m ≤ fu ∧ m ≤ gn ∧ (ordTo d m).length = m) ∧ wr.ownsRow (w.heap.size + 2) 3 1 (.slice pa m pc) m (((ordTo d m).map (fun (k : Nat) => (k : Int))).map (fun x => Value.int .i64 x)) ∧ BoolRow wr (w.heap.size + 1) (doneL (ordTo d m) gn) ∧ Below w.heap.size w wr ∧ Boxed wr w.heap.size ins0 ga gn gc ra rn rc oa on oc)
  case atStart => exact ⟨0, none, 0, rfl, ⟨by omega, Nat.zero_le _, rfl⟩, World.ownsRow_nil _ _ _ _, by rw [show ordTo d 0 = [] from rfl, doneL_nil]; exact hrow0, bb, hbx⟩
  case round =>
    clear hrow0 bb hbx
    obtain ⟨m, pa, pc, rfl, ⟨hfu, hmg, hml⟩, hown, hrow, hbel, hbx⟩ := hrel
    have hbx0 := hbx
    obtain ⟨x0, x1, x2, x3, x4⟩ := hbx
    by_cases hlt : m < gn
    · have hmi : (m : Int) < (gn : Int) := by omega
      have HFU := hide hfu
      have HML := hide hml
      have HOWN := hide hown
      clear hfu hml hown
      obtain ⟨o, ho⟩ : ∃ o, ordTo d m = o := ⟨_, rfl⟩
      rw [ho] at hrow
      have HO := hide ho
      clear ho
      go_wp2_with fail
      go_loopw [6, 7] (fun nx i' wq => ∃ kk : Nat, kk ≤ gn ∧ i' = .int .i64 ((kk : Int) - 1) ∧ nx = .int .i64 (optI (nxtFrom d o kk)) ∧ wq = wr) (fun _ i' _ => (intOf i' + 1).toNat)
      case atStart => exact ⟨gn, Nat.le_refl _, by first | rfl | go_num, by rw [nxtFrom_end d o gn (by rw [HG.out]; exact Nat.le_refl _)]; rfl, by first | rfl | trivial⟩
      case round =>
        obtain ⟨kk, hkk, rfl, rfl, rfl⟩ := hrel
        cases kk with
        | zero =>
          rw [show (((0 : Nat) : Int) - 1) = -1 from rfl]
          cases hn : nxtFrom d o 0 with
          | none =>
            have HNO := hide (hasOrd_no (d := d) (m := m) (by rw [HG.out]; exact hlt) (by rw [unhide HO]; exact hn))
            rw [show optI none = -1 from rfl]
            clear hn
            go_wp2_with fail
            go_ret2
            exact ⟨none, 0, 0, ret_ord (unhide HNO).symm, by unfold ordL; rw [unhide HNO]; exact Ints.none _, hbel⟩
          | some k =>
            obtain ⟨hkg, _⟩ := nxt_some (d := d) (o := o) (k := k) hn
            have hkg' : k < gn := by have := HG.out; omega
            have hki : (k : Int) < (gn : Int) := by omega
            have hk0 : ¬ (k : Int) < 0 := by omega
            have HS := hide (show ordTo d (m + 1) = o ++ [k] by rw [← unhide HO]; exact ordTo_some (by rw [unhide HO]; exact hn))
            rw [show optI (some k) = (k : Int) from rfl]
            have hpl : k < (doneL o gn).length := by rw [doneL_len]; exact hkg'
            have d1 := hrow.cell k hpl
            have d2 := hrow.frozen k
            have hrl := hrow.lt
            have hrow2 := hrow.set k true
            rw [doneL_set] at hrow2
            have hown0 := unhide HOWN
            rw [unhide HO] at hown0
            have hgs : wr.grownBy (wr.setCell ⟨w.heap.size + 1, k, none⟩ (.bool true)) (some (w.heap.size + 1)) := ⟨rfl, rfl, rfl, by simp, fun i _ hi => Go.heap_setCell_other wr _ i _ (fun e => hi (by rw [e]))⟩
            have hown1 := hown0.kept hgs (Or.inr (fun e => by have := (hown0.lt _ e).1; omega))
            have hbel1 : Below w.heap.size w (wr.setCell ⟨w.heap.size + 1, k, none⟩ (.bool true)) := hbel.setCell (by simp) _
            have hbx1 := hbx0.below' (B := w.heap.size + 1) ((Below.refl _ wr).setCell (p := ⟨w.heap.size + 1, k, none⟩) (Nat.le_refl _) (.bool true)) (Nat.lt_succ_self _)
            have hsz : (wr.setCell ⟨w.heap.size + 1, k, none⟩ (.bool true)).heap.size = wr.heap.size := by simp
            clear hn hpl hown0 hgs hrow
            go_wp2_with (at_builtin; refine wpList_append_own _ rfl _ _ 24 rfl (w.heap.size + 2) 3 j0 (.int .i64 0) 1 8 Try.underlying24 hj hy0 hy1 hy2 rfl (by decide) _ _ _ rfl (hown1.alloc _) ⟨wr.heap.size, 0, none⟩ 1 1 [.int .i64 (k : Int)] rfl rfl ?c1 ?c2 ?c3 ?c4 ?c5 ?_)
            case c2 => first | rfl | (intro u hu; simp at hu; subst hu; rfl)
            case c3 => unfold maxLen; omega
            case c4 => omega
            case c5 => first | omega | (simp; omega)
            intro v4 w4 hown4 hgrow4 _
            have hb9 : Below (w.heap.size + 2) (wr.setCell ⟨w.heap.size + 1, k, none⟩ (.bool true)) w4 := ((Below.refl _ _).alloc (by rw [hsz]; omega) _).grown hgrow4 (by simp; omega) (fun j hj => (hown1.lt j hj).1)
            have R1 := hrow2.below hb9 (by omega)
            have R2 : Below w.heap.size w w4 := hbel1.trans (hb9.mono (by omega))
            have R3 := hbx1.below' hb9 (by omega)
            obtain ⟨pa4, pc4, rfl⟩ : ∃ a c, v4 = .slice a (m + 1) c := by
              rcases hown4.2 with ⟨h2, h3⟩ | ⟨g, cap, cur, h2, _⟩
              · omega
              · exact ⟨_, _, h2⟩
            have R4 : w4.ownsRow (w.heap.size + 2) 3 1 (.slice pa4 (m + 1) pc4) (m + 1) (((ordTo d (m + 1)).map (fun (k : Nat) => (k : Int))).map (fun x => Value.int .i64 x)) := by
              rw [unhide HS, List.map_append, List.map_append]; first | exact hown4 | (rw [List.map_map]; exact hown4)
            rw [← unhide HS] at R1
            have RR := hide (And.intro R4 (And.intro R1 (And.intro R2 R3)))
            have HL1 := hide (show (ordTo d (m + 1)).length = m + 1 by rw [unhide HS, List.length_append, ← unhide HO, unhide HML]; rfl)
            clear hown4 hgrow4 hb9 R1 R2 R3 R4 hown1 hrow2 hbel1 hbx1
            go_wp2_with fail
            go_roundg (gn - (m + 1))
            case measure => have := unhide HFU; omega
            case rel => exact ⟨m + 1, pa4, pc4, rfl, ⟨Nat.le_refl _, by omega, unhide HL1⟩, (unhide RR).1, (unhide RR).2.1, (unhide RR).2.2.1, (unhide RR).2.2.2⟩
        | succ k =>
          rw [show (((k + 1 : Nat) : Int) - 1) = (k : Int) by omega]
          have hkg : k < d.gates.length := by have := HG.out; omega
          have hkg' : k < gn := by omega
          have hki : (k : Int) < (gn : Int) := by omega
          have hk0 : (0 : Int) ≤ (k : Int) := by omega
          obtain ⟨b, off, aa, an, ac, rfl, hbb, c1, c2, c3, hI⟩ := (h.gates.below hbel).at' hkg
          have d1 := hrow.cell k (by rw [doneL_len]; exact hkg')
          rw [doneL_get o hkg'] at d1
          have hrl := hrow.lt
          have HR := hide (unhide HRT k hkg)
          have HAN := hide hI.1
          have HST := hide (nxtFrom_step d o k hkg)
          have HRD := hide (rdy_is (d := d) (o := o) hkg)
          obtain ⟨bk, hbk⟩ : ∃ bk, decide (k ∈ o) = bk := ⟨_, rfl⟩
          rw [hbk] at d1
          have HBK := hide hbk
          clear hbk
          have hfew : an ≤ 16 := by have h1 := hI.1; have h2 := (unhide HR).few; omega
          go_wp2_with fail
          go_loopw [8, 9] (fun f i' wz => ∃ j : Nat, j ≤ an ∧ i' = .int .i64 j ∧ f = .bool (!bk && argsDone o d.gates[k].args j) ∧ wz = wr) (fun _ i' _ => an - (intOf i').toNat)
          case atStart => exact ⟨0, Nat.zero_le _, rfl, by simp [argsDone], by first | rfl | trivial⟩
          case round =>
            obtain ⟨j, hjl, rfl, rfl, rfl⟩ := hrel
            by_cases hj2 : j < an
            · have hji : (j : Int) < (an : Int) := by omega
              have hja : j < d.gates[k].args.length := by have := unhide HAN; omega
              have HM := hide (argsDone_succ o d.gates[k].args j hja)
              cases hf : (!bk && argsDone o d.gates[k].args j)
              · have HF := hide (show (!bk && argsDone o d.gates[k].args (j + 1)) = false by rw [unhide HM, ← Bool.and_assoc, hf]; rfl)
                clear hf HM
                go_wp2_with fail
                exact ⟨⟨j + 1, by omega, by go_num, by rw [unhide HF], by first | rfl | trivial⟩, by simp [intOf]; omega⟩
              · obtain ⟨b2, o2, rfl, hb2', ca⟩ := hI.at hja
                have hxr := (unhide HR).args d.gates[k].args[j] (List.getElem_mem hja)
                obtain ⟨n2, hn2⟩ := Int.eq_ofNat_of_zero_le hxr.1
                have hn2l : n2 < gn := by have h1 := hxr.2; rw [hn2] at h1; simp at h1; have := HG.out; omega
                have hn2i : (n2 : Int) < (gn : Int) := by omega
                have d3 := hrow.cell n2 (by rw [doneL_len]; exact hn2l)
                rw [doneL_get o hn2l] at d3
                rw [hn2] at ca
                have HF := hide (show (!bk && argsDone o d.gates[k].args (j + 1)) = decide (n2 ∈ o) by rw [unhide HM, ← Bool.and_assoc, hf, hn2]; simp)
                obtain ⟨b9, hb9⟩ : ∃ b9, decide (n2 ∈ o) = b9 := ⟨_, rfl⟩
                rw [hb9] at d3 HF
                clear hf HM hxr hn2 hb9
                go_wp2_with fail
                exact ⟨⟨j + 1, by omega, by go_num, by rw [unhide HF], by first | rfl | trivial⟩, by simp [intOf]; omega⟩
            · have HF := hide (show (!bk && argsDone o d.gates[k].args j) = rdy d o k by
                rw [unhide HRD, ← unhide HBK, decide_not, show j = d.gates[k].args.length by have := unhide HAN; omega])
              rw [unhide HF]
              cases hr : rdy d o k
              · have HX := hide (show nxtFrom d o k = nxtFrom d o (k + 1) by rw [unhide HST, hr]; rfl)
                clear hr HF
                go_wp2_with fail
                exact ⟨⟨k, by omega, by first | rfl | go_num, by rw [unhide HX], by first | rfl | trivial⟩, by first | (simp [intOf]; done) | (simp [intOf]; omega)⟩
              · have HX := hide (show nxtFrom d o k = some k by rw [unhide HST, hr]; rfl)
                clear hr HF
                go_wp2_with fail
                exact ⟨⟨k, by omega, by first | rfl | go_num, by rw [unhide HX]; rfl, by first | rfl | trivial⟩, by first | (simp [intOf]; done) | (simp [intOf]; omega)⟩
    · have hme : m = gn := by omega
      have HHO := hide (show hasOrd d = true by unfold hasOrd; rw [HG.out, ← hme, hml]; simp)
      have hmi : ¬ (m : Int) < (gn : Int) := by omega
      obtain ⟨a2, c2, hv, hI⟩ := own_ints hown (by unfold maxLen; omega)
      obtain ⟨rfl, _, rfl⟩ : pa = a2 ∧ m = m ∧ pc = c2 := by injection hv with h1 _ h3; exact ⟨h1, rfl, h3⟩
      have HI2 := hide (show Ints wr pa m (ordL d) by unfold ordL; rw [unhide HHO, if_pos rfl, HG.out, ← hme]; exact hI)
      clear hown hrow hI hv hml hme
      go_wp2_with fail
      go_ret2
      exact ⟨_, _, _, ret_ord (unhide HHO).symm, unhide HI2, hbel⟩

theorem orderL_is {d : NetD} (h : checkE d = 0) : orderL d = ordL d := by
  unfold orderL ordL orderE
  rw [if_pos h]
  cases hasOrd d <;> rfl

set_option maxHeartbeats 1000000 in
theorem OrderOf_any (d : NetD) (ins0 : Int) (ga ra oa : Option Addr) (gn gc rn rc on oc : Nat) (w : World) (h : NetAt w d ins0 ga gn ra rn oa on) :
    Calls Try.prog 33 #[.agg #[.int .i64 ins0, .slice ga gn gc, .slice ra rn rc, .slice oa on oc]] w fun e w' => ∃ a n c, e = .returned (.tuple #[.slice a n c, .int .i64 (orderE d)]) ∧ Ints w' a n (orderL d) ∧ Below w.heap.size w w' := by
  have hb0 : Below w.heap.size w (w.alloc (.cells #[.int .i64 ins0, .slice ga gn gc, .slice ra rn rc, .slice oa on oc] 26)) := (Below.refl _ _).alloc (Nat.le_refl _) _
  have hbox : Boxed (w.alloc (.cells #[.int .i64 ins0, .slice ga gn gc, .slice ra rn rc, .slice oa on oc] 26)) w.heap.size ins0 ga gn gc ra rn rc oa on oc := Boxed.new _ _ _ _ _ _ _ _ _ _ _ _
  have hN := h.below hb0
  clear h
  go_enter Try.func33, Try.ntmps33
  go_wp2_with fail
  refine (CheckNet_any d _ _ _ _ _ _ _ _ _ _ _ hN).mono ?_
  rintro e w1 ⟨rfl, hb⟩
  have B1 := bstep hb0 hb
  have hN1 := hN.below hb
  have hx1 := hbox.below hb
  clear hb hb0 hN hbox
  by_cases e0 : checkE d = 0
  · have HCK := hide e0
    have HOL := hide (orderL_is e0)
    rw [e0]
    clear e0
    obtain ⟨x0, x1, x2, x3, x4⟩ := hx1
    go_wp2_with fail
    refine (order_any d _ _ _ _ _ _ _ _ _ _ _ hN1 (unhide HCK)).mono ?_
    rintro e w2 ⟨a, n, c, rfl, hI, hb2⟩
    rw [← unhide HOL] at hI
    have HI := hide hI
    clear hI x1 x2 x3 x4
    cases ho : hasOrd d
    · have HE := hide (show orderE d = 5 by unfold orderE; rw [if_pos (unhide HCK), ho]; rfl)
      have HL := hide (show orderL d = [] by unfold orderL; rw [if_neg (by rw [unhide HE]; decide)])
      clear ho
      go_wp2_with fail
      go_ret2
      exact ⟨none, 0, 0, ret_sl (unhide HE).symm, by rw [unhide HL]; exact Ints.none _, bstep B1 hb2⟩
    · have HE := hide (show orderE d = 0 by unfold orderE; rw [if_pos (unhide HCK), ho]; rfl)
      clear ho
      go_wp2_with fail
      go_ret2
      exact ⟨a, n, c, ret_sl (unhide HE).symm, unhide HI, bstep B1 hb2⟩
  · have HE := hide (show orderE d = checkE d by unfold orderE; rw [if_neg e0])
    have HL := hide (show orderL d = [] by unfold orderL; rw [if_neg (by rw [unhide HE]; exact e0)])
    have hq : (checkE d != 0) = true := by simp [e0]
    clear e0
    go_wp2_with fail
    go_ret2
    exact ⟨none, 0, 0, ret_sl (unhide HE).symm, by rw [unhide HL]; exact Ints.none _, B1⟩

def lvlE (d : NetD) (regs ins : List Int) : Int := if stepE d regs ins = 0 then orderE d else stepE d regs ins
def lvlL (d : NetD) (regs ins : List Int) : List Int := if lvlE d regs ins = 0 then lfp d regs ins else []

end Go.Proofs.Ytongajonecgdpae
