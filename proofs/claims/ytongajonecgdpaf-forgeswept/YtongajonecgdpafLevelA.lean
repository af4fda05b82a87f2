/- The document's order, OrderOf and LevelStep. -/
import Derived.Test.YtongajonecgdpafSweepM
import Derived.Test.YtongajonecgdpafNetO
import Derived.Test.YtongajonecgdpafTickB
import Derived.Test.YtongajonecgdpafEvalP
namespace Go.Proofs.Ytongajonecgdpaf
open Go.RowKit

def optI : Option Nat → Int
  | none => -1
  | some k => (k : Int)
theorem BoolRow.below {B : Nat} {w w' : World} {g : Nat} {ys : List Bool} (h : BoolRow w g ys) (hb : Below B w w') (hg : g < B) : BoolRow w' g ys := by
  unfold BoolRow; rw [hb.block g hg]; exact h
theorem ret_ord {a : Option Addr} {n c : Nat} {p q : Bool} (h : p = q) : Ending.returned (.tuple #[.slice a n c, .bool p]) = .returned (.tuple #[.slice a n c, .bool q]) := by rw [h]
/-- The args so far stand there. -/
def argsDone (o : List Nat) (xs : List Int) (j : Nat) : Bool := (xs.take j).all (fun x => decide (x.toNat ∈ o))
theorem argsDone_succ (o : List Nat) (xs : List Int) (j : Nat) (h : j < xs.length) : argsDone o xs (j + 1) = (argsDone o xs j && decide (xs[j].toNat ∈ o)) := all_take_succ _ xs j h
theorem rdy_is {d : NetD} {o : List Nat} {k : Nat} (hk : k < d.gates.length) : rdy d o k = (decide (k ∉ o) && argsDone o d.gates[k].args d.gates[k].args.length) := by
  unfold rdy argsDone
  rw [List.take_length]
  have : d.gates.getD k ⟨0, 0, []⟩ = d.gates[k] := by simp [List.getD_eq_getElem?_getD, hk]
  rw [this]

def ordL (d : NetD) : List Int := if hasOrd d then (ordTo d d.gates.length).map (fun (k : Nat) => (k : Int)) else []
/-- What order answers. -/
def OrdAns (d : NetD) (w w' : World) (e : Ending) : Prop := ∃ a n c, e = .returned (.tuple #[.slice a n c, .bool (hasOrd d)]) ∧ Ints w' a n (ordL d) ∧ Below w.heap.size w w'

theorem orderL_is {d : NetD} (h : checkE d = 0) : orderL d = ordL d := by
  unfold orderL ordL orderE
  rw [if_pos h]
  cases hasOrd d <;> rfl

def lvlE (d : NetD) (regs ins : List Int) : Int := if stepE d regs ins = 0 then orderE d else stepE d regs ins
def lvlL (d : NetD) (regs ins : List Int) : List Int := if lvlE d regs ins = 0 then lfp d regs ins else []

theorem argsDone_no {o : List Nat} {xs : List Int} {j : Nat} (h : j < xs.length) (hn : xs[j].toNat ∉ o) : argsDone o xs xs.length = false := by
  unfold argsDone
  rw [List.take_length, List.all_eq_false]
  exact ⟨xs[j], List.getElem_mem h, by simpa using hn⟩

set_option maxHeartbeats 1000000 in
theorem allStand_any (o : List Nat) (xs : List Int) (a : Option Addr) (n c g gn : Nat) (w : World) (h : Ints w a n xs) (hrow : BoolRow w g (doneL o gn)) (hn : n ≤ 16) (hin : ∀ x ∈ xs, 0 ≤ x ∧ x.toNat < gn) :
    Calls Try.prog 99 #[.slice a n c, .slice (some ⟨g, 0, none⟩) gn gn] w fun e w' => e = .returned (.bool (argsDone o xs xs.length)) ∧ w' = w := by
  have HLL : Hid (xs.length = n) := h.1.symm
  have HIN := hide hin
  clear hin
  go_enter Try.func99, Try.ntmps99
  go_wp2_with fail
  go_loopw [9] (fun i wr => ∃ k : Nat, k ≤ n ∧ i = .int .i64 k ∧ argsDone o xs k = true ∧ wr = w) (fun i _ => n - (intOf i).toNat)
  case atStart => exact ⟨0, Nat.zero_le _, rfl, by simp [argsDone], rfl⟩
  case round =>
    obtain ⟨k, hk, rfl, hno, rfl⟩ := hrel
    by_cases hlt : k < n
    · have hltl : k < xs.length := by have := HLL.out; omega
      have hki : (k : Int) < (n : Int) := by omega
      obtain ⟨b, off, rfl, hbb, c1⟩ := h.at hltl
      obtain ⟨hp, hq⟩ := (unhide HIN) xs[k] (List.getElem_mem hltl)
      obtain ⟨m, hm⟩ := Int.eq_ofNat_of_zero_le hp
      have hml : m < gn := by rw [hm] at hq; simpa using hq
      have hmi : (m : Int) < (gn : Int) := by omega
      have d1 := hrow.cell m (by rw [doneL_len]; exact hml)
      rw [doneL_get o hml] at d1
      have HS := hide (argsDone_succ o xs k hltl)
      have HNO := hide hno
      clear hno hp hq
      by_cases e : m ∈ o
      · have HT := hide (show argsDone o xs (k + 1) = true by rw [unhide HS, unhide HNO, hm]; simpa using e)
        rw [show decide (m ∈ o) = true from decide_eq_true e] at d1
        rw [hm] at c1
        clear e hm
        go_wp2_with fail
        exact ⟨⟨k + 1, by omega, by go_num, unhide HT, by first | rfl | trivial⟩, by simp [intOf]; omega⟩
      · have HT := hide (argsDone_no (o := o) hltl (by rw [hm]; simpa using e))
        rw [show decide (m ∈ o) = false from decide_eq_false e] at d1
        rw [hm] at c1
        clear e hm
        go_wp2_with fail
        go_ret
        exact ⟨ret_bool (unhide HT).symm, rfl⟩
    · have HT := hide (show argsDone o xs xs.length = true by rw [← hno]; exact congrArg _ (by have := HLL.out; omega))
      clear hno
      go_wp2_with fail
      go_ret
      exact ⟨ret_bool (unhide HT).symm, rfl⟩

theorem own_below' {w w' : World} {base B g : Nat} {e : TypeId} {size : Nat} {k c n : Nat} {xs : List Value} (h : w.ownsRow base e size (.slice (some ⟨g, 0, none⟩) k c) n xs) (hb : Below B w w') (hg : g < B) : w'.ownsRow base e size (.slice (some ⟨g, 0, none⟩) k c) n xs := by
  refine ⟨h.1, ?_⟩
  rcases h.2 with hn | ⟨g', cap, cur, hv, hbs, hgg, rest⟩
  · exact .inl hn
  · have e1 : g = g' := by injection hv with h1 _ _; injection h1 with h1; injection h1
    subst e1
    refine .inr ⟨g, cap, cur, hv, hbs, ?_, rest⟩
    rw [hb.block g hg]; exact hgg
theorem ret_opt {x y : Int} (h : x = y) : Ending.returned (.int .i64 x) = .returned (.int .i64 y) := by rw [h]

set_option maxHeartbeats 1000000 in
theorem leastReady_any (d : NetD) (o : List Nat) (ga : Option Addr) (gn gc g : Nat) (w : World) (hG : Gates w ga gn d.gates) (hrow : BoolRow w g (doneL o gn)) (hck : checkE d = 0) :
    Calls Try.prog 62 #[.slice ga gn gc, .slice (some ⟨g, 0, none⟩) gn gn] w fun e w' => e = .returned (.int .i64 (optI (nxt d o))) ∧ Below w.heap.size w w' := by
  have HG : Hid (d.gates.length = gn) := hG.1.symm
  have hgn : gn ≤ 200 := by have := (counts_gates (check_ok hck).1).2.1; have := HG.out; omega
  have HRT : Hid (∀ k (hk : k < d.gates.length), Right d.gates[k] d.regs.length d.ins.toNat d.gates.length) := fun k hk => right_of hck k hk
  have hgl := hrow.lt
  clear hck
  go_enter Try.func62, Try.ntmps62
  go_wp2_with fail
  go_loopw [9] (fun i wr => ∃ k : Nat, k ≤ gn ∧ i = .int .i64 k ∧ nxt d o = nxtFrom d o k ∧ Below w.heap.size w wr) (fun i _ => gn - (intOf i).toNat)
  case atStart => exact ⟨0, Nat.zero_le _, rfl, rfl, Below.refl _ _⟩
  case round =>
    obtain ⟨k, hk, rfl, hno, hbel⟩ := hrel
    by_cases hlt : k < gn
    · have hltg : k < d.gates.length := by have := HG.out; omega
      have hki : (k : Int) < (gn : Int) := by omega
      obtain ⟨b, off, aa, an, ac, rfl, hbb, c1, c2, c3, hI⟩ := (hG.below hbel).at' hltg
      have hr2 := hrow.below hbel hgl
      have d1 := hr2.cell k (by rw [doneL_len]; exact hlt)
      rw [doneL_get o hlt] at d1
      have HST := hide (nxtFrom_step d o k hltg)
      have HRD := hide (rdy_is (d := d) (o := o) hltg)
      have HR := hide (unhide HRT k hltg)
      have HNO := hide hno
      have hfew : an ≤ 16 := by have h1 := hI.1; have h2 := (unhide HR).few; omega
      have hal := (Below.refl _ wr).alloc (Nat.le_refl _) (.cells #[.int .i64 d.gates[k].kind, .int .i64 d.gates[k].n, .slice aa an ac] 106)
      have bA := bstep hbel hal
      have hIA := hI.below hal
      have hrA := hr2.below hal hr2.lt
      have hrl := hr2.lt
      clear hno hal
      by_cases e : k ∈ o
      · have HT := hide (show nxt d o = nxtFrom d o (k + 1) by
          rw [unhide HNO, unhide HST, unhide HRD, show decide (k ∉ o) = false from decide_eq_false (by simpa using e)]; rfl)
        rw [show decide (k ∈ o) = true from decide_eq_true e] at d1
        clear e hI hIA hrA hr2
        go_wp2_with fail
        exact ⟨⟨k + 1, by omega, by go_num, unhide HT, bA⟩, by simp [intOf]; omega⟩
      · have HT := hide (show nxt d o = if argsDone o d.gates[k].args d.gates[k].args.length then some k else nxtFrom d o (k + 1) by
          rw [unhide HNO, unhide HST, unhide HRD, show decide (k ∉ o) = true from decide_eq_true (by simpa using e)]; rfl)
        rw [show decide (k ∈ o) = false from decide_eq_false e] at d1
        have HIN := hide (show ∀ x ∈ d.gates[k].args, 0 ≤ x ∧ x.toNat < gn by
          intro x hx
          have h1 := (unhide HR).args x hx
          have h2 := HG.out
          exact ⟨h1.1, by omega⟩)
        clear e hI hr2
        go_wp2_with fail
        refine (allStand_any o d.gates[k].args aa an ac g gn _ hIA hrA hfew (unhide HIN)).mono ?_
        rintro e w5 ⟨rfl, rfl⟩
        cases ea : argsDone o d.gates[k].args d.gates[k].args.length
        · have HX := hide (show nxt d o = nxtFrom d o (k + 1) by rw [unhide HT, ea]; rfl)
          clear ea
          go_wp2_with fail
          exact ⟨⟨k + 1, by omega, by go_num, unhide HX, bA⟩, by simp [intOf]; omega⟩
        · have HX := hide (show optI (nxt d o) = (k : Int) by rw [unhide HT, ea]; rfl)
          clear ea
          go_wp2_with fail
          go_ret
          exact ⟨ret_opt (unhide HX).symm, bA⟩
    · have HX := hide (show optI (nxt d o) = -1 by rw [hno, nxtFrom_end d o k (by have := HG.out; omega)]; rfl)
      clear hno
      go_wp2_with fail
      go_ret
      exact ⟨ret_opt (unhide HX).symm, hbel⟩

set_option maxRecDepth 100000 in
set_option maxHeartbeats 2000000 in
theorem Order_any (d : NetD) (ins0 : Int) (ga ra oa : Option Addr) (gn gc rn rc on oc : Nat) (w : World) (h : NetAt w d ins0 ga gn ra rn oa on) :
    Calls Try.prog 26 #[.agg #[.int .i64 ins0, .slice ga gn gc, .slice ra rn rc, .slice oa on oc]] w fun e w' => ∃ a n c, e = .returned (.tuple #[.slice a n c, .int .i64 (orderE d)]) ∧ Ints w' a n (orderL d) ∧ Below w.heap.size w w' := by
  have hb0 : Below w.heap.size w (w.alloc (.cells #[.int .i64 ins0, .slice ga gn gc, .slice ra rn rc, .slice oa on oc] 48)) := (Below.refl _ _).alloc (Nat.le_refl _) _
  have hbox : Boxed (w.alloc (.cells #[.int .i64 ins0, .slice ga gn gc, .slice ra rn rc, .slice oa on oc] 48)) w.heap.size ins0 ga gn gc ra rn rc oa on oc := Boxed.new _ _ _ _ _ _ _ _ _ _ _ _
  have hN := h.below hb0
  have HG : Hid (d.gates.length = gn) := h.gates.1.symm
  clear h
  obtain ⟨i0, hi, hz0, hz1, hz2⟩ := info_parts Try.infoBool
  obtain ⟨j0, hj, hy0, hy1, hy2⟩ := info_parts Try.infoInt
  go_enter Try.func26, Try.ntmps26
  go_wp2_with fail
  refine (Check_any d _ _ _ _ _ _ _ _ _ _ _ hN).mono ?_
  rintro e w1 ⟨rfl, hb⟩
  have B1 := bstep hb0 hb
  have hN1 := hN.below hb
  have hx1 := hbox.below hb
  clear hb hb0 hN hbox
  by_cases e0 : checkE d = 0
  case neg =>
    have HE := hide (show orderE d = checkE d by unfold orderE; rw [if_neg e0])
    have HL := hide (show orderL d = [] by unfold orderL; rw [if_neg (by rw [unhide HE]; exact e0)])
    have hq : (checkE d != 0) = true := by simp [e0]
    clear e0
    go_wp2_with fail
    go_ret2
    exact ⟨none, 0, 0, ret_sl (unhide HE).symm, by rw [unhide HL]; exact Ints.none _, B1⟩
  have HCK := hide e0
  have HOL := hide (orderL_is e0)
  have hgn : gn ≤ 200 := by have := (counts_gates (check_ok e0).1).2.1; have := HG.out; omega
  rw [e0]
  clear e0
  have hx0 := hx1
  obtain ⟨x0, x1, x2, x3, x4⟩ := hx1
  have hs1 := B1.size
  go_wp2_with (at_make; refine wpList_make_own _ rfl _ _ 35 rfl w1.heap.size 3 j0 (.int .i64 0) 1 Try.underlying35 hj hy0 hy1 .i64 .i64 (gn : Int) gn rfl rfl rfl ?c1 ?c2 ?c3 ?_)
  case c1 => rw [hy2]; omega
  case c2 => unfold maxLen; omega
  case c3 => exact Nat.le_refl _
  intro w2 hown hgrow
  have hb2 : Below w1.heap.size w1 w2 := (Below.refl _ _).grown hgrow (Nat.le_refl _) (fun k hk => by simp at hk)
  have hN2 := hN1.below hb2
  have hx2 := hx0.below hb2
  have B2 := bstep B1 hb2
  clear hgrow x0 x1 x2 x3 x4 hN2 B2
  have hx3 := hx2
  obtain ⟨x0, x1, x2, x3, x4⟩ := hx2
  have hs2 := hb2.size
  have hlt2 : w1.heap.size < w2.heap.size := (hown.lt w1.heap.size rfl).2
  go_wp2_with (at_make; refine wpList_make_full _ rfl _ _ 23 rfl w2.heap.size 4 i0 (.bool false) 1 Try.underlying23 hi hz0 hz1 .i64 .i64 (gn : Int) (gn : Int) gn rfl rfl rfl rfl ?c1 ?c2 ?c3 ?_)
  case c1 => rw [hz2]; omega
  case c2 => unfold maxLen; omega
  case c3 => exact Nat.le_refl _
  intro w3 hownB hgrow
  have hb3 : Below w2.heap.size w2 w3 := (Below.refl _ _).grown hgrow (Nat.le_refl _) (fun k hk => by simp at hk)
  have hrow0 := made_row hownB
  have hx4 := hx3.below hb3
  have hown3 := hown.kept hgrow (.inr (by simp [Value.ownBlock]))
  have bb := bstep hb2 hb3
  clear hgrow x0 x1 x2 x3 x4 hx3 hown hownB hb2 hb3 hs2 hi hz0 hz1 hz2
  obtain ⟨x0, x1, x2, x3, x4⟩ := hx4
  go_wp2_with fail
  clear x0 x1 x2 x3 x4
  generalize w2.heap.size = g2 at *
  go_loopw [5, 24] (fun v i wr => ∃ m : Nat, m ≤ gn ∧ v = .slice (some ⟨w1.heap.size, 0, none⟩) m gn ∧ i = .int .i64 m ∧ (ordTo d m).length = m ∧ wr.ownsRow w1.heap.size 3 1 (.slice (some ⟨w1.heap.size, 0, none⟩) m gn) m (((ordTo d m).map (fun (k : Nat) => (k : Int))).map (fun x => Value.int .i64 x)) ∧ BoolRow wr g2 (doneL (ordTo d m) gn) ∧ Below w1.heap.size w1 wr) (fun _ i _ => gn - (intOf i).toNat)
  case atStart => exact ⟨0, Nat.zero_le _, rfl, rfl, rfl, hown3, by rw [show ordTo d 0 = [] from rfl, doneL_nil]; exact hrow0, bb⟩
  case round =>
    clear hown3 hrow0 bb
    obtain ⟨m, hm, rfl, rfl, hml, hown, hrow, hbel⟩ := hrel
    have hxr := hx0.below hbel
    obtain ⟨x0, x1, x2, x3, x4⟩ := hxr
    by_cases hlt : m < gn
    · have hmi : (m : Int) < (gn : Int) := by omega
      have HML := hide hml
      have HOWN := hide hown
      have HROW := hide hrow
      clear hml hown
      go_wp2_with fail
      clear x0 x1 x2 x3 x4
      refine (leastReady_any d (ordTo d m) _ _ _ _ _ (hN1.gates.below hbel) hrow (unhide HCK)).mono ?_
      rintro e w5 ⟨rfl, hb5⟩
      have B5 := bstep hbel hb5
      have hown5 := own_below (unhide HOWN) hb5
      have hrow5 := (unhide HROW).below hb5 hrow.lt
      clear hrow hb5 hbel HOWN HROW
      cases en : nxt d (ordTo d m) with
      | none =>
        have HE := hide (show orderE d = 5 by unfold orderE; rw [if_pos (unhide HCK), hasOrd_no (by have := HG.out; omega) en]; rfl)
        have HL := hide (show orderL d = [] by unfold orderL; rw [if_neg (by rw [unhide HE]; decide)])
        rw [show optI none = -1 from rfl]
        clear en hown5 hrow5
        go_wp2_with fail
        go_ret2
        exact ⟨none, 0, 0, ret_sl (unhide HE).symm, by rw [unhide HL]; exact Ints.none _, bstep B1 B5⟩
      | some k =>
        obtain ⟨hkl, _⟩ := nxt_some en
        have hkn : k < gn := by have := HG.out; omega
        have hki : (k : Int) < (gn : Int) := by omega
        have hk0 : ((k : Int) == -1) = false := by simp only [beq_eq_false_iff_ne, ne_eq]; omega
        have HS := hide (ordTo_some en)
        rw [show optI (some k) = (k : Int) from rfl]
        clear en hkl
        have hrl := hrow5.lt
        have hol := (hown5.lt w1.heap.size rfl).2
        go_wp2_with (at_builtin; refine wpList_append_fits _ rfl _ _ 35 rfl w1.heap.size 3 j0 1 Try.underlying35 hj hy1 w1.heap.size m gn _ rfl (hown5.alloc _) ⟨w5.heap.size, 0, none⟩ 1 1 [.int .i64 (k : Int)] rfl rfl ?c1 ?c2 ?c3 ?_)
        case c1 =>
          intro j u hj
          match j, hj with
          | 0, hj => simp at hj; subst hj; simp [Addr.add]
        case c2 => intro u hu; simp at hu; subst hu; rfl
        case c3 => omega
        intro w6 hown6 hgrow6
        have hr6 : BoolRow w6 g2 (doneL (ordTo d m) gn) := by
          unfold BoolRow
          rw [hgrow6.block g2 (by simp; omega) (by simp; omega)]
          exact hrow5.below ((Below.refl w5.heap.size w5).alloc (Nat.le_refl _) _) hrl
        have hb6 : Below w1.heap.size w1 w6 := (B5.alloc B5.size _).grown hgrow6 (by have := B5.size; simp; omega) (fun j hj => by injection hj with hj; omega)
        have d1 := hr6.cell k (by rw [doneL_len]; exact hkn)
        have d2 := hr6.frozen k
        have R1 := hr6.set k true
        rw [doneL_set, ← unhide HS] at R1
        have R2 : Below w1.heap.size w1 (w6.setCell ⟨g2, k, none⟩ (.bool true)) := hb6.setCell (Nat.le_of_lt hlt2) _
        have R3 : (w6.setCell ⟨g2, k, none⟩ (.bool true)).ownsRow w1.heap.size 3 1 (.slice (some ⟨w1.heap.size, 0, none⟩) (m + 1) gn) (m + 1) (((ordTo d (m + 1)).map (fun (k : Nat) => (k : Int))).map (fun x => Value.int .i64 x)) := by
          have h9 := own_below' hown6 ((Below.refl g2 w6).setCell (p := ⟨g2, k, none⟩) (Nat.le_refl _) (.bool true)) hlt2
          rw [unhide HS, List.map_append, List.map_append]
          first | exact h9 | (rw [List.map_map]; exact h9)
        have HL1 := hide (show (ordTo d (m + 1)).length = m + 1 by rw [unhide HS, List.length_append, unhide HML]; rfl)
        have R := hide (And.intro R1 (And.intro R2 R3))
        clear hown5 hown6 hgrow6 hr6 hb6 R1 R2 R3 hrow5 B5 HS
        go_wp2_with fail
        exact ⟨⟨m + 1, by omega, rfl, by go_num, unhide HL1, (unhide R).2.2, (unhide R).1, (unhide R).2.1⟩, by simp [intOf]; omega⟩
    · have hme : m = gn := by omega
      have HHO := hide (show hasOrd d = true by unfold hasOrd; rw [HG.out, ← hme, hml]; simp)
      have HE := hide (show orderE d = 0 by unfold orderE; rw [if_pos (unhide HCK), unhide HHO]; rfl)
      obtain ⟨a2, c2, hv, hI⟩ := own_ints hown (by unfold maxLen; omega)
      obtain ⟨rfl, rfl⟩ : (some ⟨w1.heap.size, 0, none⟩ : Option Addr) = a2 ∧ gn = c2 := by injection hv with h1 _ h3; exact ⟨h1, h3⟩
      have HI2 := hide (show Ints wr (some ⟨w1.heap.size, 0, none⟩) m (orderL d) by rw [unhide HOL]; unfold ordL; rw [unhide HHO, if_pos rfl, HG.out, ← hme]; exact hI)
      clear hown hrow hI hv hml
      go_wp2_with fail
      go_ret2
      exact ⟨_, _, _, ret_sl (unhide HE).symm, unhide HI2, bstep B1 hbel⟩

/-- What has been reckoned so far is what is settled. -/
def Sofar (d : NetD) (r i x : List Int) (m : Nat) : Prop := ∀ k ∈ (ordTo d d.gates.length).take m, x.getD k 2 = (lfp d r i).getD k 2
theorem Sofar.next {d : NetD} {r i x : List Int} {m : Nat} (hm : m < (ordTo d d.gates.length).length) (h : Sofar d r i x m) (hx : x.length = d.gates.length) : Sofar d r i (x.set (ordTo d d.gates.length)[m] (worthV (d.gates.getD (ordTo d d.gates.length)[m] ⟨0, 0, []⟩) r i x)) (m + 1) := by
  intro k hk
  have hO := ord_to d d.gates.length
  have hkl := hO.lt _ (List.getElem_mem hm)
  by_cases e : (ordTo d d.gates.length)[m] = k
  · rw [← e, order_next hm h]
    simp [List.getD_eq_getElem?_getD, hx, hkl]
  · rw [List.take_succ_eq_append_getElem hm] at hk
    rcases List.mem_append.1 hk with hk | hk
    · rw [← h k hk]
      simp only [List.getD_eq_getElem?_getD, List.getElem?_set, if_neg e]
    · exact absurd (by simpa using hk : k = (ordTo d d.gates.length)[m]).symm e
theorem Sofar.full {d : NetD} {r i x : List Int} (ho : hasOrd d = true) (h : Sofar d r i x (ordTo d d.gates.length).length) (hx : x.length = d.gates.length) : x = lfp d r i := by
  have hl := (lfp_least d r i).len
  apply List.ext_getElem (by rw [hx, hl])
  intro k h1 h2
  have := h k (by rw [List.take_length]; exact ord_full ho k (by omega))
  simpa [List.getD_eq_getElem?_getD, h1, h2] using this
theorem heldv_of {w0 W : World} {g b hb : Nat} {ga qa ia : Option Addr} {gn gc qn qc inn ic : Nat} {p1 p2 p3 : Addr} {u1 u2 u3 : Value} (hx : b < g ∧ w0.cell? ⟨b, 1, none⟩ = some (.slice ga gn gc)) (hh : hb < g ∧ w0.cell? ⟨hb, 0, none⟩ = some (.slice qa qn qc) ∧ w0.cell? ⟨hb, 1, none⟩ = some (.slice ia inn ic))
    (hp1 : p1.block < g ∧ w0.cell? p1 = some u1) (hp2 : p2.block < g ∧ w0.cell? p2 = some u2) (hp3 : p3.block < g ∧ w0.cell? p3 = some u3) (h : Below g w0 W) :
    Below g w0 W ∧ W.cell? ⟨b, 1, none⟩ = some (.slice ga gn gc) ∧ W.cell? ⟨hb, 0, none⟩ = some (.slice qa qn qc) ∧ W.cell? ⟨hb, 1, none⟩ = some (.slice ia inn ic) ∧ W.cell? p1 = some u1 ∧ W.cell? p2 = some u2 ∧ W.cell? p3 = some u3 :=
  ⟨h, (h.cell (p := ⟨b, 1, none⟩) hx.1).trans hx.2, (h.cell (p := ⟨hb, 0, none⟩) hh.1).trans hh.2.1, (h.cell (p := ⟨hb, 1, none⟩) hh.1).trans hh.2.2, (h.cell hp1.1).trans hp1.2, (h.cell hp2.1).trans hp2.2, (h.cell hp3.1).trans hp3.2⟩
def knotT (b c : Nat) : Array Value := #[.int .i64 2, .int .i64 0, .slice none 0 0, .int .i64 3, .int .i64 0, .slice none 0 0, .int .i64 6, .int .i64 0, .slice (some ⟨b + 1, 0, none⟩) 1 1, .int .i64 6, .int .i64 0, .slice (some ⟨b + 2, 0, none⟩) 1 1, .int .i64 4, .int .i64 0, .slice (some ⟨b + 3, 0, none⟩) 2 2, .int .i64 4, .int .i64 0, .slice (some ⟨b + 4, 0, none⟩) 2 2, .int .i64 5, .int .i64 0, .slice (some ⟨b + 5, 0, none⟩) 2 2, .int .i64 5, .int .i64 0, .slice (some ⟨b + 6, 0, none⟩) 2 2, .int .i64 4, .int .i64 0, .slice (some ⟨c, 0, none⟩) 1 1, .int .i64 0, .int .i64 0, .slice none 0 0]
def knotDT : NetD := { ins := 1, gates := [⟨2, 0, []⟩, ⟨3, 0, []⟩, ⟨6, 0, [1]⟩, ⟨6, 0, [0]⟩, ⟨4, 0, [0, 2]⟩, ⟨4, 0, [3, 1]⟩, ⟨5, 0, [4, 5]⟩, ⟨5, 0, [6, 8]⟩, ⟨4, 0, [9]⟩, ⟨0, 0, []⟩], regs := [(false, 6)], outs := [7, 1] }
theorem knot_netT {w : World} {b c : Nat} (h : KnotAt w b (knotT b c) #[.bool false, .int .i64 6]) (h7 : w.heap[c]? = some (.cells #[.int .i64 9] 3 (0, 0))) : NetAt w knotDT 1 (some ⟨b + 8, 0, none⟩) 10 (some ⟨b + 9, 0, none⟩) 1 (some ⟨b + 10, 0, none⟩) 2 := by
  have hl := h.lt
  have hm : ∀ n : Nat, n ≤ 100 → n ≤ maxLen := lt_maxLen
  have i1 : Ints w (some ⟨b + 1, 0, none⟩) 1 [1] := ints_heap [1] h.a1 rfl (hm _ (by decide))
  have i2 : Ints w (some ⟨b + 2, 0, none⟩) 1 [0] := ints_heap [0] h.a2 rfl (hm _ (by decide))
  have i3 : Ints w (some ⟨b + 3, 0, none⟩) 2 [0, 2] := ints_heap [0, 2] h.a3 rfl (hm _ (by decide))
  have i4 : Ints w (some ⟨b + 4, 0, none⟩) 2 [3, 1] := ints_heap [3, 1] h.a4 rfl (hm _ (by decide))
  have i5 : Ints w (some ⟨b + 5, 0, none⟩) 2 [4, 5] := ints_heap [4, 5] h.a5 rfl (hm _ (by decide))
  have i6 : Ints w (some ⟨b + 6, 0, none⟩) 2 [6, 8] := ints_heap [6, 8] h.a6 rfl (hm _ (by decide))
  have i7 : Ints w (some ⟨c, 0, none⟩) 1 [9] := ints_heap [9] h7 rfl (hm _ (by decide))
  have io : Ints w (some ⟨b + 10, 0, none⟩) 2 [7, 1] := ints_heap [7, 1] h.o rfl (hm _ (by decide))
  refine ⟨rfl, ⟨rfl, hm _ (by decide), Or.inr ⟨b + 8, 0, rfl, by omega, fun i hi => ?_⟩⟩, ⟨rfl, hm _ (by decide), Or.inr ⟨b + 9, 0, rfl, by omega, fun i hi => ?_⟩⟩, io⟩
  · have hi' : i < 10 := hi
    rcases Nat.lt_or_ge i 5 with h5 | h5
    · match i, h5 with
      | 0, _ => exact gate_mk h.g rfl rfl rfl (Ints.none _)
      | 1, _ => exact gate_mk h.g rfl rfl rfl (Ints.none _)
      | 2, _ => exact gate_mk h.g rfl rfl rfl (i1)
      | 3, _ => exact gate_mk h.g rfl rfl rfl (i2)
      | 4, _ => exact gate_mk h.g rfl rfl rfl (i3)
    · obtain ⟨j, rfl⟩ := Nat.exists_eq_add_of_le h5
      have hj : j < 5 := by omega
      match j, hj with
      | 0, _ => exact gate_mk h.g rfl rfl rfl (i4)
      | 1, _ => exact gate_mk h.g rfl rfl rfl (i5)
      | 2, _ => exact gate_mk h.g rfl rfl rfl (i6)
      | 3, _ => exact gate_mk h.g rfl rfl rfl (i7)
      | 4, _ => exact gate_mk h.g rfl rfl rfl (Ints.none _)
  · have hi' : i < 1 := hi
    match i, hi' with
    | 0, _ => exact ⟨by rw [cell_of_row _ _ _ _ _ _ h.r]; rfl, by rw [cell_of_row _ _ _ _ _ _ h.r]; rfl⟩


theorem KnotAt.setT {w : World} {b : Nat} (c : Nat) {R : Array Value} (h : KnotAt w b (knotG b) R) : KnotAt (w.setCell ⟨b + 8, 26, none⟩ (.slice (some ⟨c, 0, none⟩) 1 1)) b (knotT b c) R :=
  ⟨by rw [Below.heap_setCell _ _ _ _ (by simp)]; exact h.a1, by rw [Below.heap_setCell _ _ _ _ (by simp)]; exact h.a2, by rw [Below.heap_setCell _ _ _ _ (by simp)]; exact h.a3, by rw [Below.heap_setCell _ _ _ _ (by simp)]; exact h.a4, by rw [Below.heap_setCell _ _ _ _ (by simp)]; exact h.a5, by rw [Below.heap_setCell _ _ _ _ (by simp)]; exact h.a6, by rw [Below.heap_setCell _ _ _ _ (by simp)]; exact h.a7, by rw [Go.heap_setCell_same w (b + 8) 26 _ _ _ h.g]; rfl, by rw [Below.heap_setCell _ _ _ _ (by simp)]; exact h.r, by rw [Below.heap_setCell _ _ _ _ (by simp)]; exact h.o⟩

set_option maxRecDepth 100000 in
theorem tied_order : orderE knotDT = 0 ∧ orderL knotDT = [0, 1, 2, 3, 4, 5, 6, 9, 8, 7] ∧ lvlE knotDT [0] [1] = 0 ∧ lvlL knotDT [0] [1] = [1, 0, 1, 0, 1, 0, 1, 1, 0, 0] := by decide +kernel
set_option maxRecDepth 100000 in
theorem knot_order : orderE knotD = 5 ∧ lvlE knotD [0] [1] = 5 := by decide +kernel

end Go.Proofs.Ytongajonecgdpaf
