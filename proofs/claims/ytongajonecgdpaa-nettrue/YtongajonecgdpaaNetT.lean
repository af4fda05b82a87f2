
/- The choice of a gate; a call of a Go function as one step of a region that draws its order. -/
import Derived.Test.YtongajonecgdpaaFrameNet
import Derived.Test.YtongajonecgdpaaNetS
import Derived.Deep.RegionLaw
import Derived.Deep.DeepCutAuto
import Derived.Deep.CutBlock
import Derived.Deep.RegionHeld3
import Derived.Deep.RegionWith
namespace Go.Proofs.Ytongajonecgdpaa
open Go.ChangeShapes Go.WideShapes Go.ChangeAt Go.RowKit

/-- Which of n things a number speaks of. -/
def chosen (c : Int) (n : Nat) : Nat := ((if c < 0 then -(c + 1) else c) % (n : Int)).toNat
theorem chosen_lt (c : Int) (n : Nat) (h : 0 < n) : chosen c n < n := by
  unfold chosen
  have h1 := Int.emod_nonneg (if c < 0 then -(c + 1) else c) (b := (n : Int)) (by omega)
  have h2 := Int.emod_lt_of_pos (if c < 0 then -(c + 1) else c) (b := (n : Int)) (by omega)
  omega

set_option maxHeartbeats 400000 in
theorem choose_any (c : Int) (n : Nat) (w : World) (h : 0 < n) (hn : n ≤ 200) (hc : (Lit.int .i64 c).wf = true) :
    Calls Try.prog 30 #[.int .i64 c, .int .i64 (n : Int)] w fun e w' => e = .returned (.int .i64 (chosen c n : Nat)) ∧ w' = w := by
  have hb := bounds_i64 hc
  have hz : ¬ (n : Int) = 0 := by omega
  have hnn : (0 : Int) < (n : Int) := by omega
  by_cases e : c < 0
  · have HQ : Hid (((chosen c n : Nat) : Int) = -(c + 1).tmod (n : Int)) := by
      unfold Hid chosen
      rw [if_pos e, Int.toNat_of_nonneg (Int.emod_nonneg _ (by omega)), ← Int.tmod_eq_emod_of_nonneg (by omega), Int.neg_tmod]
    go_enter Try.func30, Try.ntmps30
    go_wp2
    go_ret
    exact ⟨ret_int HQ.out.symm, rfl⟩
  · have HQ : Hid (((chosen c n : Nat) : Int) = c % (n : Int)) := by
      unfold Hid chosen
      rw [if_neg e, Int.toNat_of_nonneg (Int.emod_nonneg _ (by omega))]
    go_enter Try.func30, Try.ntmps30
    go_wp2
    go_ret
    exact ⟨ret_int HQ.out.symm, rfl⟩

/-- A list of the call's own, a list of ints appended to it, as one step of a region that draws its order. -/
theorem step_append_ints {ops : Array Oper} {o : Oper} {a : Act} {w : World} {K : Act → World → Prop} {Q : Exit → Act → World → Prop} {E : Prop}
    (hg : o.guard = none) (s x : Operand) (hop : o.op = Op.call { callee := Callee.builtin Builtin.append, args := #[s, x], argTypes := #[22, 22] })
    (base : Nat) (v : Value) (n : Nat) (ys : List Int) (hs : a.eval s = v) (hown : w.ownsRow base 3 1 v n (ys.map (fun x => Value.int .i64 x)))
    (xs : List Int) (la : Option Addr) (m c : Nat) (hx : a.eval x = .slice la m c) (hc : la = none → c = 0) (hI : Ints w la m xs) (hbytes : (n + m) * 8 ≤ 140737488355328) (hbase : base ≤ w.heap.size)
    (hK : ∀ v' w', w'.ownsRow base 3 1 v' (n + m) ((ys ++ xs).map (fun x => Value.int .i64 x)) → w.grownBy w' v.ownBlock → Below base w w' → K (a.put o.dst v') w') :
    if Region.wanted o (yielded ops a.tmps) = true then Oper.wp Try.prog o a w K Q else E := by
  have hw : Region.wanted o (yielded ops a.tmps) = true := by simp [Region.wanted, hg]
  rw [if_pos hw]
  obtain ⟨i0, hi, hz0, hz1, hz2⟩ := info_parts Try.infoInt
  cases la with
  | none =>
    obtain ⟨h1, h2, h3⟩ := hI
    rcases h3 with h3 | ⟨b, off, h4, _⟩
    · subst h3
      have hm : m = 0 := h1
      have hc0 : c = 0 := hc rfl
      subst hm hc0
      have hrun := run_append_owned_none (P := Try.prog) (w := w) base 22 o.type 3 i0 1 Try.underlying22 hi v n _ hown
      unfold Oper.wp
      simp [execOp, hop, resolve, invoke, builtin, hs, hx, hrun, Result.andThen]
      refine hK v w ?_ ⟨rfl, rfl, rfl, Nat.le_refl _, fun _ _ _ => rfl⟩ (Below.refl _ _)
      rw [List.append_nil]; exact hown
    · simp at h4
  | some ad =>
    refine wp_append_own w s x 22 hop base 3 i0 (.int .i64 0) 1 8 Try.underlying22 hi hz0 hz1 hz2 rfl (by decide) v n _ hs hown ad m c (xs.map (fun x => Value.int .i64 x)) hx (by have := hI.1; simp; omega) ?_ ?_ ?_ hbytes hbase ?_
    · intro j u hj
      obtain ⟨h1, h2, h3⟩ := hI
      rcases h3 with h3 | ⟨b, off, h4, _, hcell⟩
      · subst h3; simp at hj
      · simp at h4; subst h4
        have hj' : j < xs.length := by
          rcases Nat.lt_or_ge j xs.length with h | h
          · exact h
          · rw [List.getElem?_eq_none (by simpa using h)] at hj; simp at hj
        rw [addr_add, hcell j hj']
        simpa [hj'] using hj
    · intro u hu
      obtain ⟨z, _, rfl⟩ := List.mem_map.1 hu
      rfl
    · unfold maxLen; omega
    · intro v' w' h1 h2 _
      refine hK v' w' ?_ h2 ((Below.refl _ _).grown h2 hbase (fun k hk => (hown.lt k hk).1))
      rw [List.map_append]; exact h1

theorem own_empty (w : World) (g base : Nat) (hg : g = w.heap.size) (hb : base ≤ w.heap.size) : (w.alloc (.cells #[] 3)).ownsRow base 3 1 (.slice (some ⟨g, 0, none⟩) 0 0) 0 (([] : List Int).map (fun x => Value.int .i64 x)) := by
  subst hg
  exact World.ownsRow_lit w #[] 0 hb (Nat.zero_le _) rfl

theorem Ints.grown {w w' : World} {g n : Nat} {xs : List Int} {row : Option Nat} (h : Ints w (some ⟨g, 0, Option.none⟩) n xs) (hg : w.grownBy w' row) (hr : row ≠ some g) : Ints w' (some ⟨g, 0, Option.none⟩) n xs := by
  obtain ⟨h1, h2, h3⟩ := h
  refine ⟨h1, h2, ?_⟩
  rcases h3 with h3 | ⟨b, off, ha, hlt, hc⟩
  · exact Or.inl h3
  · simp at ha
    obtain ⟨rfl, rfl⟩ := ha
    refine Or.inr ⟨g, 0, rfl, Nat.lt_of_lt_of_le hlt hg.size, fun i hi => ?_⟩
    rw [World.cell?_of_block (w := w) (hg.block g hlt (fun e => hr e.symm))]
    exact hc i hi

theorem needE_snoc {d : NetD} {l : List Int} {g : Nat} (h : needE d l = 0) (hg : g < d.gates.length) : needE d (l ++ [(g : Int)]) = 0 := by
  obtain ⟨h1, h2⟩ := needE_check h
  unfold needE
  rw [if_pos h1]
  have : inB d (l ++ [(g : Int)]) = true := by
    unfold inB inTo at h2 ⊢
    rw [List.take_length] at h2 ⊢
    rw [List.all_append, h2]
    simp [isB]; omega
  rw [this]; rfl
theorem needE_one {d : NetD} {l : List Int} {g : Nat} (h : needE d l = 0) (hg : g < d.gates.length) : needE d [(g : Int)] = 0 := by
  obtain ⟨h1, h2⟩ := needE_check h
  unfold needE
  rw [if_pos h1]
  have : inB d [(g : Int)] = true := by
    unfold inB inTo
    rw [List.take_length]
    simp [isB]; omega
  rw [this]; rfl

/-- The worlds in which all that lay in w0 lies as it did. -/
def Fam (w0 : World) : Type := { W : World // Below w0.heap.size w0 W }
def fam {w0 : World} (n : Fam w0) : World := n.1
theorem fam_cell {w0 : World} {p : Addr} {v : Value} (hp : p.block < w0.heap.size) (h : w0.cell? p = some v) (n : Fam w0) : (fam n).cell? p = some v := (n.2.cell hp).trans h

/-- A region that draws its order, each of whose operations yields one value in all those worlds and stays among them: one walk of the text's order. -/
theorem region_fam {P : Program} {id : Nat} {Q : Exit → Act → World → Prop} {a : Act} {w : World} {l : List Oper} (hm : P.follows .mixedOrders = true) (hB : Region.lexB .any l.toArray = true)
    (h : wpQuiet P l.toArray (fun W => ∃ n : Fam w, W = fam n) (fun a' => ∀ W, (∃ n : Fam w, W = fam n) → Q .normal a' W) l a) : (Code.region id l.toArray true).wp P Q a w :=
  wp_region_quiet (C := fun W => ∃ n : Fam w, W = fam n) hm hB ⟨⟨w.drew, (Below.refl _ _).drew⟩, rfl⟩ (by simpa using h)

theorem netBegun_fam {w0 : World} (n : Fam w0) : Calls Try.prog 23 #[] (fam n) fun e w'' => e = .returned (.bool true) ∧ ∃ m : Fam w0, w'' = fam m :=
  (netBegun_any (fam n)).mono fun _ w9 ⟨he, hb⟩ => ⟨he, ⟨w9, bstep n.2 hb⟩, rfl⟩
theorem SameBools_fam {w0 : World} (n : Fam w0) {xs ys : List Bool} {a a' : Option Addr} {k cap k' cap' : Nat} (h : Bools w0 a k xs) (h' : Bools w0 a' k' ys) (he : decide (xs = ys) = true) :
    Calls Try.prog 29 #[.slice a k cap, .slice a' k' cap'] (fam n) fun e w'' => e = .returned (.bool true) ∧ ∃ m : Fam w0, w'' = fam m :=
  (SameBools_any xs ys a a' k cap k' cap' (fam n) (h.below n.2) (h'.below n.2)).mono fun _ w9 ⟨h1, hb⟩ => ⟨by rw [h1, he], ⟨w9, bstep n.2 hb⟩, rfl⟩

set_option maxRecDepth 100000 in
set_option maxHeartbeats 4000000 in
theorem NetTrue_any (d : NetD) (ins : Int) (ga ra oa : Option Addr) (gn gc rn rc on oc : Nat) (w : World) (h : NetAt w d ins ga gn ra rn oa on) (l : List Int) (la : Option Addr) (ln lc : Nat) (hl : Ints w la ln l) (k i : Int) (hk : (Lit.int .i64 k).wf = true) (hi : (Lit.int .i64 i).wf = true) (hreach : ln * 8 ≤ 140737488351232) (hcap : la = none → lc = 0) :
    Calls Try.prog 8 #[.agg #[.int .i64 ins, .slice ga gn gc, .slice ra rn rc, .slice oa on oc], .slice la ln lc, .int .i64 k, .int .i64 i] w fun e w' => e = .returned (.bool true) ∧ Below w.heap.size w w' := by
  have hb0 : Below w.heap.size w (w.alloc (.cells #[.int .i64 ins, .slice ga gn gc, .slice ra rn rc, .slice oa on oc] 37)) := (Below.refl _ _).alloc (Nat.le_refl _) _
  have hbox : Boxed (w.alloc (.cells #[.int .i64 ins, .slice ga gn gc, .slice ra rn rc, .slice oa on oc] 37)) w.heap.size ins ga gn gc ra rn rc oa on oc := Boxed.new _ _ _ _ _ _ _ _ _ _ _ _
  have hN := h.below hb0
  have hl0 := hl.below hb0
  have HG : Hid (d.gates.length = gn) := h.gates.1.symm
  clear h hl
  go_enter Try.func8, Try.ntmps8
  go_wp2_with fail
  refine (Needs_any d _ _ _ _ _ _ _ _ _ _ _ hN l _ _ _ hl0).mono ?_
  rintro e w1 ⟨xa, xn, xc, xs, rfl, hxs, hans, hb⟩
  have B1 := bstep hb0 hb
  have hN1 := hN.below hb
  have hx1 := hbox.below hb
  have hl1 := hl0.below hb
  clear hb hb0 hN hbox hl0
  by_cases e0 : needE d l = 0
  case neg =>
    have hne : (needE d l != 0) = true := by simp [e0]
    clear e0
    go_wp2_with fail
    refine (netBegun_any _).mono ?_
    rintro e w2 ⟨rfl, hb⟩
    go_wp2_with fail
    go_ret
    exact ⟨rfl, bstep B1 hb⟩
  have HE : Hid (needE d l = 0) := e0
  have HM := hide (hans.1 e0)
  have hgn : gn ≤ 200 := by have := (counts_gates (check_ok (needE_check e0).1).1).2.1; have := HG.out; omega
  rw [HE.out]
  clear e0 hans
  by_cases hz : gn = 0
  · subst hz
    obtain ⟨x0, x1, x2, x3, x4⟩ := hx1
    go_wp2_with fail
    refine (netBegun_any _).mono ?_
    rintro e w2 ⟨rfl, hb⟩
    go_wp2_with fail
    go_ret
    exact ⟨rfl, bstep B1 hb⟩
  have hxn : xn = gn := by have h1 := hxs.1; have h2 := (unhide HM).1; have := HG.out; omega
  subst hxn
  have hp : 0 < xn := by omega
  have hq : ((xn : Int) == 0) = false := by simp only [beq_eq_false_iff_ne, ne_eq]; omega
  clear hz
  have hxx := hx1
  obtain ⟨x0, x1, x2, x3, x4⟩ := hxx
  go_wp2_with fail
  refine (choose_any k xn _ hp hgn hk).mono ?_
  rintro e w' ⟨rfl, rfl⟩
  have hgl := chosen_lt k xn hp
  generalize hgg : chosen k xn = g at hgl
  clear hgg
  have HG' : Hid (d.gates.length = xn) := HG
  have hgd : g < d.gates.length := by have := HG.out; omega
  have hgx : g < xs.length := by have := hxs.1; omega
  obtain ⟨bg, og, aa, ac, rfl, hbg, d1, d2, d3, hI⟩ := hN1.gates.at hgd
  obtain ⟨bx, ox, rfl, hbx, c5⟩ := hxs.at hgx
  have hal : d.gates[g].args.length ≤ maxLen := hI.2.1
  unfold maxLen at hal
  have hgi : (g : Int) < (xn : Int) := by omega
  have HAR := hide (fun j hj => args_in (check_ok (needE_check HE.out).1).2.1 j hj)
  clear d1 d2
  go_upto_block 0 with fail
  go_cut [12] (fun _ wx => wx = w')
  case first =>
    go_wp2_with fail
    go_loop [12] (fun i => ∃ j : Nat, j ≤ d.gates[g].args.length ∧ i = .int .i64 j) (fun i => d.gates[g].args.length - (intOf i).toNat)
    case atStart => exact ⟨0, Nat.zero_le _, rfl⟩
    case round =>
      obtain ⟨j, hj, rfl⟩ := hrel
      by_cases hc : j < d.gates[g].args.length ∧ xs[g] = true
      · obtain ⟨hj2, hxg⟩ := hc
        obtain ⟨ba, oa', rfl, hba, c6⟩ := hI.at hj2
        have hx := unhide HAR g hgd d.gates[g].args[j] (List.getElem_mem hj2)
        obtain ⟨n, hn⟩ := Int.eq_ofNat_of_zero_le hx.1
        have hnl : n < d.gates.length := by have := hx.2; rw [hn] at this; simpa using this
        have hnx : n < xs.length := by have := (unhide HM).1; omega
        have hmk : xs[n] = true := by
          have hng : Need d.gates l g := ((unhide HM).2 g hgd).1 (by simpa [List.getD_eq_getElem?_getD, hgx] using hxg)
          have hnn := Need.arg hgd hng (List.getElem_mem hj2)
          rw [hn] at hnn
          have := ((unhide HM).2 n hnl).2 (by simpa using hnn)
          simpa [List.getD_eq_getElem?_getD, hnx] using this
        obtain ⟨bx2, ox2, he2, _, c7⟩ := hxs.at hnx
        simp only [Option.some.injEq, Addr.mk.injEq, and_true] at he2
        obtain ⟨rfl, rfl⟩ := he2
        rw [hn] at c6
        rw [hmk] at c7
        rw [hxg] at c5
        have hni : (n : Int) < (xn : Int) := by have := HG'.out; omega
        clear hx hn hmk hxg
        go_wp2_with fail
        exact ⟨⟨j + 1, by omega, by go_num⟩, by simp [intOf]; omega⟩
      have hex : d.gates[g].args.length ≤ j ∨ (j < d.gates[g].args.length ∧ xs[g] = false) := by
        by_cases h1 : j < d.gates[g].args.length
        · right; refine ⟨h1, ?_⟩
          cases h2 : xs[g]
          · rfl
          · exact absurd ⟨h1, h2⟩ hc
        · left; omega
      clear hc
      rcases hex with hex | ⟨hex, hxg⟩
      case' inr => rw [hxg] at c5; clear hxg
      all_goals
        go_wp2_with fail
        go_meet
        exact rfl
  case rest =>
    subst hcut
    have hI2 : ∀ W : World, Below wc.heap.size wc W → Ints W la ln l := fun W hW => hl1.below hW
    have hB2 : ∀ W : World, Below wc.heap.size wc W → Boxed W w.heap.size ins (some ⟨bg, og, none⟩) xn gc ra rn rc oa on oc := fun W hW => hx1.below hW
    have HI2 := hide hI2
    have HB2 := hide hB2
    have HC := hide hcap
    clear hI2 hB2 hcap d3 c5
    go_upto_region 12 with fail
    go_cut [13, 14] (fun y f wx => ∃ ya yn yc ys, y = .slice ya yn yc ∧ f = .int .i64 (needE d (l ++ [(g : Int)])) ∧ Bools wx ya yn ys ∧ NeedsAns d (l ++ [(g : Int)]) ys ∧ Below wc.heap.size wc wx)
    case first =>
      go_region_law (first
        | (refine step_append_ints rfl _ _ rfl wc.heap.size _ _ _ rfl (by first | exact hA | exact hA.alloc _) [(g : Int)] _ _ _ rfl (by simp) (by
             first
               | (refine Ints.new' _ _ _ _ _ [(g : Int)] ?_ rfl rfl (lt_maxLen _ (by simp)); (first | rfl | (simp; done)))
               | (refine Ints.grown ?_ hgA ?_
                  · refine Ints.below (w := World.alloc _ (.cells #[.int .i64 (g : Int)] 3)) ?_ ((Below.refl _ _).drew)
                    refine Ints.new' _ _ _ _ _ [(g : Int)] ?_ rfl rfl (lt_maxLen _ (by simp)); (first | rfl | (simp; done))
                  · simp [Value.ownBlock])
               | (refine Ints.grown ?_ hgA ?_
                  · refine Ints.below (w := World.alloc _ (.cells #[.int .i64 (g : Int)] 3)) ?_ (((Below.refl _ _).alloc (Nat.le_refl _) _).drew)
                    refine Ints.new' _ _ _ _ _ [(g : Int)] ?_ rfl rfl (lt_maxLen _ (by simp)); (first | rfl | (simp; done))
                  · simp [Value.ownBlock])) (by omega) (by have := bA.size; (try simp); omega) ?_
           intro vB wB hB hgB bB
           have bC : Below wc.heap.size wc wB := Below.trans (by first | exact bA | exact bA.alloc bA.size _) bB
           obtain ⟨y0, y1, y2, y3, y4⟩ := unhide HB2 wB bC)
        | (refine step_append_ints rfl _ _ rfl wc.heap.size (.slice (some ⟨_, 0, none⟩) 0 0) 0 [] rfl (by
             first
               | (refine own_empty _ _ _ ?_ ?_ <;> (first | rfl | (simp; done)))
               | (refine World.ownsRow.alloc ?_ _; refine own_empty _ _ _ ?_ ?_ <;> (first | rfl | (simp; done)))) l la ln lc rfl (unhide HC) (unhide HI2 _ (by repeat (first | exact Below.refl _ _ | apply Below.drew | refine Below.alloc ?_ (by first | (simp; done) | (simp; omega)) _))) (by omega) (by first | (simp; done) | (simp; omega)) ?_
           intro vA wA hA hgA bA0
           rw [Nat.zero_add, List.nil_append] at hA
           have bA : Below wc.heap.size wc wA := Below.trans (by repeat (first | exact Below.refl _ _ | apply Below.drew | refine Below.alloc ?_ (by first | (simp; done) | (simp; omega)) _)) bA0
           obtain ⟨y0, y1, y2, y3, y4⟩ := unhide HB2 wA bA)
        | (obtain ⟨a9, c9, rfl, hI9⟩ := own_ints hB (by unfold maxLen; omega)
           rw [if_pos (by simp [Region.wanted])]
           go_simp
           refine (Needs_any d _ _ _ _ _ _ _ _ _ _ _ (hN1.below bC) (l ++ [(g : Int)]) _ _ _ hI9).mono ?_
           rintro e w9 ⟨ya, yn, yc, ys, rfl, hys9, hans9, hb9⟩
           have bD : Below wc.heap.size wc w9 := bstep bC hb9))
      all_goals
        go_wp2_with fail
        go_meet
        exact ⟨_, _, _, _, rfl, rfl, hys9, hans9, bD⟩
    case rest =>
      obtain ⟨ya, yn, yc, ys, rfl, rfl, hys, hansy, hbw⟩ := hcut
      have HY0 : Hid (needE d (l ++ [(g : Int)]) = 0) := needE_snoc HE.out hgd
      have HZ0 : Hid (needE d [(g : Int)] = 0) := needE_one HE.out hgd
      have HMY := hide (hansy.1 HY0.out)
      rw [HY0.out]
      have hN2 := hN1.below hbw
      have hx2 := hx1.below hbw
      have hxs2 := hxs.below hbw
      have B2 := bstep B1 hbw
      clear hansy hbw hN1 hx1 hxs B1 hI hl1 HI2 HB2
      obtain ⟨x0, x1, x2, x3, x4⟩ := hx2
      go_wp2_with fail
      clear x0 x1 x2 x3 x4
      refine (Needs_any d _ _ _ _ _ _ _ _ _ _ _ (by exact hN2.below ((Below.refl _ _).alloc (Nat.le_refl _) _)) [(g : Int)] _ _ _ (by exact Ints.new _ _ _ _ [(g : Int)] rfl rfl (lt_maxLen _ (by simp)))).mono ?_
      rintro e w3 ⟨za, zn, zc, zs, rfl, hzs, hansz, hb⟩
      have HMZ := hide (hansz.1 HZ0.out)
      rw [HZ0.out]
      have B3 := bstep1 B2 hb
      have hys3 := (hys.below ((Below.refl _ _).alloc (Nat.le_refl _) _)).below hb
      have hxs3 := (hxs2.below ((Below.refl _ _).alloc (Nat.le_refl _) _)).below hb
      have hyn : yn = xn := by have h1 := hys.1; have h2 := (unhide HMY).1; have := HG.out; omega
      have hzn : zn = xn := by have h1 := hzs.1; have h2 := (unhide HMZ).1; have := HG.out; omega
      clear hansz hb B2 hys hxs2 hN2
      subst hyn hzn
      go_wp2_with fail
      refine (choose_any i _ _ hp hgn hi).mono ?_
      rintro e w' ⟨rfl, rfl⟩
      have hjl := chosen_lt i _ hp
      generalize hjj : chosen i zn = j at hjl
      clear hjj
      go_upto_region 17 with fail
      have hjx : j < xs.length := by have := hxs3.1; omega
      have hjy : j < ys.length := by have := hys3.1; omega
      have hjz : j < zs.length := by have := hzs.1; omega
      have hjd : j < d.gates.length := by have := HG.out; omega
      have hgx : g < xs.length := by have := hxs3.1; omega
      have hji : (j : Int) < (zn : Int) := by omega
      have HOR : Hid (ys[j] = (xs[j] || zs[j])) := by
        have m1 := (unhide HM).2 j hjd
        have m2 := (unhide HMY).2 j hjd
        have m3 := (unhide HMZ).2 j hjd
        simp only [List.getD_eq_getElem?_getD, List.getElem?_eq_getElem hjx, List.getElem?_eq_getElem hjy, List.getElem?_eq_getElem hjz, Option.getD_some] at m1 m2 m3
        unfold Hid
        rw [Bool.eq_iff_iff, Bool.or_eq_true, m1, m2, m3]
        exact Need.append
      have HSAME : Hid (xs[g] = true → decide (xs = ys) = true) := by
        intro e
        have m1 := (unhide HM).2 g hgd
        simp only [List.getD_eq_getElem?_getD, List.getElem?_eq_getElem hgx, Option.getD_some] at m1
        have hng := m1.1 e
        have hm : Marks d.gates l ys := by
          refine ⟨(unhide HMY).1, fun k hk => ((unhide HMY).2 k hk).trans ?_⟩
          rw [Need.append]
          constructor
          · rintro (h | h)
            · exact h
            · exact h.trans (fun x hx => by simp at hx; subst hx; simpa using hng)
          · exact Or.inl
        exact decide_eq_true ((unhide HM).same hm)
      obtain ⟨bx2, ox2, he2, l1, c1⟩ := hxs3.at hjx
      simp only [Option.some.injEq, Addr.mk.injEq, and_true] at he2
      obtain ⟨rfl, rfl⟩ := he2
      obtain ⟨bx3, ox3, he3, _, c4⟩ := hxs3.at hgx
      simp only [Option.some.injEq, Addr.mk.injEq, and_true] at he3
      obtain ⟨rfl, rfl⟩ := he3
      obtain ⟨bY, oY, rfl, l2, c2⟩ := hys3.at hjy
      obtain ⟨bZ, oZ, rfl, l3, c3⟩ := hzs.at hjz
      have HX := hide hxs3
      have HY := hide hys3
      clear hxs3 hys3 hzs HMY HMZ HM HY0 HZ0
      cases ex : xs[j] <;> cases ez : zs[j] <;> cases eg : xs[g]
      all_goals
        rw [ex] at c1
        rw [ez] at c3
        rw [eg] at c4
        have HO := HOR.out
        rw [ex, ez] at HO
        rw [HO] at c2
        clear HO
        try (rw [Bool.or_self] at c2)
        try (rw [Bool.or_true] at c2)
        try (rw [Bool.or_false] at c2)
        have HSM : Hid (xs[g] = true → decide (xs = ys) = true) := HSAME
        rw [eg] at HSM
        have z1 := fam_cell l1 c1
        have z2 := fam_cell l2 c2
        have z3 := fam_cell l3 c3
        have z4 := fam_cell (p := ⟨bx, ox + g, none⟩) l1 c4
        clear ex ez eg HOR HSAME c1 c2 c3 c4
        have ne : Nonempty (Fam w') := ⟨⟨w', Below.refl _ _⟩⟩
        refine region_fam (by kernel_rfl) (by kernel_rfl) ?_
        repeat (go_big_quiet_step (first
          | (go_at_call 23; exact netBegun_fam _)
          | (go_at_call 29; exact SameBools_fam _ (unhide HX) (unhide HY) (HSM.out rfl))))
        refine wpQuiet_nil ?_
        intro W hW
        obtain ⟨n, hn⟩ := hW
        subst hn
        clear z1 z2 z3 z4
        have B9 : Below w.heap.size w (fam n) := bstep B3 n.2
        go_wp2_with fail
        go_ret
        exact ⟨rfl, B9⟩
end Go.Proofs.Ytongajonecgdpaa
