/- The statement LevelTrue. -/
import Derived.Test.YtongajonecgdpadLevelV
namespace Go.Proofs.Ytongajonecgdpad
open Go.RowKit

theorem lvl_ok' {d : NetD} {r i : List Int} (h : lvlE d r i = 0) : stepE d r i = 0 ∧ orderE d = 0 := by
  unfold lvlE at h
  by_cases e : stepE d r i = 0
  · rw [if_pos e] at h; exact ⟨e, h⟩
  · rw [if_neg e] at h; exact absurd h e
/-- Is one of the first k open? -/
def opT (xs : List Int) (k : Nat) : Bool := (xs.take k).any (fun x => x == 2)
theorem opT_succ (xs : List Int) (k : Nat) (h : k < xs.length) : opT xs (k + 1) = (opT xs k || xs[k] == 2) := by
  unfold opT; rw [List.take_succ_eq_append_getElem h, List.any_append]; simp
theorem opT_no {xs : List Int} {k : Nat} (hk : xs.length ≤ k) (h : opT xs k = false) : ∀ x ∈ xs, x ≠ 2 := by
  unfold opT at h
  rw [List.take_of_length_le hk] at h
  intro x hx e
  rw [Bool.eq_false_iff] at h
  exact h (List.any_eq_true.2 ⟨x, hx, by simp [e]⟩)

set_option maxRecDepth 100000 in
set_option maxHeartbeats 4000000 in
theorem LevelTrue_any (d : NetD) (ins0 : Int) (ga ra oa : Option Addr) (gn gc rn rc on oc : Nat) (w : World) (h : NetAt w d ins0 ga gn ra rn oa on) (regs ins : List Int) (qa ia : Option Addr) (qn qc inn ic : Nat) (hr : Ints w qa qn regs) (hi : Ints w ia inn ins) :
    Calls Try.prog 8 #[.agg #[.int .i64 ins0, .slice ga gn gc, .slice ra rn rc, .slice oa on oc], .slice qa qn qc, .slice ia inn ic] w fun e w' => e = .returned (.bool true) ∧ Below w.heap.size w w' := by
  have hb0 : Below w.heap.size w (w.alloc (.cells #[.int .i64 ins0, .slice ga gn gc, .slice ra rn rc, .slice oa on oc] 26)) := (Below.refl _ _).alloc (Nat.le_refl _) _
  have hbox : Boxed (w.alloc (.cells #[.int .i64 ins0, .slice ga gn gc, .slice ra rn rc, .slice oa on oc] 26)) w.heap.size ins0 ga gn gc ra rn rc oa on oc := Boxed.new _ _ _ _ _ _ _ _ _ _ _ _
  have hN := h.below hb0
  have hr0 := hr.below hb0
  have hi0 := hi.below hb0
  have hqm : qn ≤ maxLen := by rw [hr.1]; exact hr.2.1
  have him : inn ≤ maxLen := by rw [hi.1]; exact hi.2.1
  unfold maxLen at hqm him
  clear h hr hi
  obtain ⟨i0, hib, hz0, hz1, hz2⟩ := info_parts Try.infoBool
  go_enter Try.func8, Try.ntmps8
  go_wp2_with fail
  refine (Order_any d _ _ _ _ _ _ _ _ _ _ _ hN).mono ?_
  rintro e w1 ⟨a1, n1, c1, rfl, hA1, hb⟩
  have B1 := bstep hb0 hb
  have hN1 := hN.below hb
  have hr1 := hr0.below hb
  have hi1 := hi0.below hb
  have hx1 := hbox.below hb
  clear hb hb0 hN hbox hr0 hi0
  by_cases e0 : orderE d = 0
  · obtain ⟨hck, hho⟩ := orderE_ok e0
    have hol : orderL d = (ordTo d d.gates.length).map (fun (k : Nat) => (k : Int)) := by unfold orderL; rw [if_pos e0]
    have hlen : (ordTo d d.gates.length).length = d.gates.length := by unfold hasOrd at hho; simpa using hho
    rw [hol] at hA1
    rw [e0]
    obtain ⟨o, ho⟩ : ∃ o, ordTo d d.gates.length = o := ⟨_, rfl⟩
    have hO : Ord d o := by rw [← ho]; exact ord_to d _
    rw [ho] at hA1 hlen
    have HG : Hid (d.gates.length = gn) := hN1.gates.1.symm
    have hn1 : n1 = gn := by have h1 := hA1.1; have := HG.out; simp at h1; omega
    subst hn1
    have hgn : n1 ≤ 200 := by have := (counts_gates (check_ok hck).1).2.1; have := HG.out; omega
    have HOL : Hid (o.length = n1) := by have := HG.out; unfold Hid; omega
    have HO := hide hO
    have HCK := hide hck
    have HHO := hide hho
    have HRT : Hid (∀ k (hk : k < d.gates.length), Right d.gates[k] d.regs.length d.ins.toNat d.gates.length) := fun k hk => right_of hck k hk
    clear e0 hck hho hol hlen hO ho
    have hx1' := hx1
    obtain ⟨x0, x1, x2, x3, x4⟩ := hx1'
    go_wp2_with (at_make; refine wpList_make_full _ rfl _ _ 45 rfl w1.heap.size 4 i0 (.bool false) 1 Try.underlying45 hib hz0 hz1 .i64 .i64 (n1 : Int) (n1 : Int) n1 rfl rfl rfl rfl ?c1 ?c2 ?c3 ?_)
    case c1 => rw [hz2]; omega
    case c2 => unfold maxLen; omega
    case c3 => exact Nat.le_refl _
    intro w2 hown hgrow
    have hb2 : Below w1.heap.size w1 w2 := (Below.refl _ _).grown hgrow (Nat.le_refl _) (fun k hk => by simp at hk)
    have hrow0 := made_row hown
    clear hown hgrow hib hz0 hz1 hz2 x0 x1 x2 x3 x4
    go_wp2_with fail
    go_loopw [10] (fun i' wr => ∃ k : Nat, k ≤ n1 ∧ i' = .int .i64 k ∧ BoolRow wr w1.heap.size (doneL (o.take k) n1) ∧ Below w1.heap.size w1 wr) (fun i' _ => n1 - (intOf i').toNat)
    case atStart => exact ⟨0, Nat.zero_le _, rfl, by rw [List.take_zero, doneL_nil]; exact hrow0, hb2⟩
    case round =>
      clear hrow0 hb2
      obtain ⟨k, hk, rfl, hrow, hbel⟩ := hrel
      by_cases hlt : k < n1
      · have hki : (k : Int) < (n1 : Int) := by omega
        have hko : k < o.length := by have := HOL.out; omega
        have hkm : k < (o.map (fun (k : Nat) => (k : Int))).length := by simpa using hko
        obtain ⟨bl, ol, rfl, hbl, cl⟩ := (hA1.below hbel).at hkm
        have hval : (o.map (fun (k : Nat) => (k : Int)))[k] = (o[k] : Int) := by simp
        rw [hval] at cl
        have hq := (unhide HO).lt o[k] (List.getElem_mem hko)
        have hnd : o[k] ∉ o.take k := by
          intro hm
          obtain ⟨j, hj, hje⟩ := List.getElem_of_mem hm
          have hjk : j < k := by simp at hj; omega
          rw [List.getElem_take] at hje
          exact (List.pairwise_iff_getElem.1 (unhide HO).nodup) j k (by omega) hko hjk hje
        have HAR := hide ((unhide HO).args k hko)
        have HTK := hide (show o.take (k + 1) = o.take k ++ [o[k]] from List.take_succ_eq_append_getElem hko)
        generalize o[k] = q at *
        have hqn : q < n1 := by have := HG.out; omega
        have hqi : (q : Int) < (n1 : Int) := by omega
        have hq0 : ¬ (q : Int) < 0 := by omega
        have hq1 : ¬ (n1 : Int) ≤ (q : Int) := by omega
        have d1 := hrow.cell q (by rw [doneL_len]; exact hqn)
        rw [doneL_get _ hqn, decide_eq_false hnd] at d1
        have hgl := hrow.lt
        obtain ⟨bg, og, aa, an, ac, rfl, hbg, g1, g2, g3, hI⟩ := (hN1.gates.below hbel).at' hq
        have hxr := hx1.below hbel
        have hgd : d.gates.getD q ⟨0, 0, []⟩ = d.gates[q] := by simp [List.getD_eq_getElem?_getD, hq]
        have HAR2 := hide (show ∀ x ∈ d.gates[q].args, x.toNat ∈ o.take k by have := unhide HAR; rw [hgd] at this; exact this)
        have HR := hide (unhide HRT q hq)
        have HAN := hide hI.1
        have hfew : an ≤ 16 := by have h1 := hI.1; have h2 := (unhide HR).few; omega
        have hS : ∀ W, Below wr.heap.size wr W → (Below wr.heap.size wr W ∧ W.cell? ⟨w.heap.size, 1, none⟩ = some (.slice (some ⟨bg, og, none⟩) n1 gc) ∧ W.cell? ⟨bl, ol + k, none⟩ = some (.int .i64 (q : Int)) ∧ W.cell? ⟨bg, og + q * 3, none⟩ = some (.int .i64 d.gates[q].kind) ∧ W.cell? ⟨bg, og + q * 3 + 1, none⟩ = some (.int .i64 d.gates[q].n) ∧ W.cell? ⟨bg, og + q * 3 + 2, none⟩ = some (.slice aa an ac)) := fun W hW => by
          obtain ⟨_, _, y2, _, _⟩ := hxr.below hW
          exact ⟨hW, y2, (hW.cell (p := ⟨bl, ol + k, none⟩) hbl).trans cl, (hW.cell (p := ⟨bg, og + q * 3, none⟩) hbg).trans g1, (hW.cell (p := ⟨bg, og + q * 3 + 1, none⟩) hbg).trans g2, (hW.cell (p := ⟨bg, og + q * 3 + 2, none⟩) hbg).trans g3⟩
        have hbd := (Below.refl wr.heap.size wr).drew
        clear hnd hgd hkm hval HAR
        go_wp2_with fail
        go_region_held3 (fun W => Below wr.heap.size wr W ∧ W.cell? ⟨w.heap.size, 1, none⟩ = some (.slice (some ⟨bg, og, none⟩) n1 gc) ∧ W.cell? ⟨bl, ol + k, none⟩ = some (.int .i64 (q : Int)) ∧ W.cell? ⟨bg, og + q * 3, none⟩ = some (.int .i64 d.gates[q].kind) ∧ W.cell? ⟨bg, og + q * 3 + 1, none⟩ = some (.int .i64 d.gates[q].n) ∧ W.cell? ⟨bg, og + q * 3 + 2, none⟩ = some (.slice aa an ac))
          ((first | exact hS _ hbd | exact hS _ (hbd.alloc (Nat.le_refl _) _)))
          (fail)
        have hW : Below wr.heap.size wr (wr.alloc (.cells #[.int .i64 d.gates[q].kind, .int .i64 d.gates[q].n, .slice aa an ac] 47)).drew := ((Below.refl wr.heap.size wr).alloc (Nat.le_refl _) (.cells #[.int .i64 d.gates[q].kind, .int .i64 d.gates[q].n, .slice aa an ac] 47)).drew
        have gb' : GBox (wr.alloc (.cells #[.int .i64 d.gates[q].kind, .int .i64 d.gates[q].n, .slice aa an ac] 47)).drew wr.heap.size d.gates[q].kind d.gates[q].n aa an ac := GBox.new wr d.gates[q].kind d.gates[q].n aa an ac 47
        generalize (wr.alloc (.cells #[.int .i64 d.gates[q].kind, .int .i64 d.gates[q].n, .slice aa an ac] 47)).drew = W5 at *
        have rowW := hrow.below hW hgl
        have clW := (hW.cell (p := ⟨bl, ol + k, none⟩) hbl).trans cl
        have hIW := hI.below hW
        have dW := (hW.cell (p := ⟨w1.heap.size, q, none⟩) hgl).trans d1
        have fW := rowW.frozen q
        obtain ⟨y0, y1, y2, y3⟩ := gb'
        have hBW := bstep hbel hW
        clear hS hbd hW hrow cl hI d1 g1 g2 g3 hxr hbel
        go_wp2_with fail
        go_loopw [12] (fun i' wz => ∃ j : Nat, j ≤ an ∧ i' = .int .i64 j ∧ wz = W5) (fun i' _ => an - (intOf i').toNat)
        case atStart => exact ⟨0, Nat.zero_le _, rfl, by first | rfl | trivial⟩
        case round =>
          obtain ⟨j, hjl, rfl, rfl⟩ := hrel
          by_cases hj2 : j < an
          · have hji : (j : Int) < (an : Int) := by omega
            have hja : j < d.gates[q].args.length := by have := unhide HAN; omega
            obtain ⟨b2, o2, rfl, hb2', ca⟩ := hIW.at hja
            have hxr := (unhide HR).args d.gates[q].args[j] (List.getElem_mem hja)
            have hin := (unhide HAR2) d.gates[q].args[j] (List.getElem_mem hja)
            obtain ⟨n2, hn2⟩ := Int.eq_ofNat_of_zero_le hxr.1
            rw [hn2] at hin
            have hin' : n2 ∈ o.take k := by simpa using hin
            have hn2l : n2 < n1 := by have h1 := hxr.2; rw [hn2] at h1; simp at h1; have := HG.out; omega
            have hn2i : (n2 : Int) < (n1 : Int) := by omega
            have d3 := rowW.cell n2 (by rw [doneL_len]; exact hn2l)
            rw [doneL_get _ hn2l, decide_eq_true hin'] at d3
            rw [hn2] at ca
            clear hxr hin hin' hn2
            go_wp2_with fail
            exact ⟨⟨j + 1, by omega, by go_num, by first | rfl | trivial⟩, by simp [intOf]; omega⟩
          · have R1 := rowW.set q true
            rw [doneL_set, ← unhide HTK] at R1
            have R2 : Below w1.heap.size w1 _ := hBW.setCell (p := ⟨w1.heap.size, q, none⟩) (Nat.le_refl _) (.bool true)
            have R := hide (And.intro R1 R2)
            clear R1 R2 hIW rowW
            go_wp2_with fail
            exact ⟨⟨k + 1, by omega, by go_num, (unhide R).1, (unhide R).2⟩, by simp [intOf]; omega⟩
      · clear hrow
        have hN3 := hN1.below hbel
        have hr3 := hr1.below hbel
        have hi3 := hi1.below hbel
        have hx3 := hx1.below hbel
        have B3 := bstep B1 hbel
        clear hN1 hr1 hi1 hx1 B1 hbel
        obtain ⟨x0, x1, x2, x3, x4⟩ := hx3
        go_wp2_with fail
        clear x0 x1 x2 x3 x4
        refine (LStep_any d _ _ _ _ _ _ _ _ _ _ _ hN3 regs ins _ _ _ _ _ _ hr3 hi3).mono ?_
        rintro e w4 ⟨a4, n4, c4, rfl, hV4, hb⟩
        have B4 := bstep B3 hb
        have hr4 := hr3.below hb
        have hi4 := hi3.below hb
        clear hb B3 hN3 hr3 hi3
        by_cases e1 : lvlE d regs ins = 0
        · have hs := (lvl_ok' e1).1
          have HL := hide (show lvlL d regs ins = lfp d regs ins by unfold lvlL; rw [if_pos e1])
          rw [unhide HL] at hV4
          rw [e1]
          have HCL := hide (lfp_closed (unhide HCK) (unhide HHO) hs)
          have HVL := hide (lfp_least d regs ins).len
          clear e1 hs
          generalize lfp d regs ins = v at *
          have hn4 : n4 = n1 := by have h1 := hV4.1; have h2 := unhide HVL; have := HG.out; omega
          have HRL := hide hr4.1
          have HIL := hide hi4.1
          go_wp2_with fail
          go_loopw [15, 16] (fun f i' wz => ∃ k : Nat, k ≤ qn ∧ i' = .int .i64 k ∧ f = .bool (opT regs k) ∧ wz = w4) (fun _ i' _ => qn - (intOf i').toNat)
          case atStart => exact ⟨0, Nat.zero_le _, rfl, rfl, by first | rfl | trivial⟩
          case round =>
            obtain ⟨j, hjl, rfl, rfl, rfl⟩ := hrel
            by_cases hj2 : j < qn
            · have hji : (j : Int) < (qn : Int) := by omega
              have hja : j < regs.length := by have := unhide HRL; omega
              have HM := hide (opT_succ regs j hja)
              obtain ⟨b2, o2, rfl, hb2', ca⟩ := hr4.at hja
              cases hf : opT regs j
              · rw [hf, Bool.false_or] at HM
                clear hf
                go_wp2_with fail
                exact ⟨⟨j + 1, by omega, by go_num, by rw [unhide HM], by first | rfl | trivial⟩, by simp [intOf]; omega⟩
              · rw [hf, Bool.true_or] at HM
                clear hf
                go_wp2_with fail
                exact ⟨⟨j + 1, by omega, by go_num, by rw [unhide HM], by first | rfl | trivial⟩, by simp [intOf]; omega⟩
            · have HN0 := hide (fun hf => opT_no (xs := regs) (k := j) (by have := unhide HRL; omega) hf)
              obtain ⟨f0, hf0⟩ : ∃ f0, opT regs j = f0 := ⟨_, rfl⟩
              rw [hf0] at HN0
              rw [hf0]
              clear hf0
              go_wp2_with fail
              go_loopw [15, 17] (fun f i' wz => ∃ k : Nat, k ≤ inn ∧ i' = .int .i64 k ∧ f = .bool (f0 || opT ins k) ∧ wz = wr) (fun _ i' _ => inn - (intOf i').toNat)
              case atStart => exact ⟨0, Nat.zero_le _, rfl, by simp [opT], by first | rfl | trivial⟩
              case round =>
                obtain ⟨m, hml, rfl, rfl, rfl⟩ := hrel
                by_cases hm2 : m < inn
                · have hmi : (m : Int) < (inn : Int) := by omega
                  have hma : m < ins.length := by have := unhide HIL; omega
                  have HM := hide (opT_succ ins m hma)
                  obtain ⟨b2, o2, rfl, hb2', ca⟩ := hi4.at hma
                  cases hf : (f0 || opT ins m)
                  · have HF := hide (show (f0 || opT ins (m + 1)) = (ins[m] == 2) by rw [unhide HM, ← Bool.or_assoc, hf, Bool.false_or])
                    clear hf HM
                    go_wp2_with fail
                    exact ⟨⟨m + 1, by omega, by go_num, by rw [unhide HF], by first | rfl | trivial⟩, by simp [intOf]; omega⟩
                  · have HF := hide (show (f0 || opT ins (m + 1)) = true by rw [unhide HM, ← Bool.or_assoc, hf, Bool.true_or])
                    clear hf HM
                    go_wp2_with fail
                    exact ⟨⟨m + 1, by omega, by go_num, by rw [unhide HF], by first | rfl | trivial⟩, by simp [intOf]; omega⟩
                · have HN2 := hide (fun hf => opT_no (xs := ins) (k := m) (by have := unhide HIL; omega) hf)
                  obtain ⟨f1, hf1⟩ : ∃ f1, (f0 || opT ins m) = f1 := ⟨_, rfl⟩
                  have HNO := hide (show f1 = false → ∀ k, k < d.gates.length → v.getD k 2 ≠ 2 by
                    intro h9
                    rw [h9, Bool.or_eq_false_iff] at hf1
                    exact (unhide HCL) ((unhide HN0) hf1.1) ((unhide HN2) hf1.2))
                  rw [hf1]
                  clear hf1 HN0 HN2 HCL
                  go_wp2_with fail
                  go_loopw [18] (fun i' wz => ∃ k : Nat, k ≤ n4 ∧ i' = .int .i64 k ∧ wz = wr) (fun i' _ => n4 - (intOf i').toNat)
                  case atStart => exact ⟨0, Nat.zero_le _, rfl, by first | rfl | trivial⟩
                  case round =>
                    obtain ⟨p, hpl, rfl, rfl⟩ := hrel
                    by_cases hp2 : p < n4
                    · have hpi : (p : Int) < (n4 : Int) := by omega
                      have hpv : p < v.length := by have := hV4.1; omega
                      have hpg : p < d.gates.length := by have := unhide HVL; omega
                      obtain ⟨b2, o2, rfl, hb2', ca⟩ := hV4.at hpv
                      cases f1
                      · have h9 := (unhide HNO) rfl p hpg
                        have hget : v.getD p 2 = v[p] := by simp [List.getD_eq_getElem?_getD, hpv]
                        rw [hget] at h9
                        have hq : (v[p] == 2) = false := by simp only [beq_eq_false_iff_ne, ne_eq]; exact h9
                        clear h9 hget
                        go_wp2_with fail
                        exact ⟨⟨p + 1, by omega, by go_num, by first | rfl | trivial⟩, by simp [intOf]; omega⟩
                      · cases hq : (v[p] == 2)
                        · go_wp2_with fail
                          exact ⟨⟨p + 1, by omega, by go_num, by first | rfl | trivial⟩, by simp [intOf]; omega⟩
                        · go_wp2_with fail
                          exact ⟨⟨p + 1, by omega, by go_num, by first | rfl | trivial⟩, by simp [intOf]; omega⟩
                    · go_wp2_with fail
                      refine (levelBegun_any _).mono ?_
                      rintro e w9 ⟨rfl, hb9⟩
                      have B9 := bstep B4 hb9
                      clear hb9 B4
                      go_wp2_with fail
                      go_ret
                      exact ⟨rfl, B9⟩
        · obtain ⟨ee, hee⟩ : ∃ ee, lvlE d regs ins = ee := ⟨_, rfl⟩
          rw [hee] at e1
          rw [hee]
          have hq : (ee != 0) = true := by simp only [bne_iff_ne, ne_eq]; exact e1
          clear e1 hee hV4
          go_wp2_with fail
          refine (levelBegun_any _).mono ?_
          rintro e w9 ⟨rfl, hb9⟩
          have B9 := bstep B4 hb9
          clear hb9 B4
          go_wp2_with fail
          go_ret
          exact ⟨rfl, B9⟩
  · obtain ⟨ee, hee⟩ : ∃ ee, orderE d = ee := ⟨_, rfl⟩
    rw [hee] at e0
    rw [hee]
    have hq : (ee != 0) = true := by simp only [bne_iff_ne, ne_eq]; exact e0
    clear e0 hee hA1
    go_wp2_with fail
    refine (levelBegun_any _).mono ?_
    rintro e w9 ⟨rfl, hb9⟩
    have B9 := bstep B1 hb9
    clear hb9 B1
    go_wp2_with fail
    go_ret
    exact ⟨rfl, B9⟩
end Go.Proofs.Ytongajonecgdpad
