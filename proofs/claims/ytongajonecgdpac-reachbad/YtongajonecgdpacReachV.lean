/- The document's reach. -/
import Derived.Test.YtongajonecgdpacReachU
namespace Go.Proofs.Ytongajonecgdpac
open Go.RowKit Go.Maps

/-- What the document's reach answers. -/
def RReach (d : NetD) (w w' : World) (e : Ending) : Prop :=
  ∃ a n c a' n' c', e = .returned (.tuple #[.slice a n c, .slice a' n' c', .int .i64 (reachAll d).err]) ∧ Rows w' a n (if (reachAll d).err = 0 then (reachAll d).sts else []) ∧ Ints w' a' n' (reachAll d).way ∧ Below w.heap.size w w'
theorem heldb_of {w0 W : World} {b : Nat} {ins0 : Int} {ga ra oa : Option Addr} {gn gc rn rc on oc : Nat} {p : Addr} {x : Value} (hx : Boxed w0 b ins0 ga gn gc ra rn rc oa on oc) (hp : p.block < w0.heap.size) (hc : w0.cell? p = some x) (h : Below w0.heap.size w0 W) :
    Below w0.heap.size w0 W ∧ W.cell? ⟨b, 0, none⟩ = some (.int .i64 ins0) ∧ W.cell? ⟨b, 1, none⟩ = some (.slice ga gn gc) ∧ W.cell? ⟨b, 2, none⟩ = some (.slice ra rn rc) ∧ W.cell? ⟨b, 3, none⟩ = some (.slice oa on oc) ∧ W.cell? p = some x := heldl_of hx hp hc h
def memTo (sts : List (List Int)) (x : List Int) (j : Nat) : Bool := decide (x ∈ sts.take j)
theorem memTo_succ (sts : List (List Int)) (x : List Int) (j : Nat) (h : j < sts.length) : memTo sts x (j + 1) = (memTo sts x j || decide (sts[j] = x)) := by
  unfold memTo
  rw [List.take_succ_eq_append_getElem h, ← Bool.decide_or]
  congr 1
  rw [eq_iff_iff, List.mem_append, List.mem_singleton]
  exact ⟨fun h => h.imp id Eq.symm, fun h => h.imp id Eq.symm⟩
theorem wpList_append_run {P : Program} {w : World} {ops : Array Oper} {rest : List Oper} {o : Oper} {a : Act} {Q : Exit → Act → World → Prop} (hgd : o.guard = none) (s x : Operand) (t : TypeId)
    (ho : o.op = .call { callee := .builtin .append, args := #[s, x], argTypes := #[t, t] }) (v u : Value) (hs : a.eval s = v) (hx : a.eval x = u) {v' : Value} {w' : World} (hr : (Builtin.append_ #[t, t] o.type #[v, u]).run P w = .ok v' w')
    (h : wpList P ops Q rest (a.put o.dst v') w') : wpList P ops Q (o :: rest) a w := by
  refine wpList_plain hgd fun K hK => ?_
  unfold Oper.wp execOp
  simp only [ho, resolve, invoke, builtin, Sem.run_bind, Sem.run_pure, Result.andThen_ok, List.map_toArray, List.map_cons, List.map_nil, hs, hx, hr]
  exact hK _ _ h
theorem memTo_full (sts : List (List Int)) (x : List Int) (j : Nat) (h : sts.length ≤ j) : memTo sts x j = decide (x ∈ sts) := by
  unfold memTo; rw [List.take_of_length_le h]

set_option maxRecDepth 100000 in
set_option maxHeartbeats 4000000 in
theorem reachRef_any (d : NetD) (ins0 : Int) (ga ra oa : Option Addr) (gn gc rn rc on oc : Nat) (w : World) (h : NetAt w d ins0 ga gn ra rn oa on) (hck : checkE d = 0) :
    Calls Try.prog 38 #[.agg #[.int .i64 ins0, .slice ga gn gc, .slice ra rn rc, .slice oa on oc]] w fun e w' => RReach d w w' e := by
  have hb0 : Below w.heap.size w (w.alloc (.cells #[.int .i64 ins0, .slice ga gn gc, .slice ra rn rc, .slice oa on oc] 26)) := (Below.refl _ _).alloc (Nat.le_refl _) _
  have hbox : Boxed (w.alloc (.cells #[.int .i64 ins0, .slice ga gn gc, .slice ra rn rc, .slice oa on oc] 26)) w.heap.size ins0 ga gn gc ra rn rc oa on oc := Boxed.new _ _ _ _ _ _ _ _ _ _ _ _
  have hN := h.below hb0
  have hcs := counts_gates (check_ok hck).1
  have hge : 0 ≤ d.ins := by have := (check_ok hck).2.1; simp only [numbersB, Bool.and_eq_true, decide_eq_true_iff] at this; exact this.1.1.1
  have hii := h.ins
  have hrn : rn ≤ 20 := by have := h.regs.1; omega
  obtain ⟨i, hie⟩ := Int.eq_ofNat_of_zero_le (show 0 ≤ ins0 by omega)
  have hi3 : i ≤ 3 := by omega
  have HI := hide (show d.ins.toNat = i by omega)
  have HGE := hide hge
  have HCK := hide hck
  subst hie
  clear hcs hge hii h hck
  go_enter Try.func38, Try.ntmps38
  go_wp2_with fail
  refine (BeginOf_any d _ _ _ _ _ _ _ _ _ _ _ hN hrn).mono ?_
  rintro e w1 ⟨q0, q1, q2, rfl, hQ, hb⟩
  have B1 := bstep hb0 hb
  have hN1 := hN.below hb
  have hx1 := hbox.below hb
  have hW := RW.start w1 q0 q1 q2 (begins d) hQ
  have hb2 : Below w1.heap.size w1 ((w1.alloc (.cells #[.slice q0 q1 q2] 24)).alloc (.cells #[.slice none 0 0] 24)) := ((Below.refl _ w1).alloc (Nat.le_refl _) _).alloc (by simp) _
  clear hb hb0 hN hbox hQ
  go_wp2_with fail
  obtain ⟨i0, hi, hz0, hz1, hz2⟩ := info_parts Try.infoInt
  obtain ⟨j0, hj, hy0, hy1, hy2⟩ := info_parts Try.infoSl
  obtain ⟨P, hP⟩ : ∃ P, 2 ^ i = P := ⟨_, rfl⟩
  have hP8 : P ≤ 8 := by rw [← hP]; exact pow_small i hi3
  have HP := hide (show 2 ^ d.ins.toNat = P by rw [unhide HI]; exact hP)
  have HPI := hide (show (2 : Int) ^ i = (P : Int) by rw [← hP, Int.natCast_pow]; rfl)
  clear hP
  go_loopw [5, 6, 7] (fun v1 v2 i' wr => ∃ (k0 : Nat), k0 ≤ 64 ∧ i' = .int .i64 k0 ∧ (reachTo d k0).err = 0 ∧ RW wr w1.heap.size v1 v2 (reachTo d k0).sts (reachTo d k0).ws ∧ Below w1.heap.size w1 wr) (fun _ _ i' _ => 64 - (intOf i').toNat)
  case atStart => exact ⟨0, Nat.zero_le _, rfl, rfl, hW, hb2⟩
  case round =>
    clear hW hb2
    obtain ⟨k0, hk64, rfl, herr, hW, hbel⟩ := hrel
    have hlen := reachTo_len d k0
    by_cases hlt : k0 < (reachTo d k0).sts.length
    · obtain ⟨g, cap, sa, sn, sc, rfl, _, _, _⟩ := hW.at1 hlt
      have hki : (k0 : Int) < ((reachTo d k0).sts.length : Int) := by omega
      have HERR := hide herr
      have HW := hide hW
      have HLT := hide hlt
      clear herr hW
      go_wp2_with fail
      go_loopw [5, 6, 8] (fun v1 v2 i' wq => ∃ (x : Nat), x ≤ P ∧ i' = .int .i64 x ∧ (visitTo d k0 (reachTo d k0) x).err = 0 ∧ RW wq w1.heap.size v1 v2 (visitTo d k0 (reachTo d k0) x).sts (visitTo d k0 (reachTo d k0) x).ws ∧ Below w1.heap.size w1 wq) (fun _ _ i' _ => P - (intOf i').toNat)
      case atStart => exact ⟨0, Nat.zero_le _, rfl, unhide HERR, unhide HW, hbel⟩
      case round =>
        clear HERR HW hbel
        obtain ⟨x, hxP, rfl, herr, hW, hbel⟩ := hrel
        have hxr := hx1.below hbel
        have hxr0 := hxr
        obtain ⟨x0, x1, x2, x3, x4⟩ := hxr0
        by_cases hlx : x < P
        · have hxi : (x : Int) < (P : Int) := by omega
          obtain ⟨s, hs⟩ : ∃ s, visitTo d k0 (reachTo d k0) x = s := ⟨_, rfl⟩
          rw [hs] at herr hW
          have hkl : k0 < s.sts.length := by
            obtain ⟨t, u, e1, _, _⟩ := visitTo_more d k0 (reachTo d k0) x
            rw [← hs, e1]; simp; have := unhide HLT; omega
          have hl64 : s.sts.length ≤ 64 := by rw [← hs]; exact visitTo_len d k0 _ (reachTo_len d k0) x
          have HWL := hide (show WLen s by rw [← hs]; exact wlen_visitTo (wlen_reachTo d k0) (unhide HLT) x)
          have HNE := hide (show visitTo d k0 (reachTo d k0) (x + 1) = visit d k0 x s by rw [← hs]; rfl)
          have HBAD := hide (show (visit d k0 x s).err ≠ 0 → reachAll d = visit d k0 x s by
            rw [← hs]
            exact reach_err (unhide HLT) (by rw [unhide HP]; exact hlx))
          have hkw : k0 < s.ws.length := by rw [← (unhide HWL).1]; exact hkl
          obtain ⟨g1, cap1, sa, sn, sc, rfl, hg1, cs, hS⟩ := hW.at1 hkl
          obtain ⟨g2, cap2, ya, yn, yc, rfl, hg2, cy, hY, hyz⟩ := hW.at2 hkw
          have hkk : (k0 : Int) < (s.sts.length : Int) := by omega
          have hkk2 : (k0 : Int) < (s.ws.length : Int) := by omega
          have hwl64 : s.ws.length ≤ 64 := by have := (unhide HWL).1; omega
          have hynl : yn ≤ 64 := by
            have h1 := hY.1
            have h2 := (unhide HWL).2 k0 hkw
            omega
          obtain ⟨st, hst⟩ : ∃ st, s.sts.getD k0 [] = st := ⟨_, rfl⟩
          rw [hst] at hS
          have HST := hide hst
          clear hst
          have HER := hide herr
          have HWK := hide hW
          have HKL := hide hkl
          have HSS := hide hs
          have hsz0 := hbel.size
          clear hs herr hW hkl hkw
          -- the way: a copy, and the number behind it
          have al0 := (Below.refl wr.heap.size wr).alloc (Nat.le_refl _) (.cells #[] 3)
          obtain ⟨v1, w2, hr1, ho1, hbe1⟩ := app_ints wr.heap.size (.slice (some ⟨wr.heap.size, 0, none⟩) 0 0) 0 [] (app_empty wr wr.heap.size wr.heap.size rfl (Nat.le_refl _)) (s.ws.getD k0 []) ya yn yc hyz (hY.below al0) (by omega) (by simp)
          have hb2 : Below wr.heap.size wr w2 := (al0.mono (Nat.le_refl _)).trans hbe1
          rw [List.nil_append, Nat.zero_add] at ho1
          have hs2 := hb2.size
          go_wp2_with fail
          refine (power_any i (by omega) _).mono ?_
          rintro e w9 ⟨rfl, rfl⟩
          rw [unhide HPI]
          go_wp2_with (first | (at_builtin; refine wpList_append_run rfl _ _ 24 rfl _ _ rfl rfl hr1 ?_) | (at_builtin; refine wpList_append_own _ rfl _ _ 24 rfl w9.heap.size 3 i0 (.int .i64 0) 1 8 Try.underlying24 hi hz0 hz1 hz2 rfl (by decide) _ _ _ rfl (ho1.alloc _) ⟨w2.heap.size, 0, none⟩ 1 1 [.int .i64 (x : Int)] rfl rfl ?c1 ?c2 ?c3 ?c4 ?c5 ?_))
          case c1 =>
            intro j u hj
            match j, hj with
            | 0, hj => simp at hj; subst hj; simp [Addr.add]
          case c2 => intro u hu; simp at hu; subst hu; rfl
          case c3 => unfold maxLen; omega
          case c4 => omega
          case c5 => simp; omega
          intro v2 w3 hown2 hgrow2 _
          have hb3 : Below w9.heap.size w9 w3 := (hb2.alloc hs2 _).grown hgrow2 (by simp; omega) (fun j hj => (ho1.lt j hj).1)
          have hown3 : w3.ownsRow w9.heap.size 3 1 v2 (yn + 1) ((s.ws.getD k0 [] ++ [(x : Int)]).map (fun x => Value.int .i64 x)) := by rw [List.map_append]; exact hown2
          obtain ⟨a2, q2, rfl⟩ := own_slice hown3
          obtain ⟨a3, q3, hv3, hI3⟩ := own_ints hown3 (by unfold maxLen; omega)
          obtain ⟨rfl, _, rfl⟩ : a2 = a3 ∧ yn + 1 = yn + 1 ∧ q2 = q3 := by injection hv3 with h1 _ h3; exact ⟨h1, rfl, h3⟩
          have hY3 := OffG.fresh hI3 (own_fresh hown3) (G := [(Value.slice (some ⟨g1, 0, none⟩) s.sts.length cap1).ownBlock, (Value.slice (some ⟨g2, 0, none⟩) s.ws.length cap2).ownBlock]) (fun j hj => (unhide HWK).lt j hj)
          have hne3 := own_some hown3
          have hW3 := (unhide HWK).below hb3
          have hB3 := bstep hbel hb3
          have hN3 := hN1.below hB3
          have hS3 := hS.below hb3
          have hx3 := hxr.below hb3
          have cs3 := (hb3.cell (p := ⟨g1, k0, none⟩) hg1).trans cs
          have hg13 := Nat.lt_of_lt_of_le hg1 hb3.size
          have hi20 : i ≤ 20 := by omega
          obtain ⟨hx0, hx1'⟩ := num_facts x (by omega)
          have HW3 := hide hW3
          have HY3 := hide hY3
          have HEQ := hide (show errS d s k0 x = doE d st (bitsV x i) by unfold errS; rw [unhide HST, unhide HI])
          have HNX := hide (show nextS d s k0 x = doNext d st (bitsV x i) by unfold nextS; rw [unhide HST, unhide HI])
          have hbd := (Below.refl w3.heap.size w3).drew
          clear hown2 hgrow2 hown3 hv3 hI3 hr1 ho1 hbe1 hb2 x1 x2 x3 x4 cs cy al0 hW3 hY3 hyz HWL
          go_wp2_with fail
          go_region_held3 (fun W => Below w3.heap.size w3 W ∧ W.cell? ⟨w.heap.size, 0, none⟩ = some (.int .i64 (i : Int)) ∧ W.cell? ⟨w.heap.size, 1, none⟩ = some (.slice ga gn gc) ∧ W.cell? ⟨w.heap.size, 2, none⟩ = some (.slice ra rn rc) ∧ W.cell? ⟨w.heap.size, 3, none⟩ = some (.slice oa on oc) ∧ W.cell? ⟨g1, k0, none⟩ = some (.slice sa sn sc))
            ((first | exact heldb_of hx3 hg13 cs3 hbd | exact heldb_of hx3 hg13 cs3 hSB | exact heldb_of hx3 hg13 cs3 hSD))
            ((first
              | (go_at_call 64; refine (bits_any (x : Int) i _ hx0 hx1' hi20).mono ?_; rintro e wB ⟨aB, nB, cB, rfl, hIB, hbB⟩; have hSB := bstep hbd hbB)
              | (go_at_call 63; refine (DoOf_any d _ _ _ _ _ _ _ _ _ _ _ (hN3.below hSB) st (bitsV x i) sa aB sn sc nB cB (hS3.below hSB) hIB).mono ?_; rintro e wD ⟨uo, un, uc, na, nn, nc, rfl, hIO, hIN, hFO, hFN, hbD⟩; have hSD := bstep hSB hbD)))
          have hWD := (unhide HW3).below hSD
          have hXD := OffG.fresh hIN (hFN.down hSB.size) (G := [(Value.slice (some ⟨g1, 0, none⟩) s.sts.length cap1).ownBlock, (Value.slice (some ⟨g2, 0, none⟩) s.ws.length cap2).ownBlock]) (fun j hj => (unhide HW3).lt j hj)
          have hYD := (unhide HY3).kept (Kept.of_below hSD _) (fun _ _ h => h)
          have hBD := bstep hB3 hSD
          have HWD := hide hWD
          have HXD := hide hXD
          have HYD := hide hYD
          have HND := hide hIN
          clear hIO hIN hFO hFN hbD hbB hIB hSB hbd hWD hXD hYD hSD hx0 hx1' cs3
          by_cases he : doE d st (bitsV x i) = 0
          · have he0' : errS d s k0 x = 0 := by rw [unhide HEQ]; exact he
            have HE0 := hide he0'
            rw [he]
            clear he he0'
            generalize hnxt : doNext d st (bitsV x i) = nxt at *
            clear hnxt
            go_wp2_with fail
            go_loopw [13, 14] (fun f i' wz => ∃ (j : Nat), j ≤ s.sts.length ∧ i' = .int .i64 j ∧ f = .bool (memTo s.sts nxt j) ∧ Below wD.heap.size wD wz) (fun _ i' _ => s.sts.length - (intOf i').toNat)
            case atStart => exact ⟨0, Nat.zero_le _, rfl, by simp [memTo], Below.refl _ _⟩
            case round =>
              obtain ⟨j, hjl, rfl, rfl, hbz⟩ := hrel
              by_cases hj2 : j < s.sts.length
              · have hji : (j : Int) < (s.sts.length : Int) := by omega
                have HM := hide (memTo_succ s.sts nxt j hj2)
                obtain ⟨g', cap', ja, jn, jc, hve, hg', cj, hJ⟩ := ((unhide HWD).below hbz).at1 hj2
                have hge' : g1 = g' := by injection hve with h1; injection h1 with h1; injection h1
                subst hge'
                have hNz := (unhide HND).below hbz
                have hget : s.sts.getD j [] = s.sts[j] := by simp [List.getD_eq_getElem?_getD, hj2]
                rw [hget] at hJ
                clear hve hget
                cases hb : memTo s.sts nxt j
                · rw [hb] at HM
                  clear hb
                  go_wp2_with fail
                  refine (SameInts_any _ _ _ _ _ _ _ _ _ hJ hNz).mono ?_
                  rintro e w8 ⟨rfl, hb8⟩
                  have hM := unhide HM
                  rw [Bool.false_or] at hM
                  rw [← hM]
                  have hbz8 := bstep hbz hb8
                  clear hM HM hJ hNz hb8
                  go_wp2_with fail
                  exact ⟨⟨j + 1, by omega, by go_num, rfl, hbz8⟩, by simp [intOf]; omega⟩
                · rw [hb] at HM
                  clear hb
                  have HM2 := hide (show memTo s.sts nxt (j + 1) = true by rw [unhide HM]; rfl)
                  clear HM hJ hNz
                  go_wp2_with fail
                  exact ⟨⟨j + 1, by omega, by go_num, by rw [unhide HM2], hbz⟩, by simp [intOf]; omega⟩
              · have HM := hide (memTo_full s.sts nxt j (by omega))
                cases hb : memTo s.sts nxt j
                · have HMM := hide (show nxt ∉ s.sts by have := unhide HM; rw [hb] at this; simpa using this.symm)
                  clear hb HM
                  have hBz := bstep hBD hbz
                  have HWz := hide ((unhide HWD).below hbz)
                  have HXz := hide ((unhide HXD).kept (Kept.of_below hbz _) (fun _ _ h => h))
                  have HYz := hide ((unhide HYD).kept (Kept.of_below hbz _) (fun _ _ h => h))
                  by_cases e64 : s.sts.length = 64
                  · have hq : ((s.sts.length : Int) == 64) = true := by simp only [beq_iff_eq]; omega
                    have HV := hide (visit_many (unhide HER) (unhide HE0) (by rw [unhide HNX]; exact unhide HMM) e64)
                    have hA := unhide HBAD (by rw [unhide HV]; show (2 : Int) ≠ 0; decide)
                    rw [unhide HV] at hA
                    have HA1 := hide (show (reachAll d).err = 2 by rw [hA])
                    have HA2 := hide (show (reachAll d).way = [] by rw [hA])
                    have HA3 := hide (show (if (reachAll d).err = 0 then (reachAll d).sts else []) = [] by rw [unhide HA1, if_neg (by decide)])
                    clear hA e64
                    go_wp2_with fail
                    go_ret3
                    exact ⟨none, 0, 0, none, 0, 0, ret_ro (unhide HA1).symm, by rw [unhide HA3]; exact Rows.nil0 _, by rw [unhide HA2]; exact Ints.none _, bstep B1 hBz⟩
                  · have hq : ((s.sts.length : Int) == 64) = false := by simp only [beq_eq_false_iff_ne, ne_eq]; omega
                    have HV := hide ((unhide HNE).trans (visit_new (unhide HER) (unhide HE0) (by rw [unhide HNX]; exact unhide HMM) e64))
                    clear e64
                    obtain ⟨vs1, ro1, rg1⟩ := (unhide HWz).r1
                    obtain ⟨vs2, ro2, rg2, rn2⟩ := (unhide HWz).r2
                    have hapz := (unhide HWz).ap
                    have hBsz := hBz.size
                    go_wp2_with (at_builtin; refine wpList_append_own_at _ rfl _ _ 27 rfl w1.heap.size 24 j0 (.slice none 0 0) 1 24 Try.underlying27 hj hy0 hy1 hy2 rfl (by decide) _ _ _ rfl (ro1.alloc _) ⟨wr.heap.size, 0, none⟩ 1 1 [.slice na nn nc] rfl rfl ?c1 ?c2 ?c3 ?c4 ?c5 ?_)
                    case c1 =>
                      intro j u hj
                      match j, hj with
                      | 0, hj => simp at hj; subst hj; simp [Addr.add]
                    case c2 => intro u hu; simp at hu; subst hu; rfl
                    case c3 => unfold maxLen; omega
                    case c4 => omega
                    case c5 => simp; omega
                    intro v5 w5 ho5 hgr5 _ hlo5
                    have hlo5' : v5.ownBlock = (Value.slice (some ⟨g1, 0, none⟩) s.sts.length cap1).ownBlock ∨ v5.ownBlock = some (wr.heap.size + 1) := by simpa using hlo5
                    have ro5 := (ro2.alloc (.cells #[.slice na nn nc] 24)).kept hgr5 (Or.inr (fun e => hapz e.symm))
                    have hs5 : wr.heap.size + 1 ≤ w5.heap.size := by have := hgr5.size; simpa using this
                    go_wp2_with (at_builtin; refine wpList_append_own_at _ rfl _ _ 27 rfl w1.heap.size 24 j0 (.slice none 0 0) 1 24 Try.underlying27 hj hy0 hy1 hy2 rfl (by decide) _ _ _ rfl (ro5.alloc _) ⟨w5.heap.size, 0, none⟩ 1 1 [.slice a2 (yn + 1) q2] rfl rfl ?e1 ?e2 ?e3 ?e4 ?e5 ?_)
                    case e1 =>
                      intro j u hj
                      match j, hj with
                      | 0, hj => simp at hj; subst hj; simp [Addr.add]
                    case e2 => intro u hu; simp at hu; subst hu; rfl
                    case e3 => have := (unhide HKL); unfold maxLen; omega
                    case e4 => omega
                    case e5 => simp; omega
                    intro v6 w6 ho6 hgr6 _ hlo6
                    have hlo6' : v6.ownBlock = (Value.slice (some ⟨g2, 0, none⟩) s.ws.length cap2).ownBlock ∨ v6.ownBlock = some (w5.heap.size + 1) := by simpa using hlo6
                    obtain ⟨hPU, hB6⟩ := RW.push (unhide HWz) (nc := nc) (yc := q2) (unhide HXz) (unhide HYz) hne3 (by omega) vs1 rg1 ho5 hgr5 hlo5' vs2 rg2 rn2 ho6 hgr6 hlo6'
                    have HR := hide (show RW w6 w1.heap.size v5 v6 (visitTo d k0 (reachTo d k0) (x + 1)).sts (visitTo d k0 (reachTo d k0) (x + 1)).ws by
                      rw [unhide HV]
                      show RW w6 w1.heap.size v5 v6 (s.sts ++ [nextS d s k0 x]) (s.ws ++ [wayS s k0 x])
                      rw [unhide HNX]; exact hPU)
                    have HR0 := hide (show (visitTo d k0 (reachTo d k0) (x + 1)).err = 0 by rw [unhide HV]; exact unhide HER)
                    have HB7 := hide (hBz.trans hB6)
                    clear hPU hB6 ho5 ho6 hgr5 hgr6 hlo5 hlo5' hlo6 hlo6' ro1 ro2 ro5 rg1 rg2 rn2 hapz
                    go_wp2_with fail
                    exact ⟨⟨x + 1, by omega, by go_num, unhide HR0, unhide HR, unhide HB7⟩, by simp [intOf]; omega⟩
                · have HMM := hide (show nxt ∈ s.sts by have := unhide HM; rw [hb] at this; simpa using this.symm)
                  clear hb HM
                  have HV := hide ((unhide HNE).trans (visit_old (unhide HER) (unhide HE0) (by rw [unhide HNX]; exact unhide HMM)))
                  have HR := hide (show RW wr w1.heap.size (.slice (some ⟨g1, 0, none⟩) s.sts.length cap1) (.slice (some ⟨g2, 0, none⟩) s.ws.length cap2) (visitTo d k0 (reachTo d k0) (x + 1)).sts (visitTo d k0 (reachTo d k0) (x + 1)).ws by rw [unhide HV]; exact (unhide HWD).below hbz)
                  have HR0 := hide (show (visitTo d k0 (reachTo d k0) (x + 1)).err = 0 by rw [unhide HV]; exact unhide HER)
                  have hBz := bstep hBD hbz
                  go_wp2_with fail
                  exact ⟨⟨x + 1, by omega, by go_num, unhide HR0, unhide HR, hBz⟩, by simp [intOf]; omega⟩
          · have HV := hide (visit_bad (unhide HER) (show errS d s k0 x ≠ 0 by rw [unhide HEQ]; exact he))
            have hA := unhide HBAD (by rw [unhide HV]; show errS d s k0 x ≠ 0; rw [unhide HEQ]; exact he)
            rw [unhide HV] at hA
            have HA1 := hide (show (reachAll d).err = doE d st (bitsV x i) by rw [hA]; exact unhide HEQ)
            have HA2 := hide (show (reachAll d).way = s.ws.getD k0 [] ++ [(x : Int)] by rw [hA]; rfl)
            have HA3 := hide (show (if (reachAll d).err = 0 then (reachAll d).sts else []) = [] by rw [if_neg (by rw [unhide HA1]; exact he)])
            obtain ⟨ee, hee⟩ : ∃ ee, doE d st (bitsV x i) = ee := ⟨_, rfl⟩
            rw [hee] at he HA1
            rw [hee]
            have hneb : (ee != 0) = true := by simp only [bne_iff_ne, ne_eq]; exact he
            have HIY := hide (unhide HYD).1
            clear hA he hee HBAD HNE HEQ HNX HV HWK HW3 HY3 HWD HXD HYD HND
            go_wp2_with fail
            go_ret3
            exact ⟨none, 0, 0, a2, yn + 1, q2, ret_ro (unhide HA1).symm, by rw [unhide HA3]; exact Rows.nil0 _, by rw [unhide HA2]; exact unhide HIY, bstep B1 hBD⟩
        · have hxe : x = P := by omega
          have HN := hide (show reachTo d (k0 + 1) = visitTo d k0 (reachTo d k0) x by rw [reach_next (unhide HLT), unhide HP, hxe])
          rw [← unhide HN] at herr hW
          have HER := hide herr
          have HWK := hide hW
          have hk64' : k0 < 64 := by have := unhide HLT; omega
          have hxi : ¬ (x : Int) < (P : Int) := by omega
          clear herr hW hxe
          go_wp2_with fail
          refine (power_any i (by omega) _).mono ?_
          rintro e w9 ⟨rfl, rfl⟩
          rw [unhide HPI]
          go_wp2_with fail
          exact ⟨⟨k0 + 1, by omega, by go_num, unhide HER, unhide HWK, hbel⟩, by simp [intOf]; omega⟩
    · have hki : ¬ (k0 : Int) < ((reachTo d k0).sts.length : Int) := by omega
      have HA := hide (reach_done (Nat.le_of_not_lt hlt) hk64)
      have HER := hide (show (reachAll d).err = 0 by rw [unhide HA]; exact herr)
      have HWY := hide (show (reachAll d).way = [] by rw [unhide HA]; exact (inv_reachTo (unhide HCK) (unhide HGE) k0).none herr)
      have HLS := hide (show (if (reachAll d).err = 0 then (reachAll d).sts else []) = (reachTo d k0).sts by rw [if_pos (unhide HER), unhide HA])
      obtain ⟨ra', rc', rfl, hRW⟩ := hW.rows (by unfold maxLen; omega)
      have HRW := hide hRW
      clear hlt herr hW hRW
      go_wp2_with fail
      go_ret3
      exact ⟨_, _, _, none, 0, 0, ret_ro (unhide HER).symm, by rw [unhide HLS]; exact unhide HRW, by rw [unhide HWY]; exact Ints.none _, bstep B1 hbel⟩
end Go.Proofs.Ytongajonecgdpac
