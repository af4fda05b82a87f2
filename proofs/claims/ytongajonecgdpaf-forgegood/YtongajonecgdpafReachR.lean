/- The program's walker: roam. -/
import Derived.Test.YtongajonecgdpafReachQ
namespace Go.Proofs.Ytongajonecgdpaf
open Go.RowKit Go.Maps

theorem visit_bad {d : NetD} {k x : Nat} {s : St} (h : s.err = 0) (he : errS d s k x ≠ 0) : visit d k x s = { s with err := errS d s k x, way := wayS s k x } := by
  unfold visit; rw [if_neg (by simp [h]), if_pos he]
theorem visit_old {d : NetD} {k x : Nat} {s : St} (h : s.err = 0) (he : errS d s k x = 0) (hm : nextS d s k x ∈ s.sts) : visit d k x s = s := by
  unfold visit; rw [if_neg (by simp [h]), if_neg (by simp [he]), if_pos hm]
theorem visit_many {d : NetD} {k x : Nat} {s : St} (h : s.err = 0) (he : errS d s k x = 0) (hm : nextS d s k x ∉ s.sts) (hl : s.sts.length = 64) : visit d k x s = { s with err := 2, way := [] } := by
  unfold visit; rw [if_neg (by simp [h]), if_neg (by simp [he]), if_neg hm, if_pos hl]
theorem visit_new {d : NetD} {k x : Nat} {s : St} (h : s.err = 0) (he : errS d s k x = 0) (hm : nextS d s k x ∉ s.sts) (hl : s.sts.length ≠ 64) : visit d k x s = { s with sts := s.sts ++ [nextS d s k x], ws := s.ws ++ [wayS s k x] } := by
  unfold visit; rw [if_neg (by simp [h]), if_neg (by simp [he]), if_neg hm, if_neg hl]

/-- The way to place i has at most i inputs. -/
def WLen (s : St) : Prop := s.sts.length = s.ws.length ∧ ∀ i, i < s.ws.length → (s.ws.getD i []).length ≤ i
theorem WLen.visit {d : NetD} {k x : Nat} {s : St} (h : WLen s) (hk : k < s.sts.length) : WLen (Go.Proofs.Ytongajonecgdpaf.visit d k x s) := by
  unfold Go.Proofs.Ytongajonecgdpaf.visit
  split
  · exact h
  · split
    · exact h
    · split
      · exact h
      · split
        · exact h
        · refine ⟨by simp [h.1], fun i hi => ?_⟩
          have hi' : i < s.ws.length + 1 := by simpa using hi
          show ((s.ws ++ [wayS s k x]).getD i []).length ≤ i
          by_cases e : i < s.ws.length
          · rw [getD_more rfl e]; exact h.2 i e
          · have ei : i = s.ws.length := by omega
            subst ei
            have g2 : (s.ws ++ [wayS s k x]).getD s.ws.length [] = wayS s k x := by simp [List.getD_eq_getElem?_getD]
            rw [g2]
            have hk' : k < s.ws.length := by rw [← h.1]; exact hk
            have := h.2 k hk'
            unfold wayS
            simp only [List.length_append, List.length_cons, List.length_nil]
            omega
theorem wlen_visitTo {d : NetD} {k : Nat} {s : St} (h : WLen s) (hk : k < s.sts.length) : ∀ x, WLen (visitTo d k s x)
  | 0 => h
  | x + 1 => by
    obtain ⟨t, u, e1, _, _⟩ := visitTo_more d k s x
    exact (wlen_visitTo h hk x).visit (by rw [e1]; simp; omega)
theorem wlen_reachTo (d : NetD) : ∀ k, WLen (reachTo d k)
  | 0 => ⟨rfl, fun i hi => by
      have : i = 0 := by simp [reachTo, reach0] at hi; exact hi
      subst this; simp [reachTo, reach0]⟩
  | k + 1 => by
    show WLen (if k < (reachTo d k).sts.length then visitTo d k (reachTo d k) (2 ^ d.ins.toNat) else reachTo d k)
    by_cases e : k < (reachTo d k).sts.length
    · rw [if_pos e]; exact wlen_visitTo (wlen_reachTo d k) e _
    · rw [if_neg e]; exact wlen_reachTo d k

theorem Wk.at {w : World} {B b m : Nat} {k : NC} {rl : Nat} {pv : Value} {sts ws : List (List Int)} (h : Wk w B b m k rl pv sts ws) {i : Nat} (hi : i < sts.length) :
    ∃ g pc a n c a' n' c', pv = .slice (some ⟨g, 0, none⟩) sts.length pc ∧ g < w.heap.size ∧ w.cell? ⟨g, i * 2, none⟩ = some (.slice a n c) ∧ w.cell? ⟨g, i * 2 + 1, none⟩ = some (.slice a' n' c') ∧ OffG w [pv.ownBlock, some b, some m] a n (sts.getD i []) ∧ OffG w [pv.ownBlock, some b, some m] a' n' (ws.getD i []) ∧ (a' = none → n' = 0 ∧ c' = 0) := by
  obtain ⟨vs, hrow, hP⟩ := h.row
  obtain ⟨a, n, c, a', n', c', e1, e2, o1, o2, z⟩ := hP.2.2 i hi
  rcases hrow.2 with ⟨h2, h3⟩ | ⟨g, cap, cur, h2, h4, h5, _⟩
  · omega
  · have hg : pv.ownBlock = some g := by rw [h2]; rfl
    have q1 := hrow.cells hg _ _ e1
    have q2 := hrow.cells hg _ _ e2
    rw [addr_plus, Nat.zero_add] at q1 q2
    exact ⟨g, cap, a, n, c, a', n', c', h2, (Array.getElem?_eq_some_iff.1 h5).1, q1, q2, o1, o2, z⟩

theorem shl_small (n : Nat) (h : n ≤ 3) : wrap64 (2 ^ n) = ((2 ^ n : Nat) : Int) := by
  have hc : n = 0 ∨ n = 1 ∨ n = 2 ∨ n = 3 := by omega
  rcases hc with rfl | rfl | rfl | rfl <;> simp [wrap64]
theorem pow_small (n : Nat) (h : n ≤ 3) : 2 ^ n ≤ 8 := by
  have hc : n = 0 ∨ n = 1 ∨ n = 2 ∨ n = 3 := by omega
  rcases hc with rfl | rfl | rfl | rfl <;> decide
theorem move_at (d : NetD) (B b m : Nat) (k : NC) (rl : Nat) (pv : Value) (sts ws : List (List Int)) (w : World) (h : Wk w B b m k rl pv sts ws) (hN : NetAt w d (k.i : Int) k.ga k.gn k.ra k.rn k.oa k.on) (hrl : rl ≤ 20) (hrd : d.regs.length = rl) (hlen : sts.length ≤ 64) (hi3 : k.i ≤ 3)
    (st : List Int) (sa : Option Addr) (sn sc : Nat) (hS : Ints w sa sn st) (l : List Int) (x : Nat) (hx : x ≤ 8) (ya : Option Addr) (yn yc : Nat) (hyn : yn + 1 ≤ 100) (hY : OffG w [pv.ownBlock, some b, some m] ya (yn + 1) (l ++ [(x : Int)])) (hyz : ya ≠ none) :
    Calls Try.prog 128 #[.pointer (some ⟨b, 0, none⟩), .slice sa sn sc, .slice ya (yn + 1) yc] w fun e w' => Moved w w' d B b m k rl sts ws st x (l ++ [(x : Int)]) e := by
  have e : yn = l.length := by have := hY.1.1; simp at this; omega
  subst e
  exact move_any d B b m k rl pv sts ws w h hN hrl hrd hlen hi3 st sa sn sc hS l (by omega) x hx ya yc hY hyz
theorem own_cap {w : World} {B n size : Nat} {e : TypeId} {a : Option Addr} {c : Nat} {vs : List Value} (h : w.ownsRow B e size (.slice a n c) n vs) : n ≤ c := by
  rcases h.2 with ⟨h2, h3⟩ | ⟨g, cap, cur, h2, _, _, h5, _⟩
  · omega
  · injection h2 with _ _ h2; omega
theorem own_some {w : World} {B n size : Nat} {e : TypeId} {a : Option Addr} {c : Nat} {vs : List Value} (h : w.ownsRow B e size (.slice a (n + 1) c) (n + 1) vs) : a ≠ none := by
  rcases h.2 with ⟨_, h3⟩ | ⟨g, cap, cur, h2, _⟩
  · omega
  · injection h2 with h2; rw [h2]; simp
/-- What roam answers. -/
def Roamed (d : NetD) (w0 : World) (b m : Nat) (k : NC) (w' : World) (e : Ending) : Prop :=
  ∃ pv' a n c, e = .returned (.tuple #[.slice a n c, .int .i64 (reachAll d).err]) ∧ Wk w' w0.heap.size b m k d.regs.length pv' (reachAll d).sts (reachAll d).ws ∧ ((reachAll d).err ≠ 2 → Ints w' a n (reachAll d).way) ∧ n ≤ c ∧ Below w0.heap.size w0 w'

set_option maxRecDepth 100000 in
set_option maxHeartbeats 4000000 in
theorem roam_any (d : NetD) (w0 : World) (b m : Nat) (k : NC) (hN0 : NetAt w0 d (k.i : Int) k.ga k.gn k.ra k.rn k.oa k.on) (hrl : d.regs.length ≤ 20) (hi3 : k.i ≤ 3) (hki : d.ins.toNat = k.i) (hck : checkE d = 0) (hii : 0 ≤ d.ins)
    (pv : Value) (w : World) (h : Wk w w0.heap.size b m k d.regs.length pv [begins d] [[]]) (hb0 : Below w0.heap.size w0 w) :
    Calls Try.prog 101 #[.pointer (some ⟨b, 0, none⟩)] w fun e w' => Roamed d w0 b m k w' e := by
  have HKI := hide hki
  have HCK := hide hck
  have HII := hide hii
  obtain ⟨i0, hi, hz0, hz1, hz2⟩ := info_parts Try.infoInt
  clear hki hck hii
  go_enter Try.func101, Try.ntmps101
  go_wp2_with fail
  go_loopw [4] (fun i' wr => ∃ (k0 : Nat) (pv : Value), k0 ≤ 64 ∧ i' = .int .i64 k0 ∧ (reachTo d k0).err = 0 ∧ Wk wr w0.heap.size b m k d.regs.length pv (reachTo d k0).sts (reachTo d k0).ws ∧ Below w0.heap.size w0 wr) (fun i' _ => 64 - (intOf i').toNat)
  case atStart => exact ⟨0, pv, Nat.zero_le _, rfl, rfl, h, hb0⟩
  case round =>
    clear h hb0
    obtain ⟨k0, pv, hk64, rfl, herr, hW, hbel⟩ := hrel
    have hlen := reachTo_len d k0
    by_cases hlt : k0 < (reachTo d k0).sts.length
    · obtain ⟨hbl, c0, c1, c2, c3, c4, c5⟩ := hW.cell
      obtain ⟨pa, pc, rfl⟩ := hW.slice
      have hki : (k0 : Int) < ((reachTo d k0).sts.length : Int) := by omega
      have HERR := hide herr
      have HW := hide hW
      have HLT := hide hlt
      clear herr hW
      go_wp2_with fail
      rw [shl_small k.i hi3]
      obtain ⟨P, hP⟩ : ∃ P, 2 ^ k.i = P := ⟨_, rfl⟩
      have hP8 : P ≤ 8 := by rw [← hP]; exact pow_small k.i hi3
      have HP := hide (show 2 ^ d.ins.toNat = P by rw [unhide HKI]; exact hP)
      rw [hP]
      clear hP c0 c1 c2 c3 c4 c5
      go_loopw [23] (fun i' wq => ∃ (x : Nat) (pv : Value), x ≤ P ∧ i' = .int .i64 x ∧ (visitTo d k0 (reachTo d k0) x).err = 0 ∧ Wk wq w0.heap.size b m k d.regs.length pv (visitTo d k0 (reachTo d k0) x).sts (visitTo d k0 (reachTo d k0) x).ws ∧ Below w0.heap.size w0 wq) (fun i' _ => P - (intOf i').toNat)
      case atStart => exact ⟨0, _, Nat.zero_le _, rfl, unhide HERR, unhide HW, hbel⟩
      case round =>
        clear HERR HW hbel
        obtain ⟨x, pv, hxP, rfl, herr, hW, hbel⟩ := hrel
        by_cases hlx : x < P
        · have hxi : (x : Int) < (P : Int) := by omega
          obtain ⟨s, hs⟩ : ∃ s, visitTo d k0 (reachTo d k0) x = s := ⟨_, rfl⟩
          rw [hs] at herr hW
          have hkl : k0 < s.sts.length := by
            obtain ⟨t, u, e1, _, _⟩ := visitTo_more d k0 (reachTo d k0) x
            rw [← hs, e1]; simp; have := unhide HLT; omega
          have hl64 : s.sts.length ≤ 64 := by rw [← hs]; exact visitTo_len d k0 _ (reachTo_len d k0) x
          have HWL := hide (show WLen s by rw [← hs]; exact wlen_visitTo (wlen_reachTo d k0) (unhide HLT) x)
          have HNE := hide (show visitTo d k0 (reachTo d k0) (x + 1) = visit d k0 x s by rw [← hs]; rfl)
          have HBAD := hide (show (visit d k0 x s).err ≠ 0 → reachAll d = visit d k0 x s by
            rw [← hs]
            exact reach_err (unhide HLT) (by rw [unhide HP]; exact hlx))
          obtain ⟨g, pc, sa, sn, sc, ya, yn, yc, rfl, hgl, cs, cy, oS, oY, hyz⟩ := hW.at hkl
          obtain ⟨hbl, c0, c1, c2, c3, c4, c5⟩ := hW.cell
          have hkk : (k0 : Int) < (s.sts.length : Int) := by omega
          have hynl : yn ≤ 64 := by
            have h1 := oY.1.1
            have h2 := (unhide HWL).2 k0 (by rw [← (unhide HWL).1]; exact hkl)
            omega
          have HER := hide herr
          have HWK := hide hW
          have HOS := hide oS
          have HOY := hide oY
          have HKL := hide hkl
          have HS := hide hs
          have hsz0 := hbel.size
          clear hs herr hW oS oY hkl
          go_wp2_with fail
          refine (Clone_any _ _ _ _ _ (unhide HOY).1 hyz (by omega)).mono ?_
          rintro e w1 ⟨v1, rfl, hown1, hb1⟩
          have hs1 := hb1.size
          go_wp2_with (at_builtin; refine wpList_append_own _ rfl _ _ 35 rfl wr.heap.size 3 i0 (.int .i64 0) 1 8 Try.underlying35 hi hz0 hz1 hz2 rfl (by decide) _ _ _ rfl (hown1.alloc _) ⟨w1.heap.size, 0, none⟩ 1 1 [.int .i64 (x : Int)] rfl rfl ?c1 ?c2 ?c3 ?c4 ?c5 ?_)
          case c1 =>
            intro j u hj
            match j, hj with
            | 0, hj => simp at hj; subst hj; simp [Addr.add]
          case c2 => intro u hu; simp at hu; subst hu; rfl
          case c3 => unfold maxLen; omega
          case c4 => omega
          case c5 => simp; omega
          intro v2 w2 hown2 hgrow2 _
          have hb2 : Below wr.heap.size wr w2 := (hb1.alloc hs1 _).grown hgrow2 (by simp; omega) (fun j hj => (hown1.lt j hj).1)
          have hown3 : w2.ownsRow wr.heap.size 3 1 v2 (yn + 1) ((s.ws.getD k0 [] ++ [(x : Int)]).map (fun x => Value.int .i64 x)) := by rw [List.map_append]; exact hown2
          obtain ⟨a2, q2, rfl⟩ := own_slice hown3
          obtain ⟨a3, q3, hv3, hI3⟩ := own_ints hown3 (by unfold maxLen; omega)
          obtain ⟨rfl, _, rfl⟩ : a2 = a3 ∧ yn + 1 = yn + 1 ∧ q2 = q3 := by injection hv3 with h1 _ h3; exact ⟨h1, rfl, h3⟩
          have hY3 := OffG.fresh hI3 (own_fresh hown3) (G := [(Value.slice (some ⟨g, 0, none⟩) s.sts.length pc).ownBlock, some b, some m]) (fun j hj => (unhide HWK).lt j hj)
          have hne3 := own_some hown3
          have hcap3 := own_cap hown3
          have hW3 := (unhide HWK).below hb2
          have hB3 := bstep hbel hb2
          have hN3 := hN0.below hB3
          have hS3 := (unhide HOS).1.below hb2
          have cs3 := (hb2.cell (p := ⟨g, k0 * 2, none⟩) hgl).trans cs
          obtain ⟨hbl3, f0, f1, f2, f3, f4, f5⟩ := hW3.cell
          have hgl3 := Nat.lt_of_lt_of_le hgl hb2.size
          clear hown1 hb1 hgrow2 hown2 hown3 hv3 c0 c1 c2 c3 c4 c5 cs cy
          go_wp2_with fail
          refine (move_at d w0.heap.size b m k d.regs.length _ s.sts s.ws _ hW3 hN3 hrl rfl hl64 hi3 (s.sts.getD k0 []) sa sn sc hS3 (s.ws.getD k0 []) x (by omega) a2 yn q2 (by omega) hY3 hne3).mono ?_
          intro e w9 hM
          have HEQ := hide (show errS d s k0 x = doE d (s.sts.getD k0 []) (bitsV x k.i) by unfold errS; rw [unhide HKI])
          have HNX := hide (show nextS d s k0 x = doNext d (s.sts.getD k0 []) (bitsV x k.i) by unfold nextS; rw [unhide HKI])
          clear f0 f1 f2 f3 f4 f5 cs3 hN3 hS3
          rcases hM with ⟨hne, rfl, hb9⟩ | ⟨he0, hE⟩
          · have HV := hide (visit_bad (unhide HER) (show errS d s k0 x ≠ 0 by rw [unhide HEQ]; exact hne))
            have hA := unhide HBAD (by rw [unhide HV]; show errS d s k0 x ≠ 0; rw [unhide HEQ]; exact hne)
            rw [unhide HV] at hA
            have HA1 := hide (show (reachAll d).err = doE d (s.sts.getD k0 []) (bitsV x k.i) by rw [hA]; exact unhide HEQ)
            have HR := hide (show Wk w9 w0.heap.size b m k d.regs.length (.slice (some ⟨g, 0, none⟩) s.sts.length pc) (reachAll d).sts (reachAll d).ws by rw [hA]; exact hW3.below hb9)
            have HR2 := hide (show Ints w9 a2 (yn + 1) (reachAll d).way by rw [hA]; exact hY3.1.below hb9)
            have hneb : (doE d (s.sts.getD k0 []) (bitsV x k.i) != 0) = true := by simp only [bne_iff_ne, ne_eq]; exact hne
            clear hA hne hY3 hI3 hW3
            generalize doE d (s.sts.getD k0 []) (bitsV (↑x) k.i) = ee at *
            clear HBAD HNE HEQ HNX HV HWK HOS HOY hyz
            go_wp2_with fail
            go_ret2
            exact ⟨_, a2, yn + 1, q2, ret_sl (unhide HA1).symm, unhide HR, fun _ => unhide HR2, hcap3, bstep hB3 hb9⟩
          · have he0' : errS d s k0 x = 0 := by rw [unhide HEQ]; exact he0
            rcases hE with ⟨hm1, rfl, hb9⟩ | ⟨hm1, hm2, rfl, hb9⟩ | ⟨hm1, hm2, rfl, ⟨pv', hWn⟩, hb9⟩
            · have HV := hide ((unhide HNE).trans (visit_old (unhide HER) he0' (by rw [unhide HNX]; exact hm1)))
              have HR := hide (show Wk w9 w0.heap.size b m k d.regs.length (.slice (some ⟨g, 0, none⟩) s.sts.length pc) (visitTo d k0 (reachTo d k0) (x + 1)).sts (visitTo d k0 (reachTo d k0) (x + 1)).ws by rw [unhide HV]; exact hW3.below hb9)
              have HR0 := hide (show (visitTo d k0 (reachTo d k0) (x + 1)).err = 0 by rw [unhide HV]; exact unhide HER)
              clear hm1 he0 he0' hY3 hI3 hW3
              go_wp2_with fail
              exact ⟨⟨x + 1, _, by omega, by go_num, unhide HR0, unhide HR, bstep hB3 hb9⟩, by simp [intOf]; omega⟩
            · have HV := hide (visit_many (unhide HER) he0' (by rw [unhide HNX]; exact hm1) hm2)
              have hA := unhide HBAD (by rw [unhide HV]; show (2 : Int) ≠ 0; decide)
              rw [unhide HV] at hA
              have HA1 := hide (show (reachAll d).err = 2 by rw [hA])
              have HR := hide (show Wk w9 w0.heap.size b m k d.regs.length (.slice (some ⟨g, 0, none⟩) s.sts.length pc) (reachAll d).sts (reachAll d).ws by rw [hA]; exact hW3.below hb9)
              clear hA hm1 hm2 he0 he0' hY3 hI3 hW3
              go_wp2_with fail
              go_ret2
              exact ⟨_, a2, yn + 1, q2, ret_sl (unhide HA1).symm, unhide HR, fun hh => absurd (unhide HA1) hh, hcap3, bstep hB3 hb9⟩
            · have HV := hide ((unhide HNE).trans (visit_new (unhide HER) he0' (by rw [unhide HNX]; exact hm1) hm2))
              have HR := hide (show Wk w9 w0.heap.size b m k d.regs.length pv' (visitTo d k0 (reachTo d k0) (x + 1)).sts (visitTo d k0 (reachTo d k0) (x + 1)).ws by
                rw [unhide HV]
                show Wk w9 w0.heap.size b m k d.regs.length pv' (s.sts ++ [nextS d s k0 x]) (s.ws ++ [wayS s k0 x])
                rw [unhide HNX]; exact hWn)
              have HR0 := hide (show (visitTo d k0 (reachTo d k0) (x + 1)).err = 0 by rw [unhide HV]; exact unhide HER)
              have HB9 := hide (hB3.trans hb9)
              clear hm1 hm2 he0 he0' hY3 hI3 hW3 hWn hb9
              go_wp2_with fail
              exact ⟨⟨x + 1, _, by omega, by go_num, unhide HR0, unhide HR, unhide HB9⟩, by simp [intOf]; omega⟩
        · have hxe : x = P := by omega
          have HN := hide (show reachTo d (k0 + 1) = visitTo d k0 (reachTo d k0) x by rw [reach_next (unhide HLT), unhide HP, hxe])
          rw [← unhide HN] at herr hW
          have HER := hide herr
          have HWK := hide hW
          have hk64' : k0 < 64 := by have := unhide HLT; omega
          clear herr hW hxe
          go_wp2_with fail
          exact ⟨⟨k0 + 1, _, by omega, by go_num, unhide HER, unhide HWK, hbel⟩, by simp [intOf]; omega⟩
    · obtain ⟨hbl, c0, c1, c2, c3, c4, c5⟩ := hW.cell
      obtain ⟨pa, pc, rfl⟩ := hW.slice
      have hki : ¬ (k0 : Int) < ((reachTo d k0).sts.length : Int) := by omega
      have HA := hide (reach_done (Nat.le_of_not_lt hlt) hk64)
      have HER := hide (show (reachAll d).err = 0 by rw [unhide HA]; exact herr)
      have HWY := hide (show (reachAll d).way = [] by rw [unhide HA]; exact (inv_reachTo (unhide HCK) (unhide HII) k0).none herr)
      rw [← unhide HA] at hW
      have HW := hide hW
      clear hlt herr hW
      go_wp2_with fail
      go_ret2
      exact ⟨_, none, 0, 0, ret_sl (unhide HER).symm, unhide HW, fun _ => by rw [unhide HWY]; exact Ints.none _, Nat.le_refl _, hbel⟩
end Go.Proofs.Ytongajonecgdpaf
