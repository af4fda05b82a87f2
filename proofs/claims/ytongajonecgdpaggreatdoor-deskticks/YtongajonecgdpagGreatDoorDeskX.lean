/- The desk and Run: the statement DeskTicks. -/
import Derived.Test.YtongajonecgdpagGreatDoorDeskP
import Derived.Test.YtongajonecgdpagGreatDoorSmithI
import Derived.Deep.LoopGhost
import Derived.Deep.RegionHeld3
namespace Go.Proofs.YtongajonecgdpagGreatDoor
open Go.RowKit

/-- A rest in its box, whatever is written into the box. -/
def PbK (V : World) (bx : Nat) (r : RestD) : Prop := ∃ f wa wn wc oa on oc, Cells V bx [.bool f, .slice wa wn wc, .slice oa on oc] 35 ∧ Kp [bx] V (fun V => RestAt V r f wa wn oa on) ∧ wn ≤ wc
theorem PbK.on {V V' : World} {bx : Nat} {r : RestD} (h : PbK V bx r) (hb : Below V.heap.size V V') : PbK V' bx r := by
  obtain ⟨f, wa, wn, wc, oa, on, oc, h1, h2, h3⟩ := h
  exact ⟨f, wa, wn, wc, oa, on, oc, h1.onB hb, h2.on hb, h3⟩
theorem PbK.lt {V : World} {bx : Nat} {r : RestD} (h : PbK V bx r) : bx < V.heap.size := by
  obtain ⟨f, wa, wn, wc, oa, on, oc, h1, _⟩ := h
  exact h1.lt
theorem pbk_put {W : World} {bx : Nat} {vs : List Value} {r2 : RestD} {f2 : Bool} {wa2 oa2 : Option Addr} {wn2 on2 wc2 : Nat} (h : Cells W bx vs 35) (h3 : vs.length = 3) (hR : Kp [bx] W (fun V => RestAt V r2 f2 wa2 wn2 oa2 on2)) (hwc : wn2 ≤ wc2) (oc2 : Nat) :
    PbK (((W.setCell ⟨bx, 0, none⟩ (.bool f2)).setCell ⟨bx, 1, none⟩ (.slice wa2 wn2 wc2)).setCell ⟨bx, 2, none⟩ (.slice oa2 on2 oc2)) bx r2 := by
  obtain ⟨v0, v1, v2, rfl⟩ : ∃ v0 v1 v2, vs = [v0, v1, v2] := by
    match vs, h3 with
    | [a, b, c], _ => exact ⟨a, b, c, rfl⟩
  exact ⟨f2, wa2, wn2, wc2, oa2, on2, oc2, ((h.set 0 (.bool f2)).set 1 (.slice wa2 wn2 wc2)).set 2 (.slice oa2 on2 oc2), hR.step (kept3m (List.mem_singleton.2 rfl) _ _ _) (fun g hg => Or.inl hg), hwc⟩
theorem in_cut (i : Nat) (hi : i < 3) : (⟨#[120, 121, 122]⟩ : ByteArray).extract i (i + 1) = ⟨(letter 120 i).toArray⟩ := by
  rcases three' (show i ≤ 2 by omega) with rfl | rfl | rfl <;> rfl
theorem out_cut (i : Nat) (hi : i < 3) : (⟨#[65, 66, 67]⟩ : ByteArray).extract i (i + 1) = ⟨(letter 65 i).toArray⟩ := by
  rcases three' (show i ≤ 2 by omega) with rfl | rfl | rfl <;> rfl
theorem told_at {l : List Bool} {j : Nat} (h : j < l.length) : (toldV l)[j]'(by simpa [toldV] using h) = if l[j] then 1 else 0 := by simp [toldV]
theorem toldTo_len (p : List NodeD) (l : List Int) (k : Nat) : (toldTo p l k).length = k := by simp [toldTo]

set_option maxRecDepth 100000 in
set_option maxHeartbeats 8000000 in
theorem DeskTicks_any (p : List NodeD) (pa : Option Addr) (pn pc : Nat) (l : List Int) (la : Option Addr) (ln lc : Nat) (w : World) (hN : Nodes w pa pn p) (hc : pn ≤ pc) (hl : Ints w la ln l) :
    Calls Tryz.prog 4 #[.slice pa pn pc, .slice la ln lc] w fun e w' => e = .returned (.bool true) ∧ Below w.heap.size w w' := by
  have HLN := hide hl.1
  go_enter Tryz.func4, Tryz.ntmps4
  go_wp2_with fail
  refine (Show_any p pa pn pc _ hN hc).mono ?_
  rintro e w1 ⟨rfl, b1⟩
  have hN1 := hN.below b1
  have hl1 := hl.below b1
  clear hN hl
  go_wp2_with fail
  refine (FRun_any p pa pn pc l la ln lc _ hN1 hc hl1).mono ?_
  rintro e w2 ⟨xa, xn, xc, rfl, hX, b2⟩
  have B2 := bstep b1 b2
  have hN2 := hN1.below b2
  have hl2 := hl1.below b2
  clear hN1 hl1 b1 b2
  by_cases e0 : checkP p = 0
  case neg =>
    have hq : (checkP p != 0) = true := by simp [e0]
    obtain ⟨ck, hck⟩ : ∃ ck, checkP p = ck := ⟨_, rfl⟩
    rw [hck] at hq ⊢
    clear e0 hck hX hN2 hl2
    go_wp2_with fail
    refine (deskBegun_any _).mono ?_
    rintro e w3 ⟨rfl, hb⟩
    go_wp2_with fail
    go_ret
    exact ⟨rfl, bstep B2 hb⟩
  rw [e0]
  by_cases e1 : playE p l = 0
  case neg =>
    have hq : (playE p l != 0) = true := by simp [e1]
    obtain ⟨ck, hck⟩ : ∃ ck, playE p l = ck := ⟨_, rfl⟩
    rw [hck] at hq ⊢
    clear e0 e1 hck hX hN2 hl2
    go_wp2_with fail
    refine (deskBegun_any _).mono ?_
    rintro e w3 ⟨rfl, hb⟩
    go_wp2_with fail
    go_ret
    exact ⟨rfl, bstep B2 hb⟩
  rw [e1]
  by_cases h40 : 40 < ln
  · have hi : (40 : Int) < (ln : Int) := by omega
    clear e0 e1 hX hN2 hl2
    go_wp2_with fail
    refine (deskBegun_any _).mono ?_
    rintro e w3 ⟨rfl, hb⟩
    go_wp2_with fail
    go_ret
    exact ⟨rfl, bstep B2 hb⟩
  have hi : ¬ (40 : Int) < (ln : Int) := by omega
  have hpw : inPow l 3 = true := by
    unfold playE at e1
    rw [if_pos e0] at e1
    exact (times_ok e1).2
  have HPW := hide hpw
  have HCK := hide e0
  have HOK := hide (pok_of e0)
  have hln40 : ln ≤ 40 := by omega
  have hpr : playRows p l = toldTo p l ln := by unfold playRows toldTo; rw [if_pos e1, unhide HLN]
  rw [hpr] at hX
  have hxn : xn = ln := by rw [hX.1, toldTo_len]
  have HRL := hide (toldTo_len p l ln)
  subst hxn
  obtain ⟨hdE, hdT⟩ := desk_ticks (unhide HCK) hpw (by have := unhide HLN; omega)
  have HPL := hide (show ∀ W : World, Calls Tryz.prog 5 #[.string ⟨(showL p).toArray⟩, .string ⟨(scrT l xn).toArray⟩] W fun e w' => e = .returned (.tuple #[.string ⟨(wantT p l xn).toArray⟩, .int .i64 0]) ∧ Below W.heap.size W w' from fun W => by
    have h := Play_any (showL p) (scrT l l.length) (by have h1 := scr_len l l.length; have h2 := unhide HLN; unfold maxLen; omega) W
    rw [hdE, hdT, ← unhide HLN] at h
    exact h)
  have hwl : (wantT p l xn).length ≤ 880 := by have := want_len p l xn; omega
  have HWL := hide hwl
  have HSL := hide (show showL p = showL p from rfl)
  generalize showL p = sh at *
  clear hdE hdT e0 e1 hpr h40 hpw hwl HSL
  go_wp2_with fail
  go_loopg [9, 10] xn (fun fu tv kv V => ∃ k : Nat, xn - k ≤ fu ∧ k ≤ xn ∧ kv = .int .i64 k ∧ tv = .string ⟨(scrT l k).toArray⟩ ∧ Below w2.heap.size w2 V)
  case atStart => exact ⟨0, Nat.le_refl _, Nat.zero_le _, rfl, rfl, Below.refl _ _⟩
  case round =>
    obtain ⟨k, hfu, hk, rfl, rfl, hbel⟩ := hrel
    rename World => V
    have HFU := hide hfu
    clear hfu
    by_cases hkn : k < xn
    · have hki : (k : Int) < (xn : Int) := by omega
      have hkl : k < l.length := by have := unhide HLN; omega
      obtain ⟨lb, lo, hla, hlb, c0⟩ := hl2.at hkl
      obtain ⟨hx8, _, hxe⟩ := inst_at (unhide HPW) hkl
      have c1 := (hbel.cell (p := ⟨lb, lo + k, none⟩) hlb).trans c0
      have HXE0 := hxe
      rw [hxe] at c1
      have q1 : (scrT l k).length ≤ 440 := by have := scr_len l k; omega
      have HSK := hide (show scrT l (k + 1) = scrT l k ++ (tickL (instN l k) ++ [10]) from rfl)
      obtain ⟨x, hx⟩ : ∃ x, instN l k = x := ⟨_, rfl⟩
      rw [hx] at c1 HSK hx8 HXE0
      have HXE := hide HXE0
      obtain ⟨u, hu⟩ : ∃ u, scrT l k = u := ⟨_, rfl⟩
      rw [hu] at HSK q1 ⊢
      clear hx hu hxe c0 HXE0
      subst hla
      have E0 := hide (str_app u (dTick ++ insT x 0))
      go_wp2_with fail
      go_loopg [9, 11] 3 (fun fu tv iv V => ∃ i : Nat, 3 - i ≤ fu ∧ i ≤ 3 ∧ iv = .int .i64 i ∧ tv = .string ⟨(u ++ (dTick ++ insT x i)).toArray⟩ ∧ Below w2.heap.size w2 V)
      case atStart => exact ⟨0, Nat.le_refl _, Nat.zero_le _, rfl, congrArg Value.string (unhide E0), hbel⟩
      case round =>
        clear hbel c1
        obtain ⟨i, hfu, hi3, rfl, rfl, hbel⟩ := hrel
        rename World => V
        have HFI := hide hfu
        clear hfu
        have q2 : (u ++ (dTick ++ insT x i)).length ≤ 460 := by
          have := insT_le x i
          simp only [List.length_append]
          have h : dTick.length = 4 := rfl
          omega
        by_cases hin : i < 3
        · have hii : (i : Int) < 3 := by omega
          have hi1 : (i : Int) ≤ (i : Int) + 1 := by omega
          have hi4 : (i : Int) + 1 ≤ 3 := by omega
          obtain ⟨lb', lo', e3, hlb', c0⟩ := hl2.at hkl
          obtain ⟨rfl, rfl⟩ : lb = lb' ∧ lo = lo' := by
            injection e3 with e3
            injection e3 with e4 e5 _
            exact ⟨e4, e5⟩
          have c1 := (hbel.cell (p := ⟨lb, lo + k, none⟩) hlb).trans c0
          have hxx : l[k] = (x : Int) := unhide HXE
          rw [hxx] at c1
          have hge : 0 ≤ (x : Int) / 2 ^ i := Int.ediv_nonneg (by omega) (Int.pow_nonneg (by decide))
          have hle : (x : Int) / 2 ^ i ≤ 1048576 := Int.le_trans (Int.ediv_le_self _ (by omega)) (by omega)
          have hand := and_one ((x : Int) / 2 ^ i) hge hle
          rw [bit_cast] at hand
          have hcut := in_cut i hin
          have q3 : (letter 120 i).length ≤ 1 := by simp [letter]
          rcases (show x / 2 ^ i % 2 = 0 ∨ x / 2 ^ i % 2 = 1 by omega) with hb | hb
          · have R := hide (show insT x (i + 1) = insT x i by show insT x i ++ _ = _; rw [if_neg (by omega), List.append_nil])
            rw [hb] at hand
            clear c0 hcut q3 hb
            obtain ⟨v, hv⟩ : ∃ v, u ++ (dTick ++ insT x i) = v := ⟨_, rfl⟩
            have HV := hide (show u ++ (dTick ++ insT x (i + 1)) = v by rw [unhide R]; exact hv)
            rw [hv] at q2 ⊢
            clear hv
            go_wp2_with fail
            go_roundg (3 - (i + 1))
            case measure => have := unhide HFI; omega
            case rel => exact ⟨i + 1, Nat.le_refl _, by omega, by go_num, by rw [unhide HV], hbel⟩
          · have R := hide (show insT x (i + 1) = insT x i ++ (32 :: letter 120 i) by show insT x i ++ _ = _; rw [if_pos hb])
            rw [hb] at hand
            clear c0 hb
            obtain ⟨v, hv⟩ : ∃ v, u ++ (dTick ++ insT x i) = v := ⟨_, rfl⟩
            have HV := hide (show u ++ (dTick ++ insT x (i + 1)) = (v ++ [32]) ++ letter 120 i by rw [unhide R, ← hv]; simp)
            rw [hv] at q2 ⊢
            clear hv
            obtain ⟨y, hy⟩ : ∃ y, letter 120 i = y := ⟨_, rfl⟩
            rw [hy] at hcut q3 HV
            have E3 := hide (three_app v [32] y)
            clear hy
            go_wp2_with fail
            go_roundg (3 - (i + 1))
            case measure => have := unhide HFI; omega
            case rel => exact ⟨i + 1, Nat.le_refl _, by omega, by go_num, by rw [unhide HV]; exact congrArg Value.string (unhide E3), hbel⟩
        · have hin' : i = 3 := by omega
          subst hin'
          obtain ⟨v, hv⟩ : ∃ v, u ++ (dTick ++ insT x 3) = v := ⟨_, rfl⟩
          have HV := hide (show scrT l (k + 1) = v ++ [10] by rw [unhide HSK, ← hv]; simp [tickL])
          rw [hv] at q2 ⊢
          have E3 := hide (str_app v [10])
          clear hv
          go_wp2_with fail
          go_roundg (xn - (k + 1))
          case measure => have := unhide HFU; omega
          case rel => exact ⟨k + 1, Nat.le_refl _, by omega, by go_num, by rw [unhide HV]; exact congrArg Value.string (unhide E3), hbel⟩
    · have hkn' : k = xn := by omega
      subst hkn'
      clear HFU
      go_wp2_with fail
      refine (unhide HPL _).mono ?_
      rintro e V1 ⟨rfl, hb1⟩
      have hbel1 := bstep hbel hb1
      have hN3 := hN2.below hbel1
      clear hbel hb1 HPL
      go_wp2_with fail
      refine (WBegin_own p pa pn pc _ hN3 (unhide HCK)).mono ?_
      rintro e V2 ⟨gW, gO, rfl, hgW, hgO, hrW, hrO, hb2⟩
      have hbel2 := bstep hbel1 hb2
      have hn14 : pn ≤ 14 := by rw [hN2.1]; exact (unhide HOK).few
      have hal := (Below.refl V2.heap.size V2).alloc (Nat.le_refl _) (.cells #[.bool true, .slice (some ⟨gW, 0, none⟩) pn pn, .slice (some ⟨gO, 0, none⟩) 3 3] 35)
      have hcB := Cells.new V2 [.bool true, .slice (some ⟨gW, 0, none⟩) pn pn, .slice (some ⟨gO, 0, none⟩) 3 3] 35
      have hP0 : PbK (V2.alloc (.cells #[.bool true, .slice (some ⟨gW, 0, none⟩) pn pn, .slice (some ⟨gO, 0, none⟩) 3 3] 35)) V2.heap.size (restTo p l 0) := by
        refine ⟨true, _, pn, pn, _, 3, 3, hcB, fun V hk => ?_, Nat.le_refl _⟩
        have e : restTo p l 0 = ⟨true, falsesL pn, falsesL 3⟩ := by rw [hN2.1]; rfl
        have n1 := hrW.lt
        have n2 := hrO.lt
        rw [e]
        exact ⟨rfl, ((hrW.on hal).kept hk (by simp; omega)).boolsN (by simp [falsesL]) hn14, ((hrO.on hal).kept hk (by simp; omega)).boolsN (by simp [falsesL]) (by omega)⟩
      have hbel3 := bstep hbel2 hal
      have hbxw : w2.heap.size ≤ V2.heap.size := hbel2.size
      clear hbel1 hbel2 hb2 hgW hgO hrW hrO hal hcB hN3
      go_wp2_with fail
      generalize V2.alloc (.cells #[.bool true, .slice (some ⟨gW, 0, none⟩) pn pn, .slice (some ⟨gO, 0, none⟩) 3 3] 35) = V3 at *
      generalize V2.heap.size = bx at *
      go_loopg [14, 17] k (fun fu wv kv V => ∃ j : Nat, k - j ≤ fu ∧ j ≤ k ∧ kv = .int .i64 j ∧ wv = .string ⟨(wantT p l j).toArray⟩ ∧ PbK V bx (restTo p l j) ∧ Below w2.heap.size w2 V)
      case atStart => exact ⟨0, Nat.le_refl _, Nat.zero_le _, rfl, rfl, hP0, hbel3⟩
      case round =>
        clear hP0 hbel3
        obtain ⟨j, hfu, hj, rfl, rfl, hPB, hbel⟩ := hrel
        rename World => V
        have HFU := hide hfu
        clear hfu
        by_cases hjk : j < k
        case neg =>
          have hjk' : j = k := by omega
          subst hjk'
          clear hPB
          have hJ : ¬ (j : Int) < (j : Int) := by omega
          obtain ⟨want, hwant⟩ : ∃ u, wantT p l j = u := ⟨_, rfl⟩
          rw [hwant]
          go_wp2_with fail
          refine (deskBegun_any _).mono ?_
          rintro e V4 ⟨rfl, hb4⟩
          go_wp2_with fail
          go_ret
          exact ⟨rfl, bstep B2 (bstep hbel hb4)⟩
        have hji : (j : Int) < (k : Int) := by omega
        have hjl : j < l.length := by have := unhide HLN; omega
        obtain ⟨lb, lo, rfl, hlb, c0⟩ := hl2.at hjl
        obtain ⟨hx8, hxd, hxe⟩ := inst_at (unhide HPW) hjl
        have hfa := (forge_at (unhide HOK) (unhide HPW) hjl).1
        have hrl := rest_len (unhide HOK) (unhide HPW) (k := j + 1) (by omega)
        have hR1 : restTo p l (j + 1) = walkR p (restTo p l j) (instN l j : Int) := by show walkR p (restTo p l j) (l.getD j 0) = _; rw [hxd]
        rw [hxd] at hfa
        have hW1 : wantT p l (j + 1) = wantT p l j ++ (joinW (tickW p (restTo p l j) (instN l j)) ++ [10]) := rfl
        have hTW : tickW p (restTo p l j) (instN l j) = putTo (restTo p l (j + 1)).outs 3 ++ (if walkO p (restTo p l j) (instN l j : Int) then [dOver] else []) := by rw [hR1]; rfl
        have hwl1 : (wantT p l j).length ≤ 880 := by have := want_len p l j; omega
        have hjr : j < (toldTo p l k).length := by rw [unhide HRL]; exact hjk
        obtain ⟨xb, xo, ra, rn, rc, rfl, hxb, d0, hIr⟩ := hX.at hjr
        have htold : (toldTo p l k)[j] = toldV (restTo p l (j + 1)).outs := by simp [toldTo]
        rw [htold] at hIr
        have hrn : rn = 3 := by rw [hIr.1]; simp [toldV, hrl.2]
        subst hrn
        have hra : ∃ rb ro, ra = some ⟨rb, ro, none⟩ := by
          obtain ⟨rb, ro, e, _⟩ := hIr.at (k := 0) (by simp [toldV, hrl.2])
          exact ⟨rb, ro, e⟩
        obtain ⟨rb, ro, rfl⟩ := hra
        rw [hxe] at c0
        obtain ⟨f, wa, wn, wc, oa, on, oc, hcx, hKR, hwc⟩ := hPB
        have hol3 := hrl.2
        have HR1 := hide hR1
        have HW1 := hide hW1
        have HTW := hide hTW
        have HWE := hide hfa
        obtain ⟨r1, hr1⟩ : ∃ r, restTo p l (j + 1) = r := ⟨_, rfl⟩
        obtain ⟨r, hr⟩ : ∃ r, restTo p l j = r := ⟨_, rfl⟩
        obtain ⟨x, hx⟩ : ∃ x, instN l j = x := ⟨_, rfl⟩
        obtain ⟨want, hwant⟩ : ∃ u, wantT p l j = u := ⟨_, rfl⟩
        obtain ⟨tw, htw⟩ : ∃ u, tickW p (restTo p l j) (instN l j) = u := ⟨_, rfl⟩
        rw [htw] at HW1 HTW
        rw [hr1] at HR1 HTW hIr hol3
        rw [hr] at HR1 HTW hKR HWE
        rw [hx] at HR1 HTW HWE hx8 c0
        rw [hwant] at HW1 hwl1 ⊢
        have HNM := hide (And.intro hr1 hr)
        clear hr1 hr hx hwant htw hR1 hW1 hTW hfa hxe hxd hrl htold hjr
        have hblt := hcx.lt
        have q0 := hcx.cell 0
        have q1 := hcx.cell 1
        have q2 := hcx.cell 2
        have c1 := (hbel.cell (p := ⟨lb, lo + j, none⟩) hlb).trans c0
        have d1 := (hbel.cell (p := ⟨xb, xo + j, none⟩) hxb).trans d0
        have hlV : lb < V.heap.size := Nat.lt_of_lt_of_le hlb hbel.size
        have hxV : xb < V.heap.size := Nat.lt_of_lt_of_le hxb hbel.size
        have HCX := hide hcx
        have hRA := hKR.now
        have hNV := hN2.below hbel
        have hIV := hIr.below hbel
        have hbd := (Below.refl V.heap.size V).drew
        have hb00 := Below.refl V.heap.size V
        have hSZ0 := (Below.refl _ V).alloc (Nat.le_refl _) (.cells #[.bool false, .slice none 0 0, .slice none 0 0] 35)
        have hSZ := hSZ0.drew
        have hZ0 := Cells.new V [.bool false, .slice none 0 0, .slice none 0 0] 35
        have hZ := hZ0.onB (Below.refl _ _).drew
        have hNd := hNV.below hbd
        have hRd := hRA.below hbd
        have hNz := hNV.below hSZ
        have hRz := hRA.below hSZ
        have HS : ∀ W : World, Below V.heap.size V W → Below V.heap.size V W ∧ W.cell? ⟨lb, lo + j, none⟩ = some (.int .i64 (x : Int)) ∧ W.cell? ⟨bx, 0, none⟩ = some (.bool f) ∧ W.cell? ⟨bx, 1, none⟩ = some (.slice wa wn wc) ∧ W.cell? ⟨bx, 2, none⟩ = some (.slice oa on oc) := fun W hW =>
          ⟨hW, (hW.cell (p := ⟨lb, lo + j, none⟩) hlV).trans c1, (hW.cell (p := ⟨bx, 0, none⟩) hblt).trans q0, (hW.cell (p := ⟨bx, 1, none⟩) hblt).trans q1, (hW.cell (p := ⟨bx, 2, none⟩) hblt).trans q2⟩
        clear hcx hKR hRA hNV
        go_wp2_with fail
        go_region_held3 (fun W => Below V.heap.size V W ∧ W.cell? ⟨lb, lo + j, none⟩ = some (.int .i64 (x : Int)) ∧ W.cell? ⟨bx, 0, none⟩ = some (.bool f) ∧ W.cell? ⟨bx, 1, none⟩ = some (.slice wa wn wc) ∧ W.cell? ⟨bx, 2, none⟩ = some (.slice oa on oc))
          ((first | with_reducible exact HS _ hb00 | with_reducible exact HS _ hbd | with_reducible exact HS _ hSZ0 | with_reducible exact HS _ hSZ | with_reducible exact HS _ hSB | with_reducible exact HS _ hSD | with_reducible exact HS _ hSC | with_reducible exact HS _ hS8))
          ((first
            | (go_at_call 11; (first | refine (WStep_any p pa pn pc r f wa oa wn wc on oc (x : Int) _ hNd hRd hc hwc).mono ?_ | refine (WStep_any p pa pn pc r f wa oa wn wc on oc (x : Int) _ hNz hRz hc hwc).mono ?_); rintro e wB ⟨f2, wa2, wn2, wc2, oa2, on2, oc2, he, hKR, hwc2, hbB⟩; rw [unhide HWE] at he; subst he; have hSB : Below V.heap.size V wB := (by first | with_reducible exact bstep hbd hbB | with_reducible exact bstep hSZ hbB);
               (try have hcZ : Cells wB V.heap.size [.bool false, .slice none 0 0, .slice none 0 0] 35 := by with_reducible exact hZ.onB hbB); (try have k0 := hcZ.cell 0); (try have k1 := hcZ.cell 1); (try have k2 := hcZ.cell 2); (try have fz0 := hcZ.frozen 0); (try have fz1 := hcZ.frozen 1); (try have fz2 := hcZ.frozen 2); (try have hlZ := hcZ.lt);
               have hSD := bstep hSB ((Below.refl _ wB).alloc (Nat.le_refl _) (.cells #[.bool false, .slice none 0 0, .slice none 0 0] 35)); have hSC := bstep hSB ((Below.refl _ wB).alloc (Nat.le_refl _) (.cells #[.bool f2, .slice wa2 wn2 wc2, .slice oa2 on2 oc2] 35)); have hS8 := below_put hSB (Nat.le_refl V.heap.size) (.bool f2) (.slice wa2 wn2 wc2) (.slice oa2 on2 oc2))))
        all_goals go_upto_region 25 with fail
        case' refine_2.refine_3.refine_3.refine_3.refine_3.refine_3.refine_3.refine_1.refine_2.refine_3.refine_3.refine_3.refine_3.refine_1.refine_2.refine_1.refine_2.refine_3.refine_3 =>
          have hcS := Cells.new wB [.bool f2, .slice wa2 wn2 wc2, .slice oa2 on2 oc2] 35
          have hAl := (Below.refl _ wB).alloc (Nat.le_refl _) (.cells #[.bool f2, .slice wa2 wn2 wc2, .slice oa2 on2 oc2] 35)
          have hK5 := kp_less (Kp.on (show Kp (List.range V.heap.size) wB _ from hKR) hAl) hblt
          have hB5 := hSC
          have hbx : wB.heap.size ≠ bx := by have := hSB.size; omega
          have hby : w2.heap.size ≤ wB.heap.size := Nat.le_trans hbel.size hSB.size
          clear hS8 hSC hSD hAl HS hSZ0 hSZ hZ0 hZ hNd hRd hNz hRz hKR hbB hSB hbd hb00 q0 q1 q2
          generalize wB.alloc (.cells #[.bool f2, .slice wa2 wn2 wc2, .slice oa2 on2 oc2] 35) = W5 at *
          generalize wB.heap.size = by' at *
        case' refine_2.refine_3.refine_3.refine_3.refine_3.refine_3.refine_3.refine_2.refine_1.refine_2.refine_1.refine_2.refine_3.refine_3.refine_3.refine_3.refine_1.refine_2.refine_3.refine_3 =>
          have hcS := ((hcZ.set 0 (.bool f2)).set 1 (.slice wa2 wn2 wc2)).set 2 (.slice oa2 on2 oc2)
          have hKR2 : Kp (List.range (V.heap.size + 1)) wB _ := (show Kp (List.range (V.alloc (.cells #[.bool false, .slice none 0 0, .slice none 0 0] 35)).heap.size) wB _ from hKR).less (fun g hg => by simpa using hg)
          have hm : V.heap.size ∈ List.range (V.heap.size + 1) := List.mem_range.2 (Nat.lt_succ_self _)
          have hK5 : Kp [bx] _ _ := (hKR2.step (kept3m hm (.bool f2) (.slice wa2 wn2 wc2) (.slice oa2 on2 oc2)) (fun g hg => Or.inl hg)).less (fun g hg => by rw [List.mem_singleton.1 hg]; exact List.mem_range.2 (by omega))
          have hB5 := hS8
          have hbx : V.heap.size ≠ bx := by omega
          have hby : w2.heap.size ≤ V.heap.size := hbel.size
          clear hS8 hSC hSD HS hSZ0 hSZ hZ0 hZ hNd hRd hNz hRz hKR hKR2 hm hbB hSB hbd hb00 q0 q1 q2 k0 k1 k2 fz0 fz1 fz2 hlZ hcZ
          generalize ((wB.setCell ⟨V.heap.size, 0, none⟩ (.bool f2)).setCell ⟨V.heap.size, 1, none⟩ (.slice wa2 wn2 wc2)).setCell ⟨V.heap.size, 2, none⟩ (.slice oa2 on2 oc2) = W5 at *
          generalize hws : V.heap.size = by' at hcS hbx hby ⊢
          clear hws
        · have d5 := (hB5.cell (p := ⟨xb, xo + j, none⟩) hxV).trans d1
          have hI5 := hIV.below hB5
          have hc5 := (unhide HCX).onB hB5
          have hbel5 := bstep hbel hB5
          rw [← unhide HR1] at hK5
          have HVW := hide hB5.size
          clear c1 d1 hIV hB5 hbel hIr
          obtain ⟨ov, hov⟩ : ∃ ov, walkO p r (x : Int) = ov := ⟨_, rfl⟩
          rw [hov] at HTW ⊢
          clear hov
          go_wp2_with fail
          have HD5 := hide d5
          clear d5
          go_loopg [21, 22] 3 (fun fu sv iv W => ∃ i : Nat, 3 - i ≤ fu ∧ i ≤ 3 ∧ iv = .int .i64 i ∧ sv = .string ⟨(Lib.joinTail [32] (putTo r1.outs i)).toArray⟩ ∧ Below W5.heap.size W5 W)
          case atStart => exact ⟨0, Nat.le_refl _, Nat.zero_le _, rfl, rfl, Below.refl _ _⟩
          case round =>
            obtain ⟨i, hfu, hi3, rfl, rfl, hb6⟩ := hrel
            rename World => W6
            have HFI := hide hfu
            clear hfu
            have hpl := (put_len r1.outs i).1
            have q2 : (Lib.joinTail [32] (putTo r1.outs i)).length ≤ 20 := by
              have := tail_le _ (put_len r1.outs i).2
              omega
            by_cases hin : i < 3
            · have hii : (i : Int) < 3 := by omega
              have hi1 : (i : Int) ≤ (i : Int) + 1 := by omega
              have hi4 : (i : Int) + 1 ≤ 3 := by omega
              have hio : i < r1.outs.length := by omega
              have hit : i < (toldV r1.outs).length := by simpa [toldV] using hio
              have d6 := (hb6.cell (p := ⟨xb, xo + j, none⟩) (Nat.lt_of_lt_of_le hxV (unhide HVW))).trans (unhide HD5)
              obtain ⟨rb', ro', e3, _, e0⟩ := (hI5.below hb6).at hit
              obtain ⟨rfl, rfl⟩ : rb = rb' ∧ ro = ro' := by
                injection e3 with e3
                injection e3 with e4 e5 _
                exact ⟨e4, e5⟩
              clear e3
              rw [told_at hio] at e0
              have hcut := out_cut i hin
              have q3 : (letter 65 i).length ≤ 1 := by simp [letter]
              have HWY := hide (put_yes hio)
              have HWN := hide (put_no hio)
              generalize r1.outs[i] = wk at *
              cases wk
              · have R := hide (unhide HWN rfl)
                have e0 : W6.cell? ⟨rb, ro + i, none⟩ = some (.int .i64 0) := e0
                clear HWN HWY hcut q3
                go_wp2_with fail
                go_roundg (3 - (i + 1))
                case measure => have := unhide HFI; omega
                case rel => exact ⟨i + 1, Nat.le_refl _, by omega, by go_num, by rw [unhide R], hb6⟩
              · have R := hide (unhide HWY rfl)
                have e0 : W6.cell? ⟨rb, ro + i, none⟩ = some (.int .i64 1) := e0
                obtain ⟨v, hv⟩ : ∃ v, Lib.joinTail [32] (putTo r1.outs i) = v := ⟨_, rfl⟩
                obtain ⟨y, hy⟩ : ∃ y, letter 65 i = y := ⟨_, rfl⟩
                have HV := hide (show Lib.joinTail [32] (putTo r1.outs (i + 1)) = (v ++ [32]) ++ y by rw [unhide R, tail_snoc, hv, hy])
                rw [hv] at q2 ⊢
                rw [hy] at hcut q3
                have E3 := hide (three_app v [32] y)
                clear HWN HWY hv hy
                go_wp2_with fail
                go_roundg (3 - (i + 1))
                case measure => have := unhide HFI; omega
                case rel => exact ⟨i + 1, Nat.le_refl _, by omega, by go_num, by rw [unhide HV]; exact congrArg Value.string (unhide E3), hb6⟩
            · have hin' : i = 3 := by omega
              subst hin'
              have hbel6 := bstep hbel5 hb6
              have hcS6 := hcS.onB hb6
              have hc6 := hc5.onB hb6
              have hK6 := hK5.on hb6
              have s0 := hcS6.cell 0
              have s1 := hcS6.cell 1
              have s2 := hcS6.cell 2
              have z0 := hc6.cell 0
              have z1 := hc6.cell 1
              have z2 := hc6.cell 2
              have y0 := hc6.frozen 0
              have y1 := hc6.frozen 1
              have y2 := hc6.frozen 2
              have yl := hc6.lt
              have HPN := hide (pbk_put hc6 rfl hK6 hwc2 oc2)
              have HBN := hide (below_put hbel6 hbxw (.bool f2) (.slice wa2 wn2 wc2) (.slice oa2 on2 oc2))
              clear hcS6 hc6 hK6 hbel6 hb6
              have hjl2 := joined_line tw
              cases ov
              case' false =>
                have htw : tw = putTo r1.outs 3 := by rw [unhide HTW]; simp
                obtain ⟨L, hL⟩ : ∃ L, Lib.joinTail [32] (putTo r1.outs 3) = L := ⟨_, rfl⟩
                rw [htw, hL] at hjl2
                rw [← htw] at hjl2
                rw [hL] at q2 ⊢
                have q4 : L.length ≤ 25 := by omega
                clear htw hL
                go_upto_region 35 with fail
              case' true =>
                have htw : tw = putTo r1.outs 3 ++ [dOver] := by rw [unhide HTW]; simp
                obtain ⟨L3, hL3⟩ : ∃ L, Lib.joinTail [32] (putTo r1.outs 3) = L := ⟨_, rfl⟩
                have hL : Lib.joinTail [32] tw = L3 ++ [32, 111, 118, 101, 114] := by rw [htw, tail_snoc, hL3]; simp [dOver]
                rw [hL] at hjl2
                rw [hL3] at q2 ⊢
                have E := str_app L3 [32, 111, 118, 101, 114]
                have HE := hide E
                have q4 : (L3 ++ [32, 111, 118, 101, 114]).length ≤ 25 := by simp; omega
                clear htw hL hL3 E
                go_upto_region 35 with fail
                rw [show (⟨L3.toArray⟩ : ByteArray) ++ ⟨#[32, 111, 118, 101, 114]⟩ = ⟨(L3 ++ [32, 111, 118, 101, 114]).toArray⟩ from unhide HE]
                clear HE
                generalize L3 ++ [32, 111, 118, 101, 114] = L at *
              all_goals
                by_cases hLn : L = []
                · subst hLn
                  have HJ := hide (show joinW tw = [45] from hjl2)
                  have hd : (⟨#[32, 45]⟩ : ByteArray).extract 1 2 = ⟨#[45]⟩ := rfl
                  have E3 := hide (three_app want [45] [10])
                  clear hjl2 q4
                  go_wp2_with fail
                  go_roundg (k - (j + 1))
                  case measure => have := unhide HFU; omega
                  case rel => exact ⟨j + 1, Nat.le_refl _, by omega, by go_num, by rw [unhide HW1, unhide HJ, ← List.append_assoc]; exact congrArg Value.string (unhide E3), by rw [(unhide HNM).1]; exact unhide HPN, unhide HBN⟩
                · have hLf : (L == []) = false := by simp [hLn]
                  rw [if_neg hLn] at hjl2
                  have hL1 : 1 ≤ L.length := List.length_pos_iff.2 hLn
                  have hLi : (1 : Int) ≤ (L.length : Int) := by omega
                  have hd := str_drop L 1
                  have q5 : (L.drop 1).length ≤ 25 := by simp; omega
                  have HJ := hide hjl2
                  generalize L.drop 1 = dd at *
                  have E3 := hide (three_app want dd [10])
                  clear hjl2 hLn
                  go_wp2_with fail
                  go_roundg (k - (j + 1))
                  case measure => have := unhide HFU; omega
                  case rel => exact ⟨j + 1, Nat.le_refl _, by omega, by go_num, by rw [unhide HW1, unhide HJ, ← List.append_assoc]; exact congrArg Value.string (unhide E3), by rw [(unhide HNM).1]; exact unhide HPN, unhide HBN⟩
        · have d5 := (hB5.cell (p := ⟨xb, xo + j, none⟩) hxV).trans d1
          have hI5 := hIV.below hB5
          have hc5 := (unhide HCX).onB hB5
          have hbel5 := bstep hbel hB5
          rw [← unhide HR1] at hK5
          have HVW := hide hB5.size
          clear c1 d1 hIV hB5 hbel hIr
          obtain ⟨ov, hov⟩ : ∃ ov, walkO p r (x : Int) = ov := ⟨_, rfl⟩
          rw [hov] at HTW ⊢
          clear hov
          go_wp2_with fail
          have HD5 := hide d5
          clear d5
          go_loopg [21, 22] 3 (fun fu sv iv W => ∃ i : Nat, 3 - i ≤ fu ∧ i ≤ 3 ∧ iv = .int .i64 i ∧ sv = .string ⟨(Lib.joinTail [32] (putTo r1.outs i)).toArray⟩ ∧ Below W5.heap.size W5 W)
          case atStart => exact ⟨0, Nat.le_refl _, Nat.zero_le _, rfl, rfl, Below.refl _ _⟩
          case round =>
            obtain ⟨i, hfu, hi3, rfl, rfl, hb6⟩ := hrel
            rename World => W6
            have HFI := hide hfu
            clear hfu
            have hpl := (put_len r1.outs i).1
            have q2 : (Lib.joinTail [32] (putTo r1.outs i)).length ≤ 20 := by
              have := tail_le _ (put_len r1.outs i).2
              omega
            by_cases hin : i < 3
            · have hii : (i : Int) < 3 := by omega
              have hi1 : (i : Int) ≤ (i : Int) + 1 := by omega
              have hi4 : (i : Int) + 1 ≤ 3 := by omega
              have hio : i < r1.outs.length := by omega
              have hit : i < (toldV r1.outs).length := by simpa [toldV] using hio
              have d6 := (hb6.cell (p := ⟨xb, xo + j, none⟩) (Nat.lt_of_lt_of_le hxV (unhide HVW))).trans (unhide HD5)
              obtain ⟨rb', ro', e3, _, e0⟩ := (hI5.below hb6).at hit
              obtain ⟨rfl, rfl⟩ : rb = rb' ∧ ro = ro' := by
                injection e3 with e3
                injection e3 with e4 e5 _
                exact ⟨e4, e5⟩
              clear e3
              rw [told_at hio] at e0
              have hcut := out_cut i hin
              have q3 : (letter 65 i).length ≤ 1 := by simp [letter]
              have HWY := hide (put_yes hio)
              have HWN := hide (put_no hio)
              generalize r1.outs[i] = wk at *
              cases wk
              · have R := hide (unhide HWN rfl)
                have e0 : W6.cell? ⟨rb, ro + i, none⟩ = some (.int .i64 0) := e0
                clear HWN HWY hcut q3
                go_wp2_with fail
                go_roundg (3 - (i + 1))
                case measure => have := unhide HFI; omega
                case rel => exact ⟨i + 1, Nat.le_refl _, by omega, by go_num, by rw [unhide R], hb6⟩
              · have R := hide (unhide HWY rfl)
                have e0 : W6.cell? ⟨rb, ro + i, none⟩ = some (.int .i64 1) := e0
                obtain ⟨v, hv⟩ : ∃ v, Lib.joinTail [32] (putTo r1.outs i) = v := ⟨_, rfl⟩
                obtain ⟨y, hy⟩ : ∃ y, letter 65 i = y := ⟨_, rfl⟩
                have HV := hide (show Lib.joinTail [32] (putTo r1.outs (i + 1)) = (v ++ [32]) ++ y by rw [unhide R, tail_snoc, hv, hy])
                rw [hv] at q2 ⊢
                rw [hy] at hcut q3
                have E3 := hide (three_app v [32] y)
                clear HWN HWY hv hy
                go_wp2_with fail
                go_roundg (3 - (i + 1))
                case measure => have := unhide HFI; omega
                case rel => exact ⟨i + 1, Nat.le_refl _, by omega, by go_num, by rw [unhide HV]; exact congrArg Value.string (unhide E3), hb6⟩
            · have hin' : i = 3 := by omega
              subst hin'
              have hbel6 := bstep hbel5 hb6
              have hcS6 := hcS.onB hb6
              have hc6 := hc5.onB hb6
              have hK6 := hK5.on hb6
              have s0 := hcS6.cell 0
              have s1 := hcS6.cell 1
              have s2 := hcS6.cell 2
              have z0 := hc6.cell 0
              have z1 := hc6.cell 1
              have z2 := hc6.cell 2
              have y0 := hc6.frozen 0
              have y1 := hc6.frozen 1
              have y2 := hc6.frozen 2
              have yl := hc6.lt
              have HPN := hide (pbk_put hc6 rfl hK6 hwc2 oc2)
              have HBN := hide (below_put hbel6 hbxw (.bool f2) (.slice wa2 wn2 wc2) (.slice oa2 on2 oc2))
              clear hcS6 hc6 hK6 hbel6 hb6
              have hjl2 := joined_line tw
              cases ov
              case' false =>
                have htw : tw = putTo r1.outs 3 := by rw [unhide HTW]; simp
                obtain ⟨L, hL⟩ : ∃ L, Lib.joinTail [32] (putTo r1.outs 3) = L := ⟨_, rfl⟩
                rw [htw, hL] at hjl2
                rw [← htw] at hjl2
                rw [hL] at q2 ⊢
                have q4 : L.length ≤ 25 := by omega
                clear htw hL
                go_upto_region 35 with fail
              case' true =>
                have htw : tw = putTo r1.outs 3 ++ [dOver] := by rw [unhide HTW]; simp
                obtain ⟨L3, hL3⟩ : ∃ L, Lib.joinTail [32] (putTo r1.outs 3) = L := ⟨_, rfl⟩
                have hL : Lib.joinTail [32] tw = L3 ++ [32, 111, 118, 101, 114] := by rw [htw, tail_snoc, hL3]; simp [dOver]
                rw [hL] at hjl2
                rw [hL3] at q2 ⊢
                have E := str_app L3 [32, 111, 118, 101, 114]
                have HE := hide E
                have q4 : (L3 ++ [32, 111, 118, 101, 114]).length ≤ 25 := by simp; omega
                clear htw hL hL3 E
                go_upto_region 35 with fail
                rw [show (⟨L3.toArray⟩ : ByteArray) ++ ⟨#[32, 111, 118, 101, 114]⟩ = ⟨(L3 ++ [32, 111, 118, 101, 114]).toArray⟩ from unhide HE]
                clear HE
                generalize L3 ++ [32, 111, 118, 101, 114] = L at *
              all_goals
                by_cases hLn : L = []
                · subst hLn
                  have HJ := hide (show joinW tw = [45] from hjl2)
                  have hd : (⟨#[32, 45]⟩ : ByteArray).extract 1 2 = ⟨#[45]⟩ := rfl
                  have E3 := hide (three_app want [45] [10])
                  clear hjl2 q4
                  go_wp2_with fail
                  go_roundg (k - (j + 1))
                  case measure => have := unhide HFU; omega
                  case rel => exact ⟨j + 1, Nat.le_refl _, by omega, by go_num, by rw [unhide HW1, unhide HJ, ← List.append_assoc]; exact congrArg Value.string (unhide E3), by rw [(unhide HNM).1]; exact unhide HPN, unhide HBN⟩
                · have hLf : (L == []) = false := by simp [hLn]
                  rw [if_neg hLn] at hjl2
                  have hL1 : 1 ≤ L.length := List.length_pos_iff.2 hLn
                  have hLi : (1 : Int) ≤ (L.length : Int) := by omega
                  have hd := str_drop L 1
                  have q5 : (L.drop 1).length ≤ 25 := by simp; omega
                  have HJ := hide hjl2
                  generalize L.drop 1 = dd at *
                  have E3 := hide (three_app want dd [10])
                  clear hjl2 hLn
                  go_wp2_with fail
                  go_roundg (k - (j + 1))
                  case measure => have := unhide HFU; omega
                  case rel => exact ⟨j + 1, Nat.le_refl _, by omega, by go_num, by rw [unhide HW1, unhide HJ, ← List.append_assoc]; exact congrArg Value.string (unhide E3), by rw [(unhide HNM).1]; exact unhide HPN, unhide HBN⟩
end Go.Proofs.YtongajonecgdpagGreatDoor
