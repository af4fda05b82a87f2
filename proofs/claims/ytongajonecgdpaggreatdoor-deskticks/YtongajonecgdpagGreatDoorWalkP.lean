/- The program's walker: its small calls. -/
import Derived.Test.YtongajonecgdpagGreatDoorProgP
import Derived.Test.YtongajonecgdpagGreatDoorWalkM
import Derived.Test.YtongajonecgdpagGreatDoorTickA
namespace Go.Proofs.YtongajonecgdpagGreatDoor
open Go.RowKit

/-- What a walker holds but what comes then. -/
structure WkQ (sb gW gO : Nat) (p : List NodeD) (r : RestD) (x : Int) (a : Option Addr) (n c : Nat) (f : Bool) (wa : Option Addr) (wn wc : Nat) (oa : Option Addr) (on oc : Nat) (V : World) : Prop where
  lt : sb < V.heap.size
  c0 : V.cell? ⟨sb, 0, none⟩ = some (.slice a n c)
  c1 : V.cell? ⟨sb, 1, none⟩ = some (.bool f)
  c2 : V.cell? ⟨sb, 2, none⟩ = some (.slice wa wn wc)
  c3 : V.cell? ⟨sb, 3, none⟩ = some (.slice oa on oc)
  c5 : V.cell? ⟨sb, 5, none⟩ = some (.slice (some ⟨gW, 0, none⟩) n n)
  c6 : V.cell? ⟨sb, 6, none⟩ = some (.slice (some ⟨gO, 0, none⟩) 3 3)
  c7 : V.cell? ⟨sb, 7, none⟩ = some (.int .i64 x)
  nodes : Nodes V a n p
  waits : Bools V wa wn r.waits
  outs : Bools V oa on r.outs
/-- What is always so of a walker. -/
structure WkO (p : List NodeD) (r : RestD) (x : Int) (n c wn wc on : Nat) (gW gO : Nat) : Prop where
  ok : POk p
  nc : n ≤ c
  hw : wn = n
  hwc : wn ≤ wc
  ho : on = 3
  x0 : 0 ≤ x
  x7 : x ≤ 7
  ne : gW ≠ gO
  may : ∀ j, r.waits.getD j false = true → waitK (kindAt p j) = true

theorem partsE_ok {p : List NodeD} (hok : POk p) {k : Nat} (hk : k < p.length) : partsE p (k : Int) = 0 := by
  unfold partsE; rw [if_pos (of_pok hok), if_pos ⟨by omega, by omega⟩]
set_option maxHeartbeats 1000000 in
theorem wparts_any {sb gW gO : Nat} {p : List NodeD} {r : RestD} {x : Int} {a : Option Addr} {n c : Nat} {f : Bool} {wa : Option Addr} {wn wc : Nat} {oa : Option Addr} {on oc : Nat} {w : World} (h : WkQ sb gW gO p r x a n c f wa wn wc oa on oc w) (hc : n ≤ c) (k : Nat) :
    Calls Tryz.prog 102 #[.pointer (some ⟨sb, 0, none⟩), .int .i64 (k : Int)] w fun e w' => e = .returned (.tuple #[.int .i64 (partA p k), .int .i64 (partB p k), .int .i64 (partC p k)]) ∧ Below w.heap.size w w' := by
  obtain ⟨z0, q0, q1, q2, q3, q5, q6, q7, hN, hW, hO⟩ := h
  go_enter Tryz.func102, Tryz.ntmps102
  go_wp2_with fail
  refine (PParts_any p _ _ _ (k : Int) _ hN hc).mono ?_
  rintro e w1 ⟨he, hb⟩
  unfold PartsRet at he
  obtain ⟨pa, hpa⟩ : ∃ pa, partA p (k : Int) = pa := ⟨_, rfl⟩
  obtain ⟨pb, hpb⟩ : ∃ pb, partB p (k : Int) = pb := ⟨_, rfl⟩
  obtain ⟨pc, hpc⟩ : ∃ pc, partC p (k : Int) = pc := ⟨_, rfl⟩
  obtain ⟨pe, hpe⟩ : ∃ pe, partsE p (k : Int) = pe := ⟨_, rfl⟩
  rw [hpa, hpb, hpc, hpe] at he
  have HR := hide (show (Ending.returned (.tuple #[.int .i64 pa, .int .i64 pb, .int .i64 pc])) = .returned (.tuple #[.int .i64 (partA p (k : Int)), .int .i64 (partB p (k : Int)), .int .i64 (partC p (k : Int))]) by rw [hpa, hpb, hpc])
  subst he
  clear hpa hpb hpc hpe
  go_wp2_with fail
  exact bodyPost_ret (v := .tuple #[.int .i64 pa, .int .i64 pb, .int .i64 pc]) (by simp [results, Tryz.results102, go_sem]) rfl ⟨unhide HR, hb⟩
set_option maxHeartbeats 1000000 in
theorem waitAt_any {sb gW gO : Nat} {p : List NodeD} {r : RestD} {x : Int} {a : Option Addr} {n c : Nat} {f : Bool} {wa : Option Addr} {wn wc : Nat} {oa : Option Addr} {on oc : Nat} {w : World} (h : WkQ sb gW gO p r x a n c f wa wn wc oa on oc w) (s : NextD) (hW : BoolRow w gW s.1) (hO : BoolRow w gO s.2) (hl1 : s.1.length = p.length) (hne : gW ≠ gO) (k : Nat) (hk : k < p.length) :
    Calls Tryz.prog 104 #[.pointer (some ⟨sb, 0, none⟩), .int .i64 (k : Int)] w fun e w' => NextAt gW gO w w' ((s.1.set k true, s.2), false) e := by
  have hki : (k : Int) < (n : Int) := by have := h.nodes.1; omega
  obtain ⟨z0, q0, q1, q2, q3, q5, q6, q7, hNd, hWt, hOt⟩ := h
  have hcW := hW.cell k (by omega)
  have hfW := hW.frozen k
  have hlt := hW.lt
  have R1 := hide (And.intro (hW.set k true) (And.intro (hO.far (k := k) (v := .bool true) (Ne.symm hne)) (KeptS.set (w := w) (k := k) (.bool true) (by simp : gW ∈ [gW, gO]))))
  clear hW hO
  go_enter Tryz.func104, Tryz.ntmps104
  go_wp2_with fail
  go_ret
  exact ⟨rfl, (unhide R1).1, (unhide R1).2.1, (unhide R1).2.2⟩
def hasIn (x : Int) (k : Nat) : Bool := (bitsV x 3).getD k 0 == 1
theorem three {k : Nat} (h : k ≤ 2) : k = 0 ∨ k = 1 ∨ k = 2 := by omega
theorem eight {x : Int} (h : 0 ≤ x) (h' : x ≤ 7) : x = 0 ∨ x = 1 ∨ x = 2 ∨ x = 3 ∨ x = 4 ∨ x = 5 ∨ x = 6 ∨ x = 7 := by omega
set_option maxHeartbeats 4000000 in
theorem hasInput_any {sb gW gO : Nat} {p : List NodeD} {r : RestD} {x : Int} {a : Option Addr} {n c : Nat} {f : Bool} {wa : Option Addr} {wn wc : Nat} {oa : Option Addr} {on oc : Nat} {w : World} (h : WkQ sb gW gO p r x a n c f wa wn wc oa on oc w) (hx0 : 0 ≤ x) (hx7 : x ≤ 7) (k : Nat) (hk : k ≤ 2) :
    Calls Tryz.prog 105 #[.pointer (some ⟨sb, 0, none⟩), .int .i64 (k : Int)] w fun e w' => e = .returned (.bool (hasIn x k)) ∧ w' = w := by
  obtain ⟨z0, q0, q1, q2, q3, q5, q6, q7, hNd, hWt, hOt⟩ := h
  clear hNd hWt hOt q0 q1 q2 q3 q5 q6
  rcases three hk with rfl | rfl | rfl
  all_goals
    rcases eight hx0 hx7 with rfl | rfl | rfl | rfl | rfl | rfl | rfl | rfl
    all_goals
      clear hx0 hx7 hk
      go_enter Tryz.func105, Tryz.ntmps105
      go_wp2_with fail
      go_ret
      exact ⟨rfl, rfl⟩

def anyB (xs : List Bool) : Bool := xs.any (fun b => b)
set_option maxHeartbeats 1000000 in
theorem IndexTrue_any (xs : List Bool) (a : Option Addr) (n c : Nat) (w : World) (h : Bools w a n xs) :
    Calls Tryz.prog 129 #[.slice a n c, .bool true] w fun e w' => ∃ r, e = .returned (.int .i64 r) ∧ ((anyB xs = true ∧ 0 ≤ r) ∨ (anyB xs = false ∧ r = -1)) ∧ w' = w := by
  have HN := hide h.1
  have hm : n ≤ maxLen := by rw [h.1]; exact h.2.1
  unfold maxLen at hm
  go_enter Tryz.func129, Tryz.ntmps129
  go_wp2_with fail
  go_loopw [8] (fun i' wr => ∃ k : Nat, k ≤ n ∧ i' = .int .i64 k ∧ anyB (xs.take k) = false ∧ wr = w) (fun i' _ => n - (intOf i').toNat)
  case atStart => exact ⟨0, Nat.zero_le _, rfl, rfl, by first | rfl | trivial⟩
  case round =>
    obtain ⟨k, hk, rfl, hno, rfl⟩ := hrel
    by_cases hlt : k < n
    · have hkx : k < xs.length := by have := unhide HN; omega
      have hki : (k : Int) < (n : Int) := by omega
      obtain ⟨b', off, rfl, hbb, c1⟩ := h.at hkx
      have HS := hide (show anyB (xs.take (k + 1)) = (anyB (xs.take k) || xs[k]) by unfold anyB; rw [List.take_succ_eq_append_getElem hkx, List.any_append]; simp)
      have HY := hide (show xs[k] = true → anyB xs = true from fun e => by unfold anyB; rw [List.any_eq_true]; exact ⟨xs[k], List.getElem_mem hkx, e⟩)
      have HNO := hide hno
      clear hno
      generalize xs[k] = xk at *
      cases xk
      · have R := hide (show anyB (xs.take (k + 1)) = false by rw [unhide HS, unhide HNO]; rfl)
        go_wp2_with fail
        exact ⟨⟨k + 1, by omega, by go_num, unhide R, by first | rfl | trivial⟩, by simp [intOf]; omega⟩
      · have R := hide (unhide HY rfl)
        go_wp2_with fail
        go_ret
        exact ⟨_, rfl, Or.inl ⟨unhide R, by omega⟩, rfl⟩
    · have R := hide (show anyB xs = false by rw [List.take_of_length_le (by have := unhide HN; omega)] at hno; exact hno)
      clear hno
      go_wp2_with fail
      go_ret
      exact ⟨_, rfl, Or.inr ⟨unhide R, rfl⟩, rfl⟩
theorem ContainsTrue_any (xs : List Bool) (a : Option Addr) (n c : Nat) (w : World) (h : Bools w a n xs) :
    Calls Tryz.prog 106 #[.slice a n c, .bool true] w fun e w' => e = .returned (.bool (anyB xs)) ∧ w' = w := by
  go_enter Tryz.func106, Tryz.ntmps106
  go_wp2_with fail
  refine (IndexTrue_any xs _ _ _ _ h).mono ?_
  rintro e w1 ⟨r, rfl, hr, rfl⟩
  rcases hr with ⟨h1, h2⟩ | ⟨h1, rfl⟩
  · have HM := hide h1
    clear h1
    go_wp2_with fail
    go_ret
    exact ⟨ret_bool (unhide HM).symm, rfl⟩
  · have HM := hide h1
    clear h1
    go_wp2_with fail
    go_ret
    exact ⟨ret_bool (unhide HM).symm, rfl⟩
theorem some_list {p : List NodeD} {ws : List Bool} {k : Nat} (hl : endP p k ≤ ws.length) : anyB ((ws.drop k).take (endP p k - k)) = someP p ws k := by
  rw [Bool.eq_iff_iff, some_iff]
  unfold anyB
  rw [List.any_eq_true]
  constructor
  · rintro ⟨b, hb, rfl⟩
    obtain ⟨i, hi, he⟩ := List.getElem_of_mem hb
    rw [List.length_take, List.length_drop] at hi
    rw [List.getElem_take, List.getElem_drop] at he
    exact ⟨k + i, by omega, by omega, by rw [List.getD_eq_getElem?_getD, List.getElem?_eq_getElem (by omega)]; exact he⟩
  · rintro ⟨i, h1, h2, h3⟩
    have hi : i < ws.length := by omega
    rw [List.getD_eq_getElem?_getD, List.getElem?_eq_getElem hi] at h3
    have hi2 : i - k < ((ws.drop k).take (endP p k - k)).length := by rw [List.length_take, List.length_drop]; omega
    refine ⟨((ws.drop k).take (endP p k - k))[i - k], List.getElem_mem hi2, ?_⟩
    rw [List.getElem_take, List.getElem_drop]
    have : k + (i - k) = i := by omega
    simp only [this]
    exact h3
theorem Bools.part {w : World} {b off n : Nat} {xs : List Bool} (h : Bools w (some ⟨b, off, Option.none⟩) n xs) {k m : Nat} (hk : k + m ≤ n) : Bools w (some ⟨b, off + k, Option.none⟩) m ((xs.drop k).take m) := by
  obtain ⟨h1, h2, h3⟩ := h
  have hlen : ((xs.drop k).take m).length = m := by rw [List.length_take, List.length_drop]; omega
  refine ⟨hlen.symm, by omega, ?_⟩
  rcases h3 with h3 | ⟨b', off', ha, hlt, hc⟩
  · rw [h3] at h1 hlen; simp at h1 hlen
    exact Or.inl (by rw [h3]; simp)
  · simp at ha
    obtain ⟨rfl, rfl⟩ := ha
    refine Or.inr ⟨b, off + k, rfl, hlt, fun i hi => ?_⟩
    have hi' : k + i < xs.length := by omega
    have := hc (k + i) hi'
    rw [List.getElem_take, List.getElem_drop, Nat.add_assoc]
    exact this
set_option maxHeartbeats 1000000 in
theorem wSomeWait_any {sb gW gO : Nat} {p : List NodeD} {r : RestD} {x : Int} {a : Option Addr} {n c : Nat} {f : Bool} {wa : Option Addr} {wn wc : Nat} {oa : Option Addr} {on oc : Nat} {w : World} (h : WkQ sb gW gO p r x a n c f wa wn wc oa on oc w) (ho : WkO p r x n c wn wc on gW gO) (k : Nat) (hk : k < p.length) :
    Calls Tryz.prog 73 #[.pointer (some ⟨sb, 0, none⟩), .int .i64 (k : Int)] w fun e w' => e = .returned (.bool (someP p r.waits k)) ∧ Below w.heap.size w w' := by
  have hn14 : n ≤ 14 := by have := ho.ok.few; have := h.nodes.1; omega
  have hn := h.nodes.1
  have hwl : r.waits.length = n := by have := h.waits.1; have := ho.hw; omega
  have hle := end_le ho.ok.form hk
  have hgt := end_gt hk
  have HC := hide (show partC p (k : Int) = (endP p k : Nat) by unfold partC; rw [if_pos (partsE_ok ho.ok hk)]; simp)
  have HS := hide (some_list (p := p) (ws := r.waits) (k := k) (by omega))
  have hcap := ho.hwc
  have hww := ho.hw
  have hle2 : endP p k ≤ wn := by omega
  have hq := h
  go_enter Tryz.func73, Tryz.ntmps73
  go_wp2_with fail
  refine (wparts_any h ho.nc k).mono ?_
  rintro e w1 ⟨rfl, hb⟩
  rw [unhide HC]
  have hW1 := h.waits.below hb
  have q2 := (hb.cell (p := ⟨sb, 2, none⟩) h.lt).trans h.c2
  have z0 : sb < w1.heap.size := Nat.lt_of_lt_of_le h.lt hb.size
  obtain ⟨b, off, rfl, hbb, c1⟩ := hW1.at (k := k) (by omega)
  obtain ⟨pa, hpa⟩ : ∃ pa, partA p (k : Int) = pa := ⟨_, rfl⟩
  obtain ⟨pb, hpb⟩ : ∃ pb, partB p (k : Int) = pb := ⟨_, rfl⟩
  rw [hpa, hpb]
  have hP := hW1.part (k := k) (m := endP p k - k) (by omega)
  clear c1 hpa hpb hq h hle HC hn
  generalize endP p k = ep at *
  go_wp2_with fail
  refine (ContainsTrue_any _ _ _ _ _ hP).mono ?_
  rintro e w2 ⟨rfl, rfl⟩
  rw [unhide HS]
  obtain ⟨sk, hsk⟩ : ∃ sk, someP p r.waits k = sk := ⟨_, rfl⟩
  have HSK := hide hsk
  rw [hsk]
  clear hsk
  go_wp2_with fail
  go_ret
  exact ⟨ret_bool (unhide HSK).symm, hb⟩

set_option maxHeartbeats 1000000 in
theorem choose_cl {w : World} {b5 b6 : Nat} {pa pb : Int} (h5 : w.cell? ⟨b5, 0, none⟩ = some (.int .i64 pa)) (h6 : w.cell? ⟨b6, 0, none⟩ = some (.int .i64 pb)) (q : Bool) :
    Calls Tryz.prog 103 #[.bool q, .pointer (some ⟨b5, 0, none⟩), .pointer (some ⟨b6, 0, none⟩)] w fun e w' => e = .returned (.int .i64 (if q then pa else pb)) ∧ w' = w := by
  cases q
  all_goals
    go_enter Tryz.func103, Tryz.ntmps103
    go_wp2_with fail
    go_ret
    exact ⟨rfl, rfl⟩

set_option maxRecDepth 100000 in
set_option maxHeartbeats 8000000 in
theorem wbegin_any (sb gW gO : Nat) (p : List NodeD) (r : RestD) (x : Int) (a : Option Addr) (n c : Nat) (f : Bool) (wa : Option Addr) (wn wc : Nat) (oa : Option Addr) (on oc : Nat) (ho : WkO p r x n c wn wc on gW gO) : ∀ (m k : Nat) (s : NextD) (w : World), p.length - k ≤ m → k < p.length → Kp [gW, gO] w (WkQ sb gW gO p r x a n c f wa wn wc oa on oc) → BoolRow w gW s.1 → BoolRow w gO s.2 → s.1.length = p.length → s.2.length = 3 →
    Calls Tryz.prog 72 #[.pointer (some ⟨sb, 0, none⟩), .int .i64 (k : Int)] w fun e w' => NextAt gW gO w w' (beginF p r.outs (bitsV x 3) m k s) e
  | 0, k, s, w, hm, hk, _, _, _, _, _ => by omega
  | m + 1, k, s, w, hm, hk, hK, hW, hO, hl1, hl2 => by
    have hQ := hK.now
    have HN := hide hQ.nodes.1
    have hki : (k : Int) < (n : Int) := by have := unhide HN; omega
    have hkd := ho.ok.kinds p[k] (List.getElem_mem hk)
    have hsg := ho.ok.sigs p[k] (List.getElem_mem hk)
    obtain ⟨z, hz⟩ := Int.eq_ofNat_of_zero_le hsg.1
    have HKA := hide (kindAt_of hk)
    have HSA := hide (sigAt_of hk hz)
    have hz2 : z ≤ 2 := by
      have h1 := hsg.2
      rw [hz] at h1
      unfold mostS at h1
      split at h1 <;> omega
    have hzi : (z : Int) < 3 := by omega
    have hz00 : (0 : Int) ≤ (z : Int) := by omega
    go_enter Tryz.func72, Tryz.ntmps72
    go_wp2_with fail
    refine (wparts_any hQ ho.nc k).mono ?_
    rintro e w1 ⟨rfl, hb1⟩
    have HPP := hide (show hasP p[k].kind = true → partA p (k : Int) = (k : Int) + 1 ∧ partB p (k : Int) = (endP p (k + 1) : Nat) from fun e => ⟨(parts_node (partsE_ok ho.ok hk) hk e).1, (parts_node (partsE_ok ho.ok hk) hk e).2.1⟩)
    have HP := hide (show hasP p[k].kind = true → k + 1 < p.length ∧ endP p (k + 1) < p.length from fun e => end_two ho.ok.form hk e)
    obtain ⟨pa, hpa⟩ : ∃ pa, partA p (k : Int) = pa := ⟨_, rfl⟩
    obtain ⟨pb, hpb⟩ : ∃ pb, partB p (k : Int) = pb := ⟨_, rfl⟩
    obtain ⟨pc, hpc⟩ : ∃ pc, partC p (k : Int) = pc := ⟨_, rfl⟩
    rw [hpa, hpb] at HPP
    rw [hpa, hpb, hpc]
    clear hpa hpb hpc
    have hk1 : KeptS [gW, gO] w w1 := KeptS.of hb1
    have hb2 : Below w1.heap.size w1 ((w1.alloc (.cells #[.int .i64 pa] 3)).alloc (.cells #[.int .i64 pb] 3)) := ((Below.refl _ _).alloc (Nat.le_refl _) _).alloc (by simp) _
    have x5 : ((w1.alloc (.cells #[.int .i64 pa] 3)).alloc (.cells #[.int .i64 pb] 3)).cell? ⟨w1.heap.size, 0, none⟩ = some (.int .i64 pa) := by simp
    have x6 : ((w1.alloc (.cells #[.int .i64 pa] 3)).alloc (.cells #[.int .i64 pb] 3)).cell? ⟨w1.heap.size + 1, 0, none⟩ = some (.int .i64 pb) := by simp
    have l6 : w1.heap.size + 1 < ((w1.alloc (.cells #[.int .i64 pa] 3)).alloc (.cells #[.int .i64 pb] 3)).heap.size := by simp
    have hK2 := (hK.on hb1).on hb2
    have hW2 := (hW.on hb1).on hb2
    have hO2 := (hO.on hb1).on hb2
    have hk2 := hk1.trans (KeptS.of hb2)
    have hlW : gW < w1.heap.size := (hW.on hb1).lt
    have hlO : gO < w1.heap.size := (hO.on hb1).lt
    clear hK hW hO hQ hb1 hk1 hb2
    go_upto_region 3 with fail
    generalize (w1.alloc (.cells #[.int .i64 pa] 3)).alloc (.cells #[.int .i64 pb] 3) = w2 at *
    generalize w1.heap.size = b5 at *
    obtain ⟨b, off, rfl, hbb, c1, c2⟩ := hK2.now.nodes.at hk
    rw [hz] at c2
    have q0 := hK2.now.c0
    have q00 := hK2.now.lt
    have hb3 : Below w2.heap.size w2 (w2.alloc (.cells #[.int .i64 p[k].kind, .int .i64 (z : Int)] 93)) := (Below.refl _ _).alloc (Nat.le_refl _) _
    obtain ⟨y1, y2, y0⟩ := pair2 w2 (.int .i64 p[k].kind) (.int .i64 (z : Int)) 93
    have hK3 := hK2.on hb3
    have hW3 := hW2.on hb3
    have hO3 := hO2.on hb3
    have hk3 := hk2.trans (KeptS.of hb3)
    have x53 := (hb3.cell (p := ⟨b5, 0, none⟩) (Nat.lt_of_succ_lt l6)).trans x5
    have x63 := (hb3.cell (p := ⟨b5 + 1, 0, none⟩) l6).trans x6
    have l63 : b5 + 1 < (w2.alloc (.cells #[.int .i64 p[k].kind, .int .i64 (z : Int)] 93)).heap.size := Nat.lt_of_lt_of_le l6 hb3.size
    clear hz hK2 hW2 hO2 hk2 x5 x6 hb3
    generalize hkg : p[k].kind = kd at *
    clear hkg hsg
    go_upto_region 4 with fail
    generalize hw3 : w2.alloc (.cells #[.int .i64 kd, .int .i64 (z : Int)] 93) = w3 at *
    clear hw3 c1 c2 q0 q00 hbb
    generalize w2.heap.size = nb at *
    have hQ3 := hK3.now
    have HL1 := hide hl1
    have HL2 := hide hl2
    clear hl1 hl2
    rcases nine hkd with rfl | rfl | rfl | rfl | rfl | rfl | rfl | rfl | rfl
    · -- nothing
      have R := hide (show beginF p r.outs (bitsV x 3) (m + 1) k s = (s, true) by unfold beginF; rw [unhide HKA]; rfl)
      go_wp2_with fail
      go_ret
      exact next_of (unhide R) ⟨rfl, hW3, hO3, hk3⟩
    · have R := hide (show beginF p r.outs (bitsV x 3) (m + 1) k s = ((s.1.set k true, s.2), false) by unfold beginF; rw [unhide HKA]; rfl)
      go_wp2_with fail
      refine (waitAt_any hQ3 s hW3 hO3 (unhide HL1) ho.ne k hk).mono ?_
      rintro e w4 ⟨rfl, hW4, hO4, hk4⟩
      go_wp2_with fail
      go_ret
      exact next_of (unhide R) ⟨rfl, hW4, hO4, hk3.trans hk4⟩
    · have R := hide (show beginF p r.outs (bitsV x 3) (m + 1) k s = ((s.1.set k true, s.2), false) by unfold beginF; rw [unhide HKA]; rfl)
      go_wp2_with fail
      refine (waitAt_any hQ3 s hW3 hO3 (unhide HL1) ho.ne k hk).mono ?_
      rintro e w4 ⟨rfl, hW4, hO4, hk4⟩
      go_wp2_with fail
      go_ret
      exact next_of (unhide R) ⟨rfl, hW4, hO4, hk3.trans hk4⟩
    · -- puts out
      have R := hide (show beginF p r.outs (bitsV x 3) (m + 1) k s = ((s.1, s.2.set z true), true) by unfold beginF; rw [unhide HKA, unhide HSA]; rfl)
      have R1 := hide (And.intro (hW3.far (k := z) (v := .bool true) ho.ne) (And.intro (hO3.set z true) (hk3.trans (KeptS.set (k := z) (.bool true) (by simp : gO ∈ [gW, gO])))))
      have q6 := hQ3.c6
      have q00 := hQ3.lt
      have hcO := hO3.cell z (by rw [unhide HL2]; omega)
      have hfO := hO3.frozen z
      have hnO := hO3.lt
      have hs7 : (w3.setCell ⟨gO, z, none⟩ (.bool true)).cell? ⟨sb, 6, none⟩ = some (.slice (some ⟨gO, 0, none⟩) 3 3) := (hK3 _ (KeptG.set (k := z) (.bool true) (by simp : gO ∈ [gW, gO]))).c6
      have hs1 : (w3.setCell ⟨gO, z, none⟩ (.bool true)).cell? ⟨nb, 1, none⟩ = some (.int .i64 (z : Int)) := (World.cell?_of_block (a := ⟨nb, 1, none⟩) (set_other (Nat.ne_of_gt (show gO < nb by omega)))).trans y2
      go_wp2_with fail
      go_region_held3 (fun W => W.cell? ⟨sb, 6, none⟩ = some (.slice (some ⟨gO, 0, none⟩) 3 3) ∧ W.cell? ⟨nb, 1, none⟩ = some (.int .i64 (z : Int)))
        ((first | exact ⟨q6, y2⟩ | exact ⟨hs7, hs1⟩))
        (fail)
      go_wp2_with fail
      go_ret
      exact next_of (unhide R) ⟨rfl, (unhide R1).1, (unhide R1).2.1, (unhide R1).2.2⟩
    · have R := hide (show beginF p r.outs (bitsV x 3) (m + 1) k s = ((s.1.set k true, s.2), false) by unfold beginF; rw [unhide HKA]; rfl)
      go_wp2_with fail
      refine (waitAt_any hQ3 s hW3 hO3 (unhide HL1) ho.ne k hk).mono ?_
      rintro e w4 ⟨rfl, hW4, hO4, hk4⟩
      go_wp2_with fail
      go_ret
      exact next_of (unhide R) ⟨rfl, hW4, hO4, hk3.trans hk4⟩
    all_goals
      obtain ⟨h1, h2⟩ := unhide HP rfl
      obtain ⟨rfl, rfl⟩ := unhide HPP rfl
      have h3 := end_gt h1
      have ih1 : ∀ (t : NextD) (W : World), Kp [gW, gO] W (WkQ sb gW gO p r x (some ⟨b, off, none⟩) n c f wa wn wc oa on oc) → BoolRow W gW t.1 → BoolRow W gO t.2 → t.1.length = p.length → t.2.length = 3 → Calls Tryz.prog 72 #[.pointer (some ⟨sb, 0, none⟩), .int .i64 ((k : Int) + 1)] W fun e w' => NextAt gW gO W w' (beginF p r.outs (bitsV x 3) m (k + 1) t) e := fun t W a1 a2 a3 a4 a5 => by
        have := wbegin_any sb gW gO p r x _ n c f wa wn wc oa on oc ho m (k + 1) t W (by omega) h1 a1 a2 a3 a4 a5
        rwa [show ((k + 1 : Nat) : Int) = (k : Int) + 1 by omega] at this
      have ih2 : ∀ (t : NextD) (W : World), Kp [gW, gO] W (WkQ sb gW gO p r x (some ⟨b, off, none⟩) n c f wa wn wc oa on oc) → BoolRow W gW t.1 → BoolRow W gO t.2 → t.1.length = p.length → t.2.length = 3 → Calls Tryz.prog 72 #[.pointer (some ⟨sb, 0, none⟩), .int .i64 (endP p (k + 1) : Nat)] W fun e w' => NextAt gW gO W w' (beginF p r.outs (bitsV x 3) m (endP p (k + 1)) t) e := fun t W a1 a2 a3 a4 a5 =>
        wbegin_any sb gW gO p r x _ n c f wa wn wc oa on oc ho m (endP p (k + 1)) t W (by omega) h2 a1 a2 a3 a4 a5
      have HIH := hide (And.intro ih1 ih2)
      clear ih1 ih2
    · -- one behind the other
      have R := hide (begin_seq (p := p) (wo := r.outs) (ins := bitsV x 3) (m := m) (k := k) (s := s) (unhide HKA))
      have hwent := begin_went p r.outs (bitsV x 3) m (k + 1) s
      go_wp2_with fail
      refine ((unhide HIH).1 s _ hK3 hW3 hO3 (unhide HL1) (unhide HL2)).mono ?_
      rintro e w4 ⟨rfl, hW4, hO4, hk4⟩
      have hK4 := hK3.step hk4.1 (fun _ hg => Or.inl hg)
      have x64 := (World.cell?_of_block (a := ⟨b5 + 1, 0, none⟩) (hk4.1.2 (b5 + 1) l63 (by simp; omega))).trans x63
      obtain ⟨t1, ht1⟩ : ∃ t, beginF p r.outs (bitsV x 3) m (k + 1) s = t := ⟨_, rfl⟩
      rw [ht1] at hW4 hO4 hwent R ⊢
      obtain ⟨s1, b1⟩ := t1
      have HK4 := hide hK4
      have HKT := hide (hk3.trans hk4)
      have HWE := hide hwent
      clear hK4 hwent ht1 hk4
      cases b1
      · have R2 := hide (show beginF p r.outs (bitsV x 3) (m + 1) k s = (s1, false) from unhide R)
        go_wp2_with fail
        go_ret
        exact next_of (unhide R2) ⟨rfl, hW4, hO4, unhide HKT⟩
      · have R2 := hide (show beginF p r.outs (bitsV x 3) (m + 1) k s = beginF p r.outs (bitsV x 3) m (endP p (k + 1)) s1 from unhide R)
        go_wp2_with fail
        refine ((unhide HIH).2 s1 _ (unhide HK4) hW4 hO4 (by rw [(unhide HWE).len]; exact unhide HL1) (by rw [(unhide HWE).outs]; exact unhide HL2)).mono ?_
        rintro e w5 ⟨rfl, hW5, hO5, hk5⟩
        go_wp2_with fail
        go_ret
        exact next_of (unhide R2) ⟨rfl, hW5, hO5, (unhide HKT).trans hk5⟩
    · -- both at once
      have R := hide (begin_par (p := p) (wo := r.outs) (ins := bitsV x 3) (m := m) (k := k) (s := s) (unhide HKA))
      have hwent := begin_went p r.outs (bitsV x 3) m (k + 1) s
      obtain ⟨t1, ht1⟩ : ∃ t, beginF p r.outs (bitsV x 3) m (k + 1) s = t := ⟨_, rfl⟩
      rw [ht1] at hwent R
      obtain ⟨s1, b1⟩ := t1
      obtain ⟨t2, ht2⟩ : ∃ t, beginF p r.outs (bitsV x 3) m (endP p (k + 1)) s1 = t := ⟨_, rfl⟩
      have R2 := hide (show beginF p r.outs (bitsV x 3) (m + 1) k s = (t2.1, b1 && t2.2) by rw [unhide R]; show ((beginF p r.outs (bitsV x 3) m (endP p (k + 1)) s1).1, b1 && (beginF p r.outs (bitsV x 3) m (endP p (k + 1)) s1).2) = _; rw [ht2])
      obtain ⟨s2, b2⟩ := t2
      obtain ⟨v1, hv1⟩ : ∃ v : Int, v = (k : Int) + 1 := ⟨_, rfl⟩
      obtain ⟨v2, hv2⟩ : ∃ v : Int, v = ((endP p (k + 1) : Nat) : Int) := ⟨_, rfl⟩
      rw [← hv1] at x53
      rw [← hv2] at x63
      have C1 : ∀ W : World, Kp [gW, gO] W (WkQ sb gW gO p r x (some ⟨b, off, none⟩) n c f wa wn wc oa on oc) → BoolRow W gW s.1 → BoolRow W gO s.2 → Calls Tryz.prog 72 #[.pointer (some ⟨sb, 0, none⟩), .int .i64 v1] W fun e w' => NextAt gW gO W w' (s1, b1) e := fun W a1 a2 a3 => by
        have := (unhide HIH).1 s W a1 a2 a3 (unhide HL1) (unhide HL2)
        rwa [ht1, ← hv1] at this
      have C2 : ∀ W : World, Kp [gW, gO] W (WkQ sb gW gO p r x (some ⟨b, off, none⟩) n c f wa wn wc oa on oc) → BoolRow W gW s1.1 → BoolRow W gO s1.2 → Calls Tryz.prog 72 #[.pointer (some ⟨sb, 0, none⟩), .int .i64 v2] W fun e w' => NextAt gW gO W w' (s2, b2) e := fun W a1 a2 a3 => by
        have := (unhide HIH).2 s1 W a1 a2 a3 (by rw [hwent.len]; exact unhide HL1) (by rw [hwent.outs]; exact unhide HL2)
        rwa [ht2, ← hv2] at this
      have HC := hide (And.intro C1 C2)
      have hbd := (Below.refl w3.heap.size w3).drew
      have hKd := hK3.on hbd
      have hWd := hW3.on hbd
      have hOd := hO3.on hbd
      have hkd3 := hk3.trans (KeptS.of hbd)
      have hn5 : b5 ∉ [gW, gO] := by simp; omega
      have hn6 : b5 + 1 ∉ [gW, gO] := by simp; omega
      have cells : ∀ W : World, KeptS [gW, gO] w3 W → W.cell? ⟨b5, 0, none⟩ = some (.int .i64 v1) ∧ W.cell? ⟨b5 + 1, 0, none⟩ = some (.int .i64 v2) := fun W hW => ⟨(World.cell?_of_block (a := ⟨b5, 0, none⟩) (hW.1.2 b5 (Nat.lt_of_succ_lt l63) hn5)).trans x53, (World.cell?_of_block (a := ⟨b5 + 1, 0, none⟩) (hW.1.2 (b5 + 1) l63 hn6)).trans x63⟩
      have HCE := hide cells
      clear hv1 hv2
      clear C1 C2 R ht1 ht2 hwent cells hK3 hW3 hO3
      have HKS := hide (KeptS.of (G := [gW, gO]) hbd)
      go_wp2_with fail
      go_region_held3 (fun W => W.cell? ⟨b5, 0, none⟩ = some (.int .i64 v1) ∧ W.cell? ⟨b5 + 1, 0, none⟩ = some (.int .i64 v2))
        ((first | exact ⟨x53, x63⟩ | exact hSA | exact hSB))
        ((first
          | (go_at_call_of 72 (Value.int IntKind.i64 v1); refine ((unhide HC).1 _ hKd hWd hOd).mono ?_; rintro e wA ⟨rfl, hWA, hOA, hkA⟩; have hKA := hKd.step hkA.1 (fun _ hg => Or.inl hg); have hkA3 := hkd3.trans hkA; have hSA := unhide HCE wA ((unhide HKS).trans hkA))
          | (go_at_call_of 72 (Value.int IntKind.i64 v2); refine ((unhide HC).2 _ hKA hWA hOA).mono ?_; rintro e wB ⟨rfl, hWB, hOB, hkB⟩; have hkB3 := hkA3.trans hkB; have hSB := unhide HCE wB (((unhide HKS).trans hkA).trans hkB))))
      cases b1 <;> cases b2
      all_goals
        go_wp2_with fail
        go_ret
        exact next_of (unhide R2) ⟨rfl, hWB, hOB, hkB3⟩
    · -- asks an input
      have R := hide (begin_ask (p := p) (wo := r.outs) (ins := bitsV x 3) (m := m) (k := k) (s := s) (Or.inl (unhide HKA)))
      have HAK := hide (show askB p r.outs (bitsV x 3) k = hasIn x z by unfold askB hasIn; rw [unhide HKA, unhide HSA]; simp)
      go_wp2_with fail
      refine (hasInput_any hQ3 ho.x0 ho.x7 z hz2).mono ?_
      rintro e w' ⟨rfl, rfl⟩
      obtain ⟨hv, hhv⟩ : ∃ hv, hasIn x z = hv := ⟨_, rfl⟩
      rw [hhv] at HAK ⊢
      clear hhv
      go_wp2_with fail
      refine (choose_cl x53 x63 hv).mono ?_
      rintro e w' ⟨rfl, rfl⟩
      cases hv
      · have R2 := hide (show beginF p r.outs (bitsV x 3) (m + 1) k s = beginF p r.outs (bitsV x 3) m (endP p (k + 1)) s by rw [unhide R, unhide HAK]; rfl)
        go_wp2_with fail
        refine ((unhide HIH).2 s _ hK3 hW3 hO3 (unhide HL1) (unhide HL2)).mono ?_
        rintro e w4 ⟨rfl, hW4, hO4, hk4⟩
        go_wp2_with fail
        go_ret
        exact next_of (unhide R2) ⟨rfl, hW4, hO4, hk3.trans hk4⟩
      · have R2 := hide (show beginF p r.outs (bitsV x 3) (m + 1) k s = beginF p r.outs (bitsV x 3) m (k + 1) s by rw [unhide R, unhide HAK]; rfl)
        go_wp2_with fail
        refine ((unhide HIH).1 s _ hK3 hW3 hO3 (unhide HL1) (unhide HL2)).mono ?_
        rintro e w4 ⟨rfl, hW4, hO4, hk4⟩
        go_wp2_with fail
        go_ret
        exact next_of (unhide R2) ⟨rfl, hW4, hO4, hk3.trans hk4⟩
    · -- asks what was put out
      have R := hide (begin_ask (p := p) (wo := r.outs) (ins := bitsV x 3) (m := m) (k := k) (s := s) (Or.inr (unhide HKA)))
      have hzl : z < r.outs.length := by have := hQ3.outs.1; have := ho.ho; omega
      obtain ⟨ob, oo, rfl, hob, co⟩ := hQ3.outs.at hzl
      have hzn : (z : Int) < (on : Int) := by have := ho.ho; omega
      have HAK := hide (show askB p r.outs (bitsV x 3) k = r.outs[z] by unfold askB; rw [unhide HKA, unhide HSA]; simp [List.getD_eq_getElem?_getD, hzl])
      have q3 := hQ3.c3
      have q00 := hQ3.lt
      have hbd := (Below.refl w3.heap.size w3).drew
      have hKd := hK3.on hbd
      have hWd := hW3.on hbd
      have hOd := hO3.on hbd
      have hkd3 := hk3.trans (KeptS.of hbd)
      have x5d := (hbd.cell (p := ⟨b5, 0, none⟩) (Nat.lt_of_succ_lt l63)).trans x53
      have x6d := (hbd.cell (p := ⟨b5 + 1, 0, none⟩) l63).trans x63
      have hob0 := hob
      have q3k : ∀ W : World, KeptG [gW, gO] w3 W → W.cell? ⟨sb, 3, none⟩ = some (.slice (some ⟨ob, oo, none⟩) on oc) ∧ W.cell? ⟨nb, 1, none⟩ = some (.int .i64 (z : Int)) ∧ W.cell? ⟨ob, oo + z, none⟩ = some (.bool r.outs[z]) := fun W hW => by
        have h9 := hK3 W hW
        obtain ⟨ob2, oo2, e2, _, co2⟩ := h9.outs.at hzl
        injection e2 with e2
        injection e2 with e3 e4
        subst e3
        subst e4
        exact ⟨h9.c3, (World.cell?_of_block (a := ⟨nb, 1, none⟩) (hW.2 nb y0 (by simp; omega))).trans y2, co2⟩
      have HQK := hide q3k
      have HKG := hide (KeptG.of (G := [gW, gO]) hbd)
      clear hK3 hW3 hO3 q3k
      generalize r.outs[z] = iv at *
      cases iv
      · have R2 := hide (show beginF p r.outs (bitsV x 3) (m + 1) k s = beginF p r.outs (bitsV x 3) m (endP p (k + 1)) s by rw [unhide R, unhide HAK]; rfl)
        have CC := choose_cl x5d x6d false
        simp only [Bool.false_eq_true, if_false] at CC
        go_wp2_with fail
        go_region_held3 (fun W => W.cell? ⟨sb, 3, none⟩ = some (.slice (some ⟨ob, oo, none⟩) on oc) ∧ W.cell? ⟨nb, 1, none⟩ = some (.int .i64 (z : Int)) ∧ W.cell? ⟨ob, oo + z, none⟩ = some (.bool false))
          ((first | exact ⟨q3, y2, co⟩ | exact hSA))
          ((first
            | (go_at_call 103; refine CC.mono ?_; rintro e w' ⟨rfl, rfl⟩)
            | (go_at_call 72; refine ((unhide HIH).2 s _ hKd hWd hOd (unhide HL1) (unhide HL2)).mono ?_; rintro e wA ⟨rfl, hWA, hOA, hkA⟩; have hSA := unhide HQK wA ((unhide HKG).trans hkA.1))))
        go_wp2_with fail
        go_ret
        exact next_of (unhide R2) ⟨rfl, hWA, hOA, hkd3.trans hkA⟩
      · have R2 := hide (show beginF p r.outs (bitsV x 3) (m + 1) k s = beginF p r.outs (bitsV x 3) m (k + 1) s by rw [unhide R, unhide HAK]; rfl)
        have CC := choose_cl x5d x6d true
        simp only [if_true] at CC
        go_wp2_with fail
        go_region_held3 (fun W => W.cell? ⟨sb, 3, none⟩ = some (.slice (some ⟨ob, oo, none⟩) on oc) ∧ W.cell? ⟨nb, 1, none⟩ = some (.int .i64 (z : Int)) ∧ W.cell? ⟨ob, oo + z, none⟩ = some (.bool true))
          ((first | exact ⟨q3, y2, co⟩ | exact hSA))
          ((first
            | (go_at_call 103; refine CC.mono ?_; rintro e w' ⟨rfl, rfl⟩)
            | (go_at_call 72; refine ((unhide HIH).1 s _ hKd hWd hOd (unhide HL1) (unhide HL2)).mono ?_; rintro e wA ⟨rfl, hWA, hOA, hkA⟩; have hSA := unhide HQK wA ((unhide HKG).trans hkA.1))))
        go_wp2_with fail
        go_ret
        exact next_of (unhide R2) ⟨rfl, hWA, hOA, hkd3.trans hkA⟩

theorem on_seq2 {p : List NodeD} {ws wo : List Bool} {ins : List Int} {m k : Nat} {s : NextD} (h : kindAt p k = 5) : onF p ws wo ins (m + 1) k s = (if someP p ws (k + 1) then (if (onF p ws wo ins m (k + 1) s).2 then beginF p wo ins m (endP p (k + 1)) (onF p ws wo ins m (k + 1) s).1 else ((onF p ws wo ins m (k + 1) s).1, false)) else onF p ws wo ins m (endP p (k + 1)) s) := by
  conv => lhs; unfold onF
  rw [h]; rfl
theorem set_no {l : List Bool} {k : Nat} (h : l.getD k false = false) : l.set k false = l := by
  by_cases hk : k < l.length
  · have h1 : l[k] = false := by simpa [List.getD_eq_getElem?_getD, hk] using h
    conv => lhs; rw [← h1]
    exact List.set_getElem_self hk
  · exact List.set_eq_of_length_le (by omega)
theorem hasIn_no {x : Int} (h0 : 0 ≤ x) (h7 : x ≤ 7) {k : Nat} (hk : k ≤ 2) : ((bitsV x 3).getD k 0 == 0) = !hasIn x k := by
  rcases three hk with rfl | rfl | rfl <;> rcases eight h0 h7 with rfl | rfl | rfl | rfl | rfl | rfl | rfl | rfl <;> decide +kernel
def goOne (p : List NodeD) (ws wo : List Bool) (ins : List Int) (m k : Nat) (s : NextD × Bool) : NextD × Bool := if someP p ws k then ((onF p ws wo ins m k s.1).1, s.2 && (onF p ws wo ins m k s.1).2) else s
theorem goOne_went (p : List NodeD) (ws wo : List Bool) (ins : List Int) (m k : Nat) (s : NextD × Bool) : Went4 p s.1 (goOne p ws wo ins m k s).1 := by
  unfold goOne
  split
  · exact on_went _ _ _ _ _ _ _
  · exact Went4.refl _ _
theorem on_both {p : List NodeD} {ws wo : List Bool} {ins : List Int} {m k : Nat} {s : NextD} (h : kindAt p k = 6 ∨ kindAt p k = 7 ∨ kindAt p k = 8) : onF p ws wo ins (m + 1) k s = goOne p ws wo ins m (endP p (k + 1)) (goOne p ws wo ins m (k + 1) (s, true)) := by
  have e1 : goOne p ws wo ins m (k + 1) (s, true) = (if someP p ws (k + 1) then onF p ws wo ins m (k + 1) s else (s, true)) := by
    unfold goOne
    split
    · simp
    · rfl
  rw [e1]
  unfold goOne
  conv => lhs; unfold onF
  rcases h with h | h | h <;> (rw [h]; rfl)
/-- What goOn is asked to do of node k. -/
def GoOn (sb gW gO : Nat) (p : List NodeD) (r : RestD) (x : Int) (a : Option Addr) (n c : Nat) (f : Bool) (wa : Option Addr) (wn wc : Nat) (oa : Option Addr) (on oc : Nat) (m k : Nat) (kv : Int) : Prop :=
  ∀ (s : NextD) (w : World), someP p r.waits k = true → (∀ i, k ≤ i → s.1.getD i false = false) → Kp [gW, gO] w (WkQ sb gW gO p r x a n c f wa wn wc oa on oc) → BoolRow w gW s.1 → BoolRow w gO s.2 → s.1.length = p.length → s.2.length = 3 →
    Calls Tryz.prog 74 #[.pointer (some ⟨sb, 0, none⟩), .int .i64 kv] w fun e w' => NextAt gW gO w w' (onF p r.waits r.outs (bitsV x 3) m k s) e

def Pair2 (g : Nat) (k1 k2 : Int) (W : World) : Prop := g < W.heap.size ∧ W.cell? ⟨g, 0, none⟩ = some (.int .i64 k1) ∧ W.cell? ⟨g, 1, none⟩ = some (.int .i64 k2)
set_option maxRecDepth 100000 in
set_option maxHeartbeats 4000000 in
theorem allGoOn_of (sb gW gO : Nat) (p : List NodeD) (r : RestD) (x : Int) (a : Option Addr) (n c : Nat) (f : Bool) (wa : Option Addr) (wn wc : Nat) (oa : Option Addr) (on oc : Nat) (ho : WkO p r x n c wn wc on gW gO) (m k1 k2 g : Nat) (hk1 : k1 < p.length) (hk2 : k2 < p.length) (hle : endP p k1 ≤ k2)
    (G1 : GoOn sb gW gO p r x a n c f wa wn wc oa on oc m k1 (k1 : Int)) (G2 : GoOn sb gW gO p r x a n c f wa wn wc oa on oc m k2 (k2 : Int))
    (s : NextD) (w : World) (hz : ∀ i, k1 ≤ i → s.1.getD i false = false) (hK : Kp [gW, gO] w (WkQ sb gW gO p r x a n c f wa wn wc oa on oc)) (hP : Kp [gW, gO] w (Pair2 g (k1 : Int) (k2 : Int))) (hW : BoolRow w gW s.1) (hO : BoolRow w gO s.2) (hl1 : s.1.length = p.length) (hl2 : s.2.length = 3) :
    Calls Tryz.prog 107 #[.pointer (some ⟨sb, 0, none⟩), .slice (some ⟨g, 0, none⟩) 2 2] w fun e w' => NextAt gW gO w w' (goOne p r.waits r.outs (bitsV x 3) m k2 (goOne p r.waits r.outs (bitsV x 3) m k1 (s, true))) e := by
  have hgt := end_gt hk1
  have hw1 := goOne_went p r.waits r.outs (bitsV x 3) m k1 (s, true)
  have hz2 : ∀ i, k2 ≤ i → (goOne p r.waits r.outs (bitsV x 3) m k1 (s, true)).1.1.getD i false = false := fun i hi => by
    have h0 := hz i (by omega)
    unfold goOne
    split
    · rename_i hs
      exact (on_above ho.ok _ _ _ ho.may m k1 s hk1 hs i (by omega)).trans h0
    · exact h0
  have HZ := hide (And.intro hz hz2)
  have HL := hide (And.intro (And.intro hl1 hl2) (And.intro (hw1.len.trans hl1) (hw1.outs.trans hl2)))
  clear hz hz2 hl1 hl2 hw1
  have HG := hide (And.intro G1 G2)
  clear G1 G2
  obtain ⟨s1, hs1⟩ : ∃ t, goOne p r.waits r.outs (bitsV x 3) m k1 (s, true) = t := ⟨_, rfl⟩
  have HS1 := hide hs1
  rw [hs1] at HZ HL ⊢
  clear hs1
  obtain ⟨s2, hs2⟩ : ∃ t, goOne p r.waits r.outs (bitsV x 3) m k2 s1 = t := ⟨_, rfl⟩
  have HS2 := hide hs2
  rw [hs2]
  clear hs2
  obtain ⟨⟨n1, o1⟩, b1⟩ := s1
  obtain ⟨⟨n2, o2⟩, b2⟩ := s2
  go_enter Tryz.func107, Tryz.ntmps107
  go_wp2_with fail
  go_loopw [5, 10] (fun ov iv wr => KeptS [gW, gO] w wr ∧ ((iv = .int .i64 0 ∧ ov = .bool true ∧ wr = w) ∨ (iv = .int .i64 1 ∧ ov = .bool b1 ∧ BoolRow wr gW n1 ∧ BoolRow wr gO o1) ∨ (iv = .int .i64 2 ∧ ov = .bool b2 ∧ BoolRow wr gW n2 ∧ BoolRow wr gO o2))) (fun _ iv _ => 2 - (intOf iv).toNat)
  case atStart => exact ⟨⟨KeptG.refl _ _, rfl, rfl, rfl⟩, Or.inl ⟨rfl, rfl, rfl⟩⟩
  case round =>
    obtain ⟨hk, h3⟩ := hrel
    have hKr := hK.step hk.1 (fun _ hg => Or.inl hg)
    obtain ⟨lg, p0, p1⟩ := (hP.step hk.1 (fun _ hg => Or.inl hg)).now
    rcases h3 with ⟨rfl, rfl, rfl⟩ | ⟨rfl, rfl, hW1, hO1⟩ | ⟨rfl, rfl, hW1, hO1⟩
    · go_wp2_with fail
      refine (wSomeWait_any hKr.now ho k1 hk1).mono ?_
      rintro e w1 ⟨rfl, hb⟩
      cases hs : someP p r.waits k1
      · have R := hide (show ((s, true) : NextD × Bool) = ((n1, o1), b1) by rw [← unhide HS1]; unfold goOne; rw [hs]; rfl)
        have R2 := hide (Prod.mk.inj (unhide R))
        have hW2 := hW.on hb
        have hO2 := hO.on hb
        have hk2' := hk.trans (KeptS.of hb)
        go_wp2_with fail
        exact ⟨⟨hk2', Or.inr (Or.inl ⟨by go_num, by rw [(unhide R2).2], by rw [(unhide R2).1] at hW2; exact hW2, by rw [(unhide R2).1] at hO2; exact hO2⟩)⟩, by simp [intOf]⟩
      · have R := hide (show ((onF p r.waits r.outs (bitsV x 3) m k1 s).1, (onF p r.waits r.outs (bitsV x 3) m k1 s).2) = ((n1, o1), b1) by rw [← unhide HS1]; unfold goOne; rw [hs]; simp)
        go_wp2_with fail
        refine ((unhide HG).1 s _ hs (unhide HZ).1 (hKr.on hb) (hW.on hb) (hO.on hb) (unhide HL).1.1 (unhide HL).1.2).mono ?_
        rintro e w2 ⟨rfl, hW2, hO2, hk2'⟩
        have hk3 := (hk.trans (KeptS.of hb)).trans hk2'
        rw [(Prod.mk.inj (unhide R)).1] at hW2 hO2
        rw [(Prod.mk.inj (unhide R)).2]
        clear hk2' hb
        cases b1
        all_goals
          go_wp2_with fail
          exact ⟨⟨hk3, Or.inr (Or.inl ⟨by go_num, rfl, hW2, hO2⟩)⟩, by simp [intOf]⟩
    · go_wp2_with fail
      refine (wSomeWait_any hKr.now ho k2 hk2).mono ?_
      rintro e w1 ⟨rfl, hb⟩
      cases hs : someP p r.waits k2
      · have R := hide (show (((n1, o1), b1) : NextD × Bool) = ((n2, o2), b2) by rw [← unhide HS2]; unfold goOne; rw [hs]; rfl)
        have hW2 := hW1.on hb
        have hO2 := hO1.on hb
        have hk2' := hk.trans (KeptS.of hb)
        go_wp2_with fail
        exact ⟨⟨hk2', Or.inr (Or.inr ⟨by go_num, by rw [(Prod.mk.inj (unhide R)).2], by rw [(Prod.mk.inj (Prod.mk.inj (unhide R)).1).1] at hW2; exact hW2, by rw [(Prod.mk.inj (Prod.mk.inj (unhide R)).1).2] at hO2; exact hO2⟩)⟩, by simp [intOf]⟩
      · have R := hide (show ((onF p r.waits r.outs (bitsV x 3) m k2 (n1, o1)).1, b1 && (onF p r.waits r.outs (bitsV x 3) m k2 (n1, o1)).2) = ((n2, o2), b2) by rw [← unhide HS2]; unfold goOne; rw [hs]; rfl)
        go_wp2_with fail
        refine ((unhide HG).2 (n1, o1) _ hs (unhide HZ).2 (hKr.on hb) (hW1.on hb) (hO1.on hb) (unhide HL).2.1 (unhide HL).2.2).mono ?_
        rintro e w2 ⟨rfl, hW2, hO2, hk2'⟩
        have hk3 := (hk.trans (KeptS.of hb)).trans hk2'
        rw [(Prod.mk.inj (unhide R)).1] at hW2 hO2
        have R2 := hide (Prod.mk.inj (unhide R)).2
        obtain ⟨bo, hbo⟩ : ∃ bo, (onF p r.waits r.outs (bitsV x 3) m k2 (n1, o1)).2 = bo := ⟨_, rfl⟩
        rw [hbo] at R2 ⊢
        clear hk2' hb hbo R
        cases bo
        · have R3 := hide (show b2 = false by rw [← unhide R2]; simp)
          go_wp2_with fail
          exact ⟨⟨hk3, Or.inr (Or.inr ⟨by go_num, by rw [unhide R3], hW2, hO2⟩)⟩, by simp [intOf]⟩
        · have R3 := hide (show b2 = b1 by rw [← unhide R2]; simp)
          go_wp2_with fail
          exact ⟨⟨hk3, Or.inr (Or.inr ⟨by go_num, by rw [unhide R3], hW2, hO2⟩)⟩, by simp [intOf]⟩
    · go_wp2_with fail
      go_ret
      exact ⟨rfl, hW1, hO1, hk⟩

set_option maxRecDepth 100000 in
set_option maxHeartbeats 8000000 in
theorem goOn_any (sb gW gO : Nat) (p : List NodeD) (r : RestD) (x : Int) (a : Option Addr) (n c : Nat) (f : Bool) (wa : Option Addr) (wn wc : Nat) (oa : Option Addr) (on oc : Nat) (ho : WkO p r x n c wn wc on gW gO) : ∀ (m k : Nat), p.length - k ≤ m → k < p.length → GoOn sb gW gO p r x a n c f wa wn wc oa on oc m k (k : Int)
  | 0, k, hm, hk => by omega
  | m + 1, k, hm, hk => by
    intro s w hsome hz hK hW hO hl1 hl2
    have hQ := hK.now
    have HN := hide hQ.nodes.1
    have hki : (k : Int) < (n : Int) := by have := unhide HN; omega
    have hkd := ho.ok.kinds p[k] (List.getElem_mem hk)
    have hsg := ho.ok.sigs p[k] (List.getElem_mem hk)
    obtain ⟨z, hzz⟩ := Int.eq_ofNat_of_zero_le hsg.1
    have HKA := hide (kindAt_of hk)
    have HSA := hide (sigAt_of hk hzz)
    have hz2 : z ≤ 2 := by
      have h1 := hsg.2
      rw [hzz] at h1
      unfold mostS at h1
      split at h1 <;> omega
    have hzi : (z : Int) < 3 := by omega
    have hz00 : (0 : Int) ≤ (z : Int) := by omega
    have HPP := hide (show hasP p[k].kind = true → partA p (k : Int) = (k : Int) + 1 ∧ partB p (k : Int) = (endP p (k + 1) : Nat) from fun e => ⟨(parts_node (partsE_ok ho.ok hk) hk e).1, (parts_node (partsE_ok ho.ok hk) hk e).2.1⟩)
    have HP := hide (show hasP p[k].kind = true → (k + 1 < p.length ∧ endP p (k + 1) < p.length) ∧ (someP p r.waits (k + 1) = true ∨ someP p r.waits (endP p (k + 1)) = true) from fun e => ⟨end_two ho.ok.form hk e, some_parts hk e ho.may hsome⟩)
    have HLF := hide (show hasP p[k].kind = false → waitK p[k].kind = true from fun e => by
      rcases some_kind hk ho.may hsome with h1 | h1
      · rw [kindAt_of hk, e] at h1; simp at h1
      · rw [kindAt_of hk] at h1; exact h1)
    have HZ := hide hz
    have HL := hide (And.intro hl1 hl2)
    clear hz hl1 hl2 hsome hsg
    go_enter Tryz.func74, Tryz.ntmps74
    go_wp2_with fail
    refine (wparts_any hQ ho.nc k).mono ?_
    rintro e w1 ⟨rfl, hb1⟩
    obtain ⟨pa, hpa⟩ : ∃ pa, partA p (k : Int) = pa := ⟨_, rfl⟩
    obtain ⟨pb, hpb⟩ : ∃ pb, partB p (k : Int) = pb := ⟨_, rfl⟩
    obtain ⟨pc, hpc⟩ : ∃ pc, partC p (k : Int) = pc := ⟨_, rfl⟩
    rw [hpa, hpb] at HPP
    rw [hpa, hpb, hpc]
    clear hpa hpb hpc
    have hK1 := hK.on hb1
    have hW1 := hW.on hb1
    have hO1 := hO.on hb1
    have hk1 : KeptS [gW, gO] w w1 := KeptS.of hb1
    clear hK hW hO hQ hb1
    obtain ⟨b, off, rfl, hbb, c1, c2⟩ := hK1.now.nodes.at hk
    rw [hzz] at c2
    have q0 := hK1.now.c0
    have q00 := hK1.now.lt
    have hb2 : Below w1.heap.size w1 (w1.alloc (.cells #[.int .i64 p[k].kind, .int .i64 (z : Int)] 93)) := (Below.refl _ _).alloc (Nat.le_refl _) _
    obtain ⟨y1, y2, y0⟩ := pair2 w1 (.int .i64 p[k].kind) (.int .i64 (z : Int)) 93
    have hK2 := hK1.on hb2
    have hW2 := hW1.on hb2
    have hO2 := hO1.on hb2
    have hk2 : KeptS [gW, gO] w (w1.alloc (.cells #[.int .i64 p[k].kind, .int .i64 (z : Int)] 93)) := hk1.trans (KeptS.of hb2)
    clear hzz
    generalize hkg : p[k].kind = kd at *
    clear hkg
    go_upto_region 3 with fail
    generalize hw2 : w1.alloc (.cells #[.int .i64 kd, .int .i64 (z : Int)] 93) = w2 at *
    clear hw2 c1 c2 q0 q00 hK1 hW1 hO1 hk1 hb2
    have hQ2 := hK2.now
    have gone : ∀ j : Nat, p.length - j ≤ m → j < p.length → GoOn sb gW gO p r x (some ⟨b, off, none⟩) n c f wa wn wc oa on oc m j (j : Int) := fun j h1 h2 => goOn_any sb gW gO p r x (some ⟨b, off, none⟩) n c f wa wn wc oa on oc ho m j h1 h2
    have HGO := hide gone
    clear gone
    rcases nine hkd with rfl | rfl | rfl | rfl | rfl | rfl | rfl | rfl | rfl
    · exact absurd (unhide HLF rfl) (by decide)
    · -- a pause is over
      have R := hide (show onF p r.waits r.outs (bitsV x 3) (m + 1) k s = (s, true) by unfold onF; rw [unhide HKA]; rfl)
      go_wp2_with fail
      go_ret
      exact next_of (unhide R) ⟨rfl, hW2, hO2, hk2⟩
    · -- a halt waits
      have R := hide (show onF p r.waits r.outs (bitsV x 3) (m + 1) k s = ((s.1.set k true, s.2), false) by unfold onF; rw [unhide HKA]; rfl)
      go_wp2_with fail
      refine (waitAt_any hQ2 s hW2 hO2 (unhide HL).1 ho.ne k hk).mono ?_
      rintro e w3 ⟨rfl, hW3, hO3, hk3⟩
      go_wp2_with fail
      go_ret
      exact next_of (unhide R) ⟨rfl, hW3, hO3, hk2.trans hk3⟩
    · exact absurd (unhide HLF rfl) (by decide)
    · -- a wait for an input
      have HI := hide (hasIn_no ho.x0 ho.x7 hz2)
      go_wp2_with fail
      refine (hasInput_any hQ2 ho.x0 ho.x7 z hz2).mono ?_
      rintro e w' ⟨rfl, rfl⟩
      obtain ⟨hv, hhv⟩ : ∃ hv, hasIn x z = hv := ⟨_, rfl⟩
      rw [hhv] at HI ⊢
      clear hhv
      cases hv
      · have R := hide (show onF p r.waits r.outs (bitsV x 3) (m + 1) k s = ((s.1.set k true, s.2), false) by unfold onF; rw [unhide HKA, unhide HSA, unhide HI]; rfl)
        go_wp2_with fail
        refine (waitAt_any hQ2 s hW2 hO2 (unhide HL).1 ho.ne k hk).mono ?_
        rintro e w3 ⟨rfl, hW3, hO3, hk3⟩
        go_wp2_with fail
        go_ret
        exact next_of (unhide R) ⟨rfl, hW3, hO3, hk2.trans hk3⟩
      · have R := hide (show onF p r.waits r.outs (bitsV x 3) (m + 1) k s = (s, true) by
          have h9 := set_no (unhide HZ k (Nat.le_refl _))
          unfold onF; rw [unhide HKA, unhide HSA, unhide HI]
          show ((s.1.set k false, s.2), true) = (s, true)
          rw [h9])
        go_wp2_with fail
        go_ret
        exact next_of (unhide R) ⟨rfl, hW2, hO2, hk2⟩
    · -- one behind the other
      obtain ⟨⟨h1, h2⟩, hss⟩ := unhide HP rfl
      obtain ⟨rfl, rfl⟩ := unhide HPP rfl
      have h3 := end_gt h1
      have g1 : GoOn sb gW gO p r x (some ⟨b, off, none⟩) n c f wa wn wc oa on oc m (k + 1) ((k : Int) + 1) := by
        have := unhide HGO (k + 1) (by omega) h1
        rwa [show ((k + 1 : Nat) : Int) = (k : Int) + 1 by omega] at this
      have g2 := unhide HGO (endP p (k + 1)) (by omega) h2
      have sw : ∀ W : World, WkQ sb gW gO p r x (some ⟨b, off, none⟩) n c f wa wn wc oa on oc W → Calls Tryz.prog 73 #[.pointer (some ⟨sb, 0, none⟩), .int .i64 ((k : Int) + 1)] W fun e w' => e = .returned (.bool (someP p r.waits (k + 1))) ∧ Below W.heap.size W w' := fun W hq => by
        have := wSomeWait_any hq ho (k + 1) h1
        rwa [show ((k + 1 : Nat) : Int) = (k : Int) + 1 by omega] at this
      have bg : ∀ (t : NextD) (W : World), Kp [gW, gO] W (WkQ sb gW gO p r x (some ⟨b, off, none⟩) n c f wa wn wc oa on oc) → BoolRow W gW t.1 → BoolRow W gO t.2 → t.1.length = p.length → t.2.length = 3 → Calls Tryz.prog 72 #[.pointer (some ⟨sb, 0, none⟩), .int .i64 (endP p (k + 1) : Nat)] W fun e w' => NextAt gW gO W w' (beginF p r.outs (bitsV x 3) m (endP p (k + 1)) t) e := fun t W a1 a2 a3 a4 a5 =>
        wbegin_any sb gW gO p r x _ n c f wa wn wc oa on oc ho m (endP p (k + 1)) t W (by omega) h2 a1 a2 a3 a4 a5
      have HIH := hide (And.intro g1 (And.intro g2 bg))
      have HSW := hide sw
      have HB := hide (show endP p (k + 1) ≥ k by omega)
      clear g1 g2 bg sw
      have R := hide (on_seq2 (p := p) (ws := r.waits) (wo := r.outs) (ins := bitsV x 3) (m := m) (k := k) (s := s) (unhide HKA))
      go_wp2_with fail
      refine (unhide HSW _ hQ2).mono ?_
      rintro e w3 ⟨rfl, hb3⟩
      have hK3 := hK2.on hb3
      have hW3 := hW2.on hb3
      have hO3 := hO2.on hb3
      have hk3 := hk2.trans (KeptS.of hb3)
      clear hb3 hQ2 hK2 hW2 hO2 hk2
      cases hs : someP p r.waits (k + 1)
      · have R2 := hide (show onF p r.waits r.outs (bitsV x 3) (m + 1) k s = onF p r.waits r.outs (bitsV x 3) m (endP p (k + 1)) s by rw [unhide R, hs]; rfl)
        have hs2 : someP p r.waits (endP p (k + 1)) = true := by
          rcases hss with h | h
          · rw [hs] at h; simp at h
          · exact h
        clear hss hs
        go_wp2_with fail
        refine ((unhide HIH).2.1 s _ hs2 (fun i hi => unhide HZ i (by have := unhide HB; omega)) hK3 hW3 hO3 (unhide HL).1 (unhide HL).2).mono ?_
        rintro e w4 ⟨rfl, hW4, hO4, hk4⟩
        go_wp2_with fail
        go_ret
        exact next_of (unhide R2) ⟨rfl, hW4, hO4, hk3.trans hk4⟩
      · have R1 := hide (show onF p r.waits r.outs (bitsV x 3) (m + 1) k s = (if (onF p r.waits r.outs (bitsV x 3) m (k + 1) s).2 then beginF p r.outs (bitsV x 3) m (endP p (k + 1)) (onF p r.waits r.outs (bitsV x 3) m (k + 1) s).1 else ((onF p r.waits r.outs (bitsV x 3) m (k + 1) s).1, false)) by rw [unhide R, hs]; rfl)
        have hwent := on_went p r.waits r.outs (bitsV x 3) m (k + 1) s
        have HS := hide hs
        clear hss hs
        go_wp2_with fail
        refine ((unhide HIH).1 s _ (unhide HS) (fun i hi => unhide HZ i (by omega)) hK3 hW3 hO3 (unhide HL).1 (unhide HL).2).mono ?_
        rintro e w4 ⟨rfl, hW4, hO4, hk4⟩
        have hK4 := hK3.step hk4.1 (fun _ hg => Or.inl hg)
        obtain ⟨t1, ht1⟩ : ∃ t, onF p r.waits r.outs (bitsV x 3) m (k + 1) s = t := ⟨_, rfl⟩
        rw [ht1] at hW4 hO4 hwent R1 ⊢
        obtain ⟨s1, b1⟩ := t1
        have HK4 := hide hK4
        have HKT := hide (hk3.trans hk4)
        have HWE := hide hwent
        clear hK4 hwent ht1 hk4
        cases b1
        · have R2 := hide (show onF p r.waits r.outs (bitsV x 3) (m + 1) k s = (s1, false) from unhide R1)
          go_wp2_with fail
          go_ret
          exact next_of (unhide R2) ⟨rfl, hW4, hO4, unhide HKT⟩
        · have R2 := hide (show onF p r.waits r.outs (bitsV x 3) (m + 1) k s = beginF p r.outs (bitsV x 3) m (endP p (k + 1)) s1 from unhide R1)
          go_wp2_with fail
          refine ((unhide HIH).2.2 s1 _ (unhide HK4) hW4 hO4 (by rw [(unhide HWE).len]; exact (unhide HL).1) (by rw [(unhide HWE).outs]; exact (unhide HL).2)).mono ?_
          rintro e w5 ⟨rfl, hW5, hO5, hk5⟩
          go_wp2_with fail
          go_ret
          exact next_of (unhide R2) ⟨rfl, hW5, hO5, (unhide HKT).trans hk5⟩
    all_goals
      obtain ⟨⟨h1, h2⟩, hss⟩ := unhide HP rfl
      obtain ⟨rfl, rfl⟩ := unhide HPP rfl
      have h3 := end_gt h1
      have R := hide (on_both (p := p) (ws := r.waits) (wo := r.outs) (ins := bitsV x 3) (m := m) (k := k) (s := s) (by rw [unhide HKA]; simp))
      have hb3 : Below w2.heap.size w2 (w2.alloc (.cells #[.int .i64 ((k : Int) + 1), .int .i64 (endP p (k + 1) : Nat)] 3)) := (Below.refl _ _).alloc (Nat.le_refl _) _
      obtain ⟨v1, v2, v0⟩ := pair2 w2 (.int .i64 ((k : Int) + 1)) (.int .i64 (endP p (k + 1) : Nat)) 3
      have hgW : gW < w2.heap.size := hW2.lt
      have hgO : gO < w2.heap.size := hO2.lt
      have hPr : Kp [gW, gO] (w2.alloc (.cells #[.int .i64 ((k : Int) + 1), .int .i64 (endP p (k + 1) : Nat)] 3)) (Pair2 w2.heap.size ((k : Int) + 1) (endP p (k + 1) : Nat)) := fun V hV => by
        have hblk := hV.2 w2.heap.size v0 (by simp; omega)
        exact ⟨Nat.lt_of_lt_of_le v0 hV.1, (World.cell?_of_block (a := ⟨w2.heap.size, 0, none⟩) hblk).trans v1, (World.cell?_of_block (a := ⟨w2.heap.size, 1, none⟩) hblk).trans v2⟩
      have hK3 := hK2.on hb3
      have hW3 := hW2.on hb3
      have hO3 := hO2.on hb3
      have hk3 := hk2.trans (KeptS.of hb3)
      have AG := fun (W : World) (hKW : Kp [gW, gO] W (WkQ sb gW gO p r x (some ⟨b, off, none⟩) n c f wa wn wc oa on oc)) (hPW : Kp [gW, gO] W (Pair2 w2.heap.size ((k + 1 : Nat) : Int) ((endP p (k + 1) : Nat) : Int))) (hWW : BoolRow W gW s.1) (hOW : BoolRow W gO s.2) => allGoOn_of sb gW gO p r x (some ⟨b, off, none⟩) n c f wa wn wc oa on oc ho m (k + 1) (endP p (k + 1)) w2.heap.size h1 h2 (Nat.le_refl _) (unhide HGO (k + 1) (by omega) h1) (unhide HGO (endP p (k + 1)) (by omega) h2) s W (fun i hi => unhide HZ i (by omega)) hKW hPW hWW hOW (unhide HL).1 (unhide HL).2
      rw [show ((k + 1 : Nat) : Int) = (k : Int) + 1 by omega] at AG
      have HAG := hide AG
      clear AG hss v1 v2 hb3 hQ2 hK2 hW2 hO2 hk2
      generalize hep : endP p (k + 1) = ep at *
      go_wp2_with fail
      refine (unhide HAG _ hK3 hPr hW3 hO3).mono ?_
      rintro e w4 ⟨rfl, hW4, hO4, hk4⟩
      obtain ⟨t1, ht1⟩ : ∃ t, goOne p r.waits r.outs (bitsV x 3) m ep (goOne p r.waits r.outs (bitsV x 3) m (k + 1) (s, true)) = t := ⟨_, rfl⟩
      rw [ht1] at hW4 hO4 R ⊢
      obtain ⟨s1, b1⟩ := t1
      clear ht1
      go_wp2_with fail
      go_ret
      exact next_of (unhide R) ⟨rfl, hW4, hO4, hk3.trans hk4⟩
end Go.Proofs.YtongajonecgdpagGreatDoor
