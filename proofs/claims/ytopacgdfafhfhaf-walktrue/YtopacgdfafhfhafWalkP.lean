/- The program's walker: its small calls. -/
import Derived.Test.YtopacgdfafhfhafProgQ
import Derived.Test.YtopacgdfafhfhafWalkN
import Derived.Test.YtopacgdfafhfhafWalkK
import Derived.Test.YtopacgdfafhfhafTickA
namespace Go.Proofs.Ytopacgdfafhfhaf
open Go.RowKit

/-- What a walker holds but what comes then. -/
structure WkQ (sb gW gO : Nat) (p : List NodeD) (r : RestD) (x : Int) (a : Option Addr) (n c : Nat) (f : Bool) (wa : Option Addr) (wn wc : Nat) (oa : Option Addr) (on oc : Nat) (V : World) : Prop where
  lt : sb < V.heap.size
  c0 : V.cell? ⟨sb, 0, none⟩ = some (.slice a n c)
  c1 : V.cell? ⟨sb, 1, none⟩ = some (.bool f)
  c2 : V.cell? ⟨sb, 2, none⟩ = some (.slice wa wn wc)
  c3 : V.cell? ⟨sb, 3, none⟩ = some (.slice oa on oc)
  c5 : V.cell? ⟨sb, 5, none⟩ = some (.slice (some ⟨gW, 0, none⟩) n n)
  c6 : V.cell? ⟨sb, 6, none⟩ = some (.slice (some ⟨gO, 0, none⟩) 3 3)
  c7 : V.cell? ⟨sb, 7, none⟩ = some (.int .i64 x)
  nodes : Nodes V a n p
  waits : Bools V wa wn r.waits
  outs : Bools V oa on r.outs
/-- What is always so of a walker. -/
structure WkO (p : List NodeD) (r : RestD) (x : Int) (n c wn wc on : Nat) (gW gO : Nat) : Prop where
  ok : POk p
  nc : n ≤ c
  hw : wn = n
  hwc : wn ≤ wc
  ho : on = 3
  x0 : 0 ≤ x
  x7 : x ≤ 7
  ne : gW ≠ gO
  may : ∀ j, r.waits.getD j false = true → waitK (kindAt p j) = true

theorem partsE_ok {p : List NodeD} (hok : POk p) {k : Nat} (hk : k < p.length) : partsE p (k : Int) = 0 := by
  unfold partsE; rw [if_pos (of_pok hok), if_pos ⟨by omega, by omega⟩]
set_option maxHeartbeats 1000000 in
theorem wparts_any {sb gW gO : Nat} {p : List NodeD} {r : RestD} {x : Int} {a : Option Addr} {n c : Nat} {f : Bool} {wa : Option Addr} {wn wc : Nat} {oa : Option Addr} {on oc : Nat} {w : World} (h : WkQ sb gW gO p r x a n c f wa wn wc oa on oc w) (hc : n ≤ c) (k : Nat) :
    Calls Try.prog 35 #[.pointer (some ⟨sb, 0, none⟩), .int .i64 (k : Int)] w fun e w' => e = .returned (.tuple #[.int .i64 (partA p k), .int .i64 (partB p k), .int .i64 (partC p k)]) ∧ Below w.heap.size w w' := by
  obtain ⟨z0, q0, q1, q2, q3, q5, q6, q7, hN, hW, hO⟩ := h
  go_enter Try.func35, Try.ntmps35
  go_wp2_with fail
  refine (PParts_any p _ _ _ (k : Int) _ hN hc).mono ?_
  rintro e w1 ⟨he, hb⟩
  unfold PartsRet at he
  obtain ⟨pa, hpa⟩ : ∃ pa, partA p (k : Int) = pa := ⟨_, rfl⟩
  obtain ⟨pb, hpb⟩ : ∃ pb, partB p (k : Int) = pb := ⟨_, rfl⟩
  obtain ⟨pc, hpc⟩ : ∃ pc, partC p (k : Int) = pc := ⟨_, rfl⟩
  obtain ⟨pe, hpe⟩ : ∃ pe, partsE p (k : Int) = pe := ⟨_, rfl⟩
  rw [hpa, hpb, hpc, hpe] at he
  have HR := hide (show (Ending.returned (.tuple #[.int .i64 pa, .int .i64 pb, .int .i64 pc])) = .returned (.tuple #[.int .i64 (partA p (k : Int)), .int .i64 (partB p (k : Int)), .int .i64 (partC p (k : Int))]) by rw [hpa, hpb, hpc])
  subst he
  clear hpa hpb hpc hpe
  go_wp2_with fail
  exact bodyPost_ret (v := .tuple #[.int .i64 pa, .int .i64 pb, .int .i64 pc]) (by simp [results, Try.results35, go_sem]) rfl ⟨unhide HR, hb⟩
set_option maxHeartbeats 1000000 in
theorem waitAt_any {sb gW gO : Nat} {p : List NodeD} {r : RestD} {x : Int} {a : Option Addr} {n c : Nat} {f : Bool} {wa : Option Addr} {wn wc : Nat} {oa : Option Addr} {on oc : Nat} {w : World} (h : WkQ sb gW gO p r x a n c f wa wn wc oa on oc w) (s : NextD) (hW : BoolRow w gW s.1) (hO : BoolRow w gO s.2) (hl1 : s.1.length = p.length) (hne : gW ≠ gO) (k : Nat) (hk : k < p.length) :
    Calls Try.prog 37 #[.pointer (some ⟨sb, 0, none⟩), .int .i64 (k : Int)] w fun e w' => NextAt gW gO w w' ((s.1.set k true, s.2), false) e := by
  have hki : (k : Int) < (n : Int) := by have := h.nodes.1; omega
  obtain ⟨z0, q0, q1, q2, q3, q5, q6, q7, hNd, hWt, hOt⟩ := h
  have hcW := hW.cell k (by omega)
  have hfW := hW.frozen k
  have hlt := hW.lt
  have R1 := hide (And.intro (hW.set k true) (And.intro (hO.far (k := k) (v := .bool true) (Ne.symm hne)) (KeptS.set (w := w) (k := k) (.bool true) (by simp : gW ∈ [gW, gO]))))
  clear hW hO
  go_enter Try.func37, Try.ntmps37
  go_wp2_with fail
  go_ret
  exact ⟨rfl, (unhide R1).1, (unhide R1).2.1, (unhide R1).2.2⟩
def hasIn (x : Int) (k : Nat) : Bool := (bitsV x 3).getD k 0 == 1
theorem three {k : Nat} (h : k ≤ 2) : k = 0 ∨ k = 1 ∨ k = 2 := by omega
theorem eight {x : Int} (h : 0 ≤ x) (h' : x ≤ 7) : x = 0 ∨ x = 1 ∨ x = 2 ∨ x = 3 ∨ x = 4 ∨ x = 5 ∨ x = 6 ∨ x = 7 := by omega
set_option maxHeartbeats 4000000 in
theorem hasInput_any {sb gW gO : Nat} {p : List NodeD} {r : RestD} {x : Int} {a : Option Addr} {n c : Nat} {f : Bool} {wa : Option Addr} {wn wc : Nat} {oa : Option Addr} {on oc : Nat} {w : World} (h : WkQ sb gW gO p r x a n c f wa wn wc oa on oc w) (hx0 : 0 ≤ x) (hx7 : x ≤ 7) (k : Nat) (hk : k ≤ 2) :
    Calls Try.prog 38 #[.pointer (some ⟨sb, 0, none⟩), .int .i64 (k : Int)] w fun e w' => e = .returned (.bool (hasIn x k)) ∧ w' = w := by
  obtain ⟨z0, q0, q1, q2, q3, q5, q6, q7, hNd, hWt, hOt⟩ := h
  clear hNd hWt hOt q0 q1 q2 q3 q5 q6
  rcases three hk with rfl | rfl | rfl
  all_goals
    rcases eight hx0 hx7 with rfl | rfl | rfl | rfl | rfl | rfl | rfl | rfl
    all_goals
      clear hx0 hx7 hk
      go_enter Try.func38, Try.ntmps38
      go_wp2_with fail
      go_ret
      exact ⟨rfl, rfl⟩

def anyB (xs : List Bool) : Bool := xs.any (fun b => b)
set_option maxHeartbeats 1000000 in
theorem IndexTrue_any (xs : List Bool) (a : Option Addr) (n c : Nat) (w : World) (h : Bools w a n xs) :
    Calls Try.prog 47 #[.slice a n c, .bool true] w fun e w' => ∃ r, e = .returned (.int .i64 r) ∧ ((anyB xs = true ∧ 0 ≤ r) ∨ (anyB xs = false ∧ r = -1)) ∧ w' = w := by
  have HN := hide h.1
  have hm : n ≤ maxLen := by rw [h.1]; exact h.2.1
  unfold maxLen at hm
  go_enter Try.func47, Try.ntmps47
  go_wp2_with fail
  go_loopw [8] (fun i' wr => ∃ k : Nat, k ≤ n ∧ i' = .int .i64 k ∧ anyB (xs.take k) = false ∧ wr = w) (fun i' _ => n - (intOf i').toNat)
  case atStart => exact ⟨0, Nat.zero_le _, rfl, rfl, by first | rfl | trivial⟩
  case round =>
    obtain ⟨k, hk, rfl, hno, rfl⟩ := hrel
    by_cases hlt : k < n
    · have hkx : k < xs.length := by have := unhide HN; omega
      have hki : (k : Int) < (n : Int) := by omega
      obtain ⟨b', off, rfl, hbb, c1⟩ := h.at hkx
      have HS := hide (show anyB (xs.take (k + 1)) = (anyB (xs.take k) || xs[k]) by unfold anyB; rw [List.take_succ_eq_append_getElem hkx, List.any_append]; simp)
      have HY := hide (show xs[k] = true → anyB xs = true from fun e => by unfold anyB; rw [List.any_eq_true]; exact ⟨xs[k], List.getElem_mem hkx, e⟩)
      have HNO := hide hno
      clear hno
      generalize xs[k] = xk at *
      cases xk
      · have R := hide (show anyB (xs.take (k + 1)) = false by rw [unhide HS, unhide HNO]; rfl)
        go_wp2_with fail
        exact ⟨⟨k + 1, by omega, by go_num, unhide R, by first | rfl | trivial⟩, by simp [intOf]; omega⟩
      · have R := hide (unhide HY rfl)
        go_wp2_with fail
        go_ret
        exact ⟨_, rfl, Or.inl ⟨unhide R, by omega⟩, rfl⟩
    · have R := hide (show anyB xs = false by rw [List.take_of_length_le (by have := unhide HN; omega)] at hno; exact hno)
      clear hno
      go_wp2_with fail
      go_ret
      exact ⟨_, rfl, Or.inr ⟨unhide R, rfl⟩, rfl⟩
theorem ContainsTrue_any (xs : List Bool) (a : Option Addr) (n c : Nat) (w : World) (h : Bools w a n xs) :
    Calls Try.prog 39 #[.slice a n c, .bool true] w fun e w' => e = .returned (.bool (anyB xs)) ∧ w' = w := by
  go_enter Try.func39, Try.ntmps39
  go_wp2_with fail
  refine (IndexTrue_any xs _ _ _ _ h).mono ?_
  rintro e w1 ⟨r, rfl, hr, rfl⟩
  rcases hr with ⟨h1, h2⟩ | ⟨h1, rfl⟩
  · have HM := hide h1
    clear h1
    go_wp2_with fail
    go_ret
    exact ⟨ret_bool (unhide HM).symm, rfl⟩
  · have HM := hide h1
    clear h1
    go_wp2_with fail
    go_ret
    exact ⟨ret_bool (unhide HM).symm, rfl⟩
theorem some_list {p : List NodeD} {ws : List Bool} {k : Nat} (hl : endP p k ≤ ws.length) : anyB ((ws.drop k).take (endP p k - k)) = someP p ws k := by
  rw [Bool.eq_iff_iff, some_iff]
  unfold anyB
  rw [List.any_eq_true]
  constructor
  · rintro ⟨b, hb, rfl⟩
    obtain ⟨i, hi, he⟩ := List.getElem_of_mem hb
    rw [List.length_take, List.length_drop] at hi
    rw [List.getElem_take, List.getElem_drop] at he
    exact ⟨k + i, by omega, by omega, by rw [List.getD_eq_getElem?_getD, List.getElem?_eq_getElem (by omega)]; exact he⟩
  · rintro ⟨i, h1, h2, h3⟩
    have hi : i < ws.length := by omega
    rw [List.getD_eq_getElem?_getD, List.getElem?_eq_getElem hi] at h3
    have hi2 : i - k < ((ws.drop k).take (endP p k - k)).length := by rw [List.length_take, List.length_drop]; omega
    refine ⟨((ws.drop k).take (endP p k - k))[i - k], List.getElem_mem hi2, ?_⟩
    rw [List.getElem_take, List.getElem_drop]
    have : k + (i - k) = i := by omega
    simp only [this]
    exact h3
theorem Bools.part {w : World} {b off n : Nat} {xs : List Bool} (h : Bools w (some ⟨b, off, Option.none⟩) n xs) {k m : Nat} (hk : k + m ≤ n) : Bools w (some ⟨b, off + k, Option.none⟩) m ((xs.drop k).take m) := by
  obtain ⟨h1, h2, h3⟩ := h
  have hlen : ((xs.drop k).take m).length = m := by rw [List.length_take, List.length_drop]; omega
  refine ⟨hlen.symm, by omega, ?_⟩
  rcases h3 with h3 | ⟨b', off', ha, hlt, hc⟩
  · rw [h3] at h1 hlen; simp at h1 hlen
    exact Or.inl (by rw [h3]; simp)
  · simp at ha
    obtain ⟨rfl, rfl⟩ := ha
    refine Or.inr ⟨b, off + k, rfl, hlt, fun i hi => ?_⟩
    have hi' : k + i < xs.length := by omega
    have := hc (k + i) hi'
    rw [List.getElem_take, List.getElem_drop, Nat.add_assoc]
    exact this
set_option maxHeartbeats 1000000 in
theorem someWait_any {sb gW gO : Nat} {p : List NodeD} {r : RestD} {x : Int} {a : Option Addr} {n c : Nat} {f : Bool} {wa : Option Addr} {wn wc : Nat} {oa : Option Addr} {on oc : Nat} {w : World} (h : WkQ sb gW gO p r x a n c f wa wn wc oa on oc w) (ho : WkO p r x n c wn wc on gW gO) (k : Nat) (hk : k < p.length) :
    Calls Try.prog 28 #[.pointer (some ⟨sb, 0, none⟩), .int .i64 (k : Int)] w fun e w' => e = .returned (.bool (someP p r.waits k)) ∧ Below w.heap.size w w' := by
  have hn14 : n ≤ 14 := by have := ho.ok.few; have := h.nodes.1; omega
  have hn := h.nodes.1
  have hwl : r.waits.length = n := by have := h.waits.1; have := ho.hw; omega
  have hle := end_le ho.ok.form hk
  have hgt := end_gt hk
  have HC := hide (show partC p (k : Int) = (endP p k : Nat) by unfold partC; rw [if_pos (partsE_ok ho.ok hk)]; simp)
  have HS := hide (some_list (p := p) (ws := r.waits) (k := k) (by omega))
  have hcap := ho.hwc
  have hww := ho.hw
  have hle2 : endP p k ≤ wn := by omega
  have hq := h
  go_enter Try.func28, Try.ntmps28
  go_wp2_with fail
  refine (wparts_any h ho.nc k).mono ?_
  rintro e w1 ⟨rfl, hb⟩
  rw [unhide HC]
  have hW1 := h.waits.below hb
  have q2 := (hb.cell (p := ⟨sb, 2, none⟩) h.lt).trans h.c2
  have z0 : sb < w1.heap.size := Nat.lt_of_lt_of_le h.lt hb.size
  obtain ⟨b, off, rfl, hbb, c1⟩ := hW1.at (k := k) (by omega)
  obtain ⟨pa, hpa⟩ : ∃ pa, partA p (k : Int) = pa := ⟨_, rfl⟩
  obtain ⟨pb, hpb⟩ : ∃ pb, partB p (k : Int) = pb := ⟨_, rfl⟩
  rw [hpa, hpb]
  have hP := hW1.part (k := k) (m := endP p k - k) (by omega)
  clear c1 hpa hpb hq h hle HC hn
  generalize endP p k = ep at *
  go_wp2_with fail
  refine (ContainsTrue_any _ _ _ _ _ hP).mono ?_
  rintro e w2 ⟨rfl, rfl⟩
  rw [unhide HS]
  obtain ⟨sk, hsk⟩ : ∃ sk, someP p r.waits k = sk := ⟨_, rfl⟩
  have HSK := hide hsk
  rw [hsk]
  clear hsk
  go_wp2_with fail
  go_ret
  exact ⟨ret_bool (unhide HSK).symm, hb⟩
end Go.Proofs.Ytopacgdfafhfhaf
