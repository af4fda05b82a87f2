/- The document's stage: some, begin, on. -/
import Derived.Test.YtopacgdfafhfhafWalkM
import Derived.Deep.RegionHeld3
namespace Go.Proofs.Ytopacgdfafhfhaf
open Go.RowKit

/-- What a stage holds but what comes next. -/
structure StQ (sb gW gO : Nat) (p : List NodeD) (r : RestD) (ins : List Int) (a : Option Addr) (n c : Nat) (wa : Option Addr) (wn wc : Nat) (oa : Option Addr) (on oc : Nat) (ia : Option Addr) (inn ic : Nat) (V : World) : Prop where
  lt : sb < V.heap.size
  c0 : V.cell? ⟨sb, 0, none⟩ = some (.slice a n c)
  c2 : V.cell? ⟨sb, 2, none⟩ = some (.slice wa wn wc)
  c3 : V.cell? ⟨sb, 3, none⟩ = some (.slice oa on oc)
  c4 : V.cell? ⟨sb, 4, none⟩ = some (.slice ia inn ic)
  c6 : V.cell? ⟨sb, 6, none⟩ = some (.slice (some ⟨gW, 0, none⟩) n n)
  c7 : V.cell? ⟨sb, 7, none⟩ = some (.slice (some ⟨gO, 0, none⟩) 3 3)
  nodes : Nodes V a n p
  waits : Bools V wa wn r.waits
  outs : Bools V oa on r.outs
  ins : Ints V ia inn ins

theorem some_yes {p : List NodeD} {ws : List Bool} {k j : Nat} (h1 : k ≤ j) (h2 : j < endP p k) (h3 : ws.getD j false = true) : someP p ws k = true := by
  simp only [someP, List.any_eq_true, List.mem_range, Bool.and_eq_true, decide_eq_true_iff]
  exact ⟨j, h2, h1, h3⟩
theorem some_none {p : List NodeD} {ws : List Bool} {k : Nat} (h : ∀ i, k ≤ i → i < endP p k → ws.getD i false = false) : someP p ws k = false := by
  rw [Bool.eq_false_iff]
  intro h1
  simp only [someP, List.any_eq_true, List.mem_range, Bool.and_eq_true, decide_eq_true_iff] at h1
  obtain ⟨i, h2, h3, h4⟩ := h1
  rw [h i h3 h2] at h4; simp at h4

set_option maxHeartbeats 2000000 in
theorem some_any (sb gW gO : Nat) (p : List NodeD) (r : RestD) (ins : List Int) (a : Option Addr) (n c : Nat) (wa : Option Addr) (wn wc : Nat) (oa : Option Addr) (on oc : Nat) (ia : Option Addr) (inn ic : Nat) (w : World) (h : StQ sb gW gO p r ins a n c wa wn wc oa on oc ia inn ic w) (hf : okF 1 p = true) (hn : n ≤ 14) (hw : wn = n) (k : Nat) (hk : k < p.length) :
    Calls Try.prog 19 #[.pointer (some ⟨sb, 0, none⟩), .int .i64 (k : Int)] w fun e w' => e = .returned (.bool (someP p r.waits k)) ∧ w' = w := by
  have HN := hide h.nodes.1
  have HW := hide h.waits.1
  have hle := end_le hf hk
  have hgt := end_gt hk
  have ihe := end_any p a n c w h.nodes hf hn p.length k (by omega) hk
  have hQ := h
  obtain ⟨x0, x1, x2, x3, x4, x5, x6, hP, hWt, hO, hI⟩ := h
  have hE14 : endP p k ≤ 14 := by have := unhide HN; omega
  have HLE := hide hle
  have HY := hide (fun j h1 h2 h3 => some_yes (p := p) (ws := r.waits) (k := k) (j := j) h1 h2 h3)
  have HZ := hide (some_none (p := p) (ws := r.waits) (k := k))
  generalize endP p k = ep at *
  clear hQ hle
  go_enter Try.func19, Try.ntmps19
  go_wp2_with fail
  go_loopw [5] (fun iv wr => ∃ j : Nat, k ≤ j ∧ j ≤ ep ∧ iv = .int .i64 j ∧ (∀ i, k ≤ i → i < j → r.waits.getD i false = false) ∧ wr = w) (fun iv _ => ep - (intOf iv).toNat)
  case atStart => exact ⟨k, Nat.le_refl _, by omega, rfl, fun i h1 h2 => by omega, by first | rfl | trivial⟩
  case round =>
    obtain ⟨j, hkj, hje, rfl, hA, rfl⟩ := hrel
    have HA := hide hA
    clear hA
    by_cases hlt : j < ep
    · have hji : (j : Int) < (ep : Int) := by omega
      have hjw : j < r.waits.length := by have := unhide HW; have := unhide HN; have := unhide HLE; omega
      have hjn : (j : Int) < (wn : Int) := by have := unhide HW; omega
      obtain ⟨b, off, rfl, hbb, c1⟩ := hWt.at hjw
      have hgd : r.waits.getD j false = r.waits[j] := by simp [List.getD_eq_getElem?_getD, hjw]
      have HGD := hide hgd
      clear hgd
      generalize r.waits[j] = wj at *
      go_wp2_with fail
      refine ihe.mono ?_
      rintro e w' ⟨rfl, rfl⟩
      cases wj
      · have R := hide (show ∀ i, k ≤ i → i < j + 1 → r.waits.getD i false = false from fun i h1 h2 => by
          by_cases e : i = j
          · rw [e]; exact unhide HGD
          · exact unhide HA i h1 (by omega))
        go_wp2_with fail
        exact ⟨⟨j + 1, by omega, by omega, by go_num, unhide R, by first | rfl | trivial⟩, by simp [intOf]; omega⟩
      · have R := hide (unhide HY j hkj hlt (unhide HGD))
        go_wp2_with fail
        go_ret
        exact ⟨ret_bool (unhide R).symm, rfl⟩
    · have hje2 : j = ep := by omega
      subst hje2
      have R := hide (unhide HZ (unhide HA))
      have hnl : ¬ (j : Int) < (j : Int) := by omega
      go_wp2_with fail
      refine ihe.mono ?_
      rintro e w' ⟨rfl, rfl⟩
      go_wp2_with fail
      go_ret
      exact ⟨ret_bool (unhide R).symm, rfl⟩
end Go.Proofs.Ytopacgdfafhfhaf
