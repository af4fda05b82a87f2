/- One instant more (plain): what came ahead stays, and it begins where the others ended. -/
import Derived.Test.YtongajonecgdpaeTickE
namespace Go.Proofs.Ytongajonecgdpae
open Go.RowKit

theorem getD_snoc (l : List Int) (x : Int) (k : Nat) (h : k < l.length) : (l ++ [x]).getD k 0 = l.getD k 0 := by
  simp [List.getD_eq_getElem?_getD, List.getElem?_append_left h]
theorem getD_last (l : List Int) (x : Int) : (l ++ [x]).getD l.length 0 = x := by
  simp [List.getD_eq_getElem?_getD]
theorem stateAt_snoc (d : NetD) (l : List Int) (x : Int) : ∀ k, k ≤ l.length → stateAt d (l ++ [x]) k = stateAt d l k
  | 0, _ => rfl
  | k + 1, h => by
    show doNext d (stateAt d (l ++ [x]) k) (bitsV ((l ++ [x]).getD k 0) d.ins.toNat) = doNext d (stateAt d l k) (bitsV (l.getD k 0) d.ins.toNat)
    rw [stateAt_snoc d l x k (by omega), getD_snoc l x k (by omega)]
theorem errAt_snoc (d : NetD) (l : List Int) (x : Int) (k : Nat) (h : k < l.length) : errAt d (l ++ [x]) k = errAt d l k := by
  unfold errAt; rw [stateAt_snoc d l x k (by omega), getD_snoc l x k h]
theorem outAt_snoc (d : NetD) (l : List Int) (x : Int) (k : Nat) (h : k < l.length) : outAt d (l ++ [x]) k = outAt d l k := by
  unfold outAt; rw [stateAt_snoc d l x k (by omega), getD_snoc l x k h]
theorem errTo_snoc (d : NetD) (l : List Int) (x : Int) : ∀ k, k ≤ l.length → errTo d (l ++ [x]) k = errTo d l k
  | 0, _ => rfl
  | k + 1, h => by
    show (if errTo d (l ++ [x]) k = 0 then errAt d (l ++ [x]) k else errTo d (l ++ [x]) k) = (if errTo d l k = 0 then errAt d l k else errTo d l k)
    rw [errTo_snoc d l x k (by omega), errAt_snoc d l x k (by omega)]
theorem rowsTo_snoc (d : NetD) (l : List Int) (x : Int) : rowsTo d (l ++ [x]) l.length = rowsTo d l l.length := by
  unfold rowsTo
  apply List.map_congr_left
  intro k hk
  exact outAt_snoc d l x k (List.mem_range.1 hk)
theorem runE_ok {d : NetD} {l : List Int} (h : runE d l = 0) : checkE d = 0 ∧ timesE l d.ins.toNat = 0 ∧ errTo d l l.length = 0 := by
  unfold runE at h
  by_cases e : checkE d = 0
  · rw [if_pos e] at h
    by_cases t : timesE l d.ins.toNat = 0
    · rw [if_pos t] at h; exact ⟨e, t, h⟩
    · rw [if_neg t] at h; exact absurd h t
  · rw [if_neg e] at h; exact absurd h e
theorem times_ok {l : List Int} {n : Nat} (h : timesE l n = 0) : l.length ≤ 60 ∧ inPow l n = true := by
  unfold timesE at h
  by_cases h6 : 60 < l.length
  · rw [if_pos h6] at h; simp at h
  · rw [if_neg h6] at h
    by_cases h7 : inPow l n = true
    · exact ⟨by omega, h7⟩
    · rw [if_neg h7] at h; simp at h
theorem errTo_le {d : NetD} {l : List Int} {m : Nat} (h : errTo d l m = 0) (k : Nat) (hk : k ≤ m) : errTo d l k = 0 := by
  apply Classical.byContradiction
  intro hne
  have := errTo_stays d l k hne m hk
  exact hne (by rw [← this]; exact h)
theorem errAt_of {d : NetD} {l : List Int} {m : Nat} (h : errTo d l m = 0) (k : Nat) (hk : k < m) : errAt d l k = 0 := by
  have h1 := errTo_le h (k + 1) hk
  have h2 := errTo_le h k (by omega)
  have h3 : (if errTo d l k = 0 then errAt d l k else errTo d l k) = 0 := h1
  rwa [if_pos h2] at h3
theorem run_snoc {d : NetD} {l : List Int} {x : Int} (h : runE d l = 0) (h' : runE d (l ++ [x]) = 0) :
    doE d (runRegs d l) (bitsV x d.ins.toNat) = 0 ∧ runRows d (l ++ [x]) = runRows d l ++ [doOuts d (runRegs d l) (bitsV x d.ins.toNat)] ∧ runRegs d (l ++ [x]) = doNext d (runRegs d l) (bitsV x d.ins.toNat) := by
  have hr : runRegs d l = stateAt d l l.length := by unfold runRegs; rw [if_pos h]
  have e1 := (runE_ok h').2.2
  have e2 := errAt_of e1 l.length (by simp)
  have hs : stateAt d (l ++ [x]) l.length = stateAt d l l.length := stateAt_snoc d l x _ (Nat.le_refl _)
  refine ⟨?_, ?_, ?_⟩
  · unfold errAt at e2; rwa [hs, getD_last, ← hr] at e2
  · have hl : (l ++ [x]).length = l.length + 1 := by simp
    unfold runRows
    rw [if_pos h', if_pos h, hl, rowsTo_succ, rowsTo_snoc]
    unfold outAt
    rw [hs, getD_last, ← hr]
  · have hl : (l ++ [x]).length = l.length + 1 := by simp
    rw [show runRegs d (l ++ [x]) = stateAt d (l ++ [x]) (l ++ [x]).length by unfold runRegs; rw [if_pos h'], hl]
    show doNext d (stateAt d (l ++ [x]) l.length) (bitsV ((l ++ [x]).getD l.length 0) d.ins.toNat) = _
    rw [hs, getD_last, ← hr]
theorem iter_vals (d : NetD) {regs ins : List Int} (hr : vals regs = true) (hi : vals ins = true) : ∀ k, vals (iterV d regs ins k) = true
  | 0 => vals_open _
  | k + 1 => roundV_vals d hr hi (iter_vals d hr hi k)
theorem settled_vals {v : List Int} (hv : vals v = true) (ho : opens v = 0) (k : Nat) : v.getD k 0 = 0 ∨ v.getD k 0 = 1 := by
  by_cases hk : k < v.length
  · have h1 : v.getD k 0 = v[k] := by simp [List.getD_eq_getElem?_getD, hk]
    have h2 := getD_val hv k
    rw [show v.getD k 2 = v[k] by simp [List.getD_eq_getElem?_getD, hk]] at h2
    rw [h1]
    rcases h2 with h | h | h
    · exact Or.inl h
    · exact Or.inr h
    · exfalso
      unfold opens at ho
      have := List.length_eq_zero_iff.1 ho
      rw [List.filter_eq_nil_iff] at this
      exact this v[k] (List.getElem_mem hk) (by simp [h])
  · left; simp [List.getD_eq_getElem?_getD, List.getElem?_eq_none (show v.length ≤ k by omega)]
theorem doNext_vals {d : NetD} {regs ins : List Int} (h : doE d regs ins = 0) : ∀ y ∈ doNext d regs ins, y = 0 ∨ y = 1 := by
  intro y hy
  obtain ⟨hs, ho⟩ := doE_ok h
  obtain ⟨_, _, _, hr, hi⟩ := stepE_ok hs
  unfold doNext at hy
  rw [if_pos h] at hy
  unfold pickV at hy
  obtain ⟨z, _, rfl⟩ := List.mem_map.1 hy
  exact settled_vals (iter_vals d hr hi _) ho _
end Go.Proofs.Ytongajonecgdpae
