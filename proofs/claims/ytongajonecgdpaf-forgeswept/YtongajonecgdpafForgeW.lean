/- Programs as nets (plain): where there is an order no state is open; swept there is one still. -/
import Derived.Test.YtongajonecgdpafForgeM
import Derived.Test.YtongajonecgdpafReachM
import Derived.Test.YtongajonecgdpafSweepM
namespace Go.Proofs.Ytongajonecgdpaf
open Go.RowKit

def badE0 (d : NetD) : Prop := checkE d = 0 ∧ (reachAll d).err = 6
/-- Where there is an order, an instant is settled. -/
theorem ord_do {d : NetD} (hc : checkE d = 0) (ho : hasOrd d = true) {r : List Int} (hr : IsSt d.regs.length r) (x : Int) : doE d r (bitsV x d.ins.toNat) = 0 := by
  have hi : 0 ≤ d.ins := (ok_of hc).ins.1
  have hs : stepE d r (bitsV x d.ins.toNat) = 0 := by
    unfold stepE
    rw [if_pos hc, if_pos ⟨hr.1, by rw [bitsV_len]; omega⟩, st_vals hr, bits_vals]
    rfl
  have hcl := lfp_closed hc ho hs (fun y hy => by have := hr.2 y hy; omega) (fun y hy => by have := bits_bit x d.ins.toNat y hy; omega)
  unfold doE
  rw [if_pos hs, if_pos]
  unfold opens
  rw [List.length_eq_zero_iff, List.filter_eq_nil_iff]
  intro y hy
  obtain ⟨k, hk, rfl⟩ := List.mem_iff_getElem.1 hy
  have := hcl k (by rw [lfp_len] at hk; exact hk)
  rw [List.getD_eq_getElem?_getD, List.getElem?_eq_getElem hk] at this
  simpa using this
theorem ord_states {d : NetD} (hc : checkE d = 0) (ho : hasOrd d = true) (l : List Int) : ∀ k, IsSt d.regs.length (stateAt d l k) ∧ errTo d l k = 0
  | 0 => ⟨begins_st d, rfl⟩
  | k + 1 => by
    obtain ⟨h1, h2⟩ := ord_states hc ho l k
    have h3 := ord_do hc ho h1 (l.getD k 0)
    refine ⟨doNext_st h3, ?_⟩
    show (if errTo d l k = 0 then errAt d l k else errTo d l k) = 0
    rw [if_pos h2]; exact h3
theorem ord_run {d : NetD} (hc : checkE d = 0) (ho : hasOrd d = true) (l : List Int) : runE d l = timesE l d.ins.toNat := by
  unfold runE
  rw [if_pos hc]
  split
  · rename_i h; rw [h]; exact (ord_states hc ho l _).2
  · rfl
theorem times_not6 (l : List Int) (n : Nat) : timesE l n ≠ 6 := by
  unfold timesE; split
  · decide
  · split <;> decide
theorem inv_all {d : NetD} (hc : checkE d = 0) : Inv d (reachAll d) := inv_reachTo hc (ok_of hc).ins.1 64
theorem ord_reach {d : NetD} (hc : checkE d = 0) (ho : hasOrd d = true) : (reachAll d).err = 0 ∨ (reachAll d).err = 2 := by
  have hI := inv_all hc
  rcases hI.err with h | h | h
  · exact Or.inl h
  · exact Or.inr h
  · obtain ⟨l, st, x, _, hx, hg, h6⟩ := hI.way h
    have h7 := ord_states hc ho l l.length
    rw [hg.2.2] at h7
    have := ord_do hc ho h7.1 (x : Int)
    rw [this] at h6
    exact absurd h6 (by decide)

/-- Each gate stands behind its args. -/
def Rises (d : NetD) : Prop := ∀ i (hi : i < d.gates.length), ∀ x ∈ d.gates[i].args, 0 ≤ x ∧ x < (i : Int)
theorem rises_fold {d : NetD} (h : Rises d) : Rises (foldD d) := by
  intro i hi x hx
  have hi' : i < d.gates.length := by rw [fold_len] at hi; exact hi
  rw [fold_at d i hi' hi] at hx
  unfold foldG at hx
  split at hx
  · simp at hx
  · split at hx
    · simp at hx
    · exact h i hi' x hx
theorem atN_lt {bs : List Bool} {j k : Nat} (hj : bs.getD j false = true) (h : j < k) : atN bs j < atN bs k := by
  have h1 : ∀ n, atN bs (j + 1) ≤ atN bs (j + 1 + n) := by
    intro n
    induction n with
    | zero => exact Nat.le_refl _
    | succ n ih => rw [← Nat.add_assoc, atN_succ bs (j + 1 + n)]; exact Nat.le_trans ih (Nat.le_add_right _ _)
  have h2 := h1 (k - (j + 1))
  rw [show j + 1 + (k - (j + 1)) = k by omega] at h2
  rw [atN_succ, hj] at h2
  simp at h2
  omega
theorem rises_drop {d : NetD} (h : Rises d) {bs : List Bool} (hc : Clo d bs) : Rises (dropW d bs) := by
  intro i hi x hx
  have hil : i < (keptL bs).length := by rw [drop_len] at hi; exact hi
  have hkm : (keptL bs)[i] ∈ keptL bs := List.getElem_mem hil
  have hkb := kept_mem.1 hkm
  have hkl : (keptL bs)[i] < d.gates.length := by rw [← hc.len]; exact marked_lt hkb
  have hat := kept_at hkb
  have hnd : (keptL bs).Nodup := List.Pairwise.filter _ List.nodup_range
  have hai : atN bs (keptL bs)[i] = i := by
    obtain ⟨h1, h2⟩ := List.getElem?_eq_some_iff.1 hat
    exact (List.getElem_inj hnd).1 h2
  have hg : (dropW d bs).gates[i] = dropG bs d.gates[(keptL bs)[i]] := by
    simp [dropW, List.getD_eq_getElem?_getD, hkl]
  rw [hg] at hx
  obtain ⟨y, hy, rfl⟩ := List.mem_map.1 (show x ∈ d.gates[(keptL bs)[i]].args.map (fun x => toV bs x.toNat) from hx)
  have hyb := hc.args _ hkl hkb y hy
  have hyr := h _ hkl y hy
  rw [toV_of hyb]
  refine ⟨by omega, ?_⟩
  have := atN_lt hyb (k := (keptL bs)[i]) (by omega)
  omega
theorem rises_order {d : NetD} (hc : checkE d = 0) (h : Rises d) : orderE d = 0 := by
  unfold orderE
  rw [if_pos hc, rise_ord h]
  rfl
theorem forge_order {p : List NodeD} (hok : POk p) : orderE (forgeD p) = 0 := rises_order (forge_check hok) (forge_rise hok)
end Go.Proofs.Ytongajonecgdpaf
