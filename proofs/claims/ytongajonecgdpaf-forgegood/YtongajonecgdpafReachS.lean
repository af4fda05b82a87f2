/- The program's reach.States and reach.Bad. -/
import Derived.Test.YtongajonecgdpafReachR
namespace Go.Proofs.Ytongajonecgdpaf
open Go.RowKit Go.Maps

/-- What walk answers. -/
def Walked (d : NetD) (w w' : World) (e : Ending) : Prop :=
  ((checkE d ≠ 0 ∧ e = .returned (.tuple #[.pointer none, .slice none 0 0, .int .i64 (checkE d)])) ∨
   (checkE d = 0 ∧ ∃ B b m k rl pv a n c, e = .returned (.tuple #[.pointer (some ⟨b, 0, none⟩), .slice a n c, .int .i64 (reachAll d).err]) ∧ Wk w' B b m k rl pv (reachAll d).sts (reachAll d).ws ∧ ((reachAll d).err ≠ 2 → Ints w' a n (reachAll d).way) ∧ n ≤ c)) ∧ Below w.heap.size w w'

theorem ret_walk {p : Value} {a : Option Addr} {n c : Nat} {x y : Int} (h : x = y) : Ending.returned (.tuple #[p, .slice a n c, .int .i64 x]) = .returned (.tuple #[p, .slice a n c, .int .i64 y]) := by rw [h]
theorem Wk.start (w1 : World) (k : NC) (rl : Nat) : Wk ((w1.alloc (.map #[] 0)).alloc (.cells #[.int .i64 (k.i : Int), .slice k.ga k.gn k.gc, .slice k.ra k.rn k.rc, .slice k.oa k.on k.oc, .slice none 0 0, .map (some w1.heap.size)] 138)) w1.heap.size (w1.heap.size + 1) w1.heap.size k rl (.slice none 0 0) [] [] := by
  have hs : (w1.alloc (.map #[] 0)).heap.size = w1.heap.size + 1 := by simp
  refine ⟨Nat.le_succ _, Nat.le_refl _, ?_, ⟨[], World.ownsRow_nil _ _ _ _, Pairs.nil _ _⟩, ⟨_, (World.ownsMap_made w1 Try.prog 3 (plainElem (H := Unit) Try.prog 3)).alloc _, SMap.nil rl⟩⟩
  rw [← hs]
  exact heap_alloc_new _ _

set_option maxRecDepth 100000 in
set_option maxHeartbeats 4000000 in
theorem walk_any (d : NetD) (ins0 : Int) (ga ra oa : Option Addr) (gn gc rn rc on oc : Nat) (w : World) (h : NetAt w d ins0 ga gn ra rn oa on) :
    Calls Try.prog 63 #[.agg #[.int .i64 ins0, .slice ga gn gc, .slice ra rn rc, .slice oa on oc]] w fun e w' => Walked d w w' e := by
  have hb0 : Below w.heap.size w (w.alloc (.cells #[.int .i64 ins0, .slice ga gn gc, .slice ra rn rc, .slice oa on oc] 48)) := (Below.refl _ _).alloc (Nat.le_refl _) _
  have hbox : Boxed (w.alloc (.cells #[.int .i64 ins0, .slice ga gn gc, .slice ra rn rc, .slice oa on oc] 48)) w.heap.size ins0 ga gn gc ra rn rc oa on oc := Boxed.new _ _ _ _ _ _ _ _ _ _ _ _
  have hN := h.below hb0
  clear h
  have hmm := @run_makeMap Try.prog
  go_enter Try.func63, Try.ntmps63
  go_wp2_with fail
  refine (Begin_any d _ _ _ _ _ _ _ _ _ _ _ hN).mono ?_
  rintro e w1 ⟨q0, q1, q2, rfl, hQ, hb⟩
  have B1 := bstep hb0 hb
  have hN1 := hN.below hb
  have hx1 := hbox.below hb
  clear hb hb0 hN hbox
  by_cases e0 : checkE d = 0
  · rw [e0]
    have HCK := hide e0
    have HQA := hide (show begAns d = begins d by unfold begAns; rw [if_pos e0])
    rw [unhide HQA] at hQ
    have hcs := counts_gates (check_ok e0).1
    have hge : 0 ≤ d.ins := by have := (check_ok e0).2.1; simp only [numbersB, Bool.and_eq_true, decide_eq_true_iff] at this; exact this.1.1.1
    have hii := hN1.ins
    obtain ⟨i, hie⟩ := Int.eq_ofNat_of_zero_le (show 0 ≤ ins0 by omega)
    have hi3 : i ≤ 3 := by omega
    have hrl : d.regs.length ≤ 20 := by omega
    have HI := hide (show d.ins.toNat = i by omega)
    have HGE := hide hge
    subst hie
    clear hcs hge hii e0
    obtain ⟨x0, x1, x2, x3, x4⟩ := hx1
    go_wp2_with fail
    have hW := Wk.start w1 ⟨i, ga, gn, gc, ra, rn, rc, oa, on, oc⟩ d.regs.length
    have hb2 : Below w1.heap.size w1 ((w1.alloc (.map #[] 0)).alloc (.cells #[.int .i64 (i : Int), .slice ga gn gc, .slice ra rn rc, .slice oa on oc, .slice none 0 0, .map (some w1.heap.size)] 138)) := ((Below.refl _ w1).alloc (Nat.le_refl _) _).alloc (by simp) _
    have hX := OffG.early (G := [(Value.slice none 0 0).ownBlock, some (w1.heap.size + 1), some w1.heap.size]) hQ hb2 (fun j hj => by
      simp [Value.ownBlock] at hj; omega)
    have hY : OffG ((w1.alloc (.map #[] 0)).alloc (.cells #[.int .i64 (i : Int), .slice ga gn gc, .slice ra rn rc, .slice oa on oc, .slice none 0 0, .map (some w1.heap.size)] 138)) [(Value.slice none 0 0).ownBlock, some (w1.heap.size + 1), some w1.heap.size] none 0 [] := ⟨Ints.none _, Or.inl rfl⟩
    clear x1 x2 x3 x4 hmm
    dsimp only at hW
    refine (enter_any w1.heap.size (w1.heap.size + 1) w1.heap.size ⟨i, ga, gn, gc, ra, rn, rc, oa, on, oc⟩ d.regs.length (.slice none 0 0) [] [] _ hW hrl (Nat.zero_le _) (begins d) [] (begins_st d) q0 none q1 q2 0 0 hX hY (fun _ => ⟨rfl, rfl⟩)).mono ?_
    intro e w3 hE
    rcases hE with ⟨hm, _⟩ | ⟨_, hm, _⟩ | ⟨_, _, rfl, ⟨pv, hW3⟩, hb3⟩
    · simp at hm
    · simp at hm
    · have hbel := (hb2.trans hb3)
      clear hW hX hY hb3 hb2 hQ
      go_wp2_with fail
      refine (roam_any d w1 (w1.heap.size + 1) w1.heap.size ⟨i, ga, gn, gc, ra, rn, rc, oa, on, oc⟩ hN1 hrl hi3 (unhide HI) (unhide HCK) (unhide HGE) pv w3 hW3 hbel).mono ?_
      rintro e w4 ⟨pv', a, n, c, rfl, hW4, hI4, hnc4, hb4⟩
      have HR := hide (And.intro hW4 hI4)
      clear hW4 hI4 hW3
      obtain ⟨ee, hee⟩ : ∃ ee, (reachAll d).err = ee := ⟨_, rfl⟩
      rw [hee]
      have HEE := hide hee
      clear hee
      go_wp2_with fail
      go_ret3
      exact ⟨Or.inr ⟨unhide HCK, _, _, _, _, _, _, a, n, c, ret_walk (unhide HEE).symm, (unhide HR).1, (unhide HR).2, hnc4⟩, bstep B1 hb4⟩
  · have hne : (checkE d != 0) = true := by simp [e0]
    have HE := hide e0
    clear e0
    go_wp2_with fail
    go_ret3
    exact ⟨Or.inl ⟨unhide HE, rfl⟩, B1⟩

theorem check_ne6 (d : NetD) : checkE d ≠ 6 := by
  unfold checkE
  split
  · split
    · split
      · split <;> decide
      · decide
    · decide
  · decide
def statesE (d : NetD) : Int := if checkE d = 0 then (reachAll d).err else checkE d
def statesL (d : NetD) : List (List Int) := if statesE d = 0 then (reachAll d).sts else []
def badB (d : NetD) : Bool := decide (checkE d = 0 ∧ (reachAll d).err = 6)
def badE (d : NetD) : Int := if badB d then 0 else statesE d
def badW (d : NetD) : List Int := if badB d then (reachAll d).way else []
theorem ret_bad {a : Option Addr} {n c : Nat} {p q : Bool} {x y : Int} (hp : p = q) (h : x = y) : Ending.returned (.tuple #[.slice a n c, .bool p, .int .i64 x]) = .returned (.tuple #[.slice a n c, .bool q, .int .i64 y]) := by rw [hp, h]

set_option maxRecDepth 100000 in
set_option maxHeartbeats 4000000 in
theorem Bad_any (d : NetD) (ins0 : Int) (ga ra oa : Option Addr) (gn gc rn rc on oc : Nat) (w : World) (h : NetAt w d ins0 ga gn ra rn oa on) :
    Calls Try.prog 27 #[.agg #[.int .i64 ins0, .slice ga gn gc, .slice ra rn rc, .slice oa on oc]] w fun e w' => ∃ a n c, e = .returned (.tuple #[.slice a n c, .bool (badB d), .int .i64 (badE d)]) ∧ Ints w' a n (badW d) ∧ n ≤ c ∧ Below w.heap.size w w' := by
  have hb0 : Below w.heap.size w (w.alloc (.cells #[.int .i64 ins0, .slice ga gn gc, .slice ra rn rc, .slice oa on oc] 48)) := (Below.refl _ _).alloc (Nat.le_refl _) _
  have hN := h.below hb0
  clear h
  go_enter Try.func27, Try.ntmps27
  go_wp2_with fail
  refine (walk_any d _ _ _ _ _ _ _ _ _ _ _ hN).mono ?_
  rintro e w1 ⟨hWa, hb⟩
  have B1 := bstep hb0 hb
  clear hb hb0 hN
  rcases hWa with ⟨hne, rfl⟩ | ⟨hck, B, b, m, k, rl, pv, a, n, c, rfl, hW, hI, hnc⟩
  · have HB := hide (show badB d = false by unfold badB; simp [hne])
    have HE := hide (show badE d = checkE d by unfold badE; rw [unhide HB]; unfold statesE; simp [hne])
    have HV := hide (show badW d = [] by unfold badW; rw [unhide HB]; rfl)
    have h6 := check_ne6 d
    obtain ⟨ee, hee⟩ : ∃ ee, checkE d = ee := ⟨_, rfl⟩
    rw [hee] at h6
    have HEE := hide hee
    rw [hee]
    have hq : (ee == 6) = false := by simp only [beq_eq_false_iff_ne, ne_eq]; exact h6
    clear hne h6 hee
    go_wp2_with fail
    go_ret3
    exact ⟨none, 0, 0, ret_bad (unhide HB).symm (by rw [unhide HE, unhide HEE]), by rw [unhide HV]; exact Ints.none _, Nat.le_refl _, B1⟩
  · have HS := hide (show statesE d = (reachAll d).err by unfold statesE; rw [if_pos hck])
    by_cases e6 : (reachAll d).err = 6
    · have HB := hide (show badB d = true by unfold badB; simp [hck, e6])
      have HE := hide (show badE d = 0 by unfold badE; rw [unhide HB]; rfl)
      have HV := hide (show badW d = (reachAll d).way by unfold badW; rw [unhide HB]; rfl)
      have hI6 := hI (by rw [e6]; decide)
      rw [e6]
      have HI6 := hide hI6
      clear hW hI hI6 e6 hck
      go_wp2_with fail
      go_ret3
      exact ⟨a, n, c, ret_bad (unhide HB).symm (unhide HE).symm, by rw [unhide HV]; exact unhide HI6, hnc, B1⟩
    · have HB := hide (show badB d = false by unfold badB; simp [e6])
      have HE := hide (show badE d = (reachAll d).err by unfold badE; rw [unhide HB]; exact unhide HS)
      have HV := hide (show badW d = [] by unfold badW; rw [unhide HB]; rfl)
      obtain ⟨ee, hee⟩ : ∃ ee, (reachAll d).err = ee := ⟨_, rfl⟩
      rw [hee] at e6
      have HEE := hide hee
      rw [hee]
      have hq : (ee == 6) = false := by simp only [beq_eq_false_iff_ne, ne_eq]; exact e6
      clear hW hI e6 hck hee
      go_wp2_with fail
      go_ret3
      exact ⟨none, 0, 0, ret_bad (unhide HB).symm (by rw [unhide HE, unhide HEE]), by rw [unhide HV]; exact Ints.none _, Nat.le_refl _, B1⟩
end Go.Proofs.Ytongajonecgdpaf
