/- The program's words: a gate's word on the board. -/
import Derived.Test.YtfeceelibjdaoaePackP
namespace Go.Proofs.Ytfeceelibjdaoae
open Go.RowKit

theorem xor_nat (a b : Nat) (ha : a < 2 ^ 64) (hb : b < 2 ^ 64) : bits .xor .u64 a b = ((a ^^^ b : Nat) : Int) := by
  have ha' : a % 2 ^ IntKind.u64.bits = a := Nat.mod_eq_of_lt ha
  have hb' : b % 2 ^ IntKind.u64.bits = b := Nat.mod_eq_of_lt hb
  simp only [bits, BitVec.ofInt_natCast, BitVec.toNat_xor, BitVec.toNat_ofNat, ha', hb']
  exact wraps_u64' _ (Int.natCast_nonneg _) (by exact_mod_cast Nat.xor_lt_two_pow ha hb)
theorem xor_not {x : Int} (h : isW x) : bits .xor .u64 IntKind.u64.max x = notW x := by
  obtain ⟨a, rfl, ha⟩ := isW_nat h
  have e0 : IntKind.u64.max = ((2 ^ 64 - 1 : Nat) : Int) := by decide
  have e1 : (2 ^ 64 - 1) ^^^ a = 2 ^ 64 - (a + 1) := by
    apply Nat.eq_of_testBit_eq
    intro i
    rw [Nat.testBit_xor, Nat.testBit_two_pow_sub_one, Nat.testBit_two_pow_sub_succ ha]
    by_cases hi : i < 64
    · simp [hi]
    · have : a.testBit i = false := Nat.testBit_lt_two_pow (Nat.lt_of_lt_of_le ha (Nat.pow_le_pow_right (by decide) (by omega)))
      simp [hi, this]
  rw [e0, xor_nat _ _ (by decide) ha, e1]
  unfold notW fullW
  omega
theorem word_args {g : GateD} {ws : List Int} {vn : Nat} (hl : ws.length = vn) {rn inn : Nat} (h : Right g rn inn vn) : ∀ k (hk : k < g.args.length), 0 ≤ g.args[k] ∧ g.args[k] < ws.length := by
  intro k hk
  have h1 := h.args g.args[k] (List.getElem_mem hk)
  omega

set_option maxHeartbeats 1000000 in
theorem word_any (g : GateD) (aa : Option Addr) (an ac : Nat) (held ins ws : List Int) (bb : Nat) (ha ia va : Option Addr) (hn hc inn ic vn vc : Nat) (w : World)
    (hA : Ints w aa an g.args) (hb : bb < w.heap.size) (hcell : w.cell? ⟨bb, 2, none⟩ = some (.slice ha hn hc)) (hH : Words w ha hn held) (hi : Words w ia inn ins) (hv : Words w va vn ws) (hok : Right g hn inn vn) (hwv : ∀ x ∈ ws, isW x) :
    Calls Try.prog 29 #[.pointer (some ⟨bb, 0, none⟩), .agg #[.int .i64 g.kind, .int .i64 g.n, .slice aa an ac], .slice ia inn ic, .slice va vn vc] w fun e w' => e = .returned (.int .u64 (wordV g held ins ws)) ∧ Below w.heap.size w w' := by
  have B : Below w.heap.size w (w.alloc (.cells #[.int .i64 g.kind, .int .i64 g.n, .slice aa an ac] 66)) := (Below.refl _ _).alloc (Nat.le_refl _) _
  have hg2 := GBox.new w g.kind g.n aa an ac 66
  have hA2 := hA.below B
  have hH2 := hH.below B
  have hi2 := hi.below B
  have hv2 := hv.below B
  have hcell2 := (B.cell (p := ⟨bb, 2, none⟩) hb).trans hcell
  have HA1 := hide hA.1
  have HH1 := hide hH.1
  have HI1 := hide hi.1
  have HV1 := hide hv.1
  clear hA hH hi hv hcell
  have hk06 := hok.kind
  have hkk : g.kind = 0 ∨ g.kind = 1 ∨ g.kind = 2 ∨ g.kind = 3 ∨ g.kind = 4 ∨ g.kind = 5 ∨ g.kind = 6 := by omega
  clear hk06
  have HOK := hide hok
  have HWV := hide hwv
  clear hok hwv
  rcases hkk with hkk | hkk | hkk | hkk | hkk | hkk | hkk
  · have HW : Hid (wordV g held ins ws = 0) := by unfold Hid wordV; rw [hkk]; rfl
    obtain ⟨y0, y1, y2, y3⟩ := hg2
    have q1 : (g.kind == 1) = false := by simp only [beq_eq_false_iff_ne, ne_eq]; omega
    have q2 : (g.kind == 2) = false := by simp only [beq_eq_false_iff_ne, ne_eq]; omega
    have q3 : (g.kind == 3) = false := by simp only [beq_eq_false_iff_ne, ne_eq]; omega
    have q4 : (g.kind == 4) = false := by simp only [beq_eq_false_iff_ne, ne_eq]; omega
    have q5 : (g.kind == 5) = false := by simp only [beq_eq_false_iff_ne, ne_eq]; omega
    have q6 : (g.kind == 6) = false := by simp only [beq_eq_false_iff_ne, ne_eq]; omega
    clear hkk
    go_enter Try.func29, Try.ntmps29
    go_wp2_with fail
    go_ret
    exact ⟨ret_word HW.out.symm, B⟩
  · have HW : Hid (wordV g held ins ws = 18446744073709551615) := by unfold Hid wordV; rw [hkk]; exact fullW_is
    obtain ⟨y0, y1, y2, y3⟩ := hg2
    have q1 : (g.kind == 1) = true := by simp only [beq_iff_eq]; omega
    clear hkk
    go_enter Try.func29, Try.ntmps29
    go_wp2_with fail
    go_ret
    exact ⟨ret_word HW.out.symm, B⟩
  · have hR := (unhide HOK).inp hkk
    obtain ⟨m, hm⟩ := Int.eq_ofNat_of_zero_le hR.1
    have hml : m < ins.length := by have h1 := hR.2; rw [hm] at h1; have h2 := unhide HI1; simp at h1; omega
    have hmi : (m : Int) < (inn : Int) := by have h1 := unhide HI1; omega
    obtain ⟨bi, oi, rfl, hbi, ci⟩ := hi2.at hml
    have HW : Hid (wordV g held ins ws = ins[m]) := by
      unfold Hid wordV
      rw [if_neg (by omega), if_pos hkk, hm]; simp [List.getD_eq_getElem?_getD, hml]
    obtain ⟨y0, y1, y2, y3⟩ := hg2
    rw [hm] at y0 y1 y2 y3 ci B hbi ⊢
    rw [hkk] at y0 y1 y2 y3 ci B hbi ⊢
    clear hm hR hkk
    go_enter Try.func29, Try.ntmps29
    go_wp2_with fail
    go_ret
    exact ⟨ret_word HW.out.symm, B⟩
  · have hR := (unhide HOK).reg hkk
    obtain ⟨m, hm⟩ := Int.eq_ofNat_of_zero_le hR.1
    have hml : m < held.length := by have h1 := hR.2; rw [hm] at h1; have h2 := unhide HH1; simp at h1; omega
    have hmi : (m : Int) < (hn : Int) := by have h1 := unhide HH1; omega
    obtain ⟨bi, oi, rfl, hbi, ci⟩ := hH2.at hml
    have HW : Hid (wordV g held ins ws = held[m]) := by
      unfold Hid wordV
      rw [if_neg (by omega), if_neg (by omega), if_pos hkk, hm]; simp [List.getD_eq_getElem?_getD, hml]
    obtain ⟨y0, y1, y2, y3⟩ := hg2
    rw [hm] at y0 y1 y2 y3 ci B hbi hcell2 ⊢
    rw [hkk] at y0 y1 y2 y3 ci B hbi hcell2 ⊢
    clear hm hR hkk
    go_enter Try.func29, Try.ntmps29
    go_wp2_with fail
    go_region_held3 (fun W => W.cell? ⟨bb, 2, none⟩ = some (.slice (some ⟨bi, oi, none⟩) hn hc) ∧ W.cell? ⟨w.heap.size, 1, none⟩ = some (.int .i64 (m : Int)) ∧ W.cell? ⟨bi, oi + m, none⟩ = some (.int .u64 held[m]))
      ((exact ⟨hcell2, y2, ci⟩))
      (fail)
    all_goals have R := hide B.drew
    all_goals go_wp2_with fail
    all_goals go_ret
    all_goals exact ⟨ret_word HW.out.symm, unhide R⟩
  · have HW : Hid (wordV g held ins ws = andW (pickV ws g.args)) := by unfold Hid wordV; rw [hkk]; rfl
    have HIN := hide (word_args (ws := ws) (unhide HV1).symm (unhide HOK))
    have hfew : an ≤ 200 := by have h1 := (unhide HOK).few; have h2 := unhide HA1; omega
    obtain ⟨y0, y1, y2, y3⟩ := hg2
    have q1 : (g.kind == 1) = false := by simp only [beq_eq_false_iff_ne, ne_eq]; omega
    have q2 : (g.kind == 2) = false := by simp only [beq_eq_false_iff_ne, ne_eq]; omega
    have q3 : (g.kind == 3) = false := by simp only [beq_eq_false_iff_ne, ne_eq]; omega
    have q4 : (g.kind == 4) = true := by simp only [beq_iff_eq]; omega
    clear hkk
    go_enter Try.func29, Try.ntmps29
    go_wp2_with fail
    refine (PickW_any ws g.args va aa vn vc an ac _ hv2 hA2 hfew (unhide HIN)).mono ?_
    rintro e wA ⟨aA, cA, rfl, hIA, hFA, hbA⟩
    go_wp2_with fail
    refine (ofAll_any (pickV ws g.args) aA an cA _ hIA hfew).mono ?_
    rintro e wB ⟨rfl, rfl⟩
    go_wp2_with fail
    go_ret
    exact ⟨ret_word HW.out.symm, bstep B hbA⟩
  · have HW : Hid (wordV g held ins ws = orW (pickV ws g.args)) := by unfold Hid wordV; rw [hkk]; rfl
    have HIN := hide (word_args (ws := ws) (unhide HV1).symm (unhide HOK))
    have hfew : an ≤ 200 := by have h1 := (unhide HOK).few; have h2 := unhide HA1; omega
    obtain ⟨y0, y1, y2, y3⟩ := hg2
    have q1 : (g.kind == 1) = false := by simp only [beq_eq_false_iff_ne, ne_eq]; omega
    have q2 : (g.kind == 2) = false := by simp only [beq_eq_false_iff_ne, ne_eq]; omega
    have q3 : (g.kind == 3) = false := by simp only [beq_eq_false_iff_ne, ne_eq]; omega
    have q4 : (g.kind == 4) = false := by simp only [beq_eq_false_iff_ne, ne_eq]; omega
    have q5 : (g.kind == 5) = true := by simp only [beq_iff_eq]; omega
    clear hkk
    go_enter Try.func29, Try.ntmps29
    go_wp2_with fail
    refine (PickW_any ws g.args va aa vn vc an ac _ hv2 hA2 hfew (unhide HIN)).mono ?_
    rintro e wA ⟨aA, cA, rfl, hIA, hFA, hbA⟩
    go_wp2_with fail
    refine (ofAny_any (pickV ws g.args) aA an cA _ hIA hfew).mono ?_
    rintro e wB ⟨rfl, rfl⟩
    go_wp2_with fail
    go_ret
    exact ⟨ret_word HW.out.symm, bstep B hbA⟩
  · have h1 := (unhide HOK).one hkk
    have h0l : 0 < g.args.length := by omega
    have han : an = 1 := by have := unhide HA1; omega
    subst han
    obtain ⟨hp, hq⟩ := (unhide HOK).args g.args[0] (List.getElem_mem h0l)
    obtain ⟨m, hm⟩ := Int.eq_ofNat_of_zero_le hp
    have hml : m < ws.length := by rw [hm] at hq; simp at hq; have := unhide HV1; omega
    have hmi : (m : Int) < (vn : Int) := by have := unhide HV1; omega
    obtain ⟨bi, oi, rfl, hbi, ci⟩ := hv2.at hml
    obtain ⟨b3, o3, rfl, hb3, c3⟩ := hA2.at h0l
    simp only [Nat.add_zero] at c3
    rw [hm] at c3
    have HW : Hid (wordV g held ins ws = notW ws[m]) := by
      unfold Hid wordV
      rw [hkk]
      have e1 : g.args.getD 0 0 = (m : Int) := by rw [List.getD_eq_getElem?_getD, List.getElem?_eq_getElem h0l]; exact hm
      show notW (ws.getD (g.args.getD 0 0).toNat 0) = notW ws[m]
      rw [e1]
      simp [List.getD_eq_getElem?_getD, hml]
    have HNX := hide (xor_not (unhide HWV ws[m] (List.getElem_mem hml)))
    obtain ⟨y0, y1, y2, y3⟩ := hg2
    have q1 : (g.kind == 1) = false := by simp only [beq_eq_false_iff_ne, ne_eq]; omega
    have q2 : (g.kind == 2) = false := by simp only [beq_eq_false_iff_ne, ne_eq]; omega
    have q3 : (g.kind == 3) = false := by simp only [beq_eq_false_iff_ne, ne_eq]; omega
    have q4 : (g.kind == 4) = false := by simp only [beq_eq_false_iff_ne, ne_eq]; omega
    have q5 : (g.kind == 5) = false := by simp only [beq_eq_false_iff_ne, ne_eq]; omega
    have q6 : (g.kind == 6) = true := by simp only [beq_iff_eq]; omega
    clear hkk hm hp hq h1
    go_enter Try.func29, Try.ntmps29
    go_wp2_with fail
    go_ret
    exact ⟨ret_word (by rw [unhide HNX]; exact HW.out.symm), B⟩
end Go.Proofs.Ytfeceelibjdaoae
