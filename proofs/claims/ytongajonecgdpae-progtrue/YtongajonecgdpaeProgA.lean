/- The document's programs: CheckProg, end, PartsOf, WaitsOf. -/
import Derived.Test.YtongajonecgdpaeProgM
import Derived.Test.YtongajonecgdpaeNetN
import Derived.Test.YtongajonecgdpaeNetO
import Derived.Test.YtongajonecgdpaeTernE
namespace Go.Proofs.Ytongajonecgdpae
open Go.RowKit

def Nodes (w : World) (a : Option Addr) (n : Nat) (p : List NodeD) : Prop :=
  n = p.length ∧ p.length ≤ maxLen ∧ (p = [] ∨ ∃ b off, a = some ⟨b, off, none⟩ ∧ b < w.heap.size ∧ ∀ i (hi : i < p.length), w.cell? ⟨b, off + i * 2, none⟩ = some (.int .i64 p[i].kind) ∧ w.cell? ⟨b, off + i * 2 + 1, none⟩ = some (.int .i64 p[i].sig))
theorem Nodes.below {w w' : World} {a : Option Addr} {n : Nat} {p : List NodeD} (h : Nodes w a n p) (hb : Below w.heap.size w w') : Nodes w' a n p := by
  obtain ⟨h1, h2, h3⟩ := h
  refine ⟨h1, h2, ?_⟩
  rcases h3 with h3 | ⟨b, off, ha, hlt, hc⟩
  · exact Or.inl h3
  · exact Or.inr ⟨b, off, ha, Nat.lt_of_lt_of_le hlt hb.size, fun i hi => ⟨(hb.cell (p := ⟨b, off + i * 2, none⟩) hlt).trans (hc i hi).1, (hb.cell (p := ⟨b, off + i * 2 + 1, none⟩) hlt).trans (hc i hi).2⟩⟩
theorem Nodes.at {w : World} {a : Option Addr} {n : Nat} {p : List NodeD} (h : Nodes w a n p) {k : Nat} (hk : k < p.length) :
    ∃ b off, a = some ⟨b, off, Option.none⟩ ∧ b < w.heap.size ∧ w.cell? ⟨b, off + k * 2, Option.none⟩ = some (.int .i64 p[k].kind) ∧ w.cell? ⟨b, off + k * 2 + 1, Option.none⟩ = some (.int .i64 p[k].sig) := by
  obtain ⟨h1, h2, h3⟩ := h
  rcases h3 with h3 | ⟨b, off, ha, hlt, hc⟩
  · rw [h3] at hk; simp at hk
  · exact ⟨b, off, ha, hlt, (hc k hk).1, (hc k hk).2⟩

theorem parts_any (k : Int) (w : World) : Calls Try.prog 48 #[.int .i64 k] w fun e w' => e = .returned (.bool (hasP k)) ∧ w' = w := by
  go_enter Try.func48, Try.ntmps48
  go_wp2_with fail
  refine (within_any k 5 8 _).mono ?_
  rintro e w' ⟨rfl, rfl⟩
  rw [show decide (5 ≤ k ∧ k ≤ 8) = hasP k from rfl]
  go_wp2_with fail
  go_ret
  exact ⟨rfl, rfl⟩
theorem waits_any (k : Int) (w : World) : Calls Try.prog 50 #[.int .i64 k] w fun e w' => e = .returned (.bool (waitK k)) ∧ w' = w := by
  by_cases h1 : k = 1
  · subst h1
    go_enter Try.func50, Try.ntmps50
    go_wp2_with fail
    go_ret
    exact ⟨rfl, rfl⟩
  · by_cases h2 : k = 2
    · subst h2
      go_enter Try.func50, Try.ntmps50
      go_wp2_with fail
      go_ret
      exact ⟨rfl, rfl⟩
    · have e1 : (k == 1) = false := by simp [h1]
      have e2 : (k == 2) = false := by simp [h2]
      have R := hide (show waitK k = (k == 4) by unfold waitK; rw [e1, e2]; rfl)
      rw [unhide R]
      by_cases h4 : k = 4
      · subst h4
        go_enter Try.func50, Try.ntmps50
        go_wp2_with fail
        go_ret
        exact ⟨rfl, rfl⟩
      · have e4 : (k == 4) = false := by simp [h4]
        rw [e4]
        go_enter Try.func50, Try.ntmps50
        go_wp2_with fail
        go_ret
        exact ⟨rfl, rfl⟩

theorem pkTo_succ (p : List NodeD) (k : Nat) (h : k < p.length) : pkTo p (k + 1) = (pkTo p k && decide (0 ≤ p[k].kind ∧ p[k].kind ≤ 8)) := by
  unfold pkTo; rw [List.take_succ_eq_append_getElem h, List.all_append]; simp
theorem pkTo_no {p : List NodeD} {k : Nat} (h : k < p.length) (e : decide (0 ≤ p[k].kind ∧ p[k].kind ≤ 8) = false) : pkTo p p.length = false := by
  rw [Bool.eq_false_iff]
  intro h1
  simp only [pkTo, List.take_length, List.all_eq_true] at h1
  have := h1 p[k] (List.getElem_mem h)
  rw [this] at e; simp at e
theorem psTo_succ (p : List NodeD) (k : Nat) (h : k < p.length) : psTo p (k + 1) = (psTo p k && decide (0 ≤ p[k].sig ∧ p[k].sig ≤ mostS p[k].kind)) := by
  unfold psTo; rw [List.take_succ_eq_append_getElem h, List.all_append]; simp
theorem psTo_no {p : List NodeD} {k : Nat} (h : k < p.length) (e : decide (0 ≤ p[k].sig ∧ p[k].sig ≤ mostS p[k].kind) = false) : psTo p p.length = false := by
  rw [Bool.eq_false_iff]
  intro h1
  simp only [psTo, List.take_length, List.all_eq_true] at h1
  have := h1 p[k] (List.getElem_mem h)
  rw [this] at e; simp at e

set_option maxRecDepth 100000 in
set_option maxHeartbeats 4000000 in
theorem CheckProg_any (p : List NodeD) (a : Option Addr) (n c : Nat) (w : World) (h : Nodes w a n p) :
    Calls Try.prog 20 #[.slice a n c] w fun e w' => e = .returned (.int .i64 (checkP p)) ∧ w' = w := by
  have HN := hide h.1
  by_cases hm : p.length ≤ 14
  case neg =>
    have hni : (14 : Int) < (n : Int) := by have := unhide HN; omega
    have R := hide (show checkP p = 2 by unfold checkP; rw [if_neg hm])
    rw [unhide R]
    clear hm h
    go_enter Try.func20, Try.ntmps20
    go_wp2_with fail
    go_ret
    exact ⟨rfl, rfl⟩
  have hn14 : n ≤ 14 := by have := unhide HN; omega
  have hni : ¬ (14 : Int) < (n : Int) := by omega
  have H4 := hide (show pkTo p p.length = false → checkP p = 4 from fun e => by unfold checkP; rw [if_pos hm, e]; rfl)
  have H3 := hide (show pkTo p p.length = true → psTo p p.length = false → checkP p = 3 from fun e e2 => by unfold checkP; rw [if_pos hm, e, e2]; rfl)
  have H1 := hide (show pkTo p p.length = true → psTo p p.length = true → okF 1 p = false → checkP p = 1 from fun e e2 e3 => by unfold checkP; rw [if_pos hm, e, e2, e3]; rfl)
  have H0 := hide (show pkTo p p.length = true → psTo p p.length = true → okF 1 p = true → checkP p = 0 from fun e e2 e3 => by unfold checkP; rw [if_pos hm, e, e2, e3]; rfl)
  clear hm
  go_enter Try.func20, Try.ntmps20
  go_wp2_with fail
  go_loopw [3] (fun iv wr => ∃ k : Nat, k ≤ n ∧ iv = .int .i64 k ∧ pkTo p k = true ∧ wr = w) (fun iv _ => n - (intOf iv).toNat)
  case atStart => exact ⟨0, Nat.zero_le _, rfl, rfl, by first | rfl | trivial⟩
  case round =>
    obtain ⟨k, hk, rfl, hK, rfl⟩ := hrel
    by_cases hlt : k < n
    · have hki : (k : Int) < (n : Int) := by omega
      have hkp : k < p.length := by have := unhide HN; omega
      obtain ⟨b, off, rfl, hbb, c1, c2⟩ := h.at hkp
      have HS := hide (pkTo_succ p k hkp)
      have HNO := hide (fun e => pkTo_no hkp e)
      go_wp2_with fail
      refine (within_any p[k].kind 0 8 _).mono ?_
      rintro e w' ⟨rfl, rfl⟩
      cases eb : decide (0 ≤ p[k].kind ∧ p[k].kind ≤ 8)
      · have R := hide (unhide H4 (unhide HNO eb))
        clear eb hK
        go_wp2_with fail
        go_ret
        exact ⟨ret_int (unhide R).symm, rfl⟩
      · have R := hide (show pkTo p (k + 1) = true by rw [unhide HS, hK, eb]; rfl)
        clear eb hK
        go_wp2_with fail
        exact ⟨⟨k + 1, by omega, by go_num, unhide R, by first | rfl | trivial⟩, by simp [intOf]; omega⟩
    · have hkn : k = p.length := by have := unhide HN; omega
      rw [hkn] at hK
      have HK := hide hK
      clear hK hkn
      rename World => w0
      go_wp2_with fail
      go_loopw [4] (fun iv wr => ∃ k : Nat, k ≤ n ∧ iv = .int .i64 k ∧ psTo p k = true ∧ wr = w0) (fun iv _ => n - (intOf iv).toNat)
      case atStart => exact ⟨0, Nat.zero_le _, rfl, rfl, by first | rfl | trivial⟩
      case round =>
        obtain ⟨j, hj, rfl, hK, rfl⟩ := hrel
        by_cases hlj : j < n
        · have hki : (j : Int) < (n : Int) := by omega
          have hkp : j < p.length := by have := unhide HN; omega
          obtain ⟨b, off, rfl, hbb, c1, c2⟩ := h.at hkp
          have HS := hide (psTo_succ p j hkp)
          have HNO := hide (fun e => psTo_no hkp e)
          have hmost : ∃ m : Int, mostS p[j].kind = m ∧ ((p[j].kind = 4 ∧ m = 2) ∨ (p[j].kind = 7 ∧ m = 2) ∨ (p[j].kind = 3 ∧ m = 2) ∨ (p[j].kind = 8 ∧ m = 2) ∨ (p[j].kind ≠ 4 ∧ p[j].kind ≠ 7 ∧ p[j].kind ≠ 3 ∧ p[j].kind ≠ 8 ∧ m = 0)) := by
            refine ⟨_, rfl, ?_⟩
            by_cases e1 : p[j].kind = 4
            · exact Or.inl ⟨e1, by unfold mostS; simp [e1]⟩
            by_cases e2 : p[j].kind = 7
            · exact Or.inr (Or.inl ⟨e2, by unfold mostS; simp [e2]⟩)
            by_cases e3 : p[j].kind = 3
            · exact Or.inr (Or.inr (Or.inl ⟨e3, by unfold mostS; simp [e3]⟩))
            by_cases e4 : p[j].kind = 8
            · exact Or.inr (Or.inr (Or.inr (Or.inl ⟨e4, by unfold mostS; simp [e4]⟩)))
            exact Or.inr (Or.inr (Or.inr (Or.inr ⟨e1, e2, e3, e4, by unfold mostS; simp [e1, e2, e3, e4]⟩)))
          obtain ⟨m, hm1, hm2⟩ := hmost
          rw [hm1] at HS HNO
          have HK2 := hide hK
          clear hK hm1
          generalize p[j].sig = sg at *
          generalize p[j].kind = kd at *
          have hfin : ∀ b : Bool, decide (0 ≤ sg ∧ sg ≤ m) = b → (b = false → checkP p = 3) ∧ (b = true → psTo p (j + 1) = true) := fun b hb => ⟨fun e => unhide H3 (unhide HK) (unhide HNO (by rw [hb, e])), fun e => by rw [unhide HS, unhide HK2, hb, e]; rfl⟩
          have HF := hide hfin
          clear hfin HS HNO
          obtain ⟨bb, hdb⟩ : ∃ bb, decide (0 ≤ sg ∧ sg ≤ m) = bb := ⟨_, rfl⟩
          have R := hide (unhide HF bb hdb)
          clear HF
          rcases hm2 with ⟨rfl, rfl⟩ | ⟨rfl, rfl⟩ | ⟨rfl, rfl⟩ | ⟨rfl, rfl⟩ | ⟨e1, e2, e3, e4, rfl⟩
          all_goals
            go_wp2_with fail
            refine (within_any sg 0 _ _).mono ?_
            rintro e w' ⟨rfl, rfl⟩
            rw [hdb]
            clear hdb
            cases bb
            · have R4 := hide ((unhide R).1 rfl)
              go_wp2_with fail
              go_ret
              exact ⟨ret_int (unhide R4).symm, rfl⟩
            · have R4 := hide ((unhide R).2 rfl)
              go_wp2_with fail
              exact ⟨⟨j + 1, by omega, by go_num, unhide R4, by first | rfl | trivial⟩, by simp [intOf]; omega⟩
        · have hjn : j = p.length := by have := unhide HN; omega
          rw [hjn] at hK
          have HK2 := hide hK
          clear hK hjn
          rename World => w1
          go_wp2_with fail
          go_loopw [6, 7] (fun ov iv wr => ∃ k o : Nat, k ≤ n ∧ iv = .int .i64 k ∧ ov = .int .i64 (o : Int) ∧ o ≤ k + 1 ∧ okF 1 p = okF o (p.drop k) ∧ wr = w1) (fun _ iv _ => n - (intOf iv).toNat)
          case atStart => exact ⟨0, 1, Nat.zero_le _, rfl, rfl, by omega, by simp, by first | rfl | trivial⟩
          case round =>
            obtain ⟨i, o, hi, rfl, rfl, ho, hO, rfl⟩ := hrel
            by_cases hli : i < n
            · have hki : (i : Int) < (n : Int) := by omega
              have hkp : i < p.length := by have := unhide HN; omega
              obtain ⟨b, off, rfl, hbb, c1, c2⟩ := h.at hkp
              rw [drop_at hkp] at hO
              cases o with
              | zero =>
                have R := hide (unhide H1 (unhide HK) (unhide HK2) (by rw [hO]; rfl))
                clear hO
                go_wp2_with fail
                go_ret
                exact ⟨ret_int (unhide R).symm, rfl⟩
              | succ q =>
                have hO2 : okF 1 p = okF (if hasP p[i].kind then q + 2 else q) (p.drop (i + 1)) := hO
                have HO := hide hO2
                clear hO hO2
                have hne : ¬ ((q : Int) + 1 = 0) := by omega
                generalize p[i].kind = kd at *
                go_wp2_with fail
                refine (parts_any kd _).mono ?_
                rintro e w' ⟨rfl, rfl⟩
                cases eb : hasP kd
                · have R := hide (show okF 1 p = okF q (p.drop (i + 1)) by rw [unhide HO, eb]; rfl)
                  clear eb HO
                  go_wp2_with fail
                  exact ⟨⟨i + 1, q, by omega, by go_num, by go_num, by omega, unhide R, by first | rfl | trivial⟩, by simp [intOf]; omega⟩
                · have R := hide (show okF 1 p = okF (q + 2) (p.drop (i + 1)) by rw [unhide HO, eb]; rfl)
                  clear eb HO
                  go_wp2_with fail
                  exact ⟨⟨i + 1, q + 2, by omega, by go_num, by go_num, by omega, unhide R, by first | rfl | trivial⟩, by simp [intOf]; omega⟩
            · have hin : i = p.length := by have := unhide HN; omega
              rw [hin, List.drop_length] at hO
              cases o with
              | zero =>
                have R := hide (unhide H0 (unhide HK) (unhide HK2) (by rw [hO]; rfl))
                clear hO hin
                go_wp2_with fail
                go_ret
                exact ⟨ret_int (unhide R).symm, rfl⟩
              | succ q =>
                have R := hide (unhide H1 (unhide HK) (unhide HK2) (by rw [hO]; rfl))
                have hne : ¬ ((q : Int) + 1 = 0) := by omega
                clear hO hin
                go_wp2_with fail
                go_ret
                exact ⟨ret_int (unhide R).symm, rfl⟩
end Go.Proofs.Ytongajonecgdpae
