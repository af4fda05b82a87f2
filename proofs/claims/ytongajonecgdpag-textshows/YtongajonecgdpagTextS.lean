/- SameProgs of two that are the same; the statements' own look at text (textBegun); the statement TextBack. -/
import Derived.Test.YtongajonecgdpagReadE
import Derived.Test.YtongajonecgdpagProgL
import Derived.Laws.StructEq
namespace Go.Proofs.Ytongajonecgdpag
open Go.RowKit

theorem neq_node (w : World) (a b : Int) : Sem.run Try.prog (binOp BinOp.neq 61 (.agg #[.int .i64 a, .int .i64 b]) (.agg #[.int .i64 a, .int .i64 b])) w = .ok (.bool false) w := by
  have hS : Try.prog.underlying 61 = some (.struct (Try.prog.fieldsOf 61)) := by kernel_rfl
  have hp : Try.prog.stoodInHeld 61 = false := by kernel_rfl
  have u3 := Try.underlying3
  rw [run_neq_struct, show (10000 : Nat) = 9999 + 1 from rfl, run_equalIn_agg w 9999 61 _ _ hS hp]
  simp only [Program.fieldsOf, Try.underlying61]
  go_simp
set_option maxHeartbeats 1000000 in
theorem SameProgs_any (p : List NodeD) (a b : Option Addr) (n m c c' : Nat) (w : World) (hx : Nodes w a n p) (hy : Nodes w b m p) :
    Calls Try.prog 12 #[.slice a n c, .slice b m c'] w fun e w' => e = .returned (.bool true) ∧ Below w.heap.size w w' := by
  have hnm : m = n := by rw [hx.1, hy.1]
  subst hnm
  have HN := hide hx.1
  have hm : m ≤ maxLen := by rw [hx.1]; exact hx.2.1
  unfold maxLen at hm
  go_enter Try.func12, Try.ntmps12
  go_wp2_with fail
  go_loopw [5] (fun i wr => ∃ k : Nat, k ≤ m ∧ i = .int .i64 k ∧ Below w.heap.size w wr) (fun i _ => m - (intOf i).toNat)
  case atStart => exact ⟨0, Nat.zero_le _, rfl, Below.refl _ _⟩
  case round =>
    obtain ⟨k, hk, rfl, hbel⟩ := hrel
    by_cases hlt : k < m
    · have hki : (k : Int) < (m : Int) := by omega
      have hkx : k < p.length := by have := unhide HN; omega
      obtain ⟨b1, o1, rfl, hb1, c1, d1⟩ := (hx.below hbel).at hkx
      obtain ⟨b2, o2, rfl, hb2, c2, d2⟩ := (hy.below hbel).at hkx
      have hne := fun W : World => neq_node W p[k].kind p[k].sig
      go_wp2_with fail
      go_region_held3 (fun W => W.cell? ⟨b1, o1 + k * 2, none⟩ = some (.int .i64 p[k].kind) ∧ W.cell? ⟨b1, o1 + k * 2 + 1, none⟩ = some (.int .i64 p[k].sig) ∧ W.cell? ⟨b2, o2 + k * 2, none⟩ = some (.int .i64 p[k].kind) ∧ W.cell? ⟨b2, o2 + k * 2 + 1, none⟩ = some (.int .i64 p[k].sig))
        ((exact ⟨c1, d1, c2, d2⟩))
        (fail)
      all_goals (have R := hide (show Below w.heap.size w wr.drew from hbel.drew))
      all_goals clear c1 c2 d1 d2
      all_goals go_wp2_with fail
      all_goals exact ⟨⟨k + 1, by omega, by go_num, unhide R⟩, by simp [intOf]; omega⟩
    · go_wp2_with fail
      go_ret
      exact ⟨rfl, hbel⟩

theorem show_read {p : List NodeD} (h : checkP p = 0) (hl : (showL p).length ≤ 4096) : readE (showL p) = 0 ∧ readL (showL p) = p := by
  have hs : showL p = textL p p.length 0 := by unfold showL; rw [if_pos h]
  have hr := read_shown (pok_of h)
  unfold readE readL
  have hn : ¬ 4096 < (showL p).length := by omega
  simp only [if_neg hn]
  rw [hs, hr]
  exact ⟨rfl, rfl⟩
theorem show_len {p : List NodeD} (h : checkP p = 0) : (showL p).length ≤ 400 := by
  have hok := pok_of h
  unfold showL
  rw [if_pos h]
  exact text_le hok p.length (ok_some (o := 0) hok.form)
theorem read_show {s : List UInt8} (h : readE s = 0) : checkP (readL s) = 0 ∧ showL (readL s) = s := by
  unfold readE at h
  unfold readL
  by_cases h4 : 4096 < s.length
  · rw [if_pos h4] at h; simp at h
  · rw [if_neg h4] at h ⊢
    cases hp : progF s with
    | none => rw [hp] at h; simp at h
    | some p =>
      obtain ⟨h1, h2⟩ := shown_read hp
      refine ⟨h1, ?_⟩
      show showL p = s
      unfold showL
      rw [if_pos h1, h2]
def playS : List UInt8 := [40, 40, 40, 97, 119, 97, 105, 116, 32, 120, 59, 32, 101, 109, 105, 116, 32, 65, 41, 32, 124, 32, 40, 112, 97, 117, 115, 101, 59, 32, 101, 109, 105, 116, 32, 66, 41, 41, 59, 32, 40, 112, 97, 117, 115, 101, 59, 32, 119, 97, 115, 32, 65, 32, 116, 104, 101, 110, 32, 101, 109, 105, 116, 32, 67, 32, 101, 108, 115, 101, 32, 104, 97, 108, 116, 32, 101, 110, 100, 41, 41]
theorem play_shown : showL playD = playS := by decide +kernel
theorem play_checked : checkP playD = 0 := by decide +kernel
theorem pause_read : readE [112, 97, 117, 115, 101, 32] = 1 := by decide +kernel

set_option maxRecDepth 100000 in
set_option maxHeartbeats 4000000 in
theorem textBegun_any (w : World) :
    Calls Try.prog 10 #[] w fun e w' => e = .returned (.bool true) ∧ Below w.heap.size w w' := by
  have hSR := show_read play_checked (by rw [play_shown]; decide)
  go_enter Try.func10, Try.ntmps10
  go_wp2_with fail
  refine (play_any _).mono ?_
  rintro e w1 ⟨g1, rfl, hc1, _, hb⟩
  have B1 := hb
  clear hb
  go_wp2_with fail
  refine (Show_any playD _ _ _ _ (hc1.nodes rfl (by decide)) (by decide)).mono ?_
  rintro e w2 ⟨rfl, hb⟩
  rw [play_checked]
  have B2 := bstep B1 hb
  clear hb B1 hc1
  go_wp2_with fail
  refine (Read_any (showL playD) _).mono ?_
  rintro e w3 ⟨a3, n3, c3, rfl, hN3, _, hb⟩
  rw [hSR.1]
  rw [hSR.2] at hN3
  have B3 := bstep B2 hb
  clear hb B2
  go_wp2_with fail
  refine (Read_any [112, 97, 117, 115, 101, 32] _).mono ?_
  rintro e w4 ⟨a4, n4, c4, rfl, _, _, hb⟩
  rw [pause_read]
  have B4 := bstep B3 hb
  have hN4 := hN3.below hb
  clear hb B3 hN3
  go_wp2_with fail
  refine (play_any _).mono ?_
  rintro e w5 ⟨g5, rfl, hc5, _, hb⟩
  have B5 := bstep B4 hb
  have hN5 := hN4.below hb
  clear hb B4 hN4
  go_wp2_with fail
  refine (SameProgs_any playD _ _ _ _ _ _ _ hN5 (hc5.nodes rfl (by decide))).mono ?_
  rintro e w6 ⟨rfl, hb⟩
  have B6 := bstep B5 hb
  clear hb B5 hN5 hc5
  rw [play_shown]
  go_wp2_with fail
  go_ret
  exact ⟨rfl, B6⟩

set_option maxRecDepth 100000 in
set_option maxHeartbeats 4000000 in
theorem TextBack_any (p : List NodeD) (pa : Option Addr) (pn pc : Nat) (s : List UInt8) (w : World) (hN : Nodes w pa pn p) (hc : pn ≤ pc) :
    Calls Try.prog 4 #[.slice pa pn pc, .string ⟨s.toArray⟩] w fun e w' => e = .returned (.bool true) ∧ Below w.heap.size w w' := by
  go_enter Try.func4, Try.ntmps4
  go_wp2_with fail
  refine (Show_any p _ _ _ _ hN hc).mono ?_
  rintro e w2 ⟨rfl, B2⟩
  have hN2 := hN.below B2
  clear hN
  by_cases he : checkP p = 0
  · have hSR := show_read he (Nat.le_trans (show_len he) (by decide))
    rw [he]
    clear he
    go_wp2_with fail
    refine (Read_any (showL p) _).mono ?_
    rintro e w3 ⟨a3, n3, c3, rfl, hN3, _, hb⟩
    rw [hSR.1]
    rw [hSR.2] at hN3
    have hN23 := hN2.below hb
    have B3 := bstep B2 hb
    clear hb B2 hN2 hSR
    go_wp2_with fail
    refine (SameProgs_any p _ _ _ _ _ _ _ hN3 hN23).mono ?_
    rintro e w33 ⟨rfl, hb⟩
    have B3 := bstep B3 hb
    clear hb hN3 hN23
    go_wp2_with fail
    refine (Read_any s _).mono ?_
    rintro e w4 ⟨a4, n4, c4, rfl, hN4, hnc, hb⟩
    have B4 := bstep B3 hb
    clear hb B3
    by_cases hr : readE s = 0
    · obtain ⟨hck, hsh⟩ := read_show hr
      rw [hr]
      clear hr
      go_wp2_with fail
      refine (Show_any (readL s) a4 n4 c4 _ hN4 hnc).mono ?_
      rintro e w5 ⟨rfl, hb⟩
      rw [hck, hsh]
      have B5 := bstep B4 hb
      clear hb B4 hN4 hck hsh
      go_wp2_with fail
      refine (textBegun_any _).mono ?_
      rintro e w6 ⟨rfl, hb⟩
      have B6 := bstep B5 hb
      clear hb B5
      go_wp2_with fail
      go_ret
      exact ⟨rfl, B6⟩
    · have hq : (readE s != 0) = true := by simp [hr]
      obtain ⟨E, hE⟩ : ∃ E, readE s = E := ⟨_, rfl⟩
      rw [hE] at hq ⊢
      clear hr hE hN4
      go_wp2_with fail
      refine (textBegun_any _).mono ?_
      rintro e w6 ⟨rfl, hb⟩
      have B6 := bstep B4 hb
      clear hb B4
      go_wp2_with fail
      go_ret
      exact ⟨rfl, B6⟩
  · have hq : (checkP p == 0) = false := by simp [he]
    obtain ⟨ck, hck⟩ : ∃ ck, checkP p = ck := ⟨_, rfl⟩
    rw [hck] at hq ⊢
    have B3 := B2
    clear he hck B2 hN2
    go_wp2_with fail
    refine (Read_any s _).mono ?_
    rintro e w4 ⟨a4, n4, c4, rfl, hN4, hnc, hb⟩
    have B4 := bstep B3 hb
    clear hb B3
    by_cases hr : readE s = 0
    · obtain ⟨hck, hsh⟩ := read_show hr
      rw [hr]
      clear hr
      go_wp2_with fail
      refine (Show_any (readL s) a4 n4 c4 _ hN4 hnc).mono ?_
      rintro e w5 ⟨rfl, hb⟩
      rw [hck, hsh]
      have B5 := bstep B4 hb
      clear hb B4 hN4 hck hsh
      go_wp2_with fail
      refine (textBegun_any _).mono ?_
      rintro e w6 ⟨rfl, hb⟩
      have B6 := bstep B5 hb
      clear hb B5
      go_wp2_with fail
      go_ret
      exact ⟨rfl, B6⟩
    · have hq : (readE s != 0) = true := by simp [hr]
      obtain ⟨E, hE⟩ : ∃ E, readE s = E := ⟨_, rfl⟩
      rw [hE] at hq ⊢
      clear hr hE hN4
      go_wp2_with fail
      refine (textBegun_any _).mono ?_
      rintro e w6 ⟨rfl, hb⟩
      have B6 := bstep B4 hb
      clear hb B4
      go_wp2_with fail
      go_ret
      exact ⟨rfl, B6⟩
end Go.Proofs.Ytongajonecgdpag
