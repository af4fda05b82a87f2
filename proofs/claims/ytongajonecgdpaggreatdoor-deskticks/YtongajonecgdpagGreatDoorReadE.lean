/- text.Read: what the program reads is what the document reads. -/
import Derived.Test.YtongajonecgdpagGreatDoorReadD
namespace Go.Proofs.YtongajonecgdpagGreatDoor
open Go.RowKit

theorem node_all : ∀ n, NodeC n
  | 0 => fun _ _ _ _ _ _ _ h1 h2 => by omega
  | n + 1 => node_step n (node_all n)

theorem tcatch_panicking (p : Addr) (x f : Int) (w : World) (hc : w.cell? p = some (.int .i64 x)) (hz : w.frozen? p = false) :
    CallsD Tryz.prog 75 #[.pointer (some p)] (.panicking [{ v := .iface 22 (.int .i64 f), recovered := false }]) w fun e u' w' =>
      e = .returned (.tuple #[]) ∧ u' = .panicking [{ v := .iface 22 (.int .i64 f), recovered := true }] ∧ w' = w.setCell p (.int .i64 f) := by
  refine callsD_of_wpS Tryz.func75 rfl fun c₀ cs hu => ?_
  apply wpS_seq
  apply wpS_region
  simp [wpOpsS, go_sem, recoverD, hu, Tryz.ntmps75, Exit.thenS]
  refine wpS_of_wp ?_
  simp only [Array.replicate]
  have hta := assert_errno f w
  go_wp2
  simp [bodyPostS, results, Tryz.results75]
theorem tcatch_idle (p : Addr) (w : World) :
    CallsD Tryz.prog 75 #[.pointer (some p)] .returning w fun e u' w' => e = .returned (.tuple #[]) ∧ u' = .returning ∧ w' = w := by
  refine callsD_of_wpS Tryz.func75 rfl fun c₀ cs hu => ?_
  apply wpS_seq
  apply wpS_region
  simp [wpOpsS, go_sem, recoverD, hu, Tryz.ntmps75, Exit.thenS]
  refine wpS_of_wp ?_
  simp only [Array.replicate]
  go_wp2
  cases c₀
  simp_all [bodyPostS, results, Tryz.results75]

/-- What is read: the nodes, or ErrForm. -/
def ReadRet (p : Option (List NodeD)) (w w' : World) (e : Ending) : Prop := ∃ a n c, e = .returned (.tuple #[.slice a n c, .int .i64 (if p.isSome then 0 else 1)]) ∧ Nodes w' a n (p.getD []) ∧ n ≤ c ∧ Below w.heap.size w w'
theorem own_nodes {w : World} {base : Nat} {nv : Value} {acc : List NodeD} (h : w.ownsRow base 93 2 nv acc.length (cellsN acc)) (hl : acc.length ≤ 14) : ∃ a c, nv = .slice a acc.length c ∧ Nodes w a acc.length acc ∧ acc.length ≤ c := by
  rcases h.2 with ⟨h1, h2⟩ | ⟨g, c, cur, h1, _, hg, h4, _⟩
  · have : acc = [] := List.length_eq_zero_iff.1 h2
    subst this
    exact ⟨none, 0, h1, ⟨rfl, Nat.zero_le _, Or.inl rfl⟩, Nat.le_refl _⟩
  · refine ⟨_, c, h1, ⟨rfl, by unfold maxLen; omega, Or.inr ⟨g, 0, rfl, (Array.getElem?_eq_some_iff.1 hg).1, fun i hi => ?_⟩⟩, h4⟩
    rw [h1] at h
    have e0 := h.cellAt (i * 2) (by omega)
    have e1 := h.cellAt (i * 2 + 1) (by omega)
    rw [(cellsN_at acc i hi).1] at e0
    rw [(cellsN_at acc i hi).2] at e1
    rw [Nat.zero_add]
    exact ⟨e0, e1⟩
theorem tfault_out {w w1 w2 : World} {f : Int} (h0 : Below w.heap.size w w1) (h : Below (w1.alloc (.cells #[.int .i64 0] 22)).heap.size (w1.alloc (.cells #[.int .i64 0] 22)) w2) :
    w2.cell? ⟨w1.heap.size, 0, none⟩ = some (.int .i64 0) ∧ w2.frozen? ⟨w1.heap.size, 0, none⟩ = false ∧ Below w.heap.size w (w2.setCell ⟨w1.heap.size, 0, none⟩ (.int .i64 f)) := by
  refine ⟨?_, ?_, ?_⟩
  · rw [h.cell (p := ⟨w1.heap.size, 0, none⟩) (by simp), World.cell?_alloc_at _ _ _ _ (by simp)]; rfl
  · rw [h.frozen (p := ⟨w1.heap.size, 0, none⟩) (by simp)]; exact World.frozen?_alloc_at _ _ _ _ (by simp)
  · refine Below.setCell ?_ h0.size _
    exact bstep (bstep h0 ((Below.refl _ _).alloc (Nat.le_refl _) _)) h

set_option maxRecDepth 100000 in
set_option maxHeartbeats 4000000 in
theorem tread_any (s : List UInt8) (w : World) :
    Calls Tryz.prog 35 #[.string ⟨s.toArray⟩] w fun e w' => ReadRet (readP s) w w' e := by
  have hmf : ∀ (fn : Fn) (first cap : Array Value) (w : World), (Instr.makeFunc fn first cap).run Tryz.prog w = .ok (.func fn first cap) w := fun _ _ _ _ => rfl
  go_enter_defers Tryz.func35, Tryz.ntmps35
  go_wp2_with fail
  refine (phrases_any _).mono ?_
  rintro e w2 ⟨m, rfl, hP, hm, hb⟩
  have hml := hP.lt
  have hal := (Below.refl w2.heap.size w2).alloc (Nat.le_refl _) (.cells #[.string ⟨s.toArray⟩, .slice none 0 0, .map (some m)] 117)
  have hR : RdAt (w2.alloc (.cells #[.string ⟨s.toArray⟩, .slice none 0 0, .map (some m)] 117)) w2.heap.size m s [] (.slice none 0 0) := ⟨Cells.new w2 [.string ⟨s.toArray⟩, .slice none 0 0, .map (some m)] 117, World.ownsRow_nil _ _ _ _, hP.same (hal.block _ hP.lt), hml⟩
  go_wp2_with fail
  have BA := bstep hb hal
  have hsz : (w.alloc (.cells #[.int .i64 0] 22)).heap.size = w.heap.size + 1 := by simp
  have hle : (w.alloc (.cells #[.int .i64 0] 22)).heap.size ≤ w2.heap.size := hb.size
  have hle3 : (w.alloc (.cells #[.int .i64 0] 22)).heap.size ≤ (w2.alloc (.cells #[.string ⟨s.toArray⟩, .slice none 0 0, .map (some m)] 117)).heap.size := BA.size
  clear hal hP hb hml hm
  generalize w2.alloc (.cells #[.string ⟨s.toArray⟩, .slice none 0 0, .map (some m)] 117) = w3 at *
  generalize w2.heap.size = b at *
  have hG : ∀ g ∈ b :: ownT (.slice none 0 0), (w.alloc (.cells #[.int .i64 0] 22)).heap.size ≤ g := fun g hg => by
    rcases List.mem_cons.1 hg with e | e
    · omega
    · simp [ownT, Value.ownBlock] at e
  refine (node_all 15 w3 b m s [] (.slice none 0 0) hR (by simp) (by simp)).mono ?_
  intro e w4 hret
  obtain ⟨r, hr⟩ : ∃ r, readF 15 s [] = r := ⟨_, rfl⟩
  rw [hr] at hret
  cases r with
  | none =>
    obtain ⟨rfl, hK⟩ := hret
    have HP := hide (show readP s = none by unfold readP; rw [hr])
    have BX := BA.trans (hK.below hG hle3)
    clear hr hK hG hR BA
    unfold fell
    go_wp2_with fail
    obtain ⟨q1, q2, q3⟩ := tfault_out (f := 1) (Below.refl w.heap.size w) BX
    refine leaves_cons (f := 75) (args := #[.pointer (some ⟨w.heap.size, 0, none⟩)]) (by simp) (by simp [go_sem]) ?_
    refine (tcatch_panicking ⟨w.heap.size, 0, none⟩ 0 1 _ q1 q2).mono ?_
    rintro e u' w'' ⟨rfl, rfl, rfl⟩
    have q4 : (w4.setCell ⟨w.heap.size, 0, none⟩ (.int .i64 1)).cell? ⟨w.heap.size, 0, none⟩ = some (.int .i64 1) := World.cell?_setCell_same' _ _ _ (by rw [q1]; rfl)
    have HF : ReadRet (readP s) w (w4.setCell ⟨w.heap.size, 0, none⟩ (.int .i64 1)) (.returned (.tuple #[.slice none 0 0, .int .i64 1])) := ⟨none, 0, 0, by rw [unhide HP]; rfl, by rw [unhide HP]; exact ⟨rfl, Nat.zero_le _, Or.inl rfl⟩, Nat.le_refl _, q3⟩
    simp [Leaves, settle, results, Tryz.results35, go_sem, q4, HF]
  | some p =>
    obtain ⟨s', acc'⟩ := p
    obtain ⟨rfl, nv4, hR4, hK4, hO4⟩ := hret
    have hlen := (read_len hr).1
    have BX := BA.trans (hK4.below hG hle3)
    have z0 := hR4.box.cell 0
    obtain ⟨a4, c4, hnv, hN5, hac⟩ := own_nodes (ownsRow_setCell_below hR4.row (a := ⟨w.heap.size, 0, none⟩) (show w.heap.size < b + 1 by omega) (.int .i64 0)) hlen
    subst hnv
    have z1 := hR4.box.cell 1
    obtain ⟨q1, q2, _⟩ := tfault_out (f := 0) (Below.refl w.heap.size w) BX
    have hlE : w.heap.size < w4.heap.size := by have := BX.size; omega
    clear hK4 hG hR BA hO4 hR4
    by_cases hs : s' = []
    · subst hs
      have HP := hide (show readP s = some acc' by unfold readP; rw [hr])
      have q3 := (tfault_out (f := 0) (Below.refl w.heap.size w) BX).2.2
      have q4 : (w4.setCell ⟨w.heap.size, 0, none⟩ (.int .i64 0)).cell? ⟨w.heap.size, 0, none⟩ = some (.int .i64 0) := World.cell?_setCell_same' _ _ _ (by rw [q1]; rfl)
      have HF : ReadRet (readP s) w (w4.setCell ⟨w.heap.size, 0, none⟩ (.int .i64 0)) (.returned (.tuple #[.slice a4 acc'.length c4, .int .i64 0])) := ⟨a4, acc'.length, c4, by rw [unhide HP]; rfl, by rw [unhide HP]; exact hN5, hac, q3⟩
      clear hr
      go_wp2_with fail
      refine (trequire_any true _).mono ?_
      rintro e w' ⟨rfl, rfl⟩
      rw [endOf_true]
      go_wp2_with fail
      refine leaves_cons (f := 75) (args := #[.pointer (some ⟨w.heap.size, 0, none⟩)]) (by simp) (by simp [go_sem]) ?_
      refine (tcatch_idle ⟨w.heap.size, 0, none⟩ _).mono ?_
      rintro e u' w'' ⟨rfl, rfl, rfl⟩
      simp [Leaves, settle, results, Tryz.results35, go_sem, q4, HF]
    · have HP := hide (show readP s = none by
        unfold readP
        rw [hr]
        cases s' with
        | nil => exact absurd rfl hs
        | cons c l => rfl)
      have hs2 : (s' == []) = false := by simpa using hs
      clear hr hs
      go_wp2_with fail
      refine (trequire_any false _).mono ?_
      rintro e w' ⟨rfl, rfl⟩
      rename World => w4
      rw [endOf_false]
      go_wp2_with fail
      obtain ⟨q1, q2, q3⟩ := tfault_out (f := 1) (Below.refl w.heap.size w) BX
      refine leaves_cons (f := 75) (args := #[.pointer (some ⟨w.heap.size, 0, none⟩)]) (by simp) (by simp [go_sem]) ?_
      refine (tcatch_panicking ⟨w.heap.size, 0, none⟩ 0 1 _ q1 q2).mono ?_
      rintro e u' w'' ⟨rfl, rfl, rfl⟩
      have q4 : (w4.setCell ⟨w.heap.size, 0, none⟩ (.int .i64 1)).cell? ⟨w.heap.size, 0, none⟩ = some (.int .i64 1) := World.cell?_setCell_same' _ _ _ (by rw [q1]; rfl)
      have HF : ReadRet (readP s) w (w4.setCell ⟨w.heap.size, 0, none⟩ (.int .i64 1)) (.returned (.tuple #[.slice none 0 0, .int .i64 1])) := ⟨none, 0, 0, by rw [unhide HP]; rfl, by rw [unhide HP]; exact ⟨rfl, Nat.zero_le _, Or.inl rfl⟩, Nat.le_refl _, q3⟩
      simp [Leaves, settle, results, Tryz.results35, go_sem, q4, HF]

def readE (s : List UInt8) : Int := if 4096 < s.length then 2 else if (progF s).isSome then 0 else 1
def readL (s : List UInt8) : List NodeD := if 4096 < s.length then [] else (progF s).getD []
theorem Read_any (s : List UInt8) (w : World) :
    Calls Tryz.prog 12 #[.string ⟨s.toArray⟩] w fun e w' => ∃ a n c, e = .returned (.tuple #[.slice a n c, .int .i64 (readE s)]) ∧ Nodes w' a n (readL s) ∧ n ≤ c ∧ Below w.heap.size w w' := by
  by_cases h : 4096 < s.length
  · have hi : (4096 : Int) < (s.length : Int) := by omega
    have HE := hide (show readE s = 2 by unfold readE; rw [if_pos h])
    have HL := hide (show readL s = [] by unfold readL; rw [if_pos h])
    clear h
    go_enter Tryz.func12, Tryz.ntmps12
    go_wp2_with fail
    go_ret2
    exact ⟨none, 0, 0, (by rw [unhide HE]; rfl), by rw [unhide HL]; exact ⟨rfl, Nat.zero_le _, Or.inl rfl⟩, Nat.le_refl _, Below.refl _ _⟩
  · have hi : ¬ (4096 : Int) < (s.length : Int) := by omega
    have HE := hide (show readE s = if (readP s).isSome then 0 else 1 by unfold readE; rw [if_neg h, read_prog])
    have HL := hide (show readL s = (readP s).getD [] by unfold readL; rw [if_neg h, read_prog])
    clear h
    go_enter Tryz.func12, Tryz.ntmps12
    go_wp2_with fail
    refine (tread_any s _).mono ?_
    rintro e w1 ⟨a, n, c, rfl, hN, hnc, hb⟩
    rw [← unhide HE]
    rw [← unhide HL] at hN
    obtain ⟨E, hE⟩ : ∃ E, readE s = E := ⟨_, rfl⟩
    have HEE := hide hE
    rw [hE]
    clear hE
    go_wp2_with fail
    go_ret2
    exact ⟨a, n, c, (by rw [unhide HEE]; rfl), hN, hnc, hb⟩
end Go.Proofs.YtongajonecgdpagGreatDoor
