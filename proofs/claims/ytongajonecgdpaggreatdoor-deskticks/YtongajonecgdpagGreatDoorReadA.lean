/- Reading a text: its small calls (require, HasPrefix, CutPrefix, skip, the two questions). -/
import Derived.Test.YtongajonecgdpagGreatDoorPhrC
import Derived.Test.YtongajonecgdpagGreatDoorShowP
import Derived.Deep.QuietTactic
import Derived.BigQuiet
namespace Go.Proofs.YtongajonecgdpagGreatDoor
open Go.RowKit

theorem trequire_any (q : Bool) (w : World) : Calls Tryz.prog 77 #[.bool q] w fun e w' => e = endOf q 1 ∧ w' = w := by
  cases q
  · go_enter Tryz.func77, Tryz.ntmps77
    go_wp2
    exact ⟨rfl, rfl, rfl⟩
  · go_enter Tryz.func77, Tryz.ntmps77
    go_wp2
    go_end0
    exact ⟨rfl, rfl⟩
set_option maxHeartbeats 1000000 in
theorem prefix_in (s t : List UInt8) (w : World) : Calls Tryz.prog 130 #[.string ⟨s.toArray⟩, .string ⟨t.toArray⟩] w fun e w' => e = .returned (.bool (afterL s t).2) ∧ w' = w := by
  by_cases h0 : s.length < t.length
  · have R := hide (show (afterL s t).2 = false by
      unfold afterL
      rw [if_neg]
      intro e
      have := congrArg List.length e
      simp at this
      omega)
    have hi : ¬ (t.length : Int) ≤ (s.length : Int) := by omega
    go_enter Tryz.func130, Tryz.ntmps130
    go_wp2_with fail
    go_ret
    rw [unhide R]
    exact ⟨rfl, rfl⟩
  · have hi2 : (t.length : Int) ≤ (s.length : Int) := by omega
    have hi3 : (0 : Int) ≤ (t.length : Int) := by omega
    have ht := str_take s t.length
    by_cases e : s.take t.length = t
    · have R := hide (show (afterL s t).2 = true by unfold afterL; rw [if_pos e])
      go_enter Tryz.func130, Tryz.ntmps130
      go_wp2_with fail
      go_ret
      rw [unhide R]
      exact ⟨rfl, rfl⟩
    · have R := hide (show (afterL s t).2 = false by unfold afterL; rw [if_neg e])
      have hl : (s.take t.length == t) = false := by simp [e]
      clear e
      go_enter Tryz.func130, Tryz.ntmps130
      go_wp2_with fail
      go_ret
      rw [unhide R]
      exact ⟨rfl, rfl⟩
theorem prefix_any (s t : List UInt8) (w : World) : Calls Tryz.prog 110 #[.string ⟨s.toArray⟩, .string ⟨t.toArray⟩] w fun e w' => e = .returned (.bool (afterL s t).2) ∧ w' = w := by
  go_enter Tryz.func110, Tryz.ntmps110
  go_wp2_with fail
  refine (prefix_in s t _).mono ?_
  rintro e w' ⟨rfl, rfl⟩
  go_wp2_with fail
  go_ret
  exact ⟨rfl, rfl⟩
theorem after_parts (s t : List UInt8) : afterL s t = if (afterL s t).2 then (s.drop t.length, true) else (s, false) := by
  unfold afterL; split <;> rfl
theorem after_fit {s t : List UInt8} (h : (afterL s t).2 = true) : t.length ≤ s.length := by
  have := congrArg List.length (after_split h)
  simp at this
  omega
set_option maxHeartbeats 1000000 in
theorem cut_in (s t : List UInt8) (w : World) : Calls Tryz.prog 149 #[.string ⟨s.toArray⟩, .string ⟨t.toArray⟩] w fun e w' => e = .returned (.tuple #[.string ⟨(afterL s t).1.toArray⟩, .bool (afterL s t).2]) ∧ w' = w := by
  have R := hide (after_parts s t)
  have F := hide (fun h => after_fit (s := s) (t := t) h)
  go_enter Tryz.func149, Tryz.ntmps149
  go_wp2_with fail
  refine (prefix_in s t _).mono ?_
  rintro e w' ⟨rfl, rfl⟩
  rename World => w
  cases h : (afterL s t).2
  · have R2 := hide (show afterL s t = (s, false) by rw [unhide R, h]; rfl)
    clear h
    go_wp2_with fail
    go_ret2
    rw [unhide R2]
    exact ⟨rfl, rfl⟩
  · have R2 := hide (show afterL s t = (s.drop t.length, true) by rw [unhide R, h]; rfl)
    have hl := unhide F h
    have hi2 : (t.length : Int) ≤ (s.length : Int) := by omega
    have hi3 : (0 : Int) ≤ (t.length : Int) := by omega
    have hd := str_drop s t.length
    clear h
    go_wp2_with fail
    go_ret2
    rw [unhide R2]
    exact ⟨rfl, rfl⟩
theorem cut_any (s t : List UInt8) (w : World) : Calls Tryz.prog 131 #[.string ⟨s.toArray⟩, .string ⟨t.toArray⟩] w fun e w' => e = .returned (.tuple #[.string ⟨(afterL s t).1.toArray⟩, .bool (afterL s t).2]) ∧ w' = w := by
  go_enter Tryz.func131, Tryz.ntmps131
  go_wp2_with fail
  refine (cut_in s t _).mono ?_
  rintro e w' ⟨rfl, rfl⟩
  go_wp2_with fail
  go_ret2
  exact ⟨rfl, rfl⟩

def cellsN (l : List NodeD) : List Value := l.flatMap (fun x => [.int .i64 x.kind, .int .i64 x.sig])
def ownT (v : Value) : List Nat := match v.ownBlock with | some g => [g] | none => []
theorem ownT_mem {v : Value} {g : Nat} : g ∈ ownT v ↔ v.ownBlock = some g := by
  unfold ownT
  split <;> rename_i h <;> rw [h] <;> simp [eq_comm]
/-- A reader: what is left of the text, and the nodes that were read. -/
structure RdAt (w : World) (b m : Nat) (s : List UInt8) (acc : List NodeD) (nv : Value) : Prop where
  box : Cells w b [.string ⟨s.toArray⟩, nv, .map (some m)] 117
  row : w.ownsRow (b + 1) 93 2 nv acc.length (cellsN acc)
  phr : PhrOf w m isN
  mb : m < b
theorem RdAt.on {w w' : World} {b m : Nat} {s : List UInt8} {acc : List NodeD} {nv : Value} (h : RdAt w b m s acc nv) (hb : Below w.heap.size w w') : RdAt w' b m s acc nv :=
  ⟨(hb.block _ h.box.lt).trans h.box, own_below h.row hb, h.phr.same (hb.block _ h.phr.lt), h.mb⟩
theorem RdAt.noRow {w : World} {b m : Nat} {s : List UInt8} {acc : List NodeD} {nv : Value} (h : RdAt w b m s acc nv) {g : Nat} (hg : g ≤ b) : nv.ownBlock ≠ some g := fun e => by have := (h.row.lt _ e).1; omega
def RdPost (w w' : World) (b m : Nat) (nv : Value) (s' : List UInt8) (acc' : List NodeD) : Prop := ∃ nv', RdAt w' b m s' acc' nv' ∧ KeptT (b :: ownT nv) w w' ∧ ∀ g ∈ ownT nv', g ∈ ownT nv ∨ w.heap.size ≤ g
theorem KeptT.next {w w1 w2 : World} {b : Nat} {nv nv1 : Value} (h : KeptT (b :: ownT nv) w w1) (ho : ∀ g ∈ ownT nv1, g ∈ ownT nv ∨ w.heap.size ≤ g) (h' : KeptT (b :: ownT nv1) w1 w2) : KeptT (b :: ownT nv) w w2 := by
  refine ⟨⟨Nat.le_trans h.1.1 h'.1.1, fun k hk hG => ?_⟩, h'.2.1.trans h.2.1, h'.2.2.1.trans h.2.2.1, h'.2.2.2.trans h.2.2.2⟩
  refine (h'.1.2 k (Nat.lt_of_lt_of_le hk h.1.1) (fun hm => ?_)).trans (h.1.2 k hk hG)
  rcases List.mem_cons.1 hm with e | e
  · exact hG (e ▸ List.mem_cons_self ..)
  · rcases ho k e with e2 | e2
    · exact hG (List.mem_cons_of_mem _ e2)
    · omega
theorem RdPost.next {w w1 w2 : World} {b m : Nat} {nv nv1 : Value} {s2 : List UInt8} {acc2 : List NodeD} (h : KeptT (b :: ownT nv) w w1) (ho : ∀ g ∈ ownT nv1, g ∈ ownT nv ∨ w.heap.size ≤ g) (h' : RdPost w1 w2 b m nv1 s2 acc2) : RdPost w w2 b m nv s2 acc2 := by
  obtain ⟨nv2, hR, hK, hO⟩ := h'
  refine ⟨nv2, hR, h.next ho hK, fun g hg => ?_⟩
  rcases hO g hg with e | e
  · exact ho g e
  · exact Or.inr (Nat.le_trans h.1.1 e)
theorem RdAt.left {w : World} {b m : Nat} {s : List UInt8} {acc : List NodeD} {nv : Value} (h : RdAt w b m s acc nv) (s' : List UInt8) : RdPost w (w.setCell ⟨b, 0, none⟩ (.string ⟨s'.toArray⟩)) b m nv s' acc := by
  have hne : nv.ownBlock ≠ some b := h.noRow (Nat.le_refl _)
  have hb := (Below.refl 0 w).setCell (p := ⟨b, 0, none⟩) (Nat.zero_le _) (.string ⟨s'.toArray⟩)
  refine ⟨nv, ⟨h.box.set 0 _, ?_, h.phr.same (set_other (by have := h.mb; omega)), h.mb⟩, ⟨KeptG.set _ (List.mem_cons_self ..), hb.os, hb.tape, hb.output⟩, fun g hg => Or.inl hg⟩
  exact ownsRow_setCell_below h.row (a := ⟨b, 0, none⟩) (Nat.lt_succ_self _) _
def SkipRet (w w' : World) (b m : Nat) (nv : Value) (s t : List UInt8) (acc : List NodeD) (e : Ending) : Prop := if (afterL s t).2 = true then e = .returned (.tuple #[]) ∧ RdPost w w' b m nv (s.drop t.length) acc else e = fell 1 ∧ w' = w
theorem skip_yes {w w' : World} {b m : Nat} {nv : Value} {s t : List UInt8} {acc : List NodeD} {e : Ending} (h : (afterL s t).2 = true) (he : e = .returned (.tuple #[])) (hp : RdPost w w' b m nv (s.drop t.length) acc) : SkipRet w w' b m nv s t acc e := by
  unfold SkipRet; rw [if_pos h]; exact ⟨he, hp⟩
theorem skip_no {w w' : World} {b m : Nat} {nv : Value} {s t : List UInt8} {acc : List NodeD} {e : Ending} (h : (afterL s t).2 = false) (he : e = fell 1) (hp : w' = w) : SkipRet w w' b m nv s t acc e := by
  unfold SkipRet; rw [if_neg (by rw [h]; simp)]; exact ⟨he, hp⟩
set_option maxHeartbeats 1000000 in
theorem skip_any {w : World} {b m : Nat} {s : List UInt8} {acc : List NodeD} {nv : Value} (h : RdAt w b m s acc nv) (t : List UInt8) :
    Calls Tryz.prog 111 #[.pointer (some ⟨b, 0, none⟩), .string ⟨t.toArray⟩] w fun e w' => SkipRet w w' b m nv s t acc e := by
  have R := hide (after_parts s t)
  have z0 := h.box.cell 0
  have f0 := h.box.frozen 0
  have zl := h.box.lt
  have H := hide h
  go_enter Tryz.func111, Tryz.ntmps111
  go_wp2_with fail
  refine (cut_any s t _).mono ?_
  rintro e w' ⟨rfl, rfl⟩
  rename World => w
  cases hq : (afterL s t).2
  · have R2 := hide (show afterL s t = (s, false) by rw [unhide R, hq]; rfl)
    rw [show (afterL s t).1 = s by rw [unhide R2]]
    have HQ := hide hq
    clear hq
    go_wp2_with fail
    refine (trequire_any false _).mono ?_
    rintro e w' ⟨rfl, rfl⟩
    rw [endOf_false]
    go_wp2_with fail
    exact ⟨rfl, skip_no (unhide HQ) rfl rfl⟩
  · have R2 := hide (show afterL s t = (s.drop t.length, true) by rw [unhide R, hq]; rfl)
    rw [show (afterL s t).1 = s.drop t.length by rw [unhide R2]]
    have HP := hide ((unhide H).left (s.drop t.length))
    have HQ := hide hq
    clear hq
    go_wp2_with fail
    refine (trequire_any true _).mono ?_
    rintro e w' ⟨rfl, rfl⟩
    rw [endOf_true]
    go_wp2_with fail
    go_end0
    exact skip_yes (unhide HQ) rfl (unhide HP)
set_option maxHeartbeats 1000000 in
theorem ask1_any (s h bt en : List UInt8) (q b : Nat) (w : World) (hq : q < w.heap.size ∧ w.cell? ⟨q, 0, none⟩ = some (.pointer (some ⟨b, 0, none⟩))) (hb : b < w.heap.size ∧ w.cell? ⟨b, 0, none⟩ = some (.string ⟨s.toArray⟩)) :
    Calls Tryz.prog 109 #[.agg #[.string ⟨h.toArray⟩, .string ⟨bt.toArray⟩, .string ⟨en.toArray⟩], .pointer (some ⟨q, 0, none⟩)] w fun e w' => e = .returned (.bool (afterL s h).2) ∧ Below w.heap.size w w' := by
  have hb0 : Below w.heap.size w (w.alloc (.cells #[.string ⟨h.toArray⟩, .string ⟨bt.toArray⟩, .string ⟨en.toArray⟩] 98)) := (Below.refl _ _).alloc (Nat.le_refl _) _
  have x1 := (hb0.cell (p := ⟨q, 0, none⟩) hq.1).trans hq.2
  have x2 := (hb0.cell (p := ⟨b, 0, none⟩) hb.1).trans hb.2
  have hcN := Cells.new w [.string ⟨h.toArray⟩, .string ⟨bt.toArray⟩, .string ⟨en.toArray⟩] 98
  have x3 := hcN.cell 0
  clear hq hb hcN
  go_enter Tryz.func109, Tryz.ntmps109
  go_upto_region 1 with fail
  generalize w.alloc (.cells #[.string ⟨h.toArray⟩, .string ⟨bt.toArray⟩, .string ⟨en.toArray⟩] 98) = w1 at *
  go_quiet ((go_at_call 110; exact Calls.quiet_of_same (prefix_any _ _ _)))
  go_wp2_with fail
  go_ret
  exact ⟨rfl, below_drewN hb0 nq⟩
set_option maxHeartbeats 1000000 in
theorem ask2_any (s h hd bt en : List UInt8) (q5 q3 b : Nat) (w : World) (h5 : q5 < w.heap.size ∧ w.cell? ⟨q5, 0, none⟩ = some (.string ⟨hd.toArray⟩)) (hq : q3 < w.heap.size ∧ w.cell? ⟨q3, 0, none⟩ = some (.pointer (some ⟨b, 0, none⟩))) (hb : b < w.heap.size ∧ w.cell? ⟨b, 0, none⟩ = some (.string ⟨s.toArray⟩)) :
    Calls Tryz.prog 132 #[.agg #[.string ⟨h.toArray⟩, .string ⟨bt.toArray⟩, .string ⟨en.toArray⟩], .pointer (some ⟨q5, 0, none⟩), .pointer (some ⟨q3, 0, none⟩)] w fun e w' => e = .returned (.bool (h == hd && (afterL s bt).2)) ∧ Below w.heap.size w w' := by
  have hb0 : Below w.heap.size w (w.alloc (.cells #[.string ⟨h.toArray⟩, .string ⟨bt.toArray⟩, .string ⟨en.toArray⟩] 98)) := (Below.refl _ _).alloc (Nat.le_refl _) _
  have x0 := (hb0.cell (p := ⟨q5, 0, none⟩) h5.1).trans h5.2
  have x1 := (hb0.cell (p := ⟨q3, 0, none⟩) hq.1).trans hq.2
  have x2 := (hb0.cell (p := ⟨b, 0, none⟩) hb.1).trans hb.2
  have hcN := Cells.new w [.string ⟨h.toArray⟩, .string ⟨bt.toArray⟩, .string ⟨en.toArray⟩] 98
  have x3 := hcN.cell 0
  have x4 := hcN.cell 1
  clear hq hb hcN h5
  by_cases he : h = hd
  · subst he
    have R := hide (show (h == h && (afterL s bt).2) = (afterL s bt).2 by simp)
    go_enter Tryz.func132, Tryz.ntmps132
    go_upto_region 1 with fail
    generalize w.alloc (.cells #[.string ⟨h.toArray⟩, .string ⟨bt.toArray⟩, .string ⟨en.toArray⟩] 98) = w1 at *
    go_quiet ((go_at_call 110; exact Calls.quiet_of_same (prefix_any _ _ _)))
    go_wp2_with fail
    go_ret
    rw [unhide R]
    exact ⟨rfl, below_drewN hb0 _⟩
  · have hd2 : (h == hd) = false := by simpa using he
    have R := hide (show (h == hd && (afterL s bt).2) = false by rw [hd2]; rfl)
    go_enter Tryz.func132, Tryz.ntmps132
    go_upto_region 1 with fail
    generalize w.alloc (.cells #[.string ⟨h.toArray⟩, .string ⟨bt.toArray⟩, .string ⟨en.toArray⟩] 98) = w1 at *
    go_quiet (fail)
    go_wp2_with fail
    go_ret
    rw [unhide R]
    exact ⟨rfl, below_drewN hb0 _⟩
end Go.Proofs.YtongajonecgdpagGreatDoor
