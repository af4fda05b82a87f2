/- The program's walker: enter and move. -/
import Derived.Test.YtongajonecgdpafReachM
namespace Go.Proofs.Ytongajonecgdpaf
open Go.RowKit Go.Maps

theorem law_int : Keyed Try.prog 3 := int_keyed Try.underlying3
theorem zero_int (w : World) : (zeroValue 3).run Try.prog w = .ok (.int .i64 0) w := by kernel_rfl
theorem Try.infoPlace : (Try.prog.info? 171).map (fun i => (i.zero, i.size, i.bytes)) = some (some (.agg #[.slice none 0 0, .slice none 0 0]), 2, 48) := by kernel_rfl

/-- What enter does. -/
def Entered (w w' : World) (B b m : Nat) (k : NC) (rl : Nat) (sts ws : List (List Int)) (x y : List Int) (e : Ending) : Prop :=
  (x ∈ sts ∧ e = .returned (.int .i64 0) ∧ Below w.heap.size w w') ∨ (x ∉ sts ∧ sts.length = 64 ∧ e = .returned (.int .i64 2) ∧ Below w.heap.size w w') ∨
  (x ∉ sts ∧ sts.length ≠ 64 ∧ e = .returned (.int .i64 0) ∧ (∃ pv', Wk w' B b m k rl pv' (sts ++ [x]) (ws ++ [y])) ∧ Below B w w')

theorem own_slice {w : World} {B n size : Nat} {e : TypeId} {v : Value} {vs : List Value} (h : w.ownsRow B e size v n vs) : ∃ a c, v = .slice a n c := by
  rcases h.2 with ⟨h2, h3⟩ | ⟨g, cap, cur, h2, _⟩
  · rw [h3]; exact ⟨_, _, h2⟩
  · exact ⟨_, _, h2⟩
theorem apart_of {w : World} {B b m n n' : Nat} {pv : Value} {vs : List Value} {cs : Array Value} {D : DataW Unit} (h : w.ownsRow B 171 2 pv n vs) (hb : w.heap[b]? = some (.cells cs 138 (0, 0))) (hm : w.ownsMap Try.prog 3 (plainElem (H := Unit) Try.prog 3) m n' D) :
    pv.ownBlock ≠ some b ∧ pv.ownBlock ≠ some m ∧ b ≠ m := by
  obtain ⟨es, clock, h1, _⟩ := hm
  refine ⟨?_, ?_, ?_⟩
  · intro e
    rcases h.2 with ⟨h2, h3⟩ | ⟨g, cap, cur, h2, _, h4, _⟩
    · rw [h2] at e; simp [Value.ownBlock] at e
    · rw [h2] at e; simp only [Value.ownBlock, Option.some.injEq] at e
      rw [e] at h4; rw [h4] at hb; simp at hb
  · intro e
    rcases h.2 with ⟨h2, h3⟩ | ⟨g, cap, cur, h2, _, h4, _⟩
    · rw [h2] at e; simp [Value.ownBlock] at e
    · rw [h2] at e; simp only [Value.ownBlock, Option.some.injEq] at e
      rw [e] at h4; rw [h4] at h1; simp at h1
  · intro e; rw [e] at hb; rw [hb] at h1; simp at h1

set_option maxRecDepth 100000 in
set_option maxHeartbeats 4000000 in
theorem enter_any (B b m : Nat) (k : NC) (rl : Nat) (pv : Value) (sts ws : List (List Int)) (w : World) (h : Wk w B b m k rl pv sts ws) (hrl : rl ≤ 20) (hlen : sts.length ≤ 64)
    (x y : List Int) (hx : IsSt rl x) (xa ya : Option Addr) (xn xc yn yc : Nat) (hX : OffG w [pv.ownBlock, some b, some m] xa xn x) (hY : OffG w [pv.ownBlock, some b, some m] ya yn y) (hyz : ya = none → yn = 0 ∧ yc = 0) :
    Calls Try.prog 100 #[.pointer (some ⟨b, 0, none⟩), .slice xa xn xc, .slice ya yn yc] w fun e w' => Entered w w' B b m k rl sts ws x y e := by
  obtain ⟨pa, pc, rfl⟩ := h.slice
  have hwl := h.lt
  obtain ⟨hbl, c0, c1, c2, c3, c4, c5⟩ := h.cell
  have hb2 := h.hb
  have hm2 := h.hm
  have hbox := h.box
  obtain ⟨vs, hrow, hP⟩ := h.row
  obtain ⟨D, hmap, hS⟩ := h.map
  obtain ⟨cc, hat, hcc⟩ := hS x hx
  have hnum := numV_le hx hrl
  have hwf : (Lit.int .i64 (numV x)).wf = true := by
    have h1 := wrap64_wf (numV x)
    rwa [show wrap64 (numV x) = numV x by unfold wrap64; omega] at h1
  have hkey := keyOf_int_mk Try.underlying3 hwf
  obtain ⟨c', hlook, hat', _⟩ := hmap.lookup_int law_int Try.underlying88 Try.underlying3 (zero_int w) hkey
  have hceq : c' = cc := by
    have := hat'.symm.trans hat
    injection this with this
    injection this
  subst hceq
  have HX := hide hX
  have HY := hide hY
  have HST := hide hx
  have HS := hide hS
  have HP := hide hP
  have hxn : xn ≤ 20 := by have := hX.1.1; have := hx.1; omega
  clear hS hat hat' hP h hx
  by_cases e1 : x ∈ sts
  · have hgt : 0 < c' := hcc.2 e1
    have HM := hide e1
    clear hcc e1
    go_enter Try.func100, Try.ntmps100
    go_wp2_with fail
    refine (Number_any x _ _ _ _ (unhide HX).1 hxn).mono ?_
    rintro e w1 ⟨rfl, rfl⟩
    go_wp2_with fail
    go_ret
    exact Or.inl ⟨unhide HM, rfl, Below.refl _ _⟩
  · have hgt : ¬ 0 < c' := fun hh => e1 (hcc.1 hh)
    have HM := hide e1
    clear hcc e1
    by_cases e2 : sts.length = 64
    · have heq : ((sts.length : Int) == 64) = true := by simp only [beq_iff_eq]; omega
      have H64 := hide e2
      clear e2 hlen
      go_enter Try.func100, Try.ntmps100
      go_wp2_with fail
      refine (Number_any x _ _ _ _ (unhide HX).1 hxn).mono ?_
      rintro e w1 ⟨rfl, rfl⟩
      go_wp2_with fail
      go_ret
      exact Or.inr (Or.inl ⟨unhide HM, unhide H64, rfl, Below.refl _ _⟩)
    · have heq : ((sts.length : Int) == 64) = false := by simp only [beq_eq_false_iff_ne, ne_eq]; omega
      have H64 := hide e2
      clear e2
      obtain ⟨i0, hi, hz0, hz1, hz2⟩ := info_parts Try.infoPlace
      go_enter Try.func100, Try.ntmps100
      go_wp2_with fail
      refine (Number_any x _ _ _ _ (unhide HX).1 hxn).mono ?_
      rintro e w1 ⟨rfl, rfl⟩
      go_wp2_with (at_builtin; refine wpList_append_own_at _ rfl _ _ 136 rfl B 171 i0 (.agg #[.slice none 0 0, .slice none 0 0]) 2 48 Try.underlying136 hi hz0 hz1 hz2 rfl (by decide) _ _ _ rfl (hrow.alloc _) ⟨w1.heap.size, 0, none⟩ 1 1 [.slice xa xn xc, .slice ya yn yc] rfl rfl ?c1 ?c2 ?c3 ?c4 ?c5 ?_)
      case c1 =>
        intro j u hj
        match j, hj with
        | 0, hj => simp at hj; subst hj; simp [Addr.add]
        | 1, hj => simp at hj; subst hj; simp [Addr.add]
      case c2 => intro u hu; simp at hu; rcases hu with rfl | rfl <;> rfl
      case c3 => unfold maxLen; omega
      case c4 => omega
      case c5 => simp; omega
      intro v' w2 hown' hgrow _ hloc
      obtain ⟨a', cap', rfl⟩ := own_slice hown'
      obtain ⟨ap1, ap2, ap3⟩ := apart_of hrow hbox hmap
      have hloc' : (Value.slice a' (sts.length + 1) cap').ownBlock = (Value.slice pa sts.length pc).ownBlock ∨ (Value.slice a' (sts.length + 1) cap').ownBlock = some (w1.heap.size + 1) := by simpa using hloc
      have hml := hmap.lt
      have aq1 : (Value.slice a' (sts.length + 1) cap').ownBlock ≠ some b := by
        rcases hloc' with e | e <;> rw [e]
        · exact ap1
        · intro hh; injection hh with hh; omega
      have aq2 : (Value.slice a' (sts.length + 1) cap').ownBlock ≠ some m := by
        rcases hloc' with e | e <;> rw [e]
        · exact ap2
        · intro hh; injection hh with hh; omega
      have al := (Below.refl w1.heap.size w1).alloc (Nat.le_refl _) (.cells #[.slice xa xn xc, .slice ya yn yc] 171)
      have hbl1 : b < (w1.alloc (.cells #[.slice xa xn xc, .slice ya yn yc] 171)).heap.size := Nat.lt_of_lt_of_le hbl al.size
      have box2 := (hgrow.block b hbl1 (fun e => ap1 e.symm)).trans ((al.block b hbl).trans hbox)
      have map2 := (hmap.alloc (.cells #[.slice xa xn xc, .slice ya yn yc] 171)).kept hgrow (fun e => ap2 e.symm)
      have d4 : w2.cell? ⟨b, 4, none⟩ = some (.slice pa sts.length pc) := by rw [cell_of_row w2 b 4 _ _ _ box2]; rfl
      have d5 : w2.frozen? ⟨b, 4, none⟩ = false := frozen_of_row w2 b 4 _ _ box2
      have box3 : (w2.setCell ⟨b, 4, none⟩ (.slice a' (sts.length + 1) cap')).heap[b]? = some (.cells #[.int .i64 (k.i : Int), .slice k.ga k.gn k.gc, .slice k.ra k.rn k.rc, .slice k.oa k.on k.oc, .slice a' (sts.length + 1) cap', .map (some m)] 138 (0, 0)) := by
        rw [Go.heap_setCell_same w2 b 4 _ _ _ box2]; rfl
      have map3 := map2.kept (grown_setCell w2 b 4 (.slice a' (sts.length + 1) cap')) (fun e => ap3 (by injection e with e; exact e.symm))
      have row3 := hown'.kept (grown_setCell w2 b 4 (.slice a' (sts.length + 1) cap')) (Or.inr aq1)
      have d6 : (w2.setCell ⟨b, 4, none⟩ (.slice a' (sts.length + 1) cap')).cell? ⟨b, 4, none⟩ = some (.slice a' (sts.length + 1) cap') := by rw [cell_of_row _ b 4 _ _ _ box3]; rfl
      have d7 : (w2.setCell ⟨b, 4, none⟩ (.slice a' (sts.length + 1) cap')).cell? ⟨b, 5, none⟩ = some (.map (some m)) := by rw [cell_of_row _ b 5 _ _ _ box3]; rfl
      have gG : ∀ j, j < w1.heap.size → some j ∉ [(Value.slice pa sts.length pc).ownBlock, some b, some m] → some j ∉ [(Value.slice a' (sts.length + 1) cap').ownBlock, some b, some m] := by
        intro j hj hn hh
        simp only [List.mem_cons, List.not_mem_nil, or_false] at hn hh
        rcases hh with hh | hh | hh
        · rcases hloc' with e | e
          · exact hn (Or.inl (hh.trans e))
          · rw [e] at hh; injection hh with hh; omega
        · exact hn (Or.inr (Or.inl hh))
        · exact hn (Or.inr (Or.inr hh))
      have kp3 : Kept w1 (w2.setCell ⟨b, 4, none⟩ (.slice a' (sts.length + 1) cap')) [(Value.slice pa sts.length pc).ownBlock, some b, some m] :=
        ((Kept.of_below al _).trans (Kept.of_grown hgrow (by simp))).trans (Kept.of_grown (grown_setCell w2 b 4 _) (by simp))
      have bl3 : Below B w1 (w2.setCell ⟨b, 4, none⟩ (.slice a' (sts.length + 1) cap')) :=
        (((Below.refl B w1).alloc (by omega) _).grown hgrow (by simp; omega) (fun j hj => (hrow.lt j hj).1)).setCell hb2 _
      generalize hw3 : w2.setCell ⟨b, 4, none⟩ (.slice a' (sts.length + 1) cap') = w3 at *
      have hwf2 : (Lit.int .i64 ((sts.length : Int) + 1)).wf = true := by
        have h1 := wrap64_wf ((sts.length : Int) + 1)
        rwa [show wrap64 ((sts.length : Int) + 1) = (sts.length : Int) + 1 by unfold wrap64; omega] at h1
      obtain ⟨w4, hupd, map4, gr4⟩ := (map3.drew).update law_int Try.underlying88 (by unfold maxLen; omega) hkey (plainElem_int Try.underlying3 hwf2)
      have box4 := (gr4.block b (by show b < w3.heap.size; exact (Array.getElem?_eq_some_iff.1 box3).1) (fun e => ap3 (by injection e))).trans box3
      have k4 : w4.cell? ⟨b, 4, none⟩ = some (.slice a' (sts.length + 1) cap') := by rw [cell_of_row _ b 4 _ _ _ box4]; rfl
      have k5 : w4.cell? ⟨b, 5, none⟩ = some (.map (some m)) := by rw [cell_of_row _ b 5 _ _ _ box4]; rfl
      have kp4 : Kept w1 w4 [(Value.slice pa sts.length pc).ownBlock, some b, some m] := kp3.trans (Kept.of_grown (w := w3.drew) gr4 (by simp))
      have row4 := row3.drew.kept gr4 (Or.inr aq2)
      have bl4 : Below B w1 w4 := bl3.drew.grown gr4 (by have := bl3.size; show B ≤ w3.heap.size; omega) (fun j hj => by injection hj with hj; omega)
      have R := hide (show Wk w4 B b m k rl (.slice a' (sts.length + 1) cap') (sts ++ [x]) (ws ++ [y]) from
        ⟨hb2, hm2, box4, ⟨_, by simpa using row4, ((unhide HP).kept kp4 gG).snoc ((unhide HX).kept kp4 gG) ((unhide HY).kept kp4 gG) hyz⟩, ⟨_, by simpa using map4, (unhide HS).put hmap.isMap (unhide HST) ((sts.length : Int) + 1) (by omega)⟩⟩)
      have RB := hide bl4
      clear hown' hgrow hloc hloc' hrow hmap map2 map3 map4 row3 row4 box2 box3 box4 kp3 kp4 bl3 bl4 gG aq1 aq2 ap1 ap2 ap3 hbox HP HX HY HS hi hz0 hz1 hz2 al hlook
      go_wp2_with fail
      have j6 : w3.drew.cell? ⟨b, 4, none⟩ = some (.slice a' (sts.length + 1) cap') := d6
      have j7 : w3.drew.cell? ⟨b, 5, none⟩ = some (.map (some m)) := d7
      go_region_held3 (fun W => W.cell? ⟨b, 4, none⟩ = some (.slice a' (sts.length + 1) cap') ∧ W.cell? ⟨b, 5, none⟩ = some (.map (some m)))
        ((first | exact ⟨j6, j7⟩ | exact ⟨k4, k5⟩))
        (fail)
      all_goals (go_wp2_with fail; go_ret)
      all_goals exact Or.inr (Or.inr ⟨unhide HM, unhide H64, rfl, ⟨_, unhide R⟩, unhide RB⟩)
end Go.Proofs.Ytongajonecgdpaf
