/- Lists that lie in rows made since, no cell of them frozen: what clones, fold and movedAll answer. -/
import Derived.Test.YtongajonecgdpagSweepT
namespace Go.Proofs.Ytongajonecgdpag
open Go.RowKit Go.Maps

def Soft (w : World) (base : Nat) (a : Option Addr) (n : Nat) : Prop := n = 0 ∨ ∃ b off cs T, a = some ⟨b, off, none⟩ ∧ base ≤ b ∧ w.heap[b]? = some (.cells cs T)
theorem own_soft {w : World} {base size : Nat} {e : TypeId} {a : Option Addr} {n k c : Nat} {xs : List Value} (h : w.ownsRow base e size (.slice a n c) k xs) : Soft w base a n := by
  rcases h.2 with ⟨h1, h2⟩ | ⟨g, cap, cur, hv, hg, hh, r⟩
  · injection h1 with _ h3 _; exact Or.inl h3
  · injection hv with h3 _ _; exact Or.inr ⟨g, 0, cur, e, h3, hg, hh⟩
theorem Soft.fresh {w : World} {base : Nat} {a : Option Addr} {n : Nat} (h : Soft w base a n) : Fresh base a n := by
  rcases h with h | ⟨b, off, cs, T, h1, h2, _⟩
  · exact Or.inl h
  · exact Or.inr ⟨b, off, h1, h2⟩
theorem Soft.down {w : World} {b b' : Nat} {a : Option Addr} {n : Nat} (h : Soft w b a n) (hb : b' ≤ b) : Soft w b' a n := by
  rcases h with h | ⟨g, off, cs, T, h1, h2, h3⟩
  · exact Or.inl h
  · exact Or.inr ⟨g, off, cs, T, h1, Nat.le_trans hb h2, h3⟩
theorem Soft.keep {w w' : World} {base : Nat} {a : Option Addr} {n : Nat} (h : Soft w base a n) (hk : ∀ k, base ≤ k → k < w.heap.size → w'.heap[k]? = w.heap[k]?) : Soft w' base a n := by
  rcases h with h | ⟨g, off, cs, T, h1, h2, h3⟩
  · exact Or.inl h
  · exact Or.inr ⟨g, off, cs, T, h1, h2, (hk g h2 (Array.getElem?_eq_some_iff.1 h3).1).trans h3⟩
theorem Soft.below {w w' : World} {base : Nat} {a : Option Addr} {n : Nat} (h : Soft w base a n) (hb : Below w.heap.size w w') : Soft w' base a n := h.keep (fun k _ hk => hb.block k hk)
theorem IntRow.soft {w : World} {g base n : Nat} {xs : List Int} (h : IntRow w g xs) (hb : base ≤ g) : Soft w base (some ⟨g, 0, none⟩) n := Or.inr ⟨g, 0, _, _, rfl, hb, h⟩


set_option maxRecDepth 100000 in
set_option maxHeartbeats 1000000 in
theorem CloneI_soft (xs : List Int) (a : Option Addr) (n c : Nat) (w : World) (h : Ints w a n xs) (hn : n ≤ 100) :
    Calls Try.prog 42 #[.slice a n c] w fun e w' => ∃ a' c', e = .returned (.slice a' n c') ∧ Ints w' a' n xs ∧ Soft w' w.heap.size a' n ∧ Hid (a' = none → c' = 0) ∧ Below w.heap.size w w' := by
  cases a with
  | none =>
    have hx : xs = [] := by
      rcases h.2.2 with h | ⟨b, off, h, _⟩
      · exact h
      · simp at h
    subst hx
    have hn0 : n = 0 := h.1
    subst hn0
    have hne := nil_eqc w c
    go_enter Try.func42, Try.ntmps42
    go_wp2_with fail
    go_ret
    exact ⟨_, _, rfl, Ints.none _, Or.inl rfl, fun _ => rfl, Below.refl _ _⟩
  | some ad =>
    obtain ⟨i0, hi, hz0, hz1, hz2⟩ := info_parts Try.infoInt
    have HI := hide h
    have HN := hide h.1
    have hne := nil_nec w ad n c
    clear h
    go_enter Try.func42, Try.ntmps42
    go_wp2_with (at_builtin; refine wpList_append_own _ rfl _ _ 37 rfl w.heap.size 3 i0 (.int .i64 0) 1 8 Try.underlying37 hi hz0 hz1 hz2 rfl (by decide) _ 0 (([] : List Int).map (fun x => Value.int .i64 x)) rfl (app_empty w w.heap.size w.heap.size rfl (Nat.le_refl _)) ad n c (xs.map (fun x => Value.int .i64 x)) rfl ?c0 ?c1 ?c2 ?c3 ?c4 ?c5 ?_)
    case c0 => have := unhide HN; simp; omega
    case c1 =>
      intro j u hj
      obtain ⟨h1, h2, h3⟩ := (unhide HI).below ((Below.refl _ w).alloc (Nat.le_refl _) (.cells #[] 3))
      rcases h3 with h3 | ⟨b, off, h4, _, hcell⟩
      · subst h3; simp at hj
      · simp at h4; subst h4
        have hj' : j < xs.length := by
          rcases Nat.lt_or_ge j xs.length with h | h
          · exact h
          · rw [List.getElem?_eq_none (by simpa using h)] at hj; simp at hj
        rw [addr_plus, hcell j hj']
        simpa [hj'] using hj
    case c2 =>
      intro u hu
      obtain ⟨z, _, rfl⟩ := List.mem_map.1 hu
      rfl
    case c3 => unfold maxLen; omega
    case c4 => omega
    case c5 => simp
    intro v' w3 hown' hgrow _
    have hb3 : Below w.heap.size w w3 := ((Below.refl _ w).alloc (Nat.le_refl _) _).grown hgrow (by simp) (fun k hk => by simp [Value.ownBlock] at hk; omega)
    have hown2 : w3.ownsRow w.heap.size 3 1 v' n (xs.map (fun x => Value.int .i64 x)) := by
      simpa using hown'
    obtain ⟨a2, c2, rfl, hI2⟩ := own_ints hown2 (by unfold maxLen; omega)
    have hF2 := own_soft hown2
    have hN2 := hide (own_nil hown2)
    clear hown' hgrow hown2
    go_wp2_with fail
    go_ret
    exact ⟨_, _, rfl, hI2, hF2, hN2, hb3⟩

set_option maxRecDepth 100000 in
set_option maxHeartbeats 1000000 in
theorem CloneS_soft (rs : List (Bool × Int)) (a : Option Addr) (n c : Nat) (w : World) (h : Regs w a n rs) (hn : n ≤ 100) :
    Calls Try.prog 41 #[.slice a n c] w fun e w' => ∃ a' c', e = .returned (.slice a' n c') ∧ Regs w' a' n rs ∧ Soft w' w.heap.size a' n ∧ Below w.heap.size w w' := by
  cases a with
  | none =>
    have hx : rs = [] := by
      rcases h.2.2 with h | ⟨b, off, h, _⟩
      · exact h
      · simp at h
    subst hx
    have hn0 : n = 0 := h.1
    subst hn0
    have hne := nil_eqs w c
    go_enter Try.func41, Try.ntmps41
    go_wp2_with fail
    go_ret
    exact ⟨_, _, rfl, Regs.none _, Or.inl rfl, Below.refl _ _⟩
  | some ad =>
    obtain ⟨i0, hi, hz0, hz1, hz2⟩ := info_parts Try.infoStore
    have HI := hide h
    have HN := hide h.1
    have hne := nil_nes w ad n c
    clear h
    go_enter Try.func41, Try.ntmps41
    go_wp2_with (at_builtin; refine wpList_append_own _ rfl _ _ 36 rfl w.heap.size 48 i0 (.agg #[.bool false, .int .i64 0]) 2 16 Try.underlying36 hi hz0 hz1 hz2 rfl (by decide) _ 0 (regsV []) rfl (World.ownsRow_lit w #[] 0 (Nat.le_refl _) (Nat.zero_le _) rfl) ad n c (regsV rs) rfl ?c0 ?c1 ?c2 ?c3 ?c4 ?c5 ?_)
    case c0 => have := unhide HN; rw [regsV_len]; omega
    case c1 => exact ((unhide HI).below ((Below.refl _ w).alloc (Nat.le_refl _) (.cells #[] 48))).cells
    case c2 => exact regsV_one rs
    case c3 => unfold maxLen; omega
    case c4 => omega
    case c5 => simp
    intro v' w3 hown' hgrow _
    have hb3 : Below w.heap.size w w3 := ((Below.refl _ w).alloc (Nat.le_refl _) _).grown hgrow (by simp) (fun k hk => by simp [Value.ownBlock] at hk; omega)
    have hown2 : w3.ownsRow w.heap.size 48 2 v' n (regsV rs) := hown'
    obtain ⟨a2, c2, rfl, hI2, hF2⟩ := own_regs hown2 (unhide HN) (by unfold maxLen; omega)
    have hS2 := own_soft hown2
    clear hown' hgrow hown2
    go_wp2_with fail
    go_ret
    exact ⟨_, _, rfl, hI2, hS2, hb3⟩

set_option maxRecDepth 100000 in
set_option maxHeartbeats 2000000 in
theorem fold_soft (g : GateD) (aa : Option Addr) (an ac : Nat) (v : Int) (w : World) (hA : Ints w aa an g.args) (hfew : an ≤ 100) :
    Calls Try.prog 40 #[.agg #[.int .i64 g.kind, .int .i64 g.n, .slice aa an ac], .int .i64 v] w fun e w' => ∃ aa' an' ac', e = .returned (.agg #[.int .i64 (foldG v g).kind, .int .i64 (foldG v g).n, .slice aa' an' ac']) ∧ Ints w' aa' an' (foldG v g).args ∧ Soft w' w.heap.size aa' an' ∧ Below w.heap.size w w' := by
  have hb0 : Below w.heap.size w (w.alloc (.cells #[.int .i64 g.kind, .int .i64 g.n, .slice aa an ac] 46)) := (Below.refl _ _).alloc (Nat.le_refl _) _
  have hg0 := GBox.new w g.kind g.n aa an ac 46
  have hb1 := (Below.refl _ (w.alloc (.cells #[.int .i64 g.kind, .int .i64 g.n, .slice aa an ac] 46))).alloc (Nat.le_refl _) (.cells #[.int .i64 0, .int .i64 0, .slice none 0 0] 46)
  have hc1 := Cells.new (w.alloc (.cells #[.int .i64 g.kind, .int .i64 g.n, .slice aa an ac] 46)) [.int .i64 0, .int .i64 0, .slice none 0 0] 46
  have hsz : (w.alloc (.cells #[.int .i64 g.kind, .int .i64 g.n, .slice aa an ac] 46)).heap.size = w.heap.size + 1 := by simp
  rw [hsz] at hc1
  have hg1 := hg0.below' hb1 hg0.1
  have hA1 := (hA.below hb0).below hb1
  have B1 := bstep hb0 hb1
  clear hg0 hb0 hb1 hsz hA
  obtain ⟨x0, x1, x2, x3⟩ := hg1
  by_cases e0 : v = 0
  · have HG := hide (show foldG v g = ⟨0, 0, []⟩ by unfold foldG; rw [if_pos e0])
    rw [unhide HG]
    clear HG
    subst e0
    clear x1 x2 x3 hc1 hA1
    go_enter Try.func40, Try.ntmps40
    go_wp2_with fail
    exact bodyPost_ret (v := .agg #[.int .i64 0, .int .i64 0, .slice none 0 0]) (by simp [results, Try.results40, go_sem]) rfl ⟨_, _, _, rfl, Ints.none _, Or.inl rfl, B1⟩
  by_cases e1 : v = 1
  · have HG := hide (show foldG v g = ⟨1, 0, []⟩ by unfold foldG; rw [if_neg e0, if_pos e1])
    rw [unhide HG]
    clear HG
    subst e1
    have B2 : Below w.heap.size w ((w.alloc (.cells #[.int .i64 g.kind, .int .i64 g.n, .slice aa an ac] 46)).alloc (.cells #[.int .i64 1, .int .i64 0, .slice none 0 0] 46)) := ((Below.refl _ _).alloc (Nat.le_refl _) _).alloc (by simp) _
    clear x1 x2 x3 hc1 hA1
    go_enter Try.func40, Try.ntmps40
    go_wp2_with fail
    exact bodyPost_ret (v := .agg #[.int .i64 1, .int .i64 0, .slice none 0 0]) (by simp [results, Try.results40, go_sem]) rfl ⟨_, _, _, rfl, Ints.none _, Or.inl rfl, B2⟩
  have HG := hide (show foldG v g = g by unfold foldG; rw [if_neg e0, if_neg e1])
  rw [unhide HG]
  clear HG
  have q0 : (v == 0) = false := by simp [e0]
  have q1 : (v == 1) = false := by simp [e1]
  have hlt1 := hc1.lt
  go_enter Try.func40, Try.ntmps40
  go_wp2_with fail
  generalize hw1 : (w.alloc (.cells #[.int .i64 g.kind, .int .i64 g.n, .slice aa an ac] 46)).alloc (.cells #[.int .i64 0, .int .i64 0, .slice none 0 0] 46) = w1 at *
  clear hw1
  have hbd := (Below.refl w1.heap.size w1).drew
  go_region_held3 (fun W => Below (w.heap.size + 1) w1 W ∧ W.cell? ⟨w.heap.size, 0, none⟩ = some (.int .i64 g.kind) ∧ W.cell? ⟨w.heap.size, 1, none⟩ = some (.int .i64 g.n) ∧ W.cell? ⟨w.heap.size, 2, none⟩ = some (.slice aa an ac))
    ((first | exact held_g (Nat.lt_succ_self _) x1 x2 x3 (Below.refl _ _).drew | exact held_g (Nat.lt_succ_self _) x1 x2 x3 (hSB.mono (Nat.le_of_lt hlt1)) | exact held_g (Nat.lt_succ_self _) x1 x2 x3 ((((hSB.mono (Nat.le_of_lt hlt1)).setCell (Nat.le_refl _) _).setCell (Nat.le_refl _) _).setCell (Nat.le_refl _) _)))
    ((first
      | (go_at_call 42; refine (CloneI_soft g.args aa an ac _ (hA1.below hbd) hfew).mono ?_; rintro e wB ⟨aB, cB, rfl, hIB, hSf, hNB, hbB⟩; have hFB := hSf.fresh; have hSB := bstep hbd hbB; have hcB := hc1.below hSB hlt1; have z0 := hcB.cell 0; have z1 := hcB.cell 1; have z2 := hcB.cell 2; have f0 := hcB.frozen 0; have f1 := hcB.frozen 1; have f2 := hcB.frozen 2)))
  have hc5 := ((hcB.set 0 (.int .i64 g.kind)).set 1 (.int .i64 g.n)).set 2 (.slice aB an cB)
  have y0 := hc5.cell 0
  have y1 := hc5.cell 1
  have y2 := hc5.cell 2
  have hw9 : w.heap.size + 1 < w1.heap.size := hc1.lt
  have hF5 : Soft (((wB.setCell ⟨w.heap.size + 1, 0, none⟩ (.int .i64 g.kind)).setCell ⟨w.heap.size + 1, 1, none⟩ (.int .i64 g.n)).setCell ⟨w.heap.size + 1, 2, none⟩ (.slice aB an cB)) w.heap.size aB an := (hSf.keep (fun k hk _ => (set_other (by have := hbd.size; omega)).trans ((set_other (by have := hbd.size; omega)).trans (set_other (by have := hbd.size; omega))))).down (Nat.le_trans B1.size hbd.size)
  have hs1 := B1.size
  have hI5 : Ints (((wB.setCell ⟨w.heap.size + 1, 0, none⟩ (.int .i64 g.kind)).setCell ⟨w.heap.size + 1, 1, none⟩ (.int .i64 g.n)).setCell ⟨w.heap.size + 1, 2, none⟩ (.slice aB an cB)) aB an g.args := by
    obtain ⟨h1, h2, h3⟩ := hIB
    refine ⟨h1, h2, ?_⟩
    rcases h3 with h3 | ⟨b, off, ha, hl, hc⟩
    · exact Or.inl h3
    · rcases hFB with hF | ⟨b', off', ha', hB⟩
      · left; exact List.length_eq_zero_iff.1 (by omega)
      · rw [ha] at ha'
        injection ha' with ha'
        injection ha' with e1 e2 _
        subst e1
        have hbne : b ≠ w.heap.size + 1 := by have h9 : w1.heap.size ≤ b := hB; omega
        refine Or.inr ⟨b, off, ha, by simpa using hl, fun i hi => ?_⟩
        rw [World.cell?_of_block (a := ⟨b, off + i, none⟩) ((Below.heap_setCell _ _ _ _ hbne).trans ((Below.heap_setCell _ _ _ _ hbne).trans (Below.heap_setCell _ _ _ _ hbne)))]
        exact hc i hi
  have B5 := (((bstep B1 hSB).setCell (p := ⟨w.heap.size + 1, 0, none⟩) (Nat.le_succ _) (.int .i64 g.kind)).setCell (p := ⟨w.heap.size + 1, 1, none⟩) (Nat.le_succ _) (.int .i64 g.n)).setCell (p := ⟨w.heap.size + 1, 2, none⟩) (Nat.le_succ _) (.slice aB an cB)
  clear hcB hIB hFB hbB hSB z0 z1 z2 f0 f1 f2
  go_wp2_with fail
  exact bodyPost_ret (v := .agg #[.int .i64 g.kind, .int .i64 g.n, .slice aB an cB]) (by simp [results, Try.results40, go_sem, y0, y1, y2]) rfl ⟨_, _, _, rfl, hI5, hF5, B5⟩

set_option maxHeartbeats 1000000 in
theorem movedAll_soft (bs : List Bool) (l : List Int) (la : Option Addr) (n c m gn : Nat) (w : World) (hl : Ints w la n l) (hmap : MapAt w m bs gn) (hn : n ≤ 200) (hgn : gn ≤ 200) (hin : ∀ x ∈ l, 0 ≤ x ∧ x.toNat < gn ∧ bs.getD x.toNat false = true) :
    Calls Try.prog 73 #[.slice la n c, .map (some m)] w fun e w' => ∃ a c', e = .returned (.slice a n c') ∧ Ints w' a n (movedV bs l) ∧ Soft w' w.heap.size a n ∧ Hid (a ≠ none) ∧ Below w.heap.size w w' := by
  have HLL : Hid (l.length = n) := hl.1.symm
  have HML : Hid ((movedV bs l).length = n) := by unfold Hid; rw [movedV_len]; exact HLL.out
  have HIN := hide hin
  clear hin
  obtain ⟨i0, hi, hz0, hz1, hz2⟩ := info_parts Try.infoInt
  go_enter Try.func73, Try.ntmps73
  go_wp2_with (at_make; refine wpList_make_full _ rfl _ _ 37 rfl w.heap.size 3 i0 (.int .i64 0) 1 Try.underlying37 hi hz0 hz1 .i64 .i64 (n : Int) (n : Int) n rfl rfl rfl rfl ?c1 ?c2 ?c3 ?_)
  case c1 => rw [hz2]; omega
  case c2 => unfold maxLen; omega
  case c3 => exact Nat.le_refl _
  intro w2 hown hgrow
  have hb2 : Below w.heap.size w w2 := (Below.refl _ _).grown hgrow (Nat.le_refl _) (fun k hk => by simp at hk)
  have hrow0 := made_introw hown
  clear hown hgrow hi hz0 hz1 hz2
  go_wp2_with fail
  go_loopw [13] (fun i wr => ∃ k : Nat, k ≤ n ∧ i = .int .i64 k ∧ IntRow wr w.heap.size (partTo 0 (movedV bs l) k) ∧ Below w.heap.size w wr) (fun i _ => n - (intOf i).toNat)
  case atStart => exact ⟨0, Nat.zero_le _, rfl, by rw [partTo_zero, HML.out]; exact hrow0, hb2⟩
  case round =>
    clear hrow0 hb2
    obtain ⟨k, hk, rfl, hrow, hbel⟩ := hrel
    by_cases hlt : k < n
    · have hltl : k < l.length := by have := HLL.out; omega
      have hki : (k : Int) < (n : Int) := by omega
      obtain ⟨b, off, rfl, hbb, c1⟩ := (hl.below hbel).at hltl
      obtain ⟨hp, hq, hbt⟩ := (unhide HIN) l[k] (List.getElem_mem hltl)
      obtain ⟨x, hx⟩ := Int.eq_ofNat_of_zero_le hp
      have hxg : x < gn := by rw [hx] at hq; simpa using hq
      rw [hx, Int.toNat_natCast] at hbt
      have hlook := (hmap.below hbel).look hxg hbt (by omega)
      have hpk : k < (movedV bs l).length := by rw [HML.out]; exact hlt
      have hpl : k < (partTo 0 (movedV bs l) k).length := by rw [partTo_len _ _ _ (by omega)]; exact hpk
      obtain ⟨z, d1⟩ : ∃ z, wr.cell? ⟨w.heap.size, k, none⟩ = some (.int .i64 z) := ⟨_, hrow.cell k hpl⟩
      have d2 := hrow.frozen k
      have hrow2 := hrow.set k (atN bs x : Int)
      have hset := partTo_set 0 (movedV bs l) k hpk
      have hval : (movedV bs l)[k] = (atN bs x : Int) := by
        have : (movedV bs l)[k] = toV bs l[k].toNat := by simp [movedV]
        rw [this, hx, Int.toNat_natCast, toV_of hbt]
      rw [hval] at hset
      rw [hset] at hrow2
      have hbel2 : Below w.heap.size w (wr.setCell ⟨w.heap.size, k, none⟩ (.int .i64 (atN bs x : Int))) := hbel.setCell (Nat.le_refl _) _
      rw [hx] at c1
      have R := hide (And.intro hrow2 hbel2)
      clear hset hpl hpk hrow hval hp hq hx hbt hrow2 hbel2 hbel
      go_wp2_with fail
      exact ⟨⟨k + 1, by omega, by go_num, (unhide R).1, (unhide R).2⟩, by simp [intOf]; omega⟩
    · have hkn : k = (movedV bs l).length := by rw [HML.out]; omega
      rw [hkn, partTo_full] at hrow
      have hI : Ints _ (some ⟨w.heap.size, 0, none⟩) n (movedV bs l) := hrow.ints n HML.out.symm (by rw [HML.out]; unfold maxLen; omega)
      have hF := hrow.soft (n := n) (Nat.le_refl _)
      clear hkn hrow
      go_wp2_with fail
      go_ret
      exact ⟨_, _, rfl, hI, hF, by show ¬ _; simp, hbel⟩
end Go.Proofs.Ytongajonecgdpag
