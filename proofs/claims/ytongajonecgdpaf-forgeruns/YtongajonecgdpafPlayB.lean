/- What a program puts out by a list of times (PlayedOf). -/
import Derived.Test.YtongajonecgdpafPlayA
import Derived.Test.YtongajonecgdpafWalkF
import Derived.Deep.Upon
import Derived.Deep.DeepCutAuto
import Derived.Deep.CutBlock
namespace Go.Proofs.Ytongajonecgdpaf
open Go.RowKit

def toldTo (p : List NodeD) (l : List Int) (k : Nat) : List (List Int) := (List.range k).map (fun j => toldV (restTo p l (j + 1)).outs)
theorem toldTo_succ (p : List NodeD) (l : List Int) (k : Nat) : toldTo p l (k + 1) = toldTo p l k ++ [toldV (restTo p l (k + 1)).outs] := by simp [toldTo, List.range_succ]
theorem rest_len {p : List NodeD} (hok : POk p) {l : List Int} (hl : inPow l 3 = true) {k : Nat} (hk : k ≤ l.length) : (restTo p l k).waits.length = p.length ∧ (restTo p l k).outs.length = 3 := by
  have h := restE_len (forge_states hok hl k hk).1
  exact ⟨h.2.1, h.2.2⟩
theorem play_err {p : List NodeD} {l : List Int} {w w' : World} {e : Int} (h : playE p l = e) (h0 : e ≠ 0) (hb : Below w.heap.size w w') : ∃ a n c, Ending.returned (.tuple #[.slice none 0 0, .int .i64 e]) = .returned (.tuple #[.slice a n c, .int .i64 (playE p l)]) ∧ Rows w' a n (playRows p l) ∧ Below w.heap.size w w' := by
  refine ⟨none, 0, 0, by rw [h], ?_, hb⟩
  unfold playRows
  rw [if_neg (by rw [h]; exact h0)]
  exact ⟨rfl, Nat.zero_le _, Or.inl rfl⟩

theorem cell_far3 {W : World} {bx b k : Nat} {u v0 v1 v2 : Value} (hne : b ≠ bx) (h : W.cell? ⟨b, k, none⟩ = some u) : (((W.setCell ⟨bx, 0, none⟩ v0).setCell ⟨bx, 1, none⟩ v1).setCell ⟨bx, 2, none⟩ v2).cell? ⟨b, k, none⟩ = some u := by
  have hn : ∀ j, (⟨bx, j, none⟩ : Addr) ≠ ⟨b, k, none⟩ := fun j e => hne (by injection e with e; exact e.symm)
  rw [World.cell?_setCell_other _ _ _ _ (hn _), World.cell?_setCell_other _ _ _ _ (hn _), World.cell?_setCell_other _ _ _ _ (hn _)]
  exact h
theorem Cells.onF {w w' : World} {g : Nat} {vs : List Value} {T : TypeId} (h : Cells w g vs T) (hb : Below w.heap.size w w') : Cells w' g vs T := (hb.block g h.lt).trans h
theorem cells_grown {w w' : World} {b : Nat} {vs : List Value} {T : TypeId} {g : Option Nat} (h : Cells w b vs T) (hg : w.grownBy w' g) (hne : g ≠ some b) : Cells w' b vs T := (hg.block _ h.lt (fun e => hne e.symm)).trans h
theorem rowsOff_set3 {w : World} {g : Option Nat} {vs : List Value} {xss : List (List Int)} (h : RowsOff w g vs xss) {bx : Nat} {T : TypeId} {f f2 : Bool} {a a2 o o2 : Option Addr} {n c m d n2 c2 m2 d2 : Nat} (hc : Cells w bx [.bool f, .slice a n c, .slice o m d] T) :
    RowsOff (((w.setCell ⟨bx, 0, none⟩ (.bool f2)).setCell ⟨bx, 1, none⟩ (.slice a2 n2 c2)).setCell ⟨bx, 2, none⟩ (.slice o2 m2 d2)) g vs xss := by
  have h1 := hc.set 0 (.bool f2)
  have h2 := h1.set 1 (.slice a2 n2 c2)
  refine rowsOff_setOther (rowsOff_setOther (rowsOff_setOther h (hc.cell 0) (by intro x e; cases e) _) (h1.cell 1) (by intro x e; cases e) _) (h2.cell 2) (by intro x e; cases e) _

set_option maxRecDepth 100000 in
set_option maxHeartbeats 4000000 in
theorem PlayedOf_any (p : List NodeD) (pa : Option Addr) (pn pc : Nat) (l : List Int) (la : Option Addr) (ln lc : Nat) (w : World) (hN : Nodes w pa pn p) (hl : Ints w la ln l) :
    Calls Try.prog 17 #[.slice pa pn pc, .slice la ln lc] w fun e w' => ∃ a n c, e = .returned (.tuple #[.slice a n c, .int .i64 (playE p l)]) ∧ Rows w' a n (playRows p l) ∧ Below w.heap.size w w' := by
  go_enter Try.func17, Try.ntmps17
  go_wp2_with fail
  refine (CheckProg_any p _ _ _ _ hN).mono ?_
  rintro e w' ⟨rfl, rfl⟩
  rename World => w
  by_cases e0 : checkP p = 0
  case neg =>
    have HP := hide (show playE p l = checkP p by unfold playE; rw [if_neg e0])
    have HE0 := hide e0
    have hq : (checkP p != 0) = true := by simp [e0]
    obtain ⟨ck, hck⟩ : ∃ ck, checkP p = ck := ⟨_, rfl⟩
    rw [hck] at hq HP HE0 ⊢
    clear e0 hck
    go_wp2_with fail
    go_ret2
    exact play_err (unhide HP) (unhide HE0) (Below.refl _ _)
  rw [e0]
  have hok := pok_of e0
  have HOK := hide hok
  have HP := hide (show playE p l = timesE l 3 by unfold playE; rw [if_pos e0])
  have hn14 : pn ≤ 14 := by rw [hN.1]; exact hok.few
  have HNL := hide hN.1
  clear e0 hok
  go_wp2_with fail
  refine (timesError_any l la ln lc 3 _ hl (by omega)).mono ?_
  rintro e w2 ⟨rfl, hb2⟩
  have hN2 := hN.below hb2
  have hl2 := hl.below hb2
  clear hN hl
  by_cases e1 : timesE l 3 = 0
  case neg =>
    have HE0 := hide e1
    have hq : (timesE l 3 != 0) = true := by simp [e1]
    obtain ⟨ck, hck⟩ : ∃ ck, timesE l 3 = ck := ⟨_, rfl⟩
    rw [hck] at hq HP HE0 ⊢
    clear e1 hck
    go_wp2_with fail
    go_ret2
    exact play_err (unhide HP) (unhide HE0) hb2
  rw [e1]
  have hpw : inPow l 3 = true := by
    unfold timesE at e1
    split at e1
    · simp at e1
    · split at e1
      · assumption
      · simp at e1
  have h60 : l.length ≤ 60 := by
    unfold timesE at e1
    split at e1
    · simp at e1
    · omega
  have HLN := hide hl2.1
  have hln : ln ≤ 60 := by have := unhide HLN; omega
  have HPW := hide hpw
  have HEQ := hide (show playE p l = 0 by rw [unhide HP]; exact e1)
  clear e1 hpw h60 HP
  go_wp2_with fail
  refine (FreshOf_any pa pn pc _ hn14).mono ?_
  rintro e w3 ⟨gW, gO, rfl, hne, hgW, hgO, hrW, hrO, hb3⟩
  have hal := (Below.refl w3.heap.size w3).alloc (Nat.le_refl _) (.cells #[.bool true, .slice (some ⟨gW, 0, none⟩) pn pn, .slice (some ⟨gO, 0, none⟩) 3 3] 25)
  have hcB := Cells.new w3 [.bool true, .slice (some ⟨gW, 0, none⟩) pn pn, .slice (some ⟨gO, 0, none⟩) 3 3] 25
  have hsz : (w3.alloc (.cells #[.bool true, .slice (some ⟨gW, 0, none⟩) pn pn, .slice (some ⟨gO, 0, none⟩) 3 3] 25)).heap.size = w3.heap.size + 1 := by simp
  have hW4 := (hrW.on hal).boolsF (n := pn) (by simp [falsesL]) hn14
  have hO4 := (hrO.on hal).boolsF (n := 3) (by simp [falsesL]) (by omega)
  have hlW := hrW.lt
  have hlO := hrO.lt
  have B4 := bstep hb3 hal
  have hwb : w2.heap.size ≤ w3.heap.size := hb3.size
  go_wp2_with fail
  generalize w3.alloc (.cells #[.bool true, .slice (some ⟨gW, 0, none⟩) pn pn, .slice (some ⟨gO, 0, none⟩) 3 3] 25) = w4 at *
  generalize w3.heap.size = bx at *
  have hsb : bx < w4.heap.size := by omega
  have hW5 : BoolsOff w4 bx none (some ⟨gW, 0, none⟩) pn (restTo p l 0).waits := by
    have e : (restTo p l 0).waits = falsesL pn := by show falsesL p.length = falsesL pn; rw [unhide HNL]
    rw [e]
    exact ⟨hW4, Or.inr ⟨gW, 0, rfl, by omega, by omega, by simp⟩⟩
  have hO5 : BoolsOff w4 bx none (some ⟨gO, 0, none⟩) 3 (restTo p l 0).outs := ⟨hO4, Or.inr ⟨gO, 0, rfl, by omega, by omega, by simp⟩⟩
  clear hal hW4 hO4 hb3 hrW hrO hgW hgO hne hsz
  obtain ⟨i0, hi, hz0, hz1, hz2⟩ := info_parts Try.infoSl
  go_loopw [8, 10] (fun v iv wr => ∃ (k : Nat) (f : Bool) (wa : Option Addr) (wn wc : Nat) (oa : Option Addr) (on oc : Nat) (vs : List Value), k ≤ ln ∧ iv = .int .i64 k ∧ wr.ownsRow w4.heap.size 35 1 v k vs ∧ RowsOff wr v.ownBlock vs (toldTo p l k) ∧ Cells wr bx [.bool f, .slice wa wn wc, .slice oa on oc] 25 ∧ f = (restTo p l k).fresh ∧ BoolsOff wr bx v.ownBlock wa wn (restTo p l k).waits ∧ BoolsOff wr bx v.ownBlock oa on (restTo p l k).outs ∧ w4.heap.size ≤ wr.heap.size ∧ Below w2.heap.size w2 wr) (fun _ iv _ => ln - (intOf iv).toNat)
  case atStart => exact ⟨0, true, _, pn, pn, _, 3, 3, [], Nat.zero_le _, rfl, World.ownsRow_nil _ _ _ _, RowsOff.nil _ _, hcB, rfl, hW5, hO5, Nat.le_refl _, B4⟩
  case round =>
    clear hW5 hO5 hcB B4 hlW hlO
    obtain ⟨k, f, wa, wn, wc, oa, on, oc, vs, hk, rfl, hown, hRO, hcx, hf, hWr, hOr, hsr, hbel⟩ := hrel
    by_cases hlt : k < ln
    · have hltl : k < l.length := by have := unhide HLN; omega
      have hki : (k : Int) < (ln : Int) := by omega
      obtain ⟨b, off, rfl, hbb, c0⟩ := hl2.at hltl
      have c1 := (hbel.cell (p := ⟨b, off + k, none⟩) hbb).trans c0
      have hne : b ≠ bx := by omega
      have hget : l.getD k 0 = l[k] := by simp [List.getD_eq_getElem?_getD, hltl]
      have hat := forge_at (unhide HOK) (unhide HPW) hltl
      rw [hget] at hat
      have hwe := hat.1
      have HR := hide (show restTo p l (k + 1) = walkR p (restTo p l k) l[k] by show walkR p (restTo p l k) (l.getD k 0) = _; rw [hget])
      have hrl := rest_len (unhide HOK) (unhide HPW) (k := k + 1) (by omega)
      have HLR := hide hrl
      have hRr : RestAt wr.drew (restTo p l k) f wa wn oa on := ⟨hf, hWr.1, hOr.1⟩
      have x0 := hcx.cell 0
      have x1 := hcx.cell 1
      have x2 := hcx.cell 2
      have hlx : bx < wr.drew.heap.size := hcx.lt
      have hlx' : bx < wr.heap.size := hcx.lt
      have hlb : bx < w4.heap.size := hsb
      have HOW := hide hown
      have HRO := hide hRO
      have HLT := hide hown.lt
      have hNr : Nodes wr.drew pa pn p := hN2.below hbel.drew
      clear hown hRO hget hat hrl c0 hf
      go_wp2_with fail
      have hbr : b < wr.drew.heap.size := Nat.lt_of_lt_of_le hbb hbel.size
      have hneb := hne
      refine wp_region_held_drew (S := fun W => W.cell? ⟨b, off + k, none⟩ = some (.int .i64 l[k])) (by kernel_rfl) ?_ (fun hHeld => ?_)
      · exact c1
      refine wpAnyH_take (i := 0) (oi := { dst := some 30, op := Go.Op.move (Go.Operand.tmp 0), type := 22, pos := "prog.go:233", after := #[], guard := none }) (v := ?_) rfl (by kernel_rfl) (by kernel_rfl) (by kernel_rfl) (fun _ _ _ h => h) (Or.inl ⟨by rfl, ?_⟩) (by assumption) ?_
      rotate_left
      · intro w hSw; (try dsimp only at hSw); go_simp; (try (with_reducible rfl))
      try simp only [Act.put, List.setIfInBounds_toArray, List.set_cons_zero, List.set_cons_succ]
      refine wpAnyH_take (i := 2) (oi := { dst := some 32, op := Go.Op.move (Go.Operand.tmp 1), type := 35, pos := "prog.go:233", after := #[], guard := none }) (v := ?_) rfl (by kernel_rfl) (by kernel_rfl) (by kernel_rfl) (fun _ _ _ h => h) (Or.inl ⟨by rfl, ?_⟩) (by assumption) ?_
      rotate_left
      · intro w hSw; (try dsimp only at hSw); go_simp; (try (with_reducible rfl))
      try simp only [Act.put, List.setIfInBounds_toArray, List.set_cons_zero, List.set_cons_succ]
      refine wpAnyH_take (i := 3) (oi := { dst := some 33, op := Go.Op.move (Go.Operand.tmp 10), type := 3, pos := "prog.go:233", after := #[], guard := none }) (v := ?_) rfl (by kernel_rfl) (by kernel_rfl) (by kernel_rfl) (fun _ _ _ h => h) (Or.inl ⟨by rfl, ?_⟩) (by assumption) ?_
      rotate_left
      · intro w hSw; (try dsimp only at hSw); go_simp; (try (with_reducible rfl))
      try simp only [Act.put, List.setIfInBounds_toArray, List.set_cons_zero, List.set_cons_succ]
      refine wpAnyH_take (i := 4) (oi := { dst := some 34, op := Go.Op.indexAddr 35 (Go.Operand.tmp 32) (Go.Operand.tmp 33), type := 0, pos := "prog.go:233", after := #[{ on := 2, ground := Go.Ground.data }, { on := 3, ground := Go.Ground.data }], guard := none }) (v := ?_) rfl (by kernel_rfl) (by kernel_rfl) (by kernel_rfl) (fun _ _ _ h => h) (Or.inl ⟨by rfl, ?_⟩) (by assumption) ?_
      rotate_left
      · intro w hSw; (try dsimp only at hSw); go_simp; (try (with_reducible rfl))
      try simp only [Act.put, List.setIfInBounds_toArray, List.set_cons_zero, List.set_cons_succ]
      refine wpAnyH_take (i := 5) (oi := { dst := some 35, op := Go.Op.load 3 (Go.Operand.tmp 34), type := 3, pos := "prog.go:233", after := #[{ on := 4, ground := Go.Ground.data }], guard := none }) (v := ?_) rfl (by kernel_rfl) (by kernel_rfl) (by kernel_rfl) (fun _ _ _ h => h) (Or.inl ⟨by rfl, ?_⟩) (by assumption) ?_
      rotate_left
      · intro w hSw; (try dsimp only at hSw); go_simp; (try (with_reducible rfl))
      try simp only [Act.put, List.setIfInBounds_toArray, List.set_cons_zero, List.set_cons_succ]
      refine wpAnyH_ready (rs := [1]) (by kernel_rfl) (by simp) ?_
      refine AllReadyH.cons (o := { dst := some 31, op := Go.Op.load 25 (Go.Operand.tmp 9), type := 25, pos := "prog.go:233", after := #[], guard := none }) rfl (fun K hK => ?_) ?_
      · go_simp
        refine hK.out _ _ ?_ (fun hHeld => ?_)
        · (try dsimp only)
          (first | exact c1 | exact c2 | exact c3)
        clear hK K
        try simp only [Act.put, List.setIfInBounds_toArray, List.set_cons_zero, List.set_cons_succ]
        refine wpAnyH_ready (rs := [6]) (by kernel_rfl) (by simp) ?_
        refine AllReadyH.cons (o := { dst := some 36, op := Go.Op.call { callee := Go.Callee.value (Go.Operand.func 10), args := #[Go.Operand.tmp 30, Go.Operand.tmp 31, Go.Operand.tmp 35], argTypes := #[22, 25, 3] }, type := 27, pos := "prog.go:233", after := #[{ on := 0, ground := Go.Ground.data }, { on := 1, ground := Go.Ground.data }, { on := 5, ground := Go.Ground.data }], guard := none }) rfl (fun K hK => ?_) ?_
        · go_simp
          refine (WalkOf_fresh p _ _ _ (restTo p l k) f wa oa wn wc on oc l[k] _ hNr hRr).mono ?_
          rintro e wD ⟨f2, wa2, wn2, wc2, oa2, on2, oc2, he, hRD, hFW, hFO, hbD⟩
          rw [hwe] at he
          rw [← unhide HR] at hRD
          subst he
          have c2 : wD.cell? ⟨b, off + k, none⟩ = some (.int .i64 l[k]) := (hbD.cell (p := ⟨b, off + k, none⟩) hbr).trans c1
          have hcD := (show Cells wr.drew bx _ _ from hcx).onF hbD
          have z0 := hcD.cell 0
          have z1 := hcD.cell 1
          have z2 := hcD.cell 2
          have y0 := hcD.frozen 0
          have y1 := hcD.frozen 1
          have y2 := hcD.frozen 2
          have yl := hcD.lt
          have c3 := cell_far3 (v0 := .bool f2) (v1 := .slice wa2 wn2 wc2) (v2 := .slice oa2 on2 oc2) hneb c2
          refine hK.out _ _ ?_ (fun hHeld => ?_)
          · (try dsimp only)
            (first | exact c1 | exact c2 | exact c3)
          clear hK K
          try simp only [Act.put, List.setIfInBounds_toArray, List.set_cons_zero, List.set_cons_succ]
          refine wpAnyH_take (i := 7) (oi := { dst := some 29, op := Go.Op.move (Go.Operand.tmp 36), type := 27, pos := "prog.go:233", after := #[{ on := 6, ground := Go.Ground.data }], guard := none }) (v := ?_) rfl (by kernel_rfl) (by kernel_rfl) (by kernel_rfl) (fun _ _ _ h => h) (Or.inl ⟨by rfl, ?_⟩) (by assumption) ?_
          rotate_left
          · intro w hSw; (try dsimp only at hSw); go_simp; (try (with_reducible rfl))
          try simp only [Act.put, List.setIfInBounds_toArray, List.set_cons_zero, List.set_cons_succ]
          refine wpAnyH_take (i := 8) (oi := { dst := some 37, op := Go.Op.extract (Go.Operand.tmp 29) 0, type := 25, pos := "prog.go:233", after := #[{ on := 7, ground := Go.Ground.data }], guard := none }) (v := ?_) rfl (by kernel_rfl) (by kernel_rfl) (by kernel_rfl) (fun _ _ _ h => h) (Or.inl ⟨by rfl, ?_⟩) (by assumption) ?_
          rotate_left
          · intro w hSw; (try dsimp only at hSw); go_simp; (try (with_reducible rfl))
          try simp only [Act.put, List.setIfInBounds_toArray, List.set_cons_zero, List.set_cons_succ]
          refine wpAnyH_take (i := 9) (oi := { dst := some 38, op := Go.Op.extract (Go.Operand.tmp 29) 1, type := 4, pos := "prog.go:233", after := #[{ on := 7, ground := Go.Ground.data }, { on := 11, ground := Go.Ground.gcOnly Go.Departure.lateStores }], guard := none }) (v := ?_) rfl (by kernel_rfl) (by kernel_rfl) (by kernel_rfl) (fun _ _ _ h => h) (Or.inl ⟨by rfl, ?_⟩) (by assumption) ?_
          rotate_left
          · intro w hSw; (try dsimp only at hSw); go_simp; (try (with_reducible rfl))
          try simp only [Act.put, List.setIfInBounds_toArray, List.set_cons_zero, List.set_cons_succ]
          refine wpAnyH_take (i := 10) (oi := { dst := some 39, op := Go.Op.extract (Go.Operand.tmp 29) 2, type := 26, pos := "prog.go:233", after := #[{ on := 7, ground := Go.Ground.data }, { on := 11, ground := Go.Ground.gcOnly Go.Departure.lateStores }], guard := none }) (v := ?_) rfl (by kernel_rfl) (by kernel_rfl) (by kernel_rfl) (fun _ _ _ h => h) (Or.inl ⟨by rfl, ?_⟩) (by assumption) ?_
          rotate_left
          · intro w hSw; (try dsimp only at hSw); go_simp; (try (with_reducible rfl))
          try simp only [Act.put, List.setIfInBounds_toArray, List.set_cons_zero, List.set_cons_succ]
          refine wpAnyH_ready (rs := [11]) (by kernel_rfl) (by simp) ?_
          refine AllReadyH.cons (o := { dst := none, op := Go.Op.store 25 (Go.Operand.tmp 9) (Go.Operand.tmp 37), type := 0, pos := "prog.go:233", after := #[{ on := 8, ground := Go.Ground.data }, { on := 6, ground := Go.Ground.chain }, { on := 0, ground := Go.Ground.phase }, { on := 1, ground := Go.Ground.phase }, { on := 2, ground := Go.Ground.phase }, { on := 3, ground := Go.Ground.phase }, { on := 4, ground := Go.Ground.phase }, { on := 5, ground := Go.Ground.phase }, { on := 6, ground := Go.Ground.phase }, { on := 7, ground := Go.Ground.phase }, { on := 8, ground := Go.Ground.phase }, { on := 9, ground := Go.Ground.textOnly Go.Departure.lateStores }, { on := 10, ground := Go.Ground.textOnly Go.Departure.lateStores }], guard := none }) rfl (fun K hK => ?_) ?_
          · go_simp
            refine hK.out _ _ ?_ (fun hHeld => ?_)
            · (try dsimp only)
              (first | exact c1 | exact c2 | exact c3)
            clear hK K
            try simp only [Act.put]
            refine wpAnyH_done (by kernel_rfl) ?_ _
            have hs2 : wr.heap.size ≤ wD.heap.size := hbD.size
            have hon : on2 = 3 := by rw [hRD.outs.1]; exact (unhide HLR).2
            have hgr : ∀ g, u8.ownBlock = some g → g < wr.drew.heap.size := fun g hg => (unhide HLT g hg).2
            have q1 := (((BoolsOff.fresh (g := u8.ownBlock) hRD.waits hFW hlx hgr).set 0 (.bool f2)).set 1 (.slice wa2 wn2 wc2)).set 2 (.slice oa2 on2 oc2)
            have q2 := (((BoolsOff.fresh (g := u8.ownBlock) hRD.outs hFO hlx hgr).set 0 (.bool f2)).set 1 (.slice wa2 wn2 wc2)).set 2 (.slice oa2 on2 oc2)
            have q3 := rowsOff_set3 (f2 := f2) (a2 := wa2) (n2 := wn2) (c2 := wc2) (o2 := oa2) (m2 := on2) (d2 := oc2) ((show RowsOff wr.drew _ _ _ from unhide HRO).below hbD) hcD
            have q4 := ownsRow_setCell_below (ownsRow_setCell_below (ownsRow_setCell_below (ownsRow_below (show wr.drew.ownsRow _ _ _ _ _ _ from unhide HOW) hbD) (a := ⟨bx, 0, none⟩) hlb (.bool f2)) (a := ⟨bx, 1, none⟩) hlb (.slice wa2 wn2 wc2)) (a := ⟨bx, 2, none⟩) hlb (.slice oa2 on2 oc2)
            have q5 := ((hcD.set 0 (.bool f2)).set 1 (.slice wa2 wn2 wc2)).set 2 (.slice oa2 on2 oc2)
            have q6 := ((((hbel.drew).trans (hbD.mono (Nat.le_trans hwb (Nat.le_of_lt hlx')))).setCell (p := ⟨bx, 0, none⟩) hwb (.bool f2)).setCell (p := ⟨bx, 1, none⟩) hwb (.slice wa2 wn2 wc2)).setCell (p := ⟨bx, 2, none⟩) hwb (.slice oa2 on2 oc2)
            have q7 : w4.heap.size ≤ (((wD.setCell ⟨bx, 0, none⟩ (.bool f2)).setCell ⟨bx, 1, none⟩ (.slice wa2 wn2 wc2)).setCell ⟨bx, 2, none⟩ (.slice oa2 on2 oc2)).heap.size := by simp; omega
            have HF2 := hide hRD.fresh
            clear c1 c2 c3 z0 z1 z2 y0 y1 y2 yl x0 x1 x2 hRr hNr hRD hFW hFO hbD hcD hcx hWr hOr hbr hgr hs2
            generalize ((wD.setCell ⟨bx, 0, none⟩ (.bool f2)).setCell ⟨bx, 1, none⟩ (.slice wa2 wn2 wc2)).setCell ⟨bx, 2, none⟩ (.slice oa2 on2 oc2) = w9 at *
            subst hon
            have u2 := q5.cell 2
            go_wp2_with fail
            refine (Told_fresh _ _ _ _ _ q2.1 (by omega)).mono ?_
            rintro e wT ⟨ta, tc, rfl, hIT, hFT, hbT⟩
            have hIO := IntsOff.fresh hIT hFT (fun g hg => (q4.lt g hg).2)
            have HOW2 := hide (ownsRow_below q4 hbT)
            have R2 := RowsOff.snoc (c := tc) (q3.below hbT) hIO
            rw [← toldTo_succ] at R2
            have HRO2 := hide R2
            have c5 := q5.onF hbT
            have q8 := q1.below hbT
            have q9 := q2.below hbT
            have q10 := bstep q6 hbT
            have q11 : w4.heap.size ≤ wT.heap.size := Nat.le_trans q7 hbT.size
            have HLT2 := hide (unhide HOW2).lt
            clear q1 q2 q3 q4 q5 q6 q7 hIT hFT hIO R2 hbT u2
            go_wp2_with (at_builtin; refine wpList_append_own_at _ rfl _ _ 36 rfl w4.heap.size 35 i0 (.slice none 0 0) 1 24 Try.underlying36 hi hz0 hz1 hz2 rfl (by decide) _ _ _ rfl ((unhide HOW2).alloc _) ⟨wT.heap.size, 0, none⟩ 1 1 [.slice ta 3 tc] rfl rfl ?c1 ?c2 ?c3 ?c4 ?c5 ?_)
            case c1 =>
              intro j u hj
              match j, hj with
              | 0, hj => simp at hj; subst hj; simp [Addr.add]
            case c2 => intro u hu; simp at hu; subst hu; rfl
            case c3 => unfold maxLen; omega
            case c4 => omega
            case c5 => simp; omega
            intro v' w5 hown' hgrow _ hat
            rw [show wT.heap.size + 1 = (wT.alloc (.cells #[.slice ta 3 tc] 35)).heap.size by simp] at hat
            have al : Below wT.heap.size wT (wT.alloc (.cells #[.slice ta 3 tc] 35)) := (Below.refl _ _).alloc (Nat.le_refl _) _
            have R2 := ((unhide HRO2).below al).grown hgrow hat
            have R3 := (q8.below al).grown hgrow hat
            have R4 := (q9.below al).grown hgrow hat
            have R5 := cells_grown (c5.onF al) hgrow (fun e => by have := (unhide HLT2 bx e).1; omega)
            have R6 : Below w2.heap.size w2 w5 := (q10.alloc q10.size _).grown hgrow (by have := q10.size; simp; omega) (fun g hg => Nat.le_trans (by omega) (unhide HLT2 g hg).1)
            have R7 : w4.heap.size ≤ w5.heap.size := by have := hgrow.size; simp at this; omega
            have R := hide (And.intro hown' (And.intro R2 (And.intro R3 (And.intro R4 (And.intro R5 (And.intro R6 R7))))))
            clear hown' hgrow hat al R2 R3 R4 R5 R6 R7 c5 q8 q9 q10 q11
            go_wp2_with fail
            exact ⟨⟨k + 1, f2, wa2, wn2, wc2, oa2, 3, oc2, vs ++ [.slice ta 3 tc], by omega, by go_num, (unhide R).1, (unhide R).2.1, (unhide R).2.2.2.2.1, unhide HF2, (unhide R).2.2.1, (unhide R).2.2.2.1, (unhide R).2.2.2.2.2.2, (unhide R).2.2.2.2.2.1⟩, by simp [intOf]; omega⟩
          exact AllReadyH.nil
        exact AllReadyH.nil
      exact AllReadyH.nil
    · have hkn : k = ln := by omega
      subst hkn
      obtain ⟨ra, rc, hv, hR, _⟩ := own_rows hown (by unfold maxLen; omega) hRO
      subst hv
      have HPR := hide (show playRows p l = toldTo p l k by unfold playRows toldTo; rw [if_pos (unhide HEQ), unhide HLN])
      clear hown hRO hcx hWr hOr
      go_wp2_with fail
      go_ret2
      exact ⟨ra, k, rc, (by rw [unhide HEQ]; first | rfl | done), by rw [unhide HPR]; exact hR, bstep hb2 hbel⟩
end Go.Proofs.Ytongajonecgdpaf
