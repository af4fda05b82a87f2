/- text.phrases. -/
import Derived.Test.YtongajonecgdpagGreatDoorPhrB
namespace Go.Proofs.YtongajonecgdpagGreatDoor
open Go.RowKit

theorem three_str (a b c : Value) (w : World) : (Instr.index 123 (.agg #[a, b, c]) (.int .i64 0)).run Tryz.prog w = .ok a w ∧ (Instr.index 123 (.agg #[a, b, c]) (.int .i64 1)).run Tryz.prog w = .ok b w ∧ (Instr.index 123 (.agg #[a, b, c]) (.int .i64 2)).run Tryz.prog w = .ok c w := by
  exact ⟨by kernel_rfl, by kernel_rfl, by kernel_rfl⟩
theorem In_any (k : Nat) (hk : k ≤ 2) (w : World) : Calls Tryz.prog 59 #[.int .i64 (k : Int)] w fun e w' => e = .returned (.string ⟨(letter 120 k).toArray⟩) ∧ w' = w := by
  obtain ⟨h0, h1, h2⟩ := three_str (.string ⟨#[120]⟩) (.string ⟨#[121]⟩) (.string ⟨#[122]⟩) w
  rcases three' hk with rfl | rfl | rfl
  all_goals
    go_enter Tryz.func59, Tryz.ntmps59
    go_wp2_with fail
    go_ret
    exact ⟨rfl, rfl⟩
theorem Out_any (k : Nat) (hk : k ≤ 2) (w : World) : Calls Tryz.prog 61 #[.int .i64 (k : Int)] w fun e w' => e = .returned (.string ⟨(letter 65 k).toArray⟩) ∧ w' = w := by
  obtain ⟨h0, h1, h2⟩ := three_str (.string ⟨#[65]⟩) (.string ⟨#[66]⟩) (.string ⟨#[67]⟩) w
  rcases three' hk with rfl | rfl | rfl
  all_goals
    go_enter Tryz.func61, Tryz.ntmps61
    go_wp2_with fail
    go_ret
    exact ⟨rfl, rfl⟩
set_option maxHeartbeats 1000000 in
theorem choice_any (s : List UInt8) (hs : s.length ≤ 100) (w : World) : Calls Tryz.prog 60 #[.string ⟨s.toArray⟩] w fun e w' => e = .returned (.agg #[.string ⟨(s ++ tThen).toArray⟩, .string ⟨tElse.toArray⟩, .string ⟨tEnd.toArray⟩]) ∧ Below w.heap.size w w' := by
  go_enter Tryz.func60, Tryz.ntmps60
  have e1 : (⟨s.toArray⟩ : ByteArray) ++ ⟨#[32, 116, 104, 101, 110, 32]⟩ = ⟨(s ++ tThen).toArray⟩ := str_app s tThen
  go_wp2_with fail
  exact bodyPost_ret (v := .agg #[.string ⟨(s ++ tThen).toArray⟩, .string ⟨tElse.toArray⟩, .string ⟨tEnd.toArray⟩]) (by simp [results, Tryz.results60, go_sem, tElse, tEnd]) rfl ⟨rfl, (Below.refl _ _).alloc (Nat.le_refl _) _⟩

def phr1 (k : Nat) : List NodeD := [⟨0, 0⟩, ⟨1, 0⟩, ⟨2, 0⟩, ⟨5, 0⟩, ⟨6, 0⟩] ++ (List.range k).flatMap (fun i => [⟨4, (i : Int)⟩, ⟨7, (i : Int)⟩])
theorem phr1_succ (k : Nat) : phr1 (k + 1) = phr1 k ++ [⟨4, (k : Int)⟩, ⟨7, (k : Int)⟩] := by simp [phr1, List.range_succ, List.flatMap_append]
def phr2 (k : Nat) : List NodeD := phr1 3 ++ (List.range k).flatMap (fun i => [⟨3, (i : Int)⟩, ⟨8, (i : Int)⟩])
theorem phr2_succ (k : Nat) : phr2 (k + 1) = phr2 k ++ [⟨3, (k : Int)⟩, ⟨8, (k : Int)⟩] := by simp [phr2, List.range_succ, List.flatMap_append]
theorem phr1_no : ∀ k, k < 3 → setOf (phr1 k) ⟨4, (k : Int)⟩ = false ∧ (setOf (phr1 k) ⟨7, (k : Int)⟩ || eqN ⟨7, (k : Int)⟩ ⟨4, (k : Int)⟩) = false := by decide +kernel
theorem phr2_no : ∀ k, k < 3 → setOf (phr2 k) ⟨3, (k : Int)⟩ = false ∧ (setOf (phr2 k) ⟨8, (k : Int)⟩ || eqN ⟨8, (k : Int)⟩ ⟨3, (k : Int)⟩) = false := by decide +kernel
theorem phr_in : ∀ y ∈ valid, setOf (phr2 3) y = true := by decide +kernel
theorem phr_all : ∀ y ∈ phr2 3, isN y = true := by decide +kernel
theorem phr_set (y : NodeD) : setOf (phr2 3) y = isN y := by
  cases h : isN y
  · cases hs : setOf (phr2 3) y
    · rfl
    · unfold setOf at hs
      rw [List.any_eq_true] at hs
      obtain ⟨z, hz, he⟩ := hs
      rw [eqN_is he, phr_all z hz] at h
      simp at h
  · exact phr_in y (valid_mem h)
theorem setOf_two (l : List NodeD) (x z y : NodeD) : ((setOf l y || eqN y x) || eqN y z) = setOf (l ++ [x, z]) y := by simp [setOf, List.any_append, Bool.or_assoc]

set_option maxRecDepth 100000 in
set_option maxHeartbeats 4000000 in
theorem phrases_any (w : World) :
    Calls Tryz.prog 28 #[] w fun e w' => ∃ m, e = .returned (.map (some m)) ∧ PhrOf w' m isN ∧ w.heap.size ≤ m ∧ Below w.heap.size w w' := by
  go_enter Tryz.func28, Tryz.ntmps28
  go_upto_region 1 with fail
  refine wp_region_held_drew (S := fun _ => True) (by kernel_rfl) trivial (fun _ => ?_)
  refine wpAnyH_take (i := 1) (oi := { dst := some 5, op := Go.Op.build 93 #[(0, Go.Operand.const (Go.Value.int Go.IntKind.i64 0))], type := 93, pos := "text.go:34", after := #[], guard := none }) (v := ?_) rfl (by kernel_rfl) (by kernel_rfl) (by kernel_rfl) (fun _ _ _ h => h) (Or.inl ⟨by rfl, ?_⟩) (by assumption) ?_
  rotate_left
  · intro w hSw; (try dsimp only at hSw); go_simp; (try (with_reducible rfl))
  try simp only [Act.put, List.setIfInBounds_toArray, List.set_cons_zero, List.set_cons_succ]
  refine wpAnyH_take (i := 2) (oi := { dst := some 6, op := Go.Op.build 98 #[(0, Go.Operand.const (Go.Value.string { data := #[110, 111, 116, 104, 105, 110, 103] }))], type := 98, pos := "text.go:34", after := #[], guard := none }) (v := ?_) rfl (by kernel_rfl) (by kernel_rfl) (by kernel_rfl) (fun _ _ _ h => h) (Or.inl ⟨by rfl, ?_⟩) (by assumption) ?_
  rotate_left
  · intro w hSw; (try dsimp only at hSw); go_simp; (try (with_reducible rfl))
  try simp only [Act.put, List.setIfInBounds_toArray, List.set_cons_zero, List.set_cons_succ]
  refine wpAnyH_take (i := 4) (oi := { dst := some 7, op := Go.Op.build 93 #[(0, Go.Operand.const (Go.Value.int Go.IntKind.i64 1))], type := 93, pos := "text.go:34", after := #[], guard := none }) (v := ?_) rfl (by kernel_rfl) (by kernel_rfl) (by kernel_rfl) (fun _ _ _ h => h) (Or.inl ⟨by rfl, ?_⟩) (by assumption) ?_
  rotate_left
  · intro w hSw; (try dsimp only at hSw); go_simp; (try (with_reducible rfl))
  try simp only [Act.put, List.setIfInBounds_toArray, List.set_cons_zero, List.set_cons_succ]
  refine wpAnyH_take (i := 5) (oi := { dst := some 8, op := Go.Op.build 98 #[(0, Go.Operand.const (Go.Value.string { data := #[112, 97, 117, 115, 101] }))], type := 98, pos := "text.go:34", after := #[], guard := none }) (v := ?_) rfl (by kernel_rfl) (by kernel_rfl) (by kernel_rfl) (fun _ _ _ h => h) (Or.inl ⟨by rfl, ?_⟩) (by assumption) ?_
  rotate_left
  · intro w hSw; (try dsimp only at hSw); go_simp; (try (with_reducible rfl))
  try simp only [Act.put, List.setIfInBounds_toArray, List.set_cons_zero, List.set_cons_succ]
  refine wpAnyH_take (i := 7) (oi := { dst := some 9, op := Go.Op.build 93 #[(0, Go.Operand.const (Go.Value.int Go.IntKind.i64 2))], type := 93, pos := "text.go:34", after := #[], guard := none }) (v := ?_) rfl (by kernel_rfl) (by kernel_rfl) (by kernel_rfl) (fun _ _ _ h => h) (Or.inl ⟨by rfl, ?_⟩) (by assumption) ?_
  rotate_left
  · intro w hSw; (try dsimp only at hSw); go_simp; (try (with_reducible rfl))
  try simp only [Act.put, List.setIfInBounds_toArray, List.set_cons_zero, List.set_cons_succ]
  refine wpAnyH_take (i := 8) (oi := { dst := some 10, op := Go.Op.build 98 #[(0, Go.Operand.const (Go.Value.string { data := #[104, 97, 108, 116] }))], type := 98, pos := "text.go:34", after := #[], guard := none }) (v := ?_) rfl (by kernel_rfl) (by kernel_rfl) (by kernel_rfl) (fun _ _ _ h => h) (Or.inl ⟨by rfl, ?_⟩) (by assumption) ?_
  rotate_left
  · intro w hSw; (try dsimp only at hSw); go_simp; (try (with_reducible rfl))
  try simp only [Act.put, List.setIfInBounds_toArray, List.set_cons_zero, List.set_cons_succ]
  refine wpAnyH_take (i := 10) (oi := { dst := some 11, op := Go.Op.build 93 #[(0, Go.Operand.const (Go.Value.int Go.IntKind.i64 5))], type := 93, pos := "text.go:34", after := #[], guard := none }) (v := ?_) rfl (by kernel_rfl) (by kernel_rfl) (by kernel_rfl) (fun _ _ _ h => h) (Or.inl ⟨by rfl, ?_⟩) (by assumption) ?_
  rotate_left
  · intro w hSw; (try dsimp only at hSw); go_simp; (try (with_reducible rfl))
  try simp only [Act.put, List.setIfInBounds_toArray, List.set_cons_zero, List.set_cons_succ]
  refine wpAnyH_take (i := 11) (oi := { dst := some 12, op := Go.Op.build 98 #[(0, Go.Operand.const (Go.Value.string { data := #[40] })), (1, Go.Operand.const (Go.Value.string { data := #[59, 32] })), (2, Go.Operand.const (Go.Value.string { data := #[41] }))], type := 98, pos := "text.go:34", after := #[], guard := none }) (v := ?_) rfl (by kernel_rfl) (by kernel_rfl) (by kernel_rfl) (fun _ _ _ h => h) (Or.inl ⟨by rfl, ?_⟩) (by assumption) ?_
  rotate_left
  · intro w hSw; (try dsimp only at hSw); go_simp; (try (with_reducible rfl))
  try simp only [Act.put, List.setIfInBounds_toArray, List.set_cons_zero, List.set_cons_succ]
  refine wpAnyH_take (i := 13) (oi := { dst := some 13, op := Go.Op.build 93 #[(0, Go.Operand.const (Go.Value.int Go.IntKind.i64 6))], type := 93, pos := "text.go:34", after := #[], guard := none }) (v := ?_) rfl (by kernel_rfl) (by kernel_rfl) (by kernel_rfl) (fun _ _ _ h => h) (Or.inl ⟨by rfl, ?_⟩) (by assumption) ?_
  rotate_left
  · intro w hSw; (try dsimp only at hSw); go_simp; (try (with_reducible rfl))
  try simp only [Act.put, List.setIfInBounds_toArray, List.set_cons_zero, List.set_cons_succ]
  refine wpAnyH_take (i := 14) (oi := { dst := some 14, op := Go.Op.build 98 #[(0, Go.Operand.const (Go.Value.string { data := #[40] })), (1, Go.Operand.const (Go.Value.string { data := #[32, 124, 32] })), (2, Go.Operand.const (Go.Value.string { data := #[41] }))], type := 98, pos := "text.go:34", after := #[], guard := none }) (v := ?_) rfl (by kernel_rfl) (by kernel_rfl) (by kernel_rfl) (fun _ _ _ h => h) (Or.inl ⟨by rfl, ?_⟩) (by assumption) ?_
  rotate_left
  · intro w hSw; (try dsimp only at hSw); go_simp; (try (with_reducible rfl))
  try simp only [Act.put, List.setIfInBounds_toArray, List.set_cons_zero, List.set_cons_succ]
  refine wpAnyH_ready (rs := [0]) (by kernel_rfl) (by simp) ?_
  refine AllReadyH.cons (o := { dst := some 4, op := Go.Op.makeMap 63 none, type := 63, pos := "text.go:34", after := #[], guard := none }) rfl (fun K hK => ?_) ?_
  · go_simp
    refine hK.out _ _ ?_ (fun hHeld => ?_)
    · exact trivial
    clear hK K
    try simp only [Act.put, List.setIfInBounds_toArray, List.set_cons_zero, List.set_cons_succ]
    refine wpAnyH_listed (listed' := #[true, true, true, false, true, true, false, true, true, false, true, true, false, true, true, false, false, false]) (fuel' := 7) (by kernel_rfl) (by kernel_rfl) ?_
    refine phr_tower (w0 := w.drew.alloc (.map #[] 0)) (m := w.heap.size) (fun W hM hK => ?_) _ (by exact PhrOf.new _) (by exact KeptT.refl _ _)
    simp only [phrAct]
    refine wpAnyH_ready (rs := [16]) (by kernel_rfl) (by simp) ?_
    refine AllReadyH.cons (o := { dst := some 15, op := Go.Op.move (Go.Operand.tmp 4), type := 63, pos := "text.go:34", after := #[{ on := 0, ground := Go.Ground.data }, { on := 1, ground := Go.Ground.data }, { on := 2, ground := Go.Ground.data }, { on := 3, ground := Go.Ground.data }, { on := 4, ground := Go.Ground.data }, { on := 5, ground := Go.Ground.data }, { on := 6, ground := Go.Ground.data }, { on := 7, ground := Go.Ground.data }, { on := 8, ground := Go.Ground.data }, { on := 9, ground := Go.Ground.data }, { on := 10, ground := Go.Ground.data }, { on := 11, ground := Go.Ground.data }, { on := 12, ground := Go.Ground.data }, { on := 13, ground := Go.Ground.data }, { on := 14, ground := Go.Ground.data }, { on := 15, ground := Go.Ground.data }], guard := none }) rfl (fun K hK => ?_) AllReadyH.nil
    go_simp
    refine hK.out _ _ trivial (fun _ => ?_)
    clear hK K
    simp only [List.setIfInBounds_toArray, List.set_cons_zero, List.set_cons_succ]
    refine wpAnyH_ready (rs := [17]) (by kernel_rfl) (by simp) ?_
    refine AllReadyH.cons (o := { dst := some 1, op := Go.Op.assign (Go.Operand.tmp 15), type := 63, pos := "text.go:34", after := #[{ on := 16, ground := Go.Ground.data }, { on := 0, ground := Go.Ground.phase }, { on := 1, ground := Go.Ground.phase }, { on := 2, ground := Go.Ground.phase }, { on := 3, ground := Go.Ground.phase }, { on := 4, ground := Go.Ground.phase }, { on := 5, ground := Go.Ground.phase }, { on := 6, ground := Go.Ground.phase }, { on := 7, ground := Go.Ground.phase }, { on := 8, ground := Go.Ground.phase }, { on := 9, ground := Go.Ground.phase }, { on := 10, ground := Go.Ground.phase }, { on := 11, ground := Go.Ground.phase }, { on := 12, ground := Go.Ground.phase }, { on := 13, ground := Go.Ground.phase }, { on := 14, ground := Go.Ground.phase }, { on := 15, ground := Go.Ground.phase }, { on := 16, ground := Go.Ground.phase }], guard := none }) rfl (fun K hK => ?_) AllReadyH.nil
    go_simp
    refine hK.out _ _ trivial (fun _ => ?_)
    clear hK K
    try simp only [Act.put]
    refine wpAnyH_done (by kernel_rfl) ?_ _
    have hB0 : Below w.heap.size w (w.drew.alloc (.map #[] 0)) := ((Below.refl w.heap.size w).drew).alloc (Nat.le_refl _) _
    have hs0 : w.heap.size < (w.drew.alloc (.map #[] 0)).heap.size := by simp
    generalize w.drew.alloc (.map #[] 0) = w1 at *
    go_wp2_with fail
    go_loopw [16] (fun iv wr => ∃ k : Nat, k ≤ 3 ∧ iv = .int .i64 k ∧ PhrOf wr w.heap.size (setOf (phr1 k)) ∧ KeptT [w.heap.size] w1 wr) (fun iv _ => 3 - (intOf iv).toNat)
    case atStart => exact ⟨0, by omega, rfl, hM, hK⟩
    case round =>
      clear hM hK
      obtain ⟨k, hk, rfl, hM, hK⟩ := hrel
      by_cases hlt : k < 3
      · have hk2 : k ≤ 2 := by omega
        have hki : (k : Int) < 3 := by omega
        have hno := phr1_no k hlt
        have hlet : (letter 120 k).length ≤ 1 := by simp [letter]
        go_wp2_with fail
        refine (In_any k hk2 _).mono ?_
        rintro e w' ⟨rfl, rfl⟩
        rename World => wr
        have e1 : (⟨#[97, 119, 97, 105, 116, 32]⟩ : ByteArray) ++ ⟨(letter 120 k).toArray⟩ = ⟨(tAwait ++ letter 120 k).toArray⟩ := str_app tAwait _
        obtain ⟨W1, hr, hM1, hg1⟩ := put_node hM (⟨4, (k : Int)⟩ : NodeD) hno.1
        have hr1 : (Instr.mapUpdate 63 (.map (some w.heap.size)) (.agg #[.int .i64 4, .int .i64 (k : Int)]) (.agg #[.string ((⟨#[97, 119, 97, 105, 116, 32]⟩ : ByteArray) ++ ⟨(letter 120 k).toArray⟩), .string ⟨#[]⟩, .string ⟨#[]⟩])).run Tryz.prog wr = .ok () W1 := by rw [e1]; exact hr
        have hK1 := hK.trans (KeptT.grown (G := [w.heap.size]) hg1 (fun b e => by injection e with e; simp [e]))
        have R := hide (And.intro hM1 hK1)
        clear hr hM hK hM1 hK1 hg1 e1
        go_wp2_with fail
        clear hr1
        refine (In_any k hk2 _).mono ?_
        rintro e w' ⟨rfl, rfl⟩
        rename World => W1
        have e2 : (⟨#[105, 102, 32]⟩ : ByteArray) ++ ⟨(letter 120 k).toArray⟩ = ⟨(tIf ++ letter 120 k).toArray⟩ := str_app tIf _
        go_wp2_with fail
        refine (choice_any (tIf ++ letter 120 k) (by simp [tIf, letter]) _).mono ?_
        rintro e w4 ⟨rfl, hb4⟩
        obtain ⟨hM1, hK1⟩ := unhide R
        have hM4 := hM1.same (hb4.block _ hM1.lt)
        obtain ⟨W5, hr5, hM5, hg5⟩ := put_node hM4 (⟨7, (k : Int)⟩ : NodeD) hno.2
        have hr6 : (Instr.mapUpdate 63 (.map (some w.heap.size)) (.agg #[.int .i64 7, .int .i64 (k : Int)]) (.agg #[.string ⟨(tIf ++ (letter 120 k ++ tThen)).toArray⟩, .string ⟨tElse.toArray⟩, .string ⟨tEnd.toArray⟩])).run Tryz.prog w4 = .ok () W5 := by rw [← List.append_assoc]; exact hr5
        have hK5 := (hK1.trans (KeptT.of hb4)).trans (KeptT.grown (G := [w.heap.size]) hg5 (fun b e => by injection e with e; simp [e]))
        have R := hide (And.intro (show PhrOf W5 w.heap.size (setOf (phr1 (k + 1))) from hM5.eq (fun y => by rw [phr1_succ]; exact setOf_two (phr1 k) ⟨4, (k : Int)⟩ ⟨7, (k : Int)⟩ y)) hK5)
        clear hr5 hM5 hK5 hg5 hM4 hM1 hK1 hb4 e2
        go_wp2_with fail
        exact ⟨⟨k + 1, by omega, by go_num, (unhide R).1, (unhide R).2⟩, by simp [intOf]; omega⟩
      · have hk3 : k = 3 := by omega
        subst hk3
        go_wp2_with fail
        go_loopw [34] (fun iv wr => ∃ k : Nat, k ≤ 3 ∧ iv = .int .i64 k ∧ PhrOf wr w.heap.size (setOf (phr2 k)) ∧ KeptT [w.heap.size] w1 wr) (fun iv _ => 3 - (intOf iv).toNat)
        case atStart => exact ⟨0, by omega, rfl, hM, hK⟩
        case round =>
          clear hM hK
          obtain ⟨k, hk, rfl, hM, hK⟩ := hrel
          by_cases hlt : k < 3
          · have hk2 : k ≤ 2 := by omega
            have hki : (k : Int) < 3 := by omega
            have hno := phr2_no k hlt
            have hlet : (letter 65 k).length ≤ 1 := by simp [letter]
            go_wp2_with fail
            refine (Out_any k hk2 _).mono ?_
            rintro e w' ⟨rfl, rfl⟩
            rename World => wr
            have e1 : (⟨#[101, 109, 105, 116, 32]⟩ : ByteArray) ++ ⟨(letter 65 k).toArray⟩ = ⟨(tEmit ++ letter 65 k).toArray⟩ := str_app tEmit _
            obtain ⟨W1, hr, hM1, hg1⟩ := put_node hM (⟨3, (k : Int)⟩ : NodeD) hno.1
            have hr1 : (Instr.mapUpdate 63 (.map (some w.heap.size)) (.agg #[.int .i64 3, .int .i64 (k : Int)]) (.agg #[.string ((⟨#[101, 109, 105, 116, 32]⟩ : ByteArray) ++ ⟨(letter 65 k).toArray⟩), .string ⟨#[]⟩, .string ⟨#[]⟩])).run Tryz.prog wr = .ok () W1 := by rw [e1]; exact hr
            have hK1 := hK.trans (KeptT.grown (G := [w.heap.size]) hg1 (fun b e => by injection e with e; simp [e]))
            have R := hide (And.intro hM1 hK1)
            clear hr hM hK hM1 hK1 hg1 e1
            go_wp2_with fail
            clear hr1
            refine (Out_any k hk2 _).mono ?_
            rintro e w' ⟨rfl, rfl⟩
            rename World => W1
            have e2 : (⟨#[119, 97, 115, 32]⟩ : ByteArray) ++ ⟨(letter 65 k).toArray⟩ = ⟨(tWas ++ letter 65 k).toArray⟩ := str_app tWas _
            go_wp2_with fail
            refine (choice_any (tWas ++ letter 65 k) (by simp [tWas, letter]) _).mono ?_
            rintro e w4 ⟨rfl, hb4⟩
            obtain ⟨hM1, hK1⟩ := unhide R
            have hM4 := hM1.same (hb4.block _ hM1.lt)
            obtain ⟨W5, hr5, hM5, hg5⟩ := put_node hM4 (⟨8, (k : Int)⟩ : NodeD) hno.2
            have hr6 : (Instr.mapUpdate 63 (.map (some w.heap.size)) (.agg #[.int .i64 8, .int .i64 (k : Int)]) (.agg #[.string ⟨(tWas ++ (letter 65 k ++ tThen)).toArray⟩, .string ⟨tElse.toArray⟩, .string ⟨tEnd.toArray⟩])).run Tryz.prog w4 = .ok () W5 := by rw [← List.append_assoc]; exact hr5
            have hK5 := (hK1.trans (KeptT.of hb4)).trans (KeptT.grown (G := [w.heap.size]) hg5 (fun b e => by injection e with e; simp [e]))
            have R := hide (And.intro (show PhrOf W5 w.heap.size (setOf (phr2 (k + 1))) from hM5.eq (fun y => by rw [phr2_succ]; exact setOf_two (phr2 k) ⟨3, (k : Int)⟩ ⟨8, (k : Int)⟩ y)) hK5)
            clear hr5 hM5 hK5 hg5 hM4 hM1 hK1 hb4 e2
            go_wp2_with fail
            exact ⟨⟨_, _, _, _, _, _, _, _, _, _, _, _, _, _, _, _, _, _, _, ⟨k + 1, by omega, by go_num, (unhide R).1, (unhide R).2⟩, rfl⟩, by simp [intOf]; omega⟩
          · have hk3 : k = 3 := by omega
            subst hk3
            obtain ⟨hM3, hK3⟩ := And.intro hM hK
            clear hM hK
            go_wp2_with fail
            go_ret
            exact ⟨_, rfl, hM3.eq phr_set, Nat.le_refl _, hB0.trans (hK3.below (fun g hg => by simp at hg; omega) (by omega))⟩
  exact AllReadyH.nil
end Go.Proofs.YtongajonecgdpagGreatDoor
