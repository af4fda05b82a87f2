/- text.phrases: a map that has each node that there may be, with what stands ahead of its parts, between them, and behind. -/
import Derived.Test.YtongajonecgdpagGreatDoorPhrA
import Derived.Deep.Upon
import Derived.Deep.DeepCutAuto
import Derived.Deep.CutBlock
import Derived.Deep.RegionHeld3
namespace Go.Proofs.YtongajonecgdpagGreatDoor
open Go.RowKit

def KeptT (G : List Nat) (w w' : World) : Prop := KeptG G w w' ∧ w'.os = w.os ∧ w'.tape = w.tape ∧ w'.output = w.output
theorem KeptT.refl (G : List Nat) (w : World) : KeptT G w w := ⟨KeptG.refl _ _, rfl, rfl, rfl⟩
theorem KeptT.of {G : List Nat} {w w' : World} (h : Below w.heap.size w w') : KeptT G w w' := ⟨KeptG.of h, h.os, h.tape, h.output⟩
theorem KeptT.trans {G : List Nat} {w w' w'' : World} (h : KeptT G w w') (h' : KeptT G w' w'') : KeptT G w w'' := ⟨h.1.trans h'.1, h'.2.1.trans h.2.1, h'.2.2.1.trans h.2.2.1, h'.2.2.2.trans h.2.2.2⟩
theorem KeptT.grown {G : List Nat} {w w' : World} {row : Option Nat} (hg : w.grownBy w' row) (hr : ∀ b, row = some b → b ∈ G) : KeptT G w w' := ⟨KeptG.grown hg hr, hg.os, hg.tape, hg.output⟩
theorem KeptT.below {G : List Nat} {w w' : World} {B : Nat} (h : KeptT G w w') (hB : ∀ g ∈ G, B ≤ g) (hs : B ≤ w.heap.size) : Below B w w' := ⟨h.2.1, h.2.2.1, h.2.2.2, h.1.1, fun k hk => h.1.2 k (by omega) (fun hm => by have := hB k hm; omega)⟩
theorem KeptT.mono {G G' : List Nat} {w w' : World} (h : KeptT G w w') (hs : ∀ b, b ∈ G → b ∈ G') : KeptT G' w w' := ⟨h.1.mono hs, h.2⟩
theorem wpAnyH_listed {P : Program} {md : Region.Mode} {ops : Array Oper} {Q : Exit → Act → World → Prop} {S : World → Prop} {fuel fuel' : Nat} {listed listed' : Array Bool} {a : Act} {w : World} (hl : listed = listed') (hf : fuel = fuel') (h : wpAnyH P md ops Q S fuel' listed' a w) : wpAnyH P md ops Q S fuel listed a w := by
  subst hl; subst hf; exact h
def setOf (l : List NodeD) (y : NodeD) : Bool := l.any (eqN y)
theorem PhrOf.put {W' : World} {m : Nat} {l l' : List NodeD} {x : NodeD} (h : PhrOf W' m (fun y => setOf l y || eqN y x)) (he : ∀ y, (setOf l y || eqN y x) = setOf l' y) : PhrOf W' m (setOf l') := h.eq he

def phrOps : Array Oper := #[{ dst := some 4, op := Go.Op.makeMap 63 none, type := 63, pos := "text.go:34", after := #[], guard := none },
  { dst := some 5, op := Go.Op.build 93 #[(0, Go.Operand.const (Go.Value.int Go.IntKind.i64 0))], type := 93, pos := "text.go:34", after := #[], guard := none },
  { dst := some 6, op := Go.Op.build 98 #[(0, Go.Operand.const (Go.Value.string { data := #[110, 111, 116, 104, 105, 110, 103] }))], type := 98, pos := "text.go:34", after := #[], guard := none },
  { dst := none, op := Go.Op.insert 63 (Go.Operand.tmp 4) (Go.Operand.tmp 5) (Go.Operand.tmp 6), type := 0, pos := "text.go:34", after := #[{ on := 0, ground := Go.Ground.data }, { on := 1, ground := Go.Ground.data }, { on := 2, ground := Go.Ground.data }], guard := none },
  { dst := some 7, op := Go.Op.build 93 #[(0, Go.Operand.const (Go.Value.int Go.IntKind.i64 1))], type := 93, pos := "text.go:34", after := #[], guard := none },
  { dst := some 8, op := Go.Op.build 98 #[(0, Go.Operand.const (Go.Value.string { data := #[112, 97, 117, 115, 101] }))], type := 98, pos := "text.go:34", after := #[], guard := none },
  { dst := none, op := Go.Op.insert 63 (Go.Operand.tmp 4) (Go.Operand.tmp 7) (Go.Operand.tmp 8), type := 0, pos := "text.go:34", after := #[{ on := 0, ground := Go.Ground.data }, { on := 4, ground := Go.Ground.data }, { on := 5, ground := Go.Ground.data }], guard := none },
  { dst := some 9, op := Go.Op.build 93 #[(0, Go.Operand.const (Go.Value.int Go.IntKind.i64 2))], type := 93, pos := "text.go:34", after := #[], guard := none },
  { dst := some 10, op := Go.Op.build 98 #[(0, Go.Operand.const (Go.Value.string { data := #[104, 97, 108, 116] }))], type := 98, pos := "text.go:34", after := #[], guard := none },
  { dst := none, op := Go.Op.insert 63 (Go.Operand.tmp 4) (Go.Operand.tmp 9) (Go.Operand.tmp 10), type := 0, pos := "text.go:34", after := #[{ on := 0, ground := Go.Ground.data }, { on := 7, ground := Go.Ground.data }, { on := 8, ground := Go.Ground.data }], guard := none },
  { dst := some 11, op := Go.Op.build 93 #[(0, Go.Operand.const (Go.Value.int Go.IntKind.i64 5))], type := 93, pos := "text.go:34", after := #[], guard := none },
  { dst := some 12, op := Go.Op.build 98 #[(0, Go.Operand.const (Go.Value.string { data := #[40] })), (1, Go.Operand.const (Go.Value.string { data := #[59, 32] })), (2, Go.Operand.const (Go.Value.string { data := #[41] }))], type := 98, pos := "text.go:34", after := #[], guard := none },
  { dst := none, op := Go.Op.insert 63 (Go.Operand.tmp 4) (Go.Operand.tmp 11) (Go.Operand.tmp 12), type := 0, pos := "text.go:34", after := #[{ on := 0, ground := Go.Ground.data }, { on := 10, ground := Go.Ground.data }, { on := 11, ground := Go.Ground.data }], guard := none },
  { dst := some 13, op := Go.Op.build 93 #[(0, Go.Operand.const (Go.Value.int Go.IntKind.i64 6))], type := 93, pos := "text.go:34", after := #[], guard := none },
  { dst := some 14, op := Go.Op.build 98 #[(0, Go.Operand.const (Go.Value.string { data := #[40] })), (1, Go.Operand.const (Go.Value.string { data := #[32, 124, 32] })), (2, Go.Operand.const (Go.Value.string { data := #[41] }))], type := 98, pos := "text.go:34", after := #[], guard := none },
  { dst := none, op := Go.Op.insert 63 (Go.Operand.tmp 4) (Go.Operand.tmp 13) (Go.Operand.tmp 14), type := 0, pos := "text.go:34", after := #[{ on := 0, ground := Go.Ground.data }, { on := 13, ground := Go.Ground.data }, { on := 14, ground := Go.Ground.data }], guard := none },
  { dst := some 15, op := Go.Op.move (Go.Operand.tmp 4), type := 63, pos := "text.go:34", after := #[{ on := 0, ground := Go.Ground.data }, { on := 1, ground := Go.Ground.data }, { on := 2, ground := Go.Ground.data }, { on := 3, ground := Go.Ground.data }, { on := 4, ground := Go.Ground.data }, { on := 5, ground := Go.Ground.data }, { on := 6, ground := Go.Ground.data }, { on := 7, ground := Go.Ground.data }, { on := 8, ground := Go.Ground.data }, { on := 9, ground := Go.Ground.data }, { on := 10, ground := Go.Ground.data }, { on := 11, ground := Go.Ground.data }, { on := 12, ground := Go.Ground.data }, { on := 13, ground := Go.Ground.data }, { on := 14, ground := Go.Ground.data }, { on := 15, ground := Go.Ground.data }], guard := none },
  { dst := some 1, op := Go.Op.assign (Go.Operand.tmp 15), type := 63, pos := "text.go:34", after := #[{ on := 16, ground := Go.Ground.data }, { on := 0, ground := Go.Ground.phase }, { on := 1, ground := Go.Ground.phase }, { on := 2, ground := Go.Ground.phase }, { on := 3, ground := Go.Ground.phase }, { on := 4, ground := Go.Ground.phase }, { on := 5, ground := Go.Ground.phase }, { on := 6, ground := Go.Ground.phase }, { on := 7, ground := Go.Ground.phase }, { on := 8, ground := Go.Ground.phase }, { on := 9, ground := Go.Ground.phase }, { on := 10, ground := Go.Ground.phase }, { on := 11, ground := Go.Ground.phase }, { on := 12, ground := Go.Ground.phase }, { on := 13, ground := Go.Ground.phase }, { on := 14, ground := Go.Ground.phase }, { on := 15, ground := Go.Ground.phase }, { on := 16, ground := Go.Ground.phase }], guard := none }]
def phrAct (m : Nat) : Act := { tmps := #[.map none, undef, undef, undef, .map (some m), .agg #[.int .i64 0, .int .i64 0], .agg #[.string { data := #[110, 111, 116, 104, 105, 110, 103] }, .string { data := #[] }, .string { data := #[] }], .agg #[.int .i64 1, .int .i64 0], .agg #[.string { data := #[112, 97, 117, 115, 101] }, .string { data := #[] }, .string { data := #[] }], .agg #[.int .i64 2, .int .i64 0], .agg #[.string { data := #[104, 97, 108, 116] }, .string { data := #[] }, .string { data := #[] }], .agg #[.int .i64 5, .int .i64 0], .agg #[.string { data := #[40] }, .string { data := #[59, 32] }, .string { data := #[41] }], .agg #[.int .i64 6, .int .i64 0], .agg #[.string { data := #[40] }, .string { data := #[32, 124, 32] }, .string { data := #[41] }], undef, undef, undef, undef, undef, undef, undef, undef, undef, undef, undef, undef, undef, undef, undef, undef, undef, undef, undef, undef, undef, undef, undef, undef, undef, undef, undef, undef, undef, undef, undef, undef, undef, undef, undef, undef, undef, undef], defers := [] }
set_option maxRecDepth 100000 in
set_option maxHeartbeats 4000000 in
theorem phr_tower {Q : Exit → Act → World → Prop} {m : Nat} {w0 : World}
    (hend : ∀ W, PhrOf W m (setOf [⟨0, 0⟩, ⟨1, 0⟩, ⟨2, 0⟩, ⟨5, 0⟩, ⟨6, 0⟩]) → KeptT [m] w0 W → wpAnyH Tryz.prog .any phrOps Q (fun _ => True) 2 #[true, true, true, true, true, true, true, true, true, true, true, true, true, true, true, true, false, false] (phrAct m) W) :
    ∀ W, PhrOf W m (setOf []) → KeptT [m] w0 W → wpAnyH Tryz.prog .any phrOps Q (fun _ => True) 7 #[true, true, true, false, true, true, false, true, true, false, true, true, false, true, true, false, false, false] (phrAct m) W := by
  have H11111 := hend
  have H11110 : ∀ W, PhrOf W m (setOf [⟨0, 0⟩, ⟨1, 0⟩, ⟨2, 0⟩, ⟨5, 0⟩]) → KeptT [m] w0 W → wpAnyH Tryz.prog .any phrOps Q (fun _ => True) 3 #[true, true, true, true, true, true, true, true, true, true, true, true, true, true, true, false, false, false] (phrAct m) W := fun W hM hK0 => by
    refine wpAnyH_ready (rs := [15]) (by kernel_rfl) (by simp) ?_
    refine AllReadyH.cons (o := { dst := none, op := Go.Op.insert 63 (Go.Operand.tmp 4) (Go.Operand.tmp 13) (Go.Operand.tmp 14), type := 0, pos := "text.go:34", after := #[{ on := 0, ground := Go.Ground.data }, { on := 13, ground := Go.Ground.data }, { on := 14, ground := Go.Ground.data }], guard := none }) rfl (fun K hK => ?_) ?_
    · obtain ⟨W1, hr, hM1, hg⟩ := put_node hM (⟨6, 0⟩ : NodeD) (by decide)
      have hr1 : (Instr.mapUpdate 63 (.map (some m)) (.agg #[.int .i64 6, .int .i64 0]) (.agg #[.string { data := #[40] }, .string { data := #[32, 124, 32] }, .string { data := #[41] }])).run Tryz.prog W = .ok () W1 := hr
      clear hr
      simp only [phrAct]
      go_simp
      exact hK.out _ _ trivial (fun _ => wpAnyH_listed (by kernel_rfl) rfl (H11111 W1 (hM1.put (fun y => by simp only [setOf, List.any_cons, List.any_nil, Bool.or_false]; try (generalize eqN y ⟨0, 0⟩ = b0; generalize eqN y ⟨1, 0⟩ = b1; generalize eqN y ⟨2, 0⟩ = b2; generalize eqN y ⟨5, 0⟩ = b3; generalize eqN y ⟨6, 0⟩ = b4; revert b0 b1 b2 b3 b4; decide))) (hK0.trans (KeptT.grown hg (fun b e => by injection e with e; simp [e])))))
    exact AllReadyH.nil
  have H11101 : ∀ W, PhrOf W m (setOf [⟨0, 0⟩, ⟨1, 0⟩, ⟨2, 0⟩, ⟨6, 0⟩]) → KeptT [m] w0 W → wpAnyH Tryz.prog .any phrOps Q (fun _ => True) 3 #[true, true, true, true, true, true, true, true, true, true, true, true, false, true, true, true, false, false] (phrAct m) W := fun W hM hK0 => by
    refine wpAnyH_ready (rs := [12]) (by kernel_rfl) (by simp) ?_
    refine AllReadyH.cons (o := { dst := none, op := Go.Op.insert 63 (Go.Operand.tmp 4) (Go.Operand.tmp 11) (Go.Operand.tmp 12), type := 0, pos := "text.go:34", after := #[{ on := 0, ground := Go.Ground.data }, { on := 10, ground := Go.Ground.data }, { on := 11, ground := Go.Ground.data }], guard := none }) rfl (fun K hK => ?_) ?_
    · obtain ⟨W1, hr, hM1, hg⟩ := put_node hM (⟨5, 0⟩ : NodeD) (by decide)
      have hr1 : (Instr.mapUpdate 63 (.map (some m)) (.agg #[.int .i64 5, .int .i64 0]) (.agg #[.string { data := #[40] }, .string { data := #[59, 32] }, .string { data := #[41] }])).run Tryz.prog W = .ok () W1 := hr
      clear hr
      simp only [phrAct]
      go_simp
      exact hK.out _ _ trivial (fun _ => wpAnyH_listed (by kernel_rfl) rfl (H11111 W1 (hM1.put (fun y => by simp only [setOf, List.any_cons, List.any_nil, Bool.or_false]; try (generalize eqN y ⟨0, 0⟩ = b0; generalize eqN y ⟨1, 0⟩ = b1; generalize eqN y ⟨2, 0⟩ = b2; generalize eqN y ⟨5, 0⟩ = b3; generalize eqN y ⟨6, 0⟩ = b4; revert b0 b1 b2 b3 b4; decide))) (hK0.trans (KeptT.grown hg (fun b e => by injection e with e; simp [e])))))
    exact AllReadyH.nil
  have H11011 : ∀ W, PhrOf W m (setOf [⟨0, 0⟩, ⟨1, 0⟩, ⟨5, 0⟩, ⟨6, 0⟩]) → KeptT [m] w0 W → wpAnyH Tryz.prog .any phrOps Q (fun _ => True) 3 #[true, true, true, true, true, true, true, true, true, false, true, true, true, true, true, true, false, false] (phrAct m) W := fun W hM hK0 => by
    refine wpAnyH_ready (rs := [9]) (by kernel_rfl) (by simp) ?_
    refine AllReadyH.cons (o := { dst := none, op := Go.Op.insert 63 (Go.Operand.tmp 4) (Go.Operand.tmp 9) (Go.Operand.tmp 10), type := 0, pos := "text.go:34", after := #[{ on := 0, ground := Go.Ground.data }, { on := 7, ground := Go.Ground.data }, { on := 8, ground := Go.Ground.data }], guard := none }) rfl (fun K hK => ?_) ?_
    · obtain ⟨W1, hr, hM1, hg⟩ := put_node hM (⟨2, 0⟩ : NodeD) (by decide)
      have hr1 : (Instr.mapUpdate 63 (.map (some m)) (.agg #[.int .i64 2, .int .i64 0]) (.agg #[.string { data := #[104, 97, 108, 116] }, .string { data := #[] }, .string { data := #[] }])).run Tryz.prog W = .ok () W1 := hr
      clear hr
      simp only [phrAct]
      go_simp
      exact hK.out _ _ trivial (fun _ => wpAnyH_listed (by kernel_rfl) rfl (H11111 W1 (hM1.put (fun y => by simp only [setOf, List.any_cons, List.any_nil, Bool.or_false]; try (generalize eqN y ⟨0, 0⟩ = b0; generalize eqN y ⟨1, 0⟩ = b1; generalize eqN y ⟨2, 0⟩ = b2; generalize eqN y ⟨5, 0⟩ = b3; generalize eqN y ⟨6, 0⟩ = b4; revert b0 b1 b2 b3 b4; decide))) (hK0.trans (KeptT.grown hg (fun b e => by injection e with e; simp [e])))))
    exact AllReadyH.nil
  have H10111 : ∀ W, PhrOf W m (setOf [⟨0, 0⟩, ⟨2, 0⟩, ⟨5, 0⟩, ⟨6, 0⟩]) → KeptT [m] w0 W → wpAnyH Tryz.prog .any phrOps Q (fun _ => True) 3 #[true, true, true, true, true, true, false, true, true, true, true, true, true, true, true, true, false, false] (phrAct m) W := fun W hM hK0 => by
    refine wpAnyH_ready (rs := [6]) (by kernel_rfl) (by simp) ?_
    refine AllReadyH.cons (o := { dst := none, op := Go.Op.insert 63 (Go.Operand.tmp 4) (Go.Operand.tmp 7) (Go.Operand.tmp 8), type := 0, pos := "text.go:34", after := #[{ on := 0, ground := Go.Ground.data }, { on := 4, ground := Go.Ground.data }, { on := 5, ground := Go.Ground.data }], guard := none }) rfl (fun K hK => ?_) ?_
    · obtain ⟨W1, hr, hM1, hg⟩ := put_node hM (⟨1, 0⟩ : NodeD) (by decide)
      have hr1 : (Instr.mapUpdate 63 (.map (some m)) (.agg #[.int .i64 1, .int .i64 0]) (.agg #[.string { data := #[112, 97, 117, 115, 101] }, .string { data := #[] }, .string { data := #[] }])).run Tryz.prog W = .ok () W1 := hr
      clear hr
      simp only [phrAct]
      go_simp
      exact hK.out _ _ trivial (fun _ => wpAnyH_listed (by kernel_rfl) rfl (H11111 W1 (hM1.put (fun y => by simp only [setOf, List.any_cons, List.any_nil, Bool.or_false]; try (generalize eqN y ⟨0, 0⟩ = b0; generalize eqN y ⟨1, 0⟩ = b1; generalize eqN y ⟨2, 0⟩ = b2; generalize eqN y ⟨5, 0⟩ = b3; generalize eqN y ⟨6, 0⟩ = b4; revert b0 b1 b2 b3 b4; decide))) (hK0.trans (KeptT.grown hg (fun b e => by injection e with e; simp [e])))))
    exact AllReadyH.nil
  have H01111 : ∀ W, PhrOf W m (setOf [⟨1, 0⟩, ⟨2, 0⟩, ⟨5, 0⟩, ⟨6, 0⟩]) → KeptT [m] w0 W → wpAnyH Tryz.prog .any phrOps Q (fun _ => True) 3 #[true, true, true, false, true, true, true, true, true, true, true, true, true, true, true, true, false, false] (phrAct m) W := fun W hM hK0 => by
    refine wpAnyH_ready (rs := [3]) (by kernel_rfl) (by simp) ?_
    refine AllReadyH.cons (o := { dst := none, op := Go.Op.insert 63 (Go.Operand.tmp 4) (Go.Operand.tmp 5) (Go.Operand.tmp 6), type := 0, pos := "text.go:34", after := #[{ on := 0, ground := Go.Ground.data }, { on := 1, ground := Go.Ground.data }, { on := 2, ground := Go.Ground.data }], guard := none }) rfl (fun K hK => ?_) ?_
    · obtain ⟨W1, hr, hM1, hg⟩ := put_node hM (⟨0, 0⟩ : NodeD) (by decide)
      have hr1 : (Instr.mapUpdate 63 (.map (some m)) (.agg #[.int .i64 0, .int .i64 0]) (.agg #[.string { data := #[110, 111, 116, 104, 105, 110, 103] }, .string { data := #[] }, .string { data := #[] }])).run Tryz.prog W = .ok () W1 := hr
      clear hr
      simp only [phrAct]
      go_simp
      exact hK.out _ _ trivial (fun _ => wpAnyH_listed (by kernel_rfl) rfl (H11111 W1 (hM1.put (fun y => by simp only [setOf, List.any_cons, List.any_nil, Bool.or_false]; try (generalize eqN y ⟨0, 0⟩ = b0; generalize eqN y ⟨1, 0⟩ = b1; generalize eqN y ⟨2, 0⟩ = b2; generalize eqN y ⟨5, 0⟩ = b3; generalize eqN y ⟨6, 0⟩ = b4; revert b0 b1 b2 b3 b4; decide))) (hK0.trans (KeptT.grown hg (fun b e => by injection e with e; simp [e])))))
    exact AllReadyH.nil
  have H11100 : ∀ W, PhrOf W m (setOf [⟨0, 0⟩, ⟨1, 0⟩, ⟨2, 0⟩]) → KeptT [m] w0 W → wpAnyH Tryz.prog .any phrOps Q (fun _ => True) 4 #[true, true, true, true, true, true, true, true, true, true, true, true, false, true, true, false, false, false] (phrAct m) W := fun W hM hK0 => by
    refine wpAnyH_ready (rs := [12, 15]) (by kernel_rfl) (by simp) ?_
    refine AllReadyH.cons (o := { dst := none, op := Go.Op.insert 63 (Go.Operand.tmp 4) (Go.Operand.tmp 11) (Go.Operand.tmp 12), type := 0, pos := "text.go:34", after := #[{ on := 0, ground := Go.Ground.data }, { on := 10, ground := Go.Ground.data }, { on := 11, ground := Go.Ground.data }], guard := none }) rfl (fun K hK => ?_) ?_
    · obtain ⟨W1, hr, hM1, hg⟩ := put_node hM (⟨5, 0⟩ : NodeD) (by decide)
      have hr1 : (Instr.mapUpdate 63 (.map (some m)) (.agg #[.int .i64 5, .int .i64 0]) (.agg #[.string { data := #[40] }, .string { data := #[59, 32] }, .string { data := #[41] }])).run Tryz.prog W = .ok () W1 := hr
      clear hr
      simp only [phrAct]
      go_simp
      exact hK.out _ _ trivial (fun _ => wpAnyH_listed (by kernel_rfl) rfl (H11110 W1 (hM1.put (fun y => by simp only [setOf, List.any_cons, List.any_nil, Bool.or_false]; try (generalize eqN y ⟨0, 0⟩ = b0; generalize eqN y ⟨1, 0⟩ = b1; generalize eqN y ⟨2, 0⟩ = b2; generalize eqN y ⟨5, 0⟩ = b3; generalize eqN y ⟨6, 0⟩ = b4; revert b0 b1 b2 b3 b4; decide))) (hK0.trans (KeptT.grown hg (fun b e => by injection e with e; simp [e])))))
    refine AllReadyH.cons (o := { dst := none, op := Go.Op.insert 63 (Go.Operand.tmp 4) (Go.Operand.tmp 13) (Go.Operand.tmp 14), type := 0, pos := "text.go:34", after := #[{ on := 0, ground := Go.Ground.data }, { on := 13, ground := Go.Ground.data }, { on := 14, ground := Go.Ground.data }], guard := none }) rfl (fun K hK => ?_) ?_
    · obtain ⟨W1, hr, hM1, hg⟩ := put_node hM (⟨6, 0⟩ : NodeD) (by decide)
      have hr1 : (Instr.mapUpdate 63 (.map (some m)) (.agg #[.int .i64 6, .int .i64 0]) (.agg #[.string { data := #[40] }, .string { data := #[32, 124, 32] }, .string { data := #[41] }])).run Tryz.prog W = .ok () W1 := hr
      clear hr
      simp only [phrAct]
      go_simp
      exact hK.out _ _ trivial (fun _ => wpAnyH_listed (by kernel_rfl) rfl (H11101 W1 (hM1.put (fun y => by simp only [setOf, List.any_cons, List.any_nil, Bool.or_false]; try (generalize eqN y ⟨0, 0⟩ = b0; generalize eqN y ⟨1, 0⟩ = b1; generalize eqN y ⟨2, 0⟩ = b2; generalize eqN y ⟨5, 0⟩ = b3; generalize eqN y ⟨6, 0⟩ = b4; revert b0 b1 b2 b3 b4; decide))) (hK0.trans (KeptT.grown hg (fun b e => by injection e with e; simp [e])))))
    exact AllReadyH.nil
  have H11010 : ∀ W, PhrOf W m (setOf [⟨0, 0⟩, ⟨1, 0⟩, ⟨5, 0⟩]) → KeptT [m] w0 W → wpAnyH Tryz.prog .any phrOps Q (fun _ => True) 4 #[true, true, true, true, true, true, true, true, true, false, true, true, true, true, true, false, false, false] (phrAct m) W := fun W hM hK0 => by
    refine wpAnyH_ready (rs := [9, 15]) (by kernel_rfl) (by simp) ?_
    refine AllReadyH.cons (o := { dst := none, op := Go.Op.insert 63 (Go.Operand.tmp 4) (Go.Operand.tmp 9) (Go.Operand.tmp 10), type := 0, pos := "text.go:34", after := #[{ on := 0, ground := Go.Ground.data }, { on := 7, ground := Go.Ground.data }, { on := 8, ground := Go.Ground.data }], guard := none }) rfl (fun K hK => ?_) ?_
    · obtain ⟨W1, hr, hM1, hg⟩ := put_node hM (⟨2, 0⟩ : NodeD) (by decide)
      have hr1 : (Instr.mapUpdate 63 (.map (some m)) (.agg #[.int .i64 2, .int .i64 0]) (.agg #[.string { data := #[104, 97, 108, 116] }, .string { data := #[] }, .string { data := #[] }])).run Tryz.prog W = .ok () W1 := hr
      clear hr
      simp only [phrAct]
      go_simp
      exact hK.out _ _ trivial (fun _ => wpAnyH_listed (by kernel_rfl) rfl (H11110 W1 (hM1.put (fun y => by simp only [setOf, List.any_cons, List.any_nil, Bool.or_false]; try (generalize eqN y ⟨0, 0⟩ = b0; generalize eqN y ⟨1, 0⟩ = b1; generalize eqN y ⟨2, 0⟩ = b2; generalize eqN y ⟨5, 0⟩ = b3; generalize eqN y ⟨6, 0⟩ = b4; revert b0 b1 b2 b3 b4; decide))) (hK0.trans (KeptT.grown hg (fun b e => by injection e with e; simp [e])))))
    refine AllReadyH.cons (o := { dst := none, op := Go.Op.insert 63 (Go.Operand.tmp 4) (Go.Operand.tmp 13) (Go.Operand.tmp 14), type := 0, pos := "text.go:34", after := #[{ on := 0, ground := Go.Ground.data }, { on := 13, ground := Go.Ground.data }, { on := 14, ground := Go.Ground.data }], guard := none }) rfl (fun K hK => ?_) ?_
    · obtain ⟨W1, hr, hM1, hg⟩ := put_node hM (⟨6, 0⟩ : NodeD) (by decide)
      have hr1 : (Instr.mapUpdate 63 (.map (some m)) (.agg #[.int .i64 6, .int .i64 0]) (.agg #[.string { data := #[40] }, .string { data := #[32, 124, 32] }, .string { data := #[41] }])).run Tryz.prog W = .ok () W1 := hr
      clear hr
      simp only [phrAct]
      go_simp
      exact hK.out _ _ trivial (fun _ => wpAnyH_listed (by kernel_rfl) rfl (H11011 W1 (hM1.put (fun y => by simp only [setOf, List.any_cons, List.any_nil, Bool.or_false]; try (generalize eqN y ⟨0, 0⟩ = b0; generalize eqN y ⟨1, 0⟩ = b1; generalize eqN y ⟨2, 0⟩ = b2; generalize eqN y ⟨5, 0⟩ = b3; generalize eqN y ⟨6, 0⟩ = b4; revert b0 b1 b2 b3 b4; decide))) (hK0.trans (KeptT.grown hg (fun b e => by injection e with e; simp [e])))))
    exact AllReadyH.nil
  have H11001 : ∀ W, PhrOf W m (setOf [⟨0, 0⟩, ⟨1, 0⟩, ⟨6, 0⟩]) → KeptT [m] w0 W → wpAnyH Tryz.prog .any phrOps Q (fun _ => True) 4 #[true, true, true, true, true, true, true, true, true, false, true, true, false, true, true, true, false, false] (phrAct m) W := fun W hM hK0 => by
    refine wpAnyH_ready (rs := [9, 12]) (by kernel_rfl) (by simp) ?_
    refine AllReadyH.cons (o := { dst := none, op := Go.Op.insert 63 (Go.Operand.tmp 4) (Go.Operand.tmp 9) (Go.Operand.tmp 10), type := 0, pos := "text.go:34", after := #[{ on := 0, ground := Go.Ground.data }, { on := 7, ground := Go.Ground.data }, { on := 8, ground := Go.Ground.data }], guard := none }) rfl (fun K hK => ?_) ?_
    · obtain ⟨W1, hr, hM1, hg⟩ := put_node hM (⟨2, 0⟩ : NodeD) (by decide)
      have hr1 : (Instr.mapUpdate 63 (.map (some m)) (.agg #[.int .i64 2, .int .i64 0]) (.agg #[.string { data := #[104, 97, 108, 116] }, .string { data := #[] }, .string { data := #[] }])).run Tryz.prog W = .ok () W1 := hr
      clear hr
      simp only [phrAct]
      go_simp
      exact hK.out _ _ trivial (fun _ => wpAnyH_listed (by kernel_rfl) rfl (H11101 W1 (hM1.put (fun y => by simp only [setOf, List.any_cons, List.any_nil, Bool.or_false]; try (generalize eqN y ⟨0, 0⟩ = b0; generalize eqN y ⟨1, 0⟩ = b1; generalize eqN y ⟨2, 0⟩ = b2; generalize eqN y ⟨5, 0⟩ = b3; generalize eqN y ⟨6, 0⟩ = b4; revert b0 b1 b2 b3 b4; decide))) (hK0.trans (KeptT.grown hg (fun b e => by injection e with e; simp [e])))))
    refine AllReadyH.cons (o := { dst := none, op := Go.Op.insert 63 (Go.Operand.tmp 4) (Go.Operand.tmp 11) (Go.Operand.tmp 12), type := 0, pos := "text.go:34", after := #[{ on := 0, ground := Go.Ground.data }, { on := 10, ground := Go.Ground.data }, { on := 11, ground := Go.Ground.data }], guard := none }) rfl (fun K hK => ?_) ?_
    · obtain ⟨W1, hr, hM1, hg⟩ := put_node hM (⟨5, 0⟩ : NodeD) (by decide)
      have hr1 : (Instr.mapUpdate 63 (.map (some m)) (.agg #[.int .i64 5, .int .i64 0]) (.agg #[.string { data := #[40] }, .string { data := #[59, 32] }, .string { data := #[41] }])).run Tryz.prog W = .ok () W1 := hr
      clear hr
      simp only [phrAct]
      go_simp
      exact hK.out _ _ trivial (fun _ => wpAnyH_listed (by kernel_rfl) rfl (H11011 W1 (hM1.put (fun y => by simp only [setOf, List.any_cons, List.any_nil, Bool.or_false]; try (generalize eqN y ⟨0, 0⟩ = b0; generalize eqN y ⟨1, 0⟩ = b1; generalize eqN y ⟨2, 0⟩ = b2; generalize eqN y ⟨5, 0⟩ = b3; generalize eqN y ⟨6, 0⟩ = b4; revert b0 b1 b2 b3 b4; decide))) (hK0.trans (KeptT.grown hg (fun b e => by injection e with e; simp [e])))))
    exact AllReadyH.nil
  have H10110 : ∀ W, PhrOf W m (setOf [⟨0, 0⟩, ⟨2, 0⟩, ⟨5, 0⟩]) → KeptT [m] w0 W → wpAnyH Tryz.prog .any phrOps Q (fun _ => True) 4 #[true, true, true, true, true, true, false, true, true, true, true, true, true, true, true, false, false, false] (phrAct m) W := fun W hM hK0 => by
    refine wpAnyH_ready (rs := [6, 15]) (by kernel_rfl) (by simp) ?_
    refine AllReadyH.cons (o := { dst := none, op := Go.Op.insert 63 (Go.Operand.tmp 4) (Go.Operand.tmp 7) (Go.Operand.tmp 8), type := 0, pos := "text.go:34", after := #[{ on := 0, ground := Go.Ground.data }, { on := 4, ground := Go.Ground.data }, { on := 5, ground := Go.Ground.data }], guard := none }) rfl (fun K hK => ?_) ?_
    · obtain ⟨W1, hr, hM1, hg⟩ := put_node hM (⟨1, 0⟩ : NodeD) (by decide)
      have hr1 : (Instr.mapUpdate 63 (.map (some m)) (.agg #[.int .i64 1, .int .i64 0]) (.agg #[.string { data := #[112, 97, 117, 115, 101] }, .string { data := #[] }, .string { data := #[] }])).run Tryz.prog W = .ok () W1 := hr
      clear hr
      simp only [phrAct]
      go_simp
      exact hK.out _ _ trivial (fun _ => wpAnyH_listed (by kernel_rfl) rfl (H11110 W1 (hM1.put (fun y => by simp only [setOf, List.any_cons, List.any_nil, Bool.or_false]; try (generalize eqN y ⟨0, 0⟩ = b0; generalize eqN y ⟨1, 0⟩ = b1; generalize eqN y ⟨2, 0⟩ = b2; generalize eqN y ⟨5, 0⟩ = b3; generalize eqN y ⟨6, 0⟩ = b4; revert b0 b1 b2 b3 b4; decide))) (hK0.trans (KeptT.grown hg (fun b e => by injection e with e; simp [e])))))
    refine AllReadyH.cons (o := { dst := none, op := Go.Op.insert 63 (Go.Operand.tmp 4) (Go.Operand.tmp 13) (Go.Operand.tmp 14), type := 0, pos := "text.go:34", after := #[{ on := 0, ground := Go.Ground.data }, { on := 13, ground := Go.Ground.data }, { on := 14, ground := Go.Ground.data }], guard := none }) rfl (fun K hK => ?_) ?_
    · obtain ⟨W1, hr, hM1, hg⟩ := put_node hM (⟨6, 0⟩ : NodeD) (by decide)
      have hr1 : (Instr.mapUpdate 63 (.map (some m)) (.agg #[.int .i64 6, .int .i64 0]) (.agg #[.string { data := #[40] }, .string { data := #[32, 124, 32] }, .string { data := #[41] }])).run Tryz.prog W = .ok () W1 := hr
      clear hr
      simp only [phrAct]
      go_simp
      exact hK.out _ _ trivial (fun _ => wpAnyH_listed (by kernel_rfl) rfl (H10111 W1 (hM1.put (fun y => by simp only [setOf, List.any_cons, List.any_nil, Bool.or_false]; try (generalize eqN y ⟨0, 0⟩ = b0; generalize eqN y ⟨1, 0⟩ = b1; generalize eqN y ⟨2, 0⟩ = b2; generalize eqN y ⟨5, 0⟩ = b3; generalize eqN y ⟨6, 0⟩ = b4; revert b0 b1 b2 b3 b4; decide))) (hK0.trans (KeptT.grown hg (fun b e => by injection e with e; simp [e])))))
    exact AllReadyH.nil
  have H10101 : ∀ W, PhrOf W m (setOf [⟨0, 0⟩, ⟨2, 0⟩, ⟨6, 0⟩]) → KeptT [m] w0 W → wpAnyH Tryz.prog .any phrOps Q (fun _ => True) 4 #[true, true, true, true, true, true, false, true, true, true, true, true, false, true, true, true, false, false] (phrAct m) W := fun W hM hK0 => by
    refine wpAnyH_ready (rs := [6, 12]) (by kernel_rfl) (by simp) ?_
    refine AllReadyH.cons (o := { dst := none, op := Go.Op.insert 63 (Go.Operand.tmp 4) (Go.Operand.tmp 7) (Go.Operand.tmp 8), type := 0, pos := "text.go:34", after := #[{ on := 0, ground := Go.Ground.data }, { on := 4, ground := Go.Ground.data }, { on := 5, ground := Go.Ground.data }], guard := none }) rfl (fun K hK => ?_) ?_
    · obtain ⟨W1, hr, hM1, hg⟩ := put_node hM (⟨1, 0⟩ : NodeD) (by decide)
      have hr1 : (Instr.mapUpdate 63 (.map (some m)) (.agg #[.int .i64 1, .int .i64 0]) (.agg #[.string { data := #[112, 97, 117, 115, 101] }, .string { data := #[] }, .string { data := #[] }])).run Tryz.prog W = .ok () W1 := hr
      clear hr
      simp only [phrAct]
      go_simp
      exact hK.out _ _ trivial (fun _ => wpAnyH_listed (by kernel_rfl) rfl (H11101 W1 (hM1.put (fun y => by simp only [setOf, List.any_cons, List.any_nil, Bool.or_false]; try (generalize eqN y ⟨0, 0⟩ = b0; generalize eqN y ⟨1, 0⟩ = b1; generalize eqN y ⟨2, 0⟩ = b2; generalize eqN y ⟨5, 0⟩ = b3; generalize eqN y ⟨6, 0⟩ = b4; revert b0 b1 b2 b3 b4; decide))) (hK0.trans (KeptT.grown hg (fun b e => by injection e with e; simp [e])))))
    refine AllReadyH.cons (o := { dst := none, op := Go.Op.insert 63 (Go.Operand.tmp 4) (Go.Operand.tmp 11) (Go.Operand.tmp 12), type := 0, pos := "text.go:34", after := #[{ on := 0, ground := Go.Ground.data }, { on := 10, ground := Go.Ground.data }, { on := 11, ground := Go.Ground.data }], guard := none }) rfl (fun K hK => ?_) ?_
    · obtain ⟨W1, hr, hM1, hg⟩ := put_node hM (⟨5, 0⟩ : NodeD) (by decide)
      have hr1 : (Instr.mapUpdate 63 (.map (some m)) (.agg #[.int .i64 5, .int .i64 0]) (.agg #[.string { data := #[40] }, .string { data := #[59, 32] }, .string { data := #[41] }])).run Tryz.prog W = .ok () W1 := hr
      clear hr
      simp only [phrAct]
      go_simp
      exact hK.out _ _ trivial (fun _ => wpAnyH_listed (by kernel_rfl) rfl (H10111 W1 (hM1.put (fun y => by simp only [setOf, List.any_cons, List.any_nil, Bool.or_false]; try (generalize eqN y ⟨0, 0⟩ = b0; generalize eqN y ⟨1, 0⟩ = b1; generalize eqN y ⟨2, 0⟩ = b2; generalize eqN y ⟨5, 0⟩ = b3; generalize eqN y ⟨6, 0⟩ = b4; revert b0 b1 b2 b3 b4; decide))) (hK0.trans (KeptT.grown hg (fun b e => by injection e with e; simp [e])))))
    exact AllReadyH.nil
  have H10011 : ∀ W, PhrOf W m (setOf [⟨0, 0⟩, ⟨5, 0⟩, ⟨6, 0⟩]) → KeptT [m] w0 W → wpAnyH Tryz.prog .any phrOps Q (fun _ => True) 4 #[true, true, true, true, true, true, false, true, true, false, true, true, true, true, true, true, false, false] (phrAct m) W := fun W hM hK0 => by
    refine wpAnyH_ready (rs := [6, 9]) (by kernel_rfl) (by simp) ?_
    refine AllReadyH.cons (o := { dst := none, op := Go.Op.insert 63 (Go.Operand.tmp 4) (Go.Operand.tmp 7) (Go.Operand.tmp 8), type := 0, pos := "text.go:34", after := #[{ on := 0, ground := Go.Ground.data }, { on := 4, ground := Go.Ground.data }, { on := 5, ground := Go.Ground.data }], guard := none }) rfl (fun K hK => ?_) ?_
    · obtain ⟨W1, hr, hM1, hg⟩ := put_node hM (⟨1, 0⟩ : NodeD) (by decide)
      have hr1 : (Instr.mapUpdate 63 (.map (some m)) (.agg #[.int .i64 1, .int .i64 0]) (.agg #[.string { data := #[112, 97, 117, 115, 101] }, .string { data := #[] }, .string { data := #[] }])).run Tryz.prog W = .ok () W1 := hr
      clear hr
      simp only [phrAct]
      go_simp
      exact hK.out _ _ trivial (fun _ => wpAnyH_listed (by kernel_rfl) rfl (H11011 W1 (hM1.put (fun y => by simp only [setOf, List.any_cons, List.any_nil, Bool.or_false]; try (generalize eqN y ⟨0, 0⟩ = b0; generalize eqN y ⟨1, 0⟩ = b1; generalize eqN y ⟨2, 0⟩ = b2; generalize eqN y ⟨5, 0⟩ = b3; generalize eqN y ⟨6, 0⟩ = b4; revert b0 b1 b2 b3 b4; decide))) (hK0.trans (KeptT.grown hg (fun b e => by injection e with e; simp [e])))))
    refine AllReadyH.cons (o := { dst := none, op := Go.Op.insert 63 (Go.Operand.tmp 4) (Go.Operand.tmp 9) (Go.Operand.tmp 10), type := 0, pos := "text.go:34", after := #[{ on := 0, ground := Go.Ground.data }, { on := 7, ground := Go.Ground.data }, { on := 8, ground := Go.Ground.data }], guard := none }) rfl (fun K hK => ?_) ?_
    · obtain ⟨W1, hr, hM1, hg⟩ := put_node hM (⟨2, 0⟩ : NodeD) (by decide)
      have hr1 : (Instr.mapUpdate 63 (.map (some m)) (.agg #[.int .i64 2, .int .i64 0]) (.agg #[.string { data := #[104, 97, 108, 116] }, .string { data := #[] }, .string { data := #[] }])).run Tryz.prog W = .ok () W1 := hr
      clear hr
      simp only [phrAct]
      go_simp
      exact hK.out _ _ trivial (fun _ => wpAnyH_listed (by kernel_rfl) rfl (H10111 W1 (hM1.put (fun y => by simp only [setOf, List.any_cons, List.any_nil, Bool.or_false]; try (generalize eqN y ⟨0, 0⟩ = b0; generalize eqN y ⟨1, 0⟩ = b1; generalize eqN y ⟨2, 0⟩ = b2; generalize eqN y ⟨5, 0⟩ = b3; generalize eqN y ⟨6, 0⟩ = b4; revert b0 b1 b2 b3 b4; decide))) (hK0.trans (KeptT.grown hg (fun b e => by injection e with e; simp [e])))))
    exact AllReadyH.nil
  have H01110 : ∀ W, PhrOf W m (setOf [⟨1, 0⟩, ⟨2, 0⟩, ⟨5, 0⟩]) → KeptT [m] w0 W → wpAnyH Tryz.prog .any phrOps Q (fun _ => True) 4 #[true, true, true, false, true, true, true, true, true, true, true, true, true, true, true, false, false, false] (phrAct m) W := fun W hM hK0 => by
    refine wpAnyH_ready (rs := [3, 15]) (by kernel_rfl) (by simp) ?_
    refine AllReadyH.cons (o := { dst := none, op := Go.Op.insert 63 (Go.Operand.tmp 4) (Go.Operand.tmp 5) (Go.Operand.tmp 6), type := 0, pos := "text.go:34", after := #[{ on := 0, ground := Go.Ground.data }, { on := 1, ground := Go.Ground.data }, { on := 2, ground := Go.Ground.data }], guard := none }) rfl (fun K hK => ?_) ?_
    · obtain ⟨W1, hr, hM1, hg⟩ := put_node hM (⟨0, 0⟩ : NodeD) (by decide)
      have hr1 : (Instr.mapUpdate 63 (.map (some m)) (.agg #[.int .i64 0, .int .i64 0]) (.agg #[.string { data := #[110, 111, 116, 104, 105, 110, 103] }, .string { data := #[] }, .string { data := #[] }])).run Tryz.prog W = .ok () W1 := hr
      clear hr
      simp only [phrAct]
      go_simp
      exact hK.out _ _ trivial (fun _ => wpAnyH_listed (by kernel_rfl) rfl (H11110 W1 (hM1.put (fun y => by simp only [setOf, List.any_cons, List.any_nil, Bool.or_false]; try (generalize eqN y ⟨0, 0⟩ = b0; generalize eqN y ⟨1, 0⟩ = b1; generalize eqN y ⟨2, 0⟩ = b2; generalize eqN y ⟨5, 0⟩ = b3; generalize eqN y ⟨6, 0⟩ = b4; revert b0 b1 b2 b3 b4; decide))) (hK0.trans (KeptT.grown hg (fun b e => by injection e with e; simp [e])))))
    refine AllReadyH.cons (o := { dst := none, op := Go.Op.insert 63 (Go.Operand.tmp 4) (Go.Operand.tmp 13) (Go.Operand.tmp 14), type := 0, pos := "text.go:34", after := #[{ on := 0, ground := Go.Ground.data }, { on := 13, ground := Go.Ground.data }, { on := 14, ground := Go.Ground.data }], guard := none }) rfl (fun K hK => ?_) ?_
    · obtain ⟨W1, hr, hM1, hg⟩ := put_node hM (⟨6, 0⟩ : NodeD) (by decide)
      have hr1 : (Instr.mapUpdate 63 (.map (some m)) (.agg #[.int .i64 6, .int .i64 0]) (.agg #[.string { data := #[40] }, .string { data := #[32, 124, 32] }, .string { data := #[41] }])).run Tryz.prog W = .ok () W1 := hr
      clear hr
      simp only [phrAct]
      go_simp
      exact hK.out _ _ trivial (fun _ => wpAnyH_listed (by kernel_rfl) rfl (H01111 W1 (hM1.put (fun y => by simp only [setOf, List.any_cons, List.any_nil, Bool.or_false]; try (generalize eqN y ⟨0, 0⟩ = b0; generalize eqN y ⟨1, 0⟩ = b1; generalize eqN y ⟨2, 0⟩ = b2; generalize eqN y ⟨5, 0⟩ = b3; generalize eqN y ⟨6, 0⟩ = b4; revert b0 b1 b2 b3 b4; decide))) (hK0.trans (KeptT.grown hg (fun b e => by injection e with e; simp [e])))))
    exact AllReadyH.nil
  have H01101 : ∀ W, PhrOf W m (setOf [⟨1, 0⟩, ⟨2, 0⟩, ⟨6, 0⟩]) → KeptT [m] w0 W → wpAnyH Tryz.prog .any phrOps Q (fun _ => True) 4 #[true, true, true, false, true, true, true, true, true, true, true, true, false, true, true, true, false, false] (phrAct m) W := fun W hM hK0 => by
    refine wpAnyH_ready (rs := [3, 12]) (by kernel_rfl) (by simp) ?_
    refine AllReadyH.cons (o := { dst := none, op := Go.Op.insert 63 (Go.Operand.tmp 4) (Go.Operand.tmp 5) (Go.Operand.tmp 6), type := 0, pos := "text.go:34", after := #[{ on := 0, ground := Go.Ground.data }, { on := 1, ground := Go.Ground.data }, { on := 2, ground := Go.Ground.data }], guard := none }) rfl (fun K hK => ?_) ?_
    · obtain ⟨W1, hr, hM1, hg⟩ := put_node hM (⟨0, 0⟩ : NodeD) (by decide)
      have hr1 : (Instr.mapUpdate 63 (.map (some m)) (.agg #[.int .i64 0, .int .i64 0]) (.agg #[.string { data := #[110, 111, 116, 104, 105, 110, 103] }, .string { data := #[] }, .string { data := #[] }])).run Tryz.prog W = .ok () W1 := hr
      clear hr
      simp only [phrAct]
      go_simp
      exact hK.out _ _ trivial (fun _ => wpAnyH_listed (by kernel_rfl) rfl (H11101 W1 (hM1.put (fun y => by simp only [setOf, List.any_cons, List.any_nil, Bool.or_false]; try (generalize eqN y ⟨0, 0⟩ = b0; generalize eqN y ⟨1, 0⟩ = b1; generalize eqN y ⟨2, 0⟩ = b2; generalize eqN y ⟨5, 0⟩ = b3; generalize eqN y ⟨6, 0⟩ = b4; revert b0 b1 b2 b3 b4; decide))) (hK0.trans (KeptT.grown hg (fun b e => by injection e with e; simp [e])))))
    refine AllReadyH.cons (o := { dst := none, op := Go.Op.insert 63 (Go.Operand.tmp 4) (Go.Operand.tmp 11) (Go.Operand.tmp 12), type := 0, pos := "text.go:34", after := #[{ on := 0, ground := Go.Ground.data }, { on := 10, ground := Go.Ground.data }, { on := 11, ground := Go.Ground.data }], guard := none }) rfl (fun K hK => ?_) ?_
    · obtain ⟨W1, hr, hM1, hg⟩ := put_node hM (⟨5, 0⟩ : NodeD) (by decide)
      have hr1 : (Instr.mapUpdate 63 (.map (some m)) (.agg #[.int .i64 5, .int .i64 0]) (.agg #[.string { data := #[40] }, .string { data := #[59, 32] }, .string { data := #[41] }])).run Tryz.prog W = .ok () W1 := hr
      clear hr
      simp only [phrAct]
      go_simp
      exact hK.out _ _ trivial (fun _ => wpAnyH_listed (by kernel_rfl) rfl (H01111 W1 (hM1.put (fun y => by simp only [setOf, List.any_cons, List.any_nil, Bool.or_false]; try (generalize eqN y ⟨0, 0⟩ = b0; generalize eqN y ⟨1, 0⟩ = b1; generalize eqN y ⟨2, 0⟩ = b2; generalize eqN y ⟨5, 0⟩ = b3; generalize eqN y ⟨6, 0⟩ = b4; revert b0 b1 b2 b3 b4; decide))) (hK0.trans (KeptT.grown hg (fun b e => by injection e with e; simp [e])))))
    exact AllReadyH.nil
  have H01011 : ∀ W, PhrOf W m (setOf [⟨1, 0⟩, ⟨5, 0⟩, ⟨6, 0⟩]) → KeptT [m] w0 W → wpAnyH Tryz.prog .any phrOps Q (fun _ => True) 4 #[true, true, true, false, true, true, true, true, true, false, true, true, true, true, true, true, false, false] (phrAct m) W := fun W hM hK0 => by
    refine wpAnyH_ready (rs := [3, 9]) (by kernel_rfl) (by simp) ?_
    refine AllReadyH.cons (o := { dst := none, op := Go.Op.insert 63 (Go.Operand.tmp 4) (Go.Operand.tmp 5) (Go.Operand.tmp 6), type := 0, pos := "text.go:34", after := #[{ on := 0, ground := Go.Ground.data }, { on := 1, ground := Go.Ground.data }, { on := 2, ground := Go.Ground.data }], guard := none }) rfl (fun K hK => ?_) ?_
    · obtain ⟨W1, hr, hM1, hg⟩ := put_node hM (⟨0, 0⟩ : NodeD) (by decide)
      have hr1 : (Instr.mapUpdate 63 (.map (some m)) (.agg #[.int .i64 0, .int .i64 0]) (.agg #[.string { data := #[110, 111, 116, 104, 105, 110, 103] }, .string { data := #[] }, .string { data := #[] }])).run Tryz.prog W = .ok () W1 := hr
      clear hr
      simp only [phrAct]
      go_simp
      exact hK.out _ _ trivial (fun _ => wpAnyH_listed (by kernel_rfl) rfl (H11011 W1 (hM1.put (fun y => by simp only [setOf, List.any_cons, List.any_nil, Bool.or_false]; try (generalize eqN y ⟨0, 0⟩ = b0; generalize eqN y ⟨1, 0⟩ = b1; generalize eqN y ⟨2, 0⟩ = b2; generalize eqN y ⟨5, 0⟩ = b3; generalize eqN y ⟨6, 0⟩ = b4; revert b0 b1 b2 b3 b4; decide))) (hK0.trans (KeptT.grown hg (fun b e => by injection e with e; simp [e])))))
    refine AllReadyH.cons (o := { dst := none, op := Go.Op.insert 63 (Go.Operand.tmp 4) (Go.Operand.tmp 9) (Go.Operand.tmp 10), type := 0, pos := "text.go:34", after := #[{ on := 0, ground := Go.Ground.data }, { on := 7, ground := Go.Ground.data }, { on := 8, ground := Go.Ground.data }], guard := none }) rfl (fun K hK => ?_) ?_
    · obtain ⟨W1, hr, hM1, hg⟩ := put_node hM (⟨2, 0⟩ : NodeD) (by decide)
      have hr1 : (Instr.mapUpdate 63 (.map (some m)) (.agg #[.int .i64 2, .int .i64 0]) (.agg #[.string { data := #[104, 97, 108, 116] }, .string { data := #[] }, .string { data := #[] }])).run Tryz.prog W = .ok () W1 := hr
      clear hr
      simp only [phrAct]
      go_simp
      exact hK.out _ _ trivial (fun _ => wpAnyH_listed (by kernel_rfl) rfl (H01111 W1 (hM1.put (fun y => by simp only [setOf, List.any_cons, List.any_nil, Bool.or_false]; try (generalize eqN y ⟨0, 0⟩ = b0; generalize eqN y ⟨1, 0⟩ = b1; generalize eqN y ⟨2, 0⟩ = b2; generalize eqN y ⟨5, 0⟩ = b3; generalize eqN y ⟨6, 0⟩ = b4; revert b0 b1 b2 b3 b4; decide))) (hK0.trans (KeptT.grown hg (fun b e => by injection e with e; simp [e])))))
    exact AllReadyH.nil
  have H00111 : ∀ W, PhrOf W m (setOf [⟨2, 0⟩, ⟨5, 0⟩, ⟨6, 0⟩]) → KeptT [m] w0 W → wpAnyH Tryz.prog .any phrOps Q (fun _ => True) 4 #[true, true, true, false, true, true, false, true, true, true, true, true, true, true, true, true, false, false] (phrAct m) W := fun W hM hK0 => by
    refine wpAnyH_ready (rs := [3, 6]) (by kernel_rfl) (by simp) ?_
    refine AllReadyH.cons (o := { dst := none, op := Go.Op.insert 63 (Go.Operand.tmp 4) (Go.Operand.tmp 5) (Go.Operand.tmp 6), type := 0, pos := "text.go:34", after := #[{ on := 0, ground := Go.Ground.data }, { on := 1, ground := Go.Ground.data }, { on := 2, ground := Go.Ground.data }], guard := none }) rfl (fun K hK => ?_) ?_
    · obtain ⟨W1, hr, hM1, hg⟩ := put_node hM (⟨0, 0⟩ : NodeD) (by decide)
      have hr1 : (Instr.mapUpdate 63 (.map (some m)) (.agg #[.int .i64 0, .int .i64 0]) (.agg #[.string { data := #[110, 111, 116, 104, 105, 110, 103] }, .string { data := #[] }, .string { data := #[] }])).run Tryz.prog W = .ok () W1 := hr
      clear hr
      simp only [phrAct]
      go_simp
      exact hK.out _ _ trivial (fun _ => wpAnyH_listed (by kernel_rfl) rfl (H10111 W1 (hM1.put (fun y => by simp only [setOf, List.any_cons, List.any_nil, Bool.or_false]; try (generalize eqN y ⟨0, 0⟩ = b0; generalize eqN y ⟨1, 0⟩ = b1; generalize eqN y ⟨2, 0⟩ = b2; generalize eqN y ⟨5, 0⟩ = b3; generalize eqN y ⟨6, 0⟩ = b4; revert b0 b1 b2 b3 b4; decide))) (hK0.trans (KeptT.grown hg (fun b e => by injection e with e; simp [e])))))
    refine AllReadyH.cons (o := { dst := none, op := Go.Op.insert 63 (Go.Operand.tmp 4) (Go.Operand.tmp 7) (Go.Operand.tmp 8), type := 0, pos := "text.go:34", after := #[{ on := 0, ground := Go.Ground.data }, { on := 4, ground := Go.Ground.data }, { on := 5, ground := Go.Ground.data }], guard := none }) rfl (fun K hK => ?_) ?_
    · obtain ⟨W1, hr, hM1, hg⟩ := put_node hM (⟨1, 0⟩ : NodeD) (by decide)
      have hr1 : (Instr.mapUpdate 63 (.map (some m)) (.agg #[.int .i64 1, .int .i64 0]) (.agg #[.string { data := #[112, 97, 117, 115, 101] }, .string { data := #[] }, .string { data := #[] }])).run Tryz.prog W = .ok () W1 := hr
      clear hr
      simp only [phrAct]
      go_simp
      exact hK.out _ _ trivial (fun _ => wpAnyH_listed (by kernel_rfl) rfl (H01111 W1 (hM1.put (fun y => by simp only [setOf, List.any_cons, List.any_nil, Bool.or_false]; try (generalize eqN y ⟨0, 0⟩ = b0; generalize eqN y ⟨1, 0⟩ = b1; generalize eqN y ⟨2, 0⟩ = b2; generalize eqN y ⟨5, 0⟩ = b3; generalize eqN y ⟨6, 0⟩ = b4; revert b0 b1 b2 b3 b4; decide))) (hK0.trans (KeptT.grown hg (fun b e => by injection e with e; simp [e])))))
    exact AllReadyH.nil
  have H11000 : ∀ W, PhrOf W m (setOf [⟨0, 0⟩, ⟨1, 0⟩]) → KeptT [m] w0 W → wpAnyH Tryz.prog .any phrOps Q (fun _ => True) 5 #[true, true, true, true, true, true, true, true, true, false, true, true, false, true, true, false, false, false] (phrAct m) W := fun W hM hK0 => by
    refine wpAnyH_ready (rs := [9, 12, 15]) (by kernel_rfl) (by simp) ?_
    refine AllReadyH.cons (o := { dst := none, op := Go.Op.insert 63 (Go.Operand.tmp 4) (Go.Operand.tmp 9) (Go.Operand.tmp 10), type := 0, pos := "text.go:34", after := #[{ on := 0, ground := Go.Ground.data }, { on := 7, ground := Go.Ground.data }, { on := 8, ground := Go.Ground.data }], guard := none }) rfl (fun K hK => ?_) ?_
    · obtain ⟨W1, hr, hM1, hg⟩ := put_node hM (⟨2, 0⟩ : NodeD) (by decide)
      have hr1 : (Instr.mapUpdate 63 (.map (some m)) (.agg #[.int .i64 2, .int .i64 0]) (.agg #[.string { data := #[104, 97, 108, 116] }, .string { data := #[] }, .string { data := #[] }])).run Tryz.prog W = .ok () W1 := hr
      clear hr
      simp only [phrAct]
      go_simp
      exact hK.out _ _ trivial (fun _ => wpAnyH_listed (by kernel_rfl) rfl (H11100 W1 (hM1.put (fun y => by simp only [setOf, List.any_cons, List.any_nil, Bool.or_false]; try (generalize eqN y ⟨0, 0⟩ = b0; generalize eqN y ⟨1, 0⟩ = b1; generalize eqN y ⟨2, 0⟩ = b2; generalize eqN y ⟨5, 0⟩ = b3; generalize eqN y ⟨6, 0⟩ = b4; revert b0 b1 b2 b3 b4; decide))) (hK0.trans (KeptT.grown hg (fun b e => by injection e with e; simp [e])))))
    refine AllReadyH.cons (o := { dst := none, op := Go.Op.insert 63 (Go.Operand.tmp 4) (Go.Operand.tmp 11) (Go.Operand.tmp 12), type := 0, pos := "text.go:34", after := #[{ on := 0, ground := Go.Ground.data }, { on := 10, ground := Go.Ground.data }, { on := 11, ground := Go.Ground.data }], guard := none }) rfl (fun K hK => ?_) ?_
    · obtain ⟨W1, hr, hM1, hg⟩ := put_node hM (⟨5, 0⟩ : NodeD) (by decide)
      have hr1 : (Instr.mapUpdate 63 (.map (some m)) (.agg #[.int .i64 5, .int .i64 0]) (.agg #[.string { data := #[40] }, .string { data := #[59, 32] }, .string { data := #[41] }])).run Tryz.prog W = .ok () W1 := hr
      clear hr
      simp only [phrAct]
      go_simp
      exact hK.out _ _ trivial (fun _ => wpAnyH_listed (by kernel_rfl) rfl (H11010 W1 (hM1.put (fun y => by simp only [setOf, List.any_cons, List.any_nil, Bool.or_false]; try (generalize eqN y ⟨0, 0⟩ = b0; generalize eqN y ⟨1, 0⟩ = b1; generalize eqN y ⟨2, 0⟩ = b2; generalize eqN y ⟨5, 0⟩ = b3; generalize eqN y ⟨6, 0⟩ = b4; revert b0 b1 b2 b3 b4; decide))) (hK0.trans (KeptT.grown hg (fun b e => by injection e with e; simp [e])))))
    refine AllReadyH.cons (o := { dst := none, op := Go.Op.insert 63 (Go.Operand.tmp 4) (Go.Operand.tmp 13) (Go.Operand.tmp 14), type := 0, pos := "text.go:34", after := #[{ on := 0, ground := Go.Ground.data }, { on := 13, ground := Go.Ground.data }, { on := 14, ground := Go.Ground.data }], guard := none }) rfl (fun K hK => ?_) ?_
    · obtain ⟨W1, hr, hM1, hg⟩ := put_node hM (⟨6, 0⟩ : NodeD) (by decide)
      have hr1 : (Instr.mapUpdate 63 (.map (some m)) (.agg #[.int .i64 6, .int .i64 0]) (.agg #[.string { data := #[40] }, .string { data := #[32, 124, 32] }, .string { data := #[41] }])).run Tryz.prog W = .ok () W1 := hr
      clear hr
      simp only [phrAct]
      go_simp
      exact hK.out _ _ trivial (fun _ => wpAnyH_listed (by kernel_rfl) rfl (H11001 W1 (hM1.put (fun y => by simp only [setOf, List.any_cons, List.any_nil, Bool.or_false]; try (generalize eqN y ⟨0, 0⟩ = b0; generalize eqN y ⟨1, 0⟩ = b1; generalize eqN y ⟨2, 0⟩ = b2; generalize eqN y ⟨5, 0⟩ = b3; generalize eqN y ⟨6, 0⟩ = b4; revert b0 b1 b2 b3 b4; decide))) (hK0.trans (KeptT.grown hg (fun b e => by injection e with e; simp [e])))))
    exact AllReadyH.nil
  have H10100 : ∀ W, PhrOf W m (setOf [⟨0, 0⟩, ⟨2, 0⟩]) → KeptT [m] w0 W → wpAnyH Tryz.prog .any phrOps Q (fun _ => True) 5 #[true, true, true, true, true, true, false, true, true, true, true, true, false, true, true, false, false, false] (phrAct m) W := fun W hM hK0 => by
    refine wpAnyH_ready (rs := [6, 12, 15]) (by kernel_rfl) (by simp) ?_
    refine AllReadyH.cons (o := { dst := none, op := Go.Op.insert 63 (Go.Operand.tmp 4) (Go.Operand.tmp 7) (Go.Operand.tmp 8), type := 0, pos := "text.go:34", after := #[{ on := 0, ground := Go.Ground.data }, { on := 4, ground := Go.Ground.data }, { on := 5, ground := Go.Ground.data }], guard := none }) rfl (fun K hK => ?_) ?_
    · obtain ⟨W1, hr, hM1, hg⟩ := put_node hM (⟨1, 0⟩ : NodeD) (by decide)
      have hr1 : (Instr.mapUpdate 63 (.map (some m)) (.agg #[.int .i64 1, .int .i64 0]) (.agg #[.string { data := #[112, 97, 117, 115, 101] }, .string { data := #[] }, .string { data := #[] }])).run Tryz.prog W = .ok () W1 := hr
      clear hr
      simp only [phrAct]
      go_simp
      exact hK.out _ _ trivial (fun _ => wpAnyH_listed (by kernel_rfl) rfl (H11100 W1 (hM1.put (fun y => by simp only [setOf, List.any_cons, List.any_nil, Bool.or_false]; try (generalize eqN y ⟨0, 0⟩ = b0; generalize eqN y ⟨1, 0⟩ = b1; generalize eqN y ⟨2, 0⟩ = b2; generalize eqN y ⟨5, 0⟩ = b3; generalize eqN y ⟨6, 0⟩ = b4; revert b0 b1 b2 b3 b4; decide))) (hK0.trans (KeptT.grown hg (fun b e => by injection e with e; simp [e])))))
    refine AllReadyH.cons (o := { dst := none, op := Go.Op.insert 63 (Go.Operand.tmp 4) (Go.Operand.tmp 11) (Go.Operand.tmp 12), type := 0, pos := "text.go:34", after := #[{ on := 0, ground := Go.Ground.data }, { on := 10, ground := Go.Ground.data }, { on := 11, ground := Go.Ground.data }], guard := none }) rfl (fun K hK => ?_) ?_
    · obtain ⟨W1, hr, hM1, hg⟩ := put_node hM (⟨5, 0⟩ : NodeD) (by decide)
      have hr1 : (Instr.mapUpdate 63 (.map (some m)) (.agg #[.int .i64 5, .int .i64 0]) (.agg #[.string { data := #[40] }, .string { data := #[59, 32] }, .string { data := #[41] }])).run Tryz.prog W = .ok () W1 := hr
      clear hr
      simp only [phrAct]
      go_simp
      exact hK.out _ _ trivial (fun _ => wpAnyH_listed (by kernel_rfl) rfl (H10110 W1 (hM1.put (fun y => by simp only [setOf, List.any_cons, List.any_nil, Bool.or_false]; try (generalize eqN y ⟨0, 0⟩ = b0; generalize eqN y ⟨1, 0⟩ = b1; generalize eqN y ⟨2, 0⟩ = b2; generalize eqN y ⟨5, 0⟩ = b3; generalize eqN y ⟨6, 0⟩ = b4; revert b0 b1 b2 b3 b4; decide))) (hK0.trans (KeptT.grown hg (fun b e => by injection e with e; simp [e])))))
    refine AllReadyH.cons (o := { dst := none, op := Go.Op.insert 63 (Go.Operand.tmp 4) (Go.Operand.tmp 13) (Go.Operand.tmp 14), type := 0, pos := "text.go:34", after := #[{ on := 0, ground := Go.Ground.data }, { on := 13, ground := Go.Ground.data }, { on := 14, ground := Go.Ground.data }], guard := none }) rfl (fun K hK => ?_) ?_
    · obtain ⟨W1, hr, hM1, hg⟩ := put_node hM (⟨6, 0⟩ : NodeD) (by decide)
      have hr1 : (Instr.mapUpdate 63 (.map (some m)) (.agg #[.int .i64 6, .int .i64 0]) (.agg #[.string { data := #[40] }, .string { data := #[32, 124, 32] }, .string { data := #[41] }])).run Tryz.prog W = .ok () W1 := hr
      clear hr
      simp only [phrAct]
      go_simp
      exact hK.out _ _ trivial (fun _ => wpAnyH_listed (by kernel_rfl) rfl (H10101 W1 (hM1.put (fun y => by simp only [setOf, List.any_cons, List.any_nil, Bool.or_false]; try (generalize eqN y ⟨0, 0⟩ = b0; generalize eqN y ⟨1, 0⟩ = b1; generalize eqN y ⟨2, 0⟩ = b2; generalize eqN y ⟨5, 0⟩ = b3; generalize eqN y ⟨6, 0⟩ = b4; revert b0 b1 b2 b3 b4; decide))) (hK0.trans (KeptT.grown hg (fun b e => by injection e with e; simp [e])))))
    exact AllReadyH.nil
  have H10010 : ∀ W, PhrOf W m (setOf [⟨0, 0⟩, ⟨5, 0⟩]) → KeptT [m] w0 W → wpAnyH Tryz.prog .any phrOps Q (fun _ => True) 5 #[true, true, true, true, true, true, false, true, true, false, true, true, true, true, true, false, false, false] (phrAct m) W := fun W hM hK0 => by
    refine wpAnyH_ready (rs := [6, 9, 15]) (by kernel_rfl) (by simp) ?_
    refine AllReadyH.cons (o := { dst := none, op := Go.Op.insert 63 (Go.Operand.tmp 4) (Go.Operand.tmp 7) (Go.Operand.tmp 8), type := 0, pos := "text.go:34", after := #[{ on := 0, ground := Go.Ground.data }, { on := 4, ground := Go.Ground.data }, { on := 5, ground := Go.Ground.data }], guard := none }) rfl (fun K hK => ?_) ?_
    · obtain ⟨W1, hr, hM1, hg⟩ := put_node hM (⟨1, 0⟩ : NodeD) (by decide)
      have hr1 : (Instr.mapUpdate 63 (.map (some m)) (.agg #[.int .i64 1, .int .i64 0]) (.agg #[.string { data := #[112, 97, 117, 115, 101] }, .string { data := #[] }, .string { data := #[] }])).run Tryz.prog W = .ok () W1 := hr
      clear hr
      simp only [phrAct]
      go_simp
      exact hK.out _ _ trivial (fun _ => wpAnyH_listed (by kernel_rfl) rfl (H11010 W1 (hM1.put (fun y => by simp only [setOf, List.any_cons, List.any_nil, Bool.or_false]; try (generalize eqN y ⟨0, 0⟩ = b0; generalize eqN y ⟨1, 0⟩ = b1; generalize eqN y ⟨2, 0⟩ = b2; generalize eqN y ⟨5, 0⟩ = b3; generalize eqN y ⟨6, 0⟩ = b4; revert b0 b1 b2 b3 b4; decide))) (hK0.trans (KeptT.grown hg (fun b e => by injection e with e; simp [e])))))
    refine AllReadyH.cons (o := { dst := none, op := Go.Op.insert 63 (Go.Operand.tmp 4) (Go.Operand.tmp 9) (Go.Operand.tmp 10), type := 0, pos := "text.go:34", after := #[{ on := 0, ground := Go.Ground.data }, { on := 7, ground := Go.Ground.data }, { on := 8, ground := Go.Ground.data }], guard := none }) rfl (fun K hK => ?_) ?_
    · obtain ⟨W1, hr, hM1, hg⟩ := put_node hM (⟨2, 0⟩ : NodeD) (by decide)
      have hr1 : (Instr.mapUpdate 63 (.map (some m)) (.agg #[.int .i64 2, .int .i64 0]) (.agg #[.string { data := #[104, 97, 108, 116] }, .string { data := #[] }, .string { data := #[] }])).run Tryz.prog W = .ok () W1 := hr
      clear hr
      simp only [phrAct]
      go_simp
      exact hK.out _ _ trivial (fun _ => wpAnyH_listed (by kernel_rfl) rfl (H10110 W1 (hM1.put (fun y => by simp only [setOf, List.any_cons, List.any_nil, Bool.or_false]; try (generalize eqN y ⟨0, 0⟩ = b0; generalize eqN y ⟨1, 0⟩ = b1; generalize eqN y ⟨2, 0⟩ = b2; generalize eqN y ⟨5, 0⟩ = b3; generalize eqN y ⟨6, 0⟩ = b4; revert b0 b1 b2 b3 b4; decide))) (hK0.trans (KeptT.grown hg (fun b e => by injection e with e; simp [e])))))
    refine AllReadyH.cons (o := { dst := none, op := Go.Op.insert 63 (Go.Operand.tmp 4) (Go.Operand.tmp 13) (Go.Operand.tmp 14), type := 0, pos := "text.go:34", after := #[{ on := 0, ground := Go.Ground.data }, { on := 13, ground := Go.Ground.data }, { on := 14, ground := Go.Ground.data }], guard := none }) rfl (fun K hK => ?_) ?_
    · obtain ⟨W1, hr, hM1, hg⟩ := put_node hM (⟨6, 0⟩ : NodeD) (by decide)
      have hr1 : (Instr.mapUpdate 63 (.map (some m)) (.agg #[.int .i64 6, .int .i64 0]) (.agg #[.string { data := #[40] }, .string { data := #[32, 124, 32] }, .string { data := #[41] }])).run Tryz.prog W = .ok () W1 := hr
      clear hr
      simp only [phrAct]
      go_simp
      exact hK.out _ _ trivial (fun _ => wpAnyH_listed (by kernel_rfl) rfl (H10011 W1 (hM1.put (fun y => by simp only [setOf, List.any_cons, List.any_nil, Bool.or_false]; try (generalize eqN y ⟨0, 0⟩ = b0; generalize eqN y ⟨1, 0⟩ = b1; generalize eqN y ⟨2, 0⟩ = b2; generalize eqN y ⟨5, 0⟩ = b3; generalize eqN y ⟨6, 0⟩ = b4; revert b0 b1 b2 b3 b4; decide))) (hK0.trans (KeptT.grown hg (fun b e => by injection e with e; simp [e])))))
    exact AllReadyH.nil
  have H10001 : ∀ W, PhrOf W m (setOf [⟨0, 0⟩, ⟨6, 0⟩]) → KeptT [m] w0 W → wpAnyH Tryz.prog .any phrOps Q (fun _ => True) 5 #[true, true, true, true, true, true, false, true, true, false, true, true, false, true, true, true, false, false] (phrAct m) W := fun W hM hK0 => by
    refine wpAnyH_ready (rs := [6, 9, 12]) (by kernel_rfl) (by simp) ?_
    refine AllReadyH.cons (o := { dst := none, op := Go.Op.insert 63 (Go.Operand.tmp 4) (Go.Operand.tmp 7) (Go.Operand.tmp 8), type := 0, pos := "text.go:34", after := #[{ on := 0, ground := Go.Ground.data }, { on := 4, ground := Go.Ground.data }, { on := 5, ground := Go.Ground.data }], guard := none }) rfl (fun K hK => ?_) ?_
    · obtain ⟨W1, hr, hM1, hg⟩ := put_node hM (⟨1, 0⟩ : NodeD) (by decide)
      have hr1 : (Instr.mapUpdate 63 (.map (some m)) (.agg #[.int .i64 1, .int .i64 0]) (.agg #[.string { data := #[112, 97, 117, 115, 101] }, .string { data := #[] }, .string { data := #[] }])).run Tryz.prog W = .ok () W1 := hr
      clear hr
      simp only [phrAct]
      go_simp
      exact hK.out _ _ trivial (fun _ => wpAnyH_listed (by kernel_rfl) rfl (H11001 W1 (hM1.put (fun y => by simp only [setOf, List.any_cons, List.any_nil, Bool.or_false]; try (generalize eqN y ⟨0, 0⟩ = b0; generalize eqN y ⟨1, 0⟩ = b1; generalize eqN y ⟨2, 0⟩ = b2; generalize eqN y ⟨5, 0⟩ = b3; generalize eqN y ⟨6, 0⟩ = b4; revert b0 b1 b2 b3 b4; decide))) (hK0.trans (KeptT.grown hg (fun b e => by injection e with e; simp [e])))))
    refine AllReadyH.cons (o := { dst := none, op := Go.Op.insert 63 (Go.Operand.tmp 4) (Go.Operand.tmp 9) (Go.Operand.tmp 10), type := 0, pos := "text.go:34", after := #[{ on := 0, ground := Go.Ground.data }, { on := 7, ground := Go.Ground.data }, { on := 8, ground := Go.Ground.data }], guard := none }) rfl (fun K hK => ?_) ?_
    · obtain ⟨W1, hr, hM1, hg⟩ := put_node hM (⟨2, 0⟩ : NodeD) (by decide)
      have hr1 : (Instr.mapUpdate 63 (.map (some m)) (.agg #[.int .i64 2, .int .i64 0]) (.agg #[.string { data := #[104, 97, 108, 116] }, .string { data := #[] }, .string { data := #[] }])).run Tryz.prog W = .ok () W1 := hr
      clear hr
      simp only [phrAct]
      go_simp
      exact hK.out _ _ trivial (fun _ => wpAnyH_listed (by kernel_rfl) rfl (H10101 W1 (hM1.put (fun y => by simp only [setOf, List.any_cons, List.any_nil, Bool.or_false]; try (generalize eqN y ⟨0, 0⟩ = b0; generalize eqN y ⟨1, 0⟩ = b1; generalize eqN y ⟨2, 0⟩ = b2; generalize eqN y ⟨5, 0⟩ = b3; generalize eqN y ⟨6, 0⟩ = b4; revert b0 b1 b2 b3 b4; decide))) (hK0.trans (KeptT.grown hg (fun b e => by injection e with e; simp [e])))))
    refine AllReadyH.cons (o := { dst := none, op := Go.Op.insert 63 (Go.Operand.tmp 4) (Go.Operand.tmp 11) (Go.Operand.tmp 12), type := 0, pos := "text.go:34", after := #[{ on := 0, ground := Go.Ground.data }, { on := 10, ground := Go.Ground.data }, { on := 11, ground := Go.Ground.data }], guard := none }) rfl (fun K hK => ?_) ?_
    · obtain ⟨W1, hr, hM1, hg⟩ := put_node hM (⟨5, 0⟩ : NodeD) (by decide)
      have hr1 : (Instr.mapUpdate 63 (.map (some m)) (.agg #[.int .i64 5, .int .i64 0]) (.agg #[.string { data := #[40] }, .string { data := #[59, 32] }, .string { data := #[41] }])).run Tryz.prog W = .ok () W1 := hr
      clear hr
      simp only [phrAct]
      go_simp
      exact hK.out _ _ trivial (fun _ => wpAnyH_listed (by kernel_rfl) rfl (H10011 W1 (hM1.put (fun y => by simp only [setOf, List.any_cons, List.any_nil, Bool.or_false]; try (generalize eqN y ⟨0, 0⟩ = b0; generalize eqN y ⟨1, 0⟩ = b1; generalize eqN y ⟨2, 0⟩ = b2; generalize eqN y ⟨5, 0⟩ = b3; generalize eqN y ⟨6, 0⟩ = b4; revert b0 b1 b2 b3 b4; decide))) (hK0.trans (KeptT.grown hg (fun b e => by injection e with e; simp [e])))))
    exact AllReadyH.nil
  have H01100 : ∀ W, PhrOf W m (setOf [⟨1, 0⟩, ⟨2, 0⟩]) → KeptT [m] w0 W → wpAnyH Tryz.prog .any phrOps Q (fun _ => True) 5 #[true, true, true, false, true, true, true, true, true, true, true, true, false, true, true, false, false, false] (phrAct m) W := fun W hM hK0 => by
    refine wpAnyH_ready (rs := [3, 12, 15]) (by kernel_rfl) (by simp) ?_
    refine AllReadyH.cons (o := { dst := none, op := Go.Op.insert 63 (Go.Operand.tmp 4) (Go.Operand.tmp 5) (Go.Operand.tmp 6), type := 0, pos := "text.go:34", after := #[{ on := 0, ground := Go.Ground.data }, { on := 1, ground := Go.Ground.data }, { on := 2, ground := Go.Ground.data }], guard := none }) rfl (fun K hK => ?_) ?_
    · obtain ⟨W1, hr, hM1, hg⟩ := put_node hM (⟨0, 0⟩ : NodeD) (by decide)
      have hr1 : (Instr.mapUpdate 63 (.map (some m)) (.agg #[.int .i64 0, .int .i64 0]) (.agg #[.string { data := #[110, 111, 116, 104, 105, 110, 103] }, .string { data := #[] }, .string { data := #[] }])).run Tryz.prog W = .ok () W1 := hr
      clear hr
      simp only [phrAct]
      go_simp
      exact hK.out _ _ trivial (fun _ => wpAnyH_listed (by kernel_rfl) rfl (H11100 W1 (hM1.put (fun y => by simp only [setOf, List.any_cons, List.any_nil, Bool.or_false]; try (generalize eqN y ⟨0, 0⟩ = b0; generalize eqN y ⟨1, 0⟩ = b1; generalize eqN y ⟨2, 0⟩ = b2; generalize eqN y ⟨5, 0⟩ = b3; generalize eqN y ⟨6, 0⟩ = b4; revert b0 b1 b2 b3 b4; decide))) (hK0.trans (KeptT.grown hg (fun b e => by injection e with e; simp [e])))))
    refine AllReadyH.cons (o := { dst := none, op := Go.Op.insert 63 (Go.Operand.tmp 4) (Go.Operand.tmp 11) (Go.Operand.tmp 12), type := 0, pos := "text.go:34", after := #[{ on := 0, ground := Go.Ground.data }, { on := 10, ground := Go.Ground.data }, { on := 11, ground := Go.Ground.data }], guard := none }) rfl (fun K hK => ?_) ?_
    · obtain ⟨W1, hr, hM1, hg⟩ := put_node hM (⟨5, 0⟩ : NodeD) (by decide)
      have hr1 : (Instr.mapUpdate 63 (.map (some m)) (.agg #[.int .i64 5, .int .i64 0]) (.agg #[.string { data := #[40] }, .string { data := #[59, 32] }, .string { data := #[41] }])).run Tryz.prog W = .ok () W1 := hr
      clear hr
      simp only [phrAct]
      go_simp
      exact hK.out _ _ trivial (fun _ => wpAnyH_listed (by kernel_rfl) rfl (H01110 W1 (hM1.put (fun y => by simp only [setOf, List.any_cons, List.any_nil, Bool.or_false]; try (generalize eqN y ⟨0, 0⟩ = b0; generalize eqN y ⟨1, 0⟩ = b1; generalize eqN y ⟨2, 0⟩ = b2; generalize eqN y ⟨5, 0⟩ = b3; generalize eqN y ⟨6, 0⟩ = b4; revert b0 b1 b2 b3 b4; decide))) (hK0.trans (KeptT.grown hg (fun b e => by injection e with e; simp [e])))))
    refine AllReadyH.cons (o := { dst := none, op := Go.Op.insert 63 (Go.Operand.tmp 4) (Go.Operand.tmp 13) (Go.Operand.tmp 14), type := 0, pos := "text.go:34", after := #[{ on := 0, ground := Go.Ground.data }, { on := 13, ground := Go.Ground.data }, { on := 14, ground := Go.Ground.data }], guard := none }) rfl (fun K hK => ?_) ?_
    · obtain ⟨W1, hr, hM1, hg⟩ := put_node hM (⟨6, 0⟩ : NodeD) (by decide)
      have hr1 : (Instr.mapUpdate 63 (.map (some m)) (.agg #[.int .i64 6, .int .i64 0]) (.agg #[.string { data := #[40] }, .string { data := #[32, 124, 32] }, .string { data := #[41] }])).run Tryz.prog W = .ok () W1 := hr
      clear hr
      simp only [phrAct]
      go_simp
      exact hK.out _ _ trivial (fun _ => wpAnyH_listed (by kernel_rfl) rfl (H01101 W1 (hM1.put (fun y => by simp only [setOf, List.any_cons, List.any_nil, Bool.or_false]; try (generalize eqN y ⟨0, 0⟩ = b0; generalize eqN y ⟨1, 0⟩ = b1; generalize eqN y ⟨2, 0⟩ = b2; generalize eqN y ⟨5, 0⟩ = b3; generalize eqN y ⟨6, 0⟩ = b4; revert b0 b1 b2 b3 b4; decide))) (hK0.trans (KeptT.grown hg (fun b e => by injection e with e; simp [e])))))
    exact AllReadyH.nil
  have H01010 : ∀ W, PhrOf W m (setOf [⟨1, 0⟩, ⟨5, 0⟩]) → KeptT [m] w0 W → wpAnyH Tryz.prog .any phrOps Q (fun _ => True) 5 #[true, true, true, false, true, true, true, true, true, false, true, true, true, true, true, false, false, false] (phrAct m) W := fun W hM hK0 => by
    refine wpAnyH_ready (rs := [3, 9, 15]) (by kernel_rfl) (by simp) ?_
    refine AllReadyH.cons (o := { dst := none, op := Go.Op.insert 63 (Go.Operand.tmp 4) (Go.Operand.tmp 5) (Go.Operand.tmp 6), type := 0, pos := "text.go:34", after := #[{ on := 0, ground := Go.Ground.data }, { on := 1, ground := Go.Ground.data }, { on := 2, ground := Go.Ground.data }], guard := none }) rfl (fun K hK => ?_) ?_
    · obtain ⟨W1, hr, hM1, hg⟩ := put_node hM (⟨0, 0⟩ : NodeD) (by decide)
      have hr1 : (Instr.mapUpdate 63 (.map (some m)) (.agg #[.int .i64 0, .int .i64 0]) (.agg #[.string { data := #[110, 111, 116, 104, 105, 110, 103] }, .string { data := #[] }, .string { data := #[] }])).run Tryz.prog W = .ok () W1 := hr
      clear hr
      simp only [phrAct]
      go_simp
      exact hK.out _ _ trivial (fun _ => wpAnyH_listed (by kernel_rfl) rfl (H11010 W1 (hM1.put (fun y => by simp only [setOf, List.any_cons, List.any_nil, Bool.or_false]; try (generalize eqN y ⟨0, 0⟩ = b0; generalize eqN y ⟨1, 0⟩ = b1; generalize eqN y ⟨2, 0⟩ = b2; generalize eqN y ⟨5, 0⟩ = b3; generalize eqN y ⟨6, 0⟩ = b4; revert b0 b1 b2 b3 b4; decide))) (hK0.trans (KeptT.grown hg (fun b e => by injection e with e; simp [e])))))
    refine AllReadyH.cons (o := { dst := none, op := Go.Op.insert 63 (Go.Operand.tmp 4) (Go.Operand.tmp 9) (Go.Operand.tmp 10), type := 0, pos := "text.go:34", after := #[{ on := 0, ground := Go.Ground.data }, { on := 7, ground := Go.Ground.data }, { on := 8, ground := Go.Ground.data }], guard := none }) rfl (fun K hK => ?_) ?_
    · obtain ⟨W1, hr, hM1, hg⟩ := put_node hM (⟨2, 0⟩ : NodeD) (by decide)
      have hr1 : (Instr.mapUpdate 63 (.map (some m)) (.agg #[.int .i64 2, .int .i64 0]) (.agg #[.string { data := #[104, 97, 108, 116] }, .string { data := #[] }, .string { data := #[] }])).run Tryz.prog W = .ok () W1 := hr
      clear hr
      simp only [phrAct]
      go_simp
      exact hK.out _ _ trivial (fun _ => wpAnyH_listed (by kernel_rfl) rfl (H01110 W1 (hM1.put (fun y => by simp only [setOf, List.any_cons, List.any_nil, Bool.or_false]; try (generalize eqN y ⟨0, 0⟩ = b0; generalize eqN y ⟨1, 0⟩ = b1; generalize eqN y ⟨2, 0⟩ = b2; generalize eqN y ⟨5, 0⟩ = b3; generalize eqN y ⟨6, 0⟩ = b4; revert b0 b1 b2 b3 b4; decide))) (hK0.trans (KeptT.grown hg (fun b e => by injection e with e; simp [e])))))
    refine AllReadyH.cons (o := { dst := none, op := Go.Op.insert 63 (Go.Operand.tmp 4) (Go.Operand.tmp 13) (Go.Operand.tmp 14), type := 0, pos := "text.go:34", after := #[{ on := 0, ground := Go.Ground.data }, { on := 13, ground := Go.Ground.data }, { on := 14, ground := Go.Ground.data }], guard := none }) rfl (fun K hK => ?_) ?_
    · obtain ⟨W1, hr, hM1, hg⟩ := put_node hM (⟨6, 0⟩ : NodeD) (by decide)
      have hr1 : (Instr.mapUpdate 63 (.map (some m)) (.agg #[.int .i64 6, .int .i64 0]) (.agg #[.string { data := #[40] }, .string { data := #[32, 124, 32] }, .string { data := #[41] }])).run Tryz.prog W = .ok () W1 := hr
      clear hr
      simp only [phrAct]
      go_simp
      exact hK.out _ _ trivial (fun _ => wpAnyH_listed (by kernel_rfl) rfl (H01011 W1 (hM1.put (fun y => by simp only [setOf, List.any_cons, List.any_nil, Bool.or_false]; try (generalize eqN y ⟨0, 0⟩ = b0; generalize eqN y ⟨1, 0⟩ = b1; generalize eqN y ⟨2, 0⟩ = b2; generalize eqN y ⟨5, 0⟩ = b3; generalize eqN y ⟨6, 0⟩ = b4; revert b0 b1 b2 b3 b4; decide))) (hK0.trans (KeptT.grown hg (fun b e => by injection e with e; simp [e])))))
    exact AllReadyH.nil
  have H01001 : ∀ W, PhrOf W m (setOf [⟨1, 0⟩, ⟨6, 0⟩]) → KeptT [m] w0 W → wpAnyH Tryz.prog .any phrOps Q (fun _ => True) 5 #[true, true, true, false, true, true, true, true, true, false, true, true, false, true, true, true, false, false] (phrAct m) W := fun W hM hK0 => by
    refine wpAnyH_ready (rs := [3, 9, 12]) (by kernel_rfl) (by simp) ?_
    refine AllReadyH.cons (o := { dst := none, op := Go.Op.insert 63 (Go.Operand.tmp 4) (Go.Operand.tmp 5) (Go.Operand.tmp 6), type := 0, pos := "text.go:34", after := #[{ on := 0, ground := Go.Ground.data }, { on := 1, ground := Go.Ground.data }, { on := 2, ground := Go.Ground.data }], guard := none }) rfl (fun K hK => ?_) ?_
    · obtain ⟨W1, hr, hM1, hg⟩ := put_node hM (⟨0, 0⟩ : NodeD) (by decide)
      have hr1 : (Instr.mapUpdate 63 (.map (some m)) (.agg #[.int .i64 0, .int .i64 0]) (.agg #[.string { data := #[110, 111, 116, 104, 105, 110, 103] }, .string { data := #[] }, .string { data := #[] }])).run Tryz.prog W = .ok () W1 := hr
      clear hr
      simp only [phrAct]
      go_simp
      exact hK.out _ _ trivial (fun _ => wpAnyH_listed (by kernel_rfl) rfl (H11001 W1 (hM1.put (fun y => by simp only [setOf, List.any_cons, List.any_nil, Bool.or_false]; try (generalize eqN y ⟨0, 0⟩ = b0; generalize eqN y ⟨1, 0⟩ = b1; generalize eqN y ⟨2, 0⟩ = b2; generalize eqN y ⟨5, 0⟩ = b3; generalize eqN y ⟨6, 0⟩ = b4; revert b0 b1 b2 b3 b4; decide))) (hK0.trans (KeptT.grown hg (fun b e => by injection e with e; simp [e])))))
    refine AllReadyH.cons (o := { dst := none, op := Go.Op.insert 63 (Go.Operand.tmp 4) (Go.Operand.tmp 9) (Go.Operand.tmp 10), type := 0, pos := "text.go:34", after := #[{ on := 0, ground := Go.Ground.data }, { on := 7, ground := Go.Ground.data }, { on := 8, ground := Go.Ground.data }], guard := none }) rfl (fun K hK => ?_) ?_
    · obtain ⟨W1, hr, hM1, hg⟩ := put_node hM (⟨2, 0⟩ : NodeD) (by decide)
      have hr1 : (Instr.mapUpdate 63 (.map (some m)) (.agg #[.int .i64 2, .int .i64 0]) (.agg #[.string { data := #[104, 97, 108, 116] }, .string { data := #[] }, .string { data := #[] }])).run Tryz.prog W = .ok () W1 := hr
      clear hr
      simp only [phrAct]
      go_simp
      exact hK.out _ _ trivial (fun _ => wpAnyH_listed (by kernel_rfl) rfl (H01101 W1 (hM1.put (fun y => by simp only [setOf, List.any_cons, List.any_nil, Bool.or_false]; try (generalize eqN y ⟨0, 0⟩ = b0; generalize eqN y ⟨1, 0⟩ = b1; generalize eqN y ⟨2, 0⟩ = b2; generalize eqN y ⟨5, 0⟩ = b3; generalize eqN y ⟨6, 0⟩ = b4; revert b0 b1 b2 b3 b4; decide))) (hK0.trans (KeptT.grown hg (fun b e => by injection e with e; simp [e])))))
    refine AllReadyH.cons (o := { dst := none, op := Go.Op.insert 63 (Go.Operand.tmp 4) (Go.Operand.tmp 11) (Go.Operand.tmp 12), type := 0, pos := "text.go:34", after := #[{ on := 0, ground := Go.Ground.data }, { on := 10, ground := Go.Ground.data }, { on := 11, ground := Go.Ground.data }], guard := none }) rfl (fun K hK => ?_) ?_
    · obtain ⟨W1, hr, hM1, hg⟩ := put_node hM (⟨5, 0⟩ : NodeD) (by decide)
      have hr1 : (Instr.mapUpdate 63 (.map (some m)) (.agg #[.int .i64 5, .int .i64 0]) (.agg #[.string { data := #[40] }, .string { data := #[59, 32] }, .string { data := #[41] }])).run Tryz.prog W = .ok () W1 := hr
      clear hr
      simp only [phrAct]
      go_simp
      exact hK.out _ _ trivial (fun _ => wpAnyH_listed (by kernel_rfl) rfl (H01011 W1 (hM1.put (fun y => by simp only [setOf, List.any_cons, List.any_nil, Bool.or_false]; try (generalize eqN y ⟨0, 0⟩ = b0; generalize eqN y ⟨1, 0⟩ = b1; generalize eqN y ⟨2, 0⟩ = b2; generalize eqN y ⟨5, 0⟩ = b3; generalize eqN y ⟨6, 0⟩ = b4; revert b0 b1 b2 b3 b4; decide))) (hK0.trans (KeptT.grown hg (fun b e => by injection e with e; simp [e])))))
    exact AllReadyH.nil
  have H00110 : ∀ W, PhrOf W m (setOf [⟨2, 0⟩, ⟨5, 0⟩]) → KeptT [m] w0 W → wpAnyH Tryz.prog .any phrOps Q (fun _ => True) 5 #[true, true, true, false, true, true, false, true, true, true, true, true, true, true, true, false, false, false] (phrAct m) W := fun W hM hK0 => by
    refine wpAnyH_ready (rs := [3, 6, 15]) (by kernel_rfl) (by simp) ?_
    refine AllReadyH.cons (o := { dst := none, op := Go.Op.insert 63 (Go.Operand.tmp 4) (Go.Operand.tmp 5) (Go.Operand.tmp 6), type := 0, pos := "text.go:34", after := #[{ on := 0, ground := Go.Ground.data }, { on := 1, ground := Go.Ground.data }, { on := 2, ground := Go.Ground.data }], guard := none }) rfl (fun K hK => ?_) ?_
    · obtain ⟨W1, hr, hM1, hg⟩ := put_node hM (⟨0, 0⟩ : NodeD) (by decide)
      have hr1 : (Instr.mapUpdate 63 (.map (some m)) (.agg #[.int .i64 0, .int .i64 0]) (.agg #[.string { data := #[110, 111, 116, 104, 105, 110, 103] }, .string { data := #[] }, .string { data := #[] }])).run Tryz.prog W = .ok () W1 := hr
      clear hr
      simp only [phrAct]
      go_simp
      exact hK.out _ _ trivial (fun _ => wpAnyH_listed (by kernel_rfl) rfl (H10110 W1 (hM1.put (fun y => by simp only [setOf, List.any_cons, List.any_nil, Bool.or_false]; try (generalize eqN y ⟨0, 0⟩ = b0; generalize eqN y ⟨1, 0⟩ = b1; generalize eqN y ⟨2, 0⟩ = b2; generalize eqN y ⟨5, 0⟩ = b3; generalize eqN y ⟨6, 0⟩ = b4; revert b0 b1 b2 b3 b4; decide))) (hK0.trans (KeptT.grown hg (fun b e => by injection e with e; simp [e])))))
    refine AllReadyH.cons (o := { dst := none, op := Go.Op.insert 63 (Go.Operand.tmp 4) (Go.Operand.tmp 7) (Go.Operand.tmp 8), type := 0, pos := "text.go:34", after := #[{ on := 0, ground := Go.Ground.data }, { on := 4, ground := Go.Ground.data }, { on := 5, ground := Go.Ground.data }], guard := none }) rfl (fun K hK => ?_) ?_
    · obtain ⟨W1, hr, hM1, hg⟩ := put_node hM (⟨1, 0⟩ : NodeD) (by decide)
      have hr1 : (Instr.mapUpdate 63 (.map (some m)) (.agg #[.int .i64 1, .int .i64 0]) (.agg #[.string { data := #[112, 97, 117, 115, 101] }, .string { data := #[] }, .string { data := #[] }])).run Tryz.prog W = .ok () W1 := hr
      clear hr
      simp only [phrAct]
      go_simp
      exact hK.out _ _ trivial (fun _ => wpAnyH_listed (by kernel_rfl) rfl (H01110 W1 (hM1.put (fun y => by simp only [setOf, List.any_cons, List.any_nil, Bool.or_false]; try (generalize eqN y ⟨0, 0⟩ = b0; generalize eqN y ⟨1, 0⟩ = b1; generalize eqN y ⟨2, 0⟩ = b2; generalize eqN y ⟨5, 0⟩ = b3; generalize eqN y ⟨6, 0⟩ = b4; revert b0 b1 b2 b3 b4; decide))) (hK0.trans (KeptT.grown hg (fun b e => by injection e with e; simp [e])))))
    refine AllReadyH.cons (o := { dst := none, op := Go.Op.insert 63 (Go.Operand.tmp 4) (Go.Operand.tmp 13) (Go.Operand.tmp 14), type := 0, pos := "text.go:34", after := #[{ on := 0, ground := Go.Ground.data }, { on := 13, ground := Go.Ground.data }, { on := 14, ground := Go.Ground.data }], guard := none }) rfl (fun K hK => ?_) ?_
    · obtain ⟨W1, hr, hM1, hg⟩ := put_node hM (⟨6, 0⟩ : NodeD) (by decide)
      have hr1 : (Instr.mapUpdate 63 (.map (some m)) (.agg #[.int .i64 6, .int .i64 0]) (.agg #[.string { data := #[40] }, .string { data := #[32, 124, 32] }, .string { data := #[41] }])).run Tryz.prog W = .ok () W1 := hr
      clear hr
      simp only [phrAct]
      go_simp
      exact hK.out _ _ trivial (fun _ => wpAnyH_listed (by kernel_rfl) rfl (H00111 W1 (hM1.put (fun y => by simp only [setOf, List.any_cons, List.any_nil, Bool.or_false]; try (generalize eqN y ⟨0, 0⟩ = b0; generalize eqN y ⟨1, 0⟩ = b1; generalize eqN y ⟨2, 0⟩ = b2; generalize eqN y ⟨5, 0⟩ = b3; generalize eqN y ⟨6, 0⟩ = b4; revert b0 b1 b2 b3 b4; decide))) (hK0.trans (KeptT.grown hg (fun b e => by injection e with e; simp [e])))))
    exact AllReadyH.nil
  have H00101 : ∀ W, PhrOf W m (setOf [⟨2, 0⟩, ⟨6, 0⟩]) → KeptT [m] w0 W → wpAnyH Tryz.prog .any phrOps Q (fun _ => True) 5 #[true, true, true, false, true, true, false, true, true, true, true, true, false, true, true, true, false, false] (phrAct m) W := fun W hM hK0 => by
    refine wpAnyH_ready (rs := [3, 6, 12]) (by kernel_rfl) (by simp) ?_
    refine AllReadyH.cons (o := { dst := none, op := Go.Op.insert 63 (Go.Operand.tmp 4) (Go.Operand.tmp 5) (Go.Operand.tmp 6), type := 0, pos := "text.go:34", after := #[{ on := 0, ground := Go.Ground.data }, { on := 1, ground := Go.Ground.data }, { on := 2, ground := Go.Ground.data }], guard := none }) rfl (fun K hK => ?_) ?_
    · obtain ⟨W1, hr, hM1, hg⟩ := put_node hM (⟨0, 0⟩ : NodeD) (by decide)
      have hr1 : (Instr.mapUpdate 63 (.map (some m)) (.agg #[.int .i64 0, .int .i64 0]) (.agg #[.string { data := #[110, 111, 116, 104, 105, 110, 103] }, .string { data := #[] }, .string { data := #[] }])).run Tryz.prog W = .ok () W1 := hr
      clear hr
      simp only [phrAct]
      go_simp
      exact hK.out _ _ trivial (fun _ => wpAnyH_listed (by kernel_rfl) rfl (H10101 W1 (hM1.put (fun y => by simp only [setOf, List.any_cons, List.any_nil, Bool.or_false]; try (generalize eqN y ⟨0, 0⟩ = b0; generalize eqN y ⟨1, 0⟩ = b1; generalize eqN y ⟨2, 0⟩ = b2; generalize eqN y ⟨5, 0⟩ = b3; generalize eqN y ⟨6, 0⟩ = b4; revert b0 b1 b2 b3 b4; decide))) (hK0.trans (KeptT.grown hg (fun b e => by injection e with e; simp [e])))))
    refine AllReadyH.cons (o := { dst := none, op := Go.Op.insert 63 (Go.Operand.tmp 4) (Go.Operand.tmp 7) (Go.Operand.tmp 8), type := 0, pos := "text.go:34", after := #[{ on := 0, ground := Go.Ground.data }, { on := 4, ground := Go.Ground.data }, { on := 5, ground := Go.Ground.data }], guard := none }) rfl (fun K hK => ?_) ?_
    · obtain ⟨W1, hr, hM1, hg⟩ := put_node hM (⟨1, 0⟩ : NodeD) (by decide)
      have hr1 : (Instr.mapUpdate 63 (.map (some m)) (.agg #[.int .i64 1, .int .i64 0]) (.agg #[.string { data := #[112, 97, 117, 115, 101] }, .string { data := #[] }, .string { data := #[] }])).run Tryz.prog W = .ok () W1 := hr
      clear hr
      simp only [phrAct]
      go_simp
      exact hK.out _ _ trivial (fun _ => wpAnyH_listed (by kernel_rfl) rfl (H01101 W1 (hM1.put (fun y => by simp only [setOf, List.any_cons, List.any_nil, Bool.or_false]; try (generalize eqN y ⟨0, 0⟩ = b0; generalize eqN y ⟨1, 0⟩ = b1; generalize eqN y ⟨2, 0⟩ = b2; generalize eqN y ⟨5, 0⟩ = b3; generalize eqN y ⟨6, 0⟩ = b4; revert b0 b1 b2 b3 b4; decide))) (hK0.trans (KeptT.grown hg (fun b e => by injection e with e; simp [e])))))
    refine AllReadyH.cons (o := { dst := none, op := Go.Op.insert 63 (Go.Operand.tmp 4) (Go.Operand.tmp 11) (Go.Operand.tmp 12), type := 0, pos := "text.go:34", after := #[{ on := 0, ground := Go.Ground.data }, { on := 10, ground := Go.Ground.data }, { on := 11, ground := Go.Ground.data }], guard := none }) rfl (fun K hK => ?_) ?_
    · obtain ⟨W1, hr, hM1, hg⟩ := put_node hM (⟨5, 0⟩ : NodeD) (by decide)
      have hr1 : (Instr.mapUpdate 63 (.map (some m)) (.agg #[.int .i64 5, .int .i64 0]) (.agg #[.string { data := #[40] }, .string { data := #[59, 32] }, .string { data := #[41] }])).run Tryz.prog W = .ok () W1 := hr
      clear hr
      simp only [phrAct]
      go_simp
      exact hK.out _ _ trivial (fun _ => wpAnyH_listed (by kernel_rfl) rfl (H00111 W1 (hM1.put (fun y => by simp only [setOf, List.any_cons, List.any_nil, Bool.or_false]; try (generalize eqN y ⟨0, 0⟩ = b0; generalize eqN y ⟨1, 0⟩ = b1; generalize eqN y ⟨2, 0⟩ = b2; generalize eqN y ⟨5, 0⟩ = b3; generalize eqN y ⟨6, 0⟩ = b4; revert b0 b1 b2 b3 b4; decide))) (hK0.trans (KeptT.grown hg (fun b e => by injection e with e; simp [e])))))
    exact AllReadyH.nil
  have H00011 : ∀ W, PhrOf W m (setOf [⟨5, 0⟩, ⟨6, 0⟩]) → KeptT [m] w0 W → wpAnyH Tryz.prog .any phrOps Q (fun _ => True) 5 #[true, true, true, false, true, true, false, true, true, false, true, true, true, true, true, true, false, false] (phrAct m) W := fun W hM hK0 => by
    refine wpAnyH_ready (rs := [3, 6, 9]) (by kernel_rfl) (by simp) ?_
    refine AllReadyH.cons (o := { dst := none, op := Go.Op.insert 63 (Go.Operand.tmp 4) (Go.Operand.tmp 5) (Go.Operand.tmp 6), type := 0, pos := "text.go:34", after := #[{ on := 0, ground := Go.Ground.data }, { on := 1, ground := Go.Ground.data }, { on := 2, ground := Go.Ground.data }], guard := none }) rfl (fun K hK => ?_) ?_
    · obtain ⟨W1, hr, hM1, hg⟩ := put_node hM (⟨0, 0⟩ : NodeD) (by decide)
      have hr1 : (Instr.mapUpdate 63 (.map (some m)) (.agg #[.int .i64 0, .int .i64 0]) (.agg #[.string { data := #[110, 111, 116, 104, 105, 110, 103] }, .string { data := #[] }, .string { data := #[] }])).run Tryz.prog W = .ok () W1 := hr
      clear hr
      simp only [phrAct]
      go_simp
      exact hK.out _ _ trivial (fun _ => wpAnyH_listed (by kernel_rfl) rfl (H10011 W1 (hM1.put (fun y => by simp only [setOf, List.any_cons, List.any_nil, Bool.or_false]; try (generalize eqN y ⟨0, 0⟩ = b0; generalize eqN y ⟨1, 0⟩ = b1; generalize eqN y ⟨2, 0⟩ = b2; generalize eqN y ⟨5, 0⟩ = b3; generalize eqN y ⟨6, 0⟩ = b4; revert b0 b1 b2 b3 b4; decide))) (hK0.trans (KeptT.grown hg (fun b e => by injection e with e; simp [e])))))
    refine AllReadyH.cons (o := { dst := none, op := Go.Op.insert 63 (Go.Operand.tmp 4) (Go.Operand.tmp 7) (Go.Operand.tmp 8), type := 0, pos := "text.go:34", after := #[{ on := 0, ground := Go.Ground.data }, { on := 4, ground := Go.Ground.data }, { on := 5, ground := Go.Ground.data }], guard := none }) rfl (fun K hK => ?_) ?_
    · obtain ⟨W1, hr, hM1, hg⟩ := put_node hM (⟨1, 0⟩ : NodeD) (by decide)
      have hr1 : (Instr.mapUpdate 63 (.map (some m)) (.agg #[.int .i64 1, .int .i64 0]) (.agg #[.string { data := #[112, 97, 117, 115, 101] }, .string { data := #[] }, .string { data := #[] }])).run Tryz.prog W = .ok () W1 := hr
      clear hr
      simp only [phrAct]
      go_simp
      exact hK.out _ _ trivial (fun _ => wpAnyH_listed (by kernel_rfl) rfl (H01011 W1 (hM1.put (fun y => by simp only [setOf, List.any_cons, List.any_nil, Bool.or_false]; try (generalize eqN y ⟨0, 0⟩ = b0; generalize eqN y ⟨1, 0⟩ = b1; generalize eqN y ⟨2, 0⟩ = b2; generalize eqN y ⟨5, 0⟩ = b3; generalize eqN y ⟨6, 0⟩ = b4; revert b0 b1 b2 b3 b4; decide))) (hK0.trans (KeptT.grown hg (fun b e => by injection e with e; simp [e])))))
    refine AllReadyH.cons (o := { dst := none, op := Go.Op.insert 63 (Go.Operand.tmp 4) (Go.Operand.tmp 9) (Go.Operand.tmp 10), type := 0, pos := "text.go:34", after := #[{ on := 0, ground := Go.Ground.data }, { on := 7, ground := Go.Ground.data }, { on := 8, ground := Go.Ground.data }], guard := none }) rfl (fun K hK => ?_) ?_
    · obtain ⟨W1, hr, hM1, hg⟩ := put_node hM (⟨2, 0⟩ : NodeD) (by decide)
      have hr1 : (Instr.mapUpdate 63 (.map (some m)) (.agg #[.int .i64 2, .int .i64 0]) (.agg #[.string { data := #[104, 97, 108, 116] }, .string { data := #[] }, .string { data := #[] }])).run Tryz.prog W = .ok () W1 := hr
      clear hr
      simp only [phrAct]
      go_simp
      exact hK.out _ _ trivial (fun _ => wpAnyH_listed (by kernel_rfl) rfl (H00111 W1 (hM1.put (fun y => by simp only [setOf, List.any_cons, List.any_nil, Bool.or_false]; try (generalize eqN y ⟨0, 0⟩ = b0; generalize eqN y ⟨1, 0⟩ = b1; generalize eqN y ⟨2, 0⟩ = b2; generalize eqN y ⟨5, 0⟩ = b3; generalize eqN y ⟨6, 0⟩ = b4; revert b0 b1 b2 b3 b4; decide))) (hK0.trans (KeptT.grown hg (fun b e => by injection e with e; simp [e])))))
    exact AllReadyH.nil
  have H10000 : ∀ W, PhrOf W m (setOf [⟨0, 0⟩]) → KeptT [m] w0 W → wpAnyH Tryz.prog .any phrOps Q (fun _ => True) 6 #[true, true, true, true, true, true, false, true, true, false, true, true, false, true, true, false, false, false] (phrAct m) W := fun W hM hK0 => by
    refine wpAnyH_ready (rs := [6, 9, 12, 15]) (by kernel_rfl) (by simp) ?_
    refine AllReadyH.cons (o := { dst := none, op := Go.Op.insert 63 (Go.Operand.tmp 4) (Go.Operand.tmp 7) (Go.Operand.tmp 8), type := 0, pos := "text.go:34", after := #[{ on := 0, ground := Go.Ground.data }, { on := 4, ground := Go.Ground.data }, { on := 5, ground := Go.Ground.data }], guard := none }) rfl (fun K hK => ?_) ?_
    · obtain ⟨W1, hr, hM1, hg⟩ := put_node hM (⟨1, 0⟩ : NodeD) (by decide)
      have hr1 : (Instr.mapUpdate 63 (.map (some m)) (.agg #[.int .i64 1, .int .i64 0]) (.agg #[.string { data := #[112, 97, 117, 115, 101] }, .string { data := #[] }, .string { data := #[] }])).run Tryz.prog W = .ok () W1 := hr
      clear hr
      simp only [phrAct]
      go_simp
      exact hK.out _ _ trivial (fun _ => wpAnyH_listed (by kernel_rfl) rfl (H11000 W1 (hM1.put (fun y => by simp only [setOf, List.any_cons, List.any_nil, Bool.or_false]; try (generalize eqN y ⟨0, 0⟩ = b0; generalize eqN y ⟨1, 0⟩ = b1; generalize eqN y ⟨2, 0⟩ = b2; generalize eqN y ⟨5, 0⟩ = b3; generalize eqN y ⟨6, 0⟩ = b4; revert b0 b1 b2 b3 b4; decide))) (hK0.trans (KeptT.grown hg (fun b e => by injection e with e; simp [e])))))
    refine AllReadyH.cons (o := { dst := none, op := Go.Op.insert 63 (Go.Operand.tmp 4) (Go.Operand.tmp 9) (Go.Operand.tmp 10), type := 0, pos := "text.go:34", after := #[{ on := 0, ground := Go.Ground.data }, { on := 7, ground := Go.Ground.data }, { on := 8, ground := Go.Ground.data }], guard := none }) rfl (fun K hK => ?_) ?_
    · obtain ⟨W1, hr, hM1, hg⟩ := put_node hM (⟨2, 0⟩ : NodeD) (by decide)
      have hr1 : (Instr.mapUpdate 63 (.map (some m)) (.agg #[.int .i64 2, .int .i64 0]) (.agg #[.string { data := #[104, 97, 108, 116] }, .string { data := #[] }, .string { data := #[] }])).run Tryz.prog W = .ok () W1 := hr
      clear hr
      simp only [phrAct]
      go_simp
      exact hK.out _ _ trivial (fun _ => wpAnyH_listed (by kernel_rfl) rfl (H10100 W1 (hM1.put (fun y => by simp only [setOf, List.any_cons, List.any_nil, Bool.or_false]; try (generalize eqN y ⟨0, 0⟩ = b0; generalize eqN y ⟨1, 0⟩ = b1; generalize eqN y ⟨2, 0⟩ = b2; generalize eqN y ⟨5, 0⟩ = b3; generalize eqN y ⟨6, 0⟩ = b4; revert b0 b1 b2 b3 b4; decide))) (hK0.trans (KeptT.grown hg (fun b e => by injection e with e; simp [e])))))
    refine AllReadyH.cons (o := { dst := none, op := Go.Op.insert 63 (Go.Operand.tmp 4) (Go.Operand.tmp 11) (Go.Operand.tmp 12), type := 0, pos := "text.go:34", after := #[{ on := 0, ground := Go.Ground.data }, { on := 10, ground := Go.Ground.data }, { on := 11, ground := Go.Ground.data }], guard := none }) rfl (fun K hK => ?_) ?_
    · obtain ⟨W1, hr, hM1, hg⟩ := put_node hM (⟨5, 0⟩ : NodeD) (by decide)
      have hr1 : (Instr.mapUpdate 63 (.map (some m)) (.agg #[.int .i64 5, .int .i64 0]) (.agg #[.string { data := #[40] }, .string { data := #[59, 32] }, .string { data := #[41] }])).run Tryz.prog W = .ok () W1 := hr
      clear hr
      simp only [phrAct]
      go_simp
      exact hK.out _ _ trivial (fun _ => wpAnyH_listed (by kernel_rfl) rfl (H10010 W1 (hM1.put (fun y => by simp only [setOf, List.any_cons, List.any_nil, Bool.or_false]; try (generalize eqN y ⟨0, 0⟩ = b0; generalize eqN y ⟨1, 0⟩ = b1; generalize eqN y ⟨2, 0⟩ = b2; generalize eqN y ⟨5, 0⟩ = b3; generalize eqN y ⟨6, 0⟩ = b4; revert b0 b1 b2 b3 b4; decide))) (hK0.trans (KeptT.grown hg (fun b e => by injection e with e; simp [e])))))
    refine AllReadyH.cons (o := { dst := none, op := Go.Op.insert 63 (Go.Operand.tmp 4) (Go.Operand.tmp 13) (Go.Operand.tmp 14), type := 0, pos := "text.go:34", after := #[{ on := 0, ground := Go.Ground.data }, { on := 13, ground := Go.Ground.data }, { on := 14, ground := Go.Ground.data }], guard := none }) rfl (fun K hK => ?_) ?_
    · obtain ⟨W1, hr, hM1, hg⟩ := put_node hM (⟨6, 0⟩ : NodeD) (by decide)
      have hr1 : (Instr.mapUpdate 63 (.map (some m)) (.agg #[.int .i64 6, .int .i64 0]) (.agg #[.string { data := #[40] }, .string { data := #[32, 124, 32] }, .string { data := #[41] }])).run Tryz.prog W = .ok () W1 := hr
      clear hr
      simp only [phrAct]
      go_simp
      exact hK.out _ _ trivial (fun _ => wpAnyH_listed (by kernel_rfl) rfl (H10001 W1 (hM1.put (fun y => by simp only [setOf, List.any_cons, List.any_nil, Bool.or_false]; try (generalize eqN y ⟨0, 0⟩ = b0; generalize eqN y ⟨1, 0⟩ = b1; generalize eqN y ⟨2, 0⟩ = b2; generalize eqN y ⟨5, 0⟩ = b3; generalize eqN y ⟨6, 0⟩ = b4; revert b0 b1 b2 b3 b4; decide))) (hK0.trans (KeptT.grown hg (fun b e => by injection e with e; simp [e])))))
    exact AllReadyH.nil
  have H01000 : ∀ W, PhrOf W m (setOf [⟨1, 0⟩]) → KeptT [m] w0 W → wpAnyH Tryz.prog .any phrOps Q (fun _ => True) 6 #[true, true, true, false, true, true, true, true, true, false, true, true, false, true, true, false, false, false] (phrAct m) W := fun W hM hK0 => by
    refine wpAnyH_ready (rs := [3, 9, 12, 15]) (by kernel_rfl) (by simp) ?_
    refine AllReadyH.cons (o := { dst := none, op := Go.Op.insert 63 (Go.Operand.tmp 4) (Go.Operand.tmp 5) (Go.Operand.tmp 6), type := 0, pos := "text.go:34", after := #[{ on := 0, ground := Go.Ground.data }, { on := 1, ground := Go.Ground.data }, { on := 2, ground := Go.Ground.data }], guard := none }) rfl (fun K hK => ?_) ?_
    · obtain ⟨W1, hr, hM1, hg⟩ := put_node hM (⟨0, 0⟩ : NodeD) (by decide)
      have hr1 : (Instr.mapUpdate 63 (.map (some m)) (.agg #[.int .i64 0, .int .i64 0]) (.agg #[.string { data := #[110, 111, 116, 104, 105, 110, 103] }, .string { data := #[] }, .string { data := #[] }])).run Tryz.prog W = .ok () W1 := hr
      clear hr
      simp only [phrAct]
      go_simp
      exact hK.out _ _ trivial (fun _ => wpAnyH_listed (by kernel_rfl) rfl (H11000 W1 (hM1.put (fun y => by simp only [setOf, List.any_cons, List.any_nil, Bool.or_false]; try (generalize eqN y ⟨0, 0⟩ = b0; generalize eqN y ⟨1, 0⟩ = b1; generalize eqN y ⟨2, 0⟩ = b2; generalize eqN y ⟨5, 0⟩ = b3; generalize eqN y ⟨6, 0⟩ = b4; revert b0 b1 b2 b3 b4; decide))) (hK0.trans (KeptT.grown hg (fun b e => by injection e with e; simp [e])))))
    refine AllReadyH.cons (o := { dst := none, op := Go.Op.insert 63 (Go.Operand.tmp 4) (Go.Operand.tmp 9) (Go.Operand.tmp 10), type := 0, pos := "text.go:34", after := #[{ on := 0, ground := Go.Ground.data }, { on := 7, ground := Go.Ground.data }, { on := 8, ground := Go.Ground.data }], guard := none }) rfl (fun K hK => ?_) ?_
    · obtain ⟨W1, hr, hM1, hg⟩ := put_node hM (⟨2, 0⟩ : NodeD) (by decide)
      have hr1 : (Instr.mapUpdate 63 (.map (some m)) (.agg #[.int .i64 2, .int .i64 0]) (.agg #[.string { data := #[104, 97, 108, 116] }, .string { data := #[] }, .string { data := #[] }])).run Tryz.prog W = .ok () W1 := hr
      clear hr
      simp only [phrAct]
      go_simp
      exact hK.out _ _ trivial (fun _ => wpAnyH_listed (by kernel_rfl) rfl (H01100 W1 (hM1.put (fun y => by simp only [setOf, List.any_cons, List.any_nil, Bool.or_false]; try (generalize eqN y ⟨0, 0⟩ = b0; generalize eqN y ⟨1, 0⟩ = b1; generalize eqN y ⟨2, 0⟩ = b2; generalize eqN y ⟨5, 0⟩ = b3; generalize eqN y ⟨6, 0⟩ = b4; revert b0 b1 b2 b3 b4; decide))) (hK0.trans (KeptT.grown hg (fun b e => by injection e with e; simp [e])))))
    refine AllReadyH.cons (o := { dst := none, op := Go.Op.insert 63 (Go.Operand.tmp 4) (Go.Operand.tmp 11) (Go.Operand.tmp 12), type := 0, pos := "text.go:34", after := #[{ on := 0, ground := Go.Ground.data }, { on := 10, ground := Go.Ground.data }, { on := 11, ground := Go.Ground.data }], guard := none }) rfl (fun K hK => ?_) ?_
    · obtain ⟨W1, hr, hM1, hg⟩ := put_node hM (⟨5, 0⟩ : NodeD) (by decide)
      have hr1 : (Instr.mapUpdate 63 (.map (some m)) (.agg #[.int .i64 5, .int .i64 0]) (.agg #[.string { data := #[40] }, .string { data := #[59, 32] }, .string { data := #[41] }])).run Tryz.prog W = .ok () W1 := hr
      clear hr
      simp only [phrAct]
      go_simp
      exact hK.out _ _ trivial (fun _ => wpAnyH_listed (by kernel_rfl) rfl (H01010 W1 (hM1.put (fun y => by simp only [setOf, List.any_cons, List.any_nil, Bool.or_false]; try (generalize eqN y ⟨0, 0⟩ = b0; generalize eqN y ⟨1, 0⟩ = b1; generalize eqN y ⟨2, 0⟩ = b2; generalize eqN y ⟨5, 0⟩ = b3; generalize eqN y ⟨6, 0⟩ = b4; revert b0 b1 b2 b3 b4; decide))) (hK0.trans (KeptT.grown hg (fun b e => by injection e with e; simp [e])))))
    refine AllReadyH.cons (o := { dst := none, op := Go.Op.insert 63 (Go.Operand.tmp 4) (Go.Operand.tmp 13) (Go.Operand.tmp 14), type := 0, pos := "text.go:34", after := #[{ on := 0, ground := Go.Ground.data }, { on := 13, ground := Go.Ground.data }, { on := 14, ground := Go.Ground.data }], guard := none }) rfl (fun K hK => ?_) ?_
    · obtain ⟨W1, hr, hM1, hg⟩ := put_node hM (⟨6, 0⟩ : NodeD) (by decide)
      have hr1 : (Instr.mapUpdate 63 (.map (some m)) (.agg #[.int .i64 6, .int .i64 0]) (.agg #[.string { data := #[40] }, .string { data := #[32, 124, 32] }, .string { data := #[41] }])).run Tryz.prog W = .ok () W1 := hr
      clear hr
      simp only [phrAct]
      go_simp
      exact hK.out _ _ trivial (fun _ => wpAnyH_listed (by kernel_rfl) rfl (H01001 W1 (hM1.put (fun y => by simp only [setOf, List.any_cons, List.any_nil, Bool.or_false]; try (generalize eqN y ⟨0, 0⟩ = b0; generalize eqN y ⟨1, 0⟩ = b1; generalize eqN y ⟨2, 0⟩ = b2; generalize eqN y ⟨5, 0⟩ = b3; generalize eqN y ⟨6, 0⟩ = b4; revert b0 b1 b2 b3 b4; decide))) (hK0.trans (KeptT.grown hg (fun b e => by injection e with e; simp [e])))))
    exact AllReadyH.nil
  have H00100 : ∀ W, PhrOf W m (setOf [⟨2, 0⟩]) → KeptT [m] w0 W → wpAnyH Tryz.prog .any phrOps Q (fun _ => True) 6 #[true, true, true, false, true, true, false, true, true, true, true, true, false, true, true, false, false, false] (phrAct m) W := fun W hM hK0 => by
    refine wpAnyH_ready (rs := [3, 6, 12, 15]) (by kernel_rfl) (by simp) ?_
    refine AllReadyH.cons (o := { dst := none, op := Go.Op.insert 63 (Go.Operand.tmp 4) (Go.Operand.tmp 5) (Go.Operand.tmp 6), type := 0, pos := "text.go:34", after := #[{ on := 0, ground := Go.Ground.data }, { on := 1, ground := Go.Ground.data }, { on := 2, ground := Go.Ground.data }], guard := none }) rfl (fun K hK => ?_) ?_
    · obtain ⟨W1, hr, hM1, hg⟩ := put_node hM (⟨0, 0⟩ : NodeD) (by decide)
      have hr1 : (Instr.mapUpdate 63 (.map (some m)) (.agg #[.int .i64 0, .int .i64 0]) (.agg #[.string { data := #[110, 111, 116, 104, 105, 110, 103] }, .string { data := #[] }, .string { data := #[] }])).run Tryz.prog W = .ok () W1 := hr
      clear hr
      simp only [phrAct]
      go_simp
      exact hK.out _ _ trivial (fun _ => wpAnyH_listed (by kernel_rfl) rfl (H10100 W1 (hM1.put (fun y => by simp only [setOf, List.any_cons, List.any_nil, Bool.or_false]; try (generalize eqN y ⟨0, 0⟩ = b0; generalize eqN y ⟨1, 0⟩ = b1; generalize eqN y ⟨2, 0⟩ = b2; generalize eqN y ⟨5, 0⟩ = b3; generalize eqN y ⟨6, 0⟩ = b4; revert b0 b1 b2 b3 b4; decide))) (hK0.trans (KeptT.grown hg (fun b e => by injection e with e; simp [e])))))
    refine AllReadyH.cons (o := { dst := none, op := Go.Op.insert 63 (Go.Operand.tmp 4) (Go.Operand.tmp 7) (Go.Operand.tmp 8), type := 0, pos := "text.go:34", after := #[{ on := 0, ground := Go.Ground.data }, { on := 4, ground := Go.Ground.data }, { on := 5, ground := Go.Ground.data }], guard := none }) rfl (fun K hK => ?_) ?_
    · obtain ⟨W1, hr, hM1, hg⟩ := put_node hM (⟨1, 0⟩ : NodeD) (by decide)
      have hr1 : (Instr.mapUpdate 63 (.map (some m)) (.agg #[.int .i64 1, .int .i64 0]) (.agg #[.string { data := #[112, 97, 117, 115, 101] }, .string { data := #[] }, .string { data := #[] }])).run Tryz.prog W = .ok () W1 := hr
      clear hr
      simp only [phrAct]
      go_simp
      exact hK.out _ _ trivial (fun _ => wpAnyH_listed (by kernel_rfl) rfl (H01100 W1 (hM1.put (fun y => by simp only [setOf, List.any_cons, List.any_nil, Bool.or_false]; try (generalize eqN y ⟨0, 0⟩ = b0; generalize eqN y ⟨1, 0⟩ = b1; generalize eqN y ⟨2, 0⟩ = b2; generalize eqN y ⟨5, 0⟩ = b3; generalize eqN y ⟨6, 0⟩ = b4; revert b0 b1 b2 b3 b4; decide))) (hK0.trans (KeptT.grown hg (fun b e => by injection e with e; simp [e])))))
    refine AllReadyH.cons (o := { dst := none, op := Go.Op.insert 63 (Go.Operand.tmp 4) (Go.Operand.tmp 11) (Go.Operand.tmp 12), type := 0, pos := "text.go:34", after := #[{ on := 0, ground := Go.Ground.data }, { on := 10, ground := Go.Ground.data }, { on := 11, ground := Go.Ground.data }], guard := none }) rfl (fun K hK => ?_) ?_
    · obtain ⟨W1, hr, hM1, hg⟩ := put_node hM (⟨5, 0⟩ : NodeD) (by decide)
      have hr1 : (Instr.mapUpdate 63 (.map (some m)) (.agg #[.int .i64 5, .int .i64 0]) (.agg #[.string { data := #[40] }, .string { data := #[59, 32] }, .string { data := #[41] }])).run Tryz.prog W = .ok () W1 := hr
      clear hr
      simp only [phrAct]
      go_simp
      exact hK.out _ _ trivial (fun _ => wpAnyH_listed (by kernel_rfl) rfl (H00110 W1 (hM1.put (fun y => by simp only [setOf, List.any_cons, List.any_nil, Bool.or_false]; try (generalize eqN y ⟨0, 0⟩ = b0; generalize eqN y ⟨1, 0⟩ = b1; generalize eqN y ⟨2, 0⟩ = b2; generalize eqN y ⟨5, 0⟩ = b3; generalize eqN y ⟨6, 0⟩ = b4; revert b0 b1 b2 b3 b4; decide))) (hK0.trans (KeptT.grown hg (fun b e => by injection e with e; simp [e])))))
    refine AllReadyH.cons (o := { dst := none, op := Go.Op.insert 63 (Go.Operand.tmp 4) (Go.Operand.tmp 13) (Go.Operand.tmp 14), type := 0, pos := "text.go:34", after := #[{ on := 0, ground := Go.Ground.data }, { on := 13, ground := Go.Ground.data }, { on := 14, ground := Go.Ground.data }], guard := none }) rfl (fun K hK => ?_) ?_
    · obtain ⟨W1, hr, hM1, hg⟩ := put_node hM (⟨6, 0⟩ : NodeD) (by decide)
      have hr1 : (Instr.mapUpdate 63 (.map (some m)) (.agg #[.int .i64 6, .int .i64 0]) (.agg #[.string { data := #[40] }, .string { data := #[32, 124, 32] }, .string { data := #[41] }])).run Tryz.prog W = .ok () W1 := hr
      clear hr
      simp only [phrAct]
      go_simp
      exact hK.out _ _ trivial (fun _ => wpAnyH_listed (by kernel_rfl) rfl (H00101 W1 (hM1.put (fun y => by simp only [setOf, List.any_cons, List.any_nil, Bool.or_false]; try (generalize eqN y ⟨0, 0⟩ = b0; generalize eqN y ⟨1, 0⟩ = b1; generalize eqN y ⟨2, 0⟩ = b2; generalize eqN y ⟨5, 0⟩ = b3; generalize eqN y ⟨6, 0⟩ = b4; revert b0 b1 b2 b3 b4; decide))) (hK0.trans (KeptT.grown hg (fun b e => by injection e with e; simp [e])))))
    exact AllReadyH.nil
  have H00010 : ∀ W, PhrOf W m (setOf [⟨5, 0⟩]) → KeptT [m] w0 W → wpAnyH Tryz.prog .any phrOps Q (fun _ => True) 6 #[true, true, true, false, true, true, false, true, true, false, true, true, true, true, true, false, false, false] (phrAct m) W := fun W hM hK0 => by
    refine wpAnyH_ready (rs := [3, 6, 9, 15]) (by kernel_rfl) (by simp) ?_
    refine AllReadyH.cons (o := { dst := none, op := Go.Op.insert 63 (Go.Operand.tmp 4) (Go.Operand.tmp 5) (Go.Operand.tmp 6), type := 0, pos := "text.go:34", after := #[{ on := 0, ground := Go.Ground.data }, { on := 1, ground := Go.Ground.data }, { on := 2, ground := Go.Ground.data }], guard := none }) rfl (fun K hK => ?_) ?_
    · obtain ⟨W1, hr, hM1, hg⟩ := put_node hM (⟨0, 0⟩ : NodeD) (by decide)
      have hr1 : (Instr.mapUpdate 63 (.map (some m)) (.agg #[.int .i64 0, .int .i64 0]) (.agg #[.string { data := #[110, 111, 116, 104, 105, 110, 103] }, .string { data := #[] }, .string { data := #[] }])).run Tryz.prog W = .ok () W1 := hr
      clear hr
      simp only [phrAct]
      go_simp
      exact hK.out _ _ trivial (fun _ => wpAnyH_listed (by kernel_rfl) rfl (H10010 W1 (hM1.put (fun y => by simp only [setOf, List.any_cons, List.any_nil, Bool.or_false]; try (generalize eqN y ⟨0, 0⟩ = b0; generalize eqN y ⟨1, 0⟩ = b1; generalize eqN y ⟨2, 0⟩ = b2; generalize eqN y ⟨5, 0⟩ = b3; generalize eqN y ⟨6, 0⟩ = b4; revert b0 b1 b2 b3 b4; decide))) (hK0.trans (KeptT.grown hg (fun b e => by injection e with e; simp [e])))))
    refine AllReadyH.cons (o := { dst := none, op := Go.Op.insert 63 (Go.Operand.tmp 4) (Go.Operand.tmp 7) (Go.Operand.tmp 8), type := 0, pos := "text.go:34", after := #[{ on := 0, ground := Go.Ground.data }, { on := 4, ground := Go.Ground.data }, { on := 5, ground := Go.Ground.data }], guard := none }) rfl (fun K hK => ?_) ?_
    · obtain ⟨W1, hr, hM1, hg⟩ := put_node hM (⟨1, 0⟩ : NodeD) (by decide)
      have hr1 : (Instr.mapUpdate 63 (.map (some m)) (.agg #[.int .i64 1, .int .i64 0]) (.agg #[.string { data := #[112, 97, 117, 115, 101] }, .string { data := #[] }, .string { data := #[] }])).run Tryz.prog W = .ok () W1 := hr
      clear hr
      simp only [phrAct]
      go_simp
      exact hK.out _ _ trivial (fun _ => wpAnyH_listed (by kernel_rfl) rfl (H01010 W1 (hM1.put (fun y => by simp only [setOf, List.any_cons, List.any_nil, Bool.or_false]; try (generalize eqN y ⟨0, 0⟩ = b0; generalize eqN y ⟨1, 0⟩ = b1; generalize eqN y ⟨2, 0⟩ = b2; generalize eqN y ⟨5, 0⟩ = b3; generalize eqN y ⟨6, 0⟩ = b4; revert b0 b1 b2 b3 b4; decide))) (hK0.trans (KeptT.grown hg (fun b e => by injection e with e; simp [e])))))
    refine AllReadyH.cons (o := { dst := none, op := Go.Op.insert 63 (Go.Operand.tmp 4) (Go.Operand.tmp 9) (Go.Operand.tmp 10), type := 0, pos := "text.go:34", after := #[{ on := 0, ground := Go.Ground.data }, { on := 7, ground := Go.Ground.data }, { on := 8, ground := Go.Ground.data }], guard := none }) rfl (fun K hK => ?_) ?_
    · obtain ⟨W1, hr, hM1, hg⟩ := put_node hM (⟨2, 0⟩ : NodeD) (by decide)
      have hr1 : (Instr.mapUpdate 63 (.map (some m)) (.agg #[.int .i64 2, .int .i64 0]) (.agg #[.string { data := #[104, 97, 108, 116] }, .string { data := #[] }, .string { data := #[] }])).run Tryz.prog W = .ok () W1 := hr
      clear hr
      simp only [phrAct]
      go_simp
      exact hK.out _ _ trivial (fun _ => wpAnyH_listed (by kernel_rfl) rfl (H00110 W1 (hM1.put (fun y => by simp only [setOf, List.any_cons, List.any_nil, Bool.or_false]; try (generalize eqN y ⟨0, 0⟩ = b0; generalize eqN y ⟨1, 0⟩ = b1; generalize eqN y ⟨2, 0⟩ = b2; generalize eqN y ⟨5, 0⟩ = b3; generalize eqN y ⟨6, 0⟩ = b4; revert b0 b1 b2 b3 b4; decide))) (hK0.trans (KeptT.grown hg (fun b e => by injection e with e; simp [e])))))
    refine AllReadyH.cons (o := { dst := none, op := Go.Op.insert 63 (Go.Operand.tmp 4) (Go.Operand.tmp 13) (Go.Operand.tmp 14), type := 0, pos := "text.go:34", after := #[{ on := 0, ground := Go.Ground.data }, { on := 13, ground := Go.Ground.data }, { on := 14, ground := Go.Ground.data }], guard := none }) rfl (fun K hK => ?_) ?_
    · obtain ⟨W1, hr, hM1, hg⟩ := put_node hM (⟨6, 0⟩ : NodeD) (by decide)
      have hr1 : (Instr.mapUpdate 63 (.map (some m)) (.agg #[.int .i64 6, .int .i64 0]) (.agg #[.string { data := #[40] }, .string { data := #[32, 124, 32] }, .string { data := #[41] }])).run Tryz.prog W = .ok () W1 := hr
      clear hr
      simp only [phrAct]
      go_simp
      exact hK.out _ _ trivial (fun _ => wpAnyH_listed (by kernel_rfl) rfl (H00011 W1 (hM1.put (fun y => by simp only [setOf, List.any_cons, List.any_nil, Bool.or_false]; try (generalize eqN y ⟨0, 0⟩ = b0; generalize eqN y ⟨1, 0⟩ = b1; generalize eqN y ⟨2, 0⟩ = b2; generalize eqN y ⟨5, 0⟩ = b3; generalize eqN y ⟨6, 0⟩ = b4; revert b0 b1 b2 b3 b4; decide))) (hK0.trans (KeptT.grown hg (fun b e => by injection e with e; simp [e])))))
    exact AllReadyH.nil
  have H00001 : ∀ W, PhrOf W m (setOf [⟨6, 0⟩]) → KeptT [m] w0 W → wpAnyH Tryz.prog .any phrOps Q (fun _ => True) 6 #[true, true, true, false, true, true, false, true, true, false, true, true, false, true, true, true, false, false] (phrAct m) W := fun W hM hK0 => by
    refine wpAnyH_ready (rs := [3, 6, 9, 12]) (by kernel_rfl) (by simp) ?_
    refine AllReadyH.cons (o := { dst := none, op := Go.Op.insert 63 (Go.Operand.tmp 4) (Go.Operand.tmp 5) (Go.Operand.tmp 6), type := 0, pos := "text.go:34", after := #[{ on := 0, ground := Go.Ground.data }, { on := 1, ground := Go.Ground.data }, { on := 2, ground := Go.Ground.data }], guard := none }) rfl (fun K hK => ?_) ?_
    · obtain ⟨W1, hr, hM1, hg⟩ := put_node hM (⟨0, 0⟩ : NodeD) (by decide)
      have hr1 : (Instr.mapUpdate 63 (.map (some m)) (.agg #[.int .i64 0, .int .i64 0]) (.agg #[.string { data := #[110, 111, 116, 104, 105, 110, 103] }, .string { data := #[] }, .string { data := #[] }])).run Tryz.prog W = .ok () W1 := hr
      clear hr
      simp only [phrAct]
      go_simp
      exact hK.out _ _ trivial (fun _ => wpAnyH_listed (by kernel_rfl) rfl (H10001 W1 (hM1.put (fun y => by simp only [setOf, List.any_cons, List.any_nil, Bool.or_false]; try (generalize eqN y ⟨0, 0⟩ = b0; generalize eqN y ⟨1, 0⟩ = b1; generalize eqN y ⟨2, 0⟩ = b2; generalize eqN y ⟨5, 0⟩ = b3; generalize eqN y ⟨6, 0⟩ = b4; revert b0 b1 b2 b3 b4; decide))) (hK0.trans (KeptT.grown hg (fun b e => by injection e with e; simp [e])))))
    refine AllReadyH.cons (o := { dst := none, op := Go.Op.insert 63 (Go.Operand.tmp 4) (Go.Operand.tmp 7) (Go.Operand.tmp 8), type := 0, pos := "text.go:34", after := #[{ on := 0, ground := Go.Ground.data }, { on := 4, ground := Go.Ground.data }, { on := 5, ground := Go.Ground.data }], guard := none }) rfl (fun K hK => ?_) ?_
    · obtain ⟨W1, hr, hM1, hg⟩ := put_node hM (⟨1, 0⟩ : NodeD) (by decide)
      have hr1 : (Instr.mapUpdate 63 (.map (some m)) (.agg #[.int .i64 1, .int .i64 0]) (.agg #[.string { data := #[112, 97, 117, 115, 101] }, .string { data := #[] }, .string { data := #[] }])).run Tryz.prog W = .ok () W1 := hr
      clear hr
      simp only [phrAct]
      go_simp
      exact hK.out _ _ trivial (fun _ => wpAnyH_listed (by kernel_rfl) rfl (H01001 W1 (hM1.put (fun y => by simp only [setOf, List.any_cons, List.any_nil, Bool.or_false]; try (generalize eqN y ⟨0, 0⟩ = b0; generalize eqN y ⟨1, 0⟩ = b1; generalize eqN y ⟨2, 0⟩ = b2; generalize eqN y ⟨5, 0⟩ = b3; generalize eqN y ⟨6, 0⟩ = b4; revert b0 b1 b2 b3 b4; decide))) (hK0.trans (KeptT.grown hg (fun b e => by injection e with e; simp [e])))))
    refine AllReadyH.cons (o := { dst := none, op := Go.Op.insert 63 (Go.Operand.tmp 4) (Go.Operand.tmp 9) (Go.Operand.tmp 10), type := 0, pos := "text.go:34", after := #[{ on := 0, ground := Go.Ground.data }, { on := 7, ground := Go.Ground.data }, { on := 8, ground := Go.Ground.data }], guard := none }) rfl (fun K hK => ?_) ?_
    · obtain ⟨W1, hr, hM1, hg⟩ := put_node hM (⟨2, 0⟩ : NodeD) (by decide)
      have hr1 : (Instr.mapUpdate 63 (.map (some m)) (.agg #[.int .i64 2, .int .i64 0]) (.agg #[.string { data := #[104, 97, 108, 116] }, .string { data := #[] }, .string { data := #[] }])).run Tryz.prog W = .ok () W1 := hr
      clear hr
      simp only [phrAct]
      go_simp
      exact hK.out _ _ trivial (fun _ => wpAnyH_listed (by kernel_rfl) rfl (H00101 W1 (hM1.put (fun y => by simp only [setOf, List.any_cons, List.any_nil, Bool.or_false]; try (generalize eqN y ⟨0, 0⟩ = b0; generalize eqN y ⟨1, 0⟩ = b1; generalize eqN y ⟨2, 0⟩ = b2; generalize eqN y ⟨5, 0⟩ = b3; generalize eqN y ⟨6, 0⟩ = b4; revert b0 b1 b2 b3 b4; decide))) (hK0.trans (KeptT.grown hg (fun b e => by injection e with e; simp [e])))))
    refine AllReadyH.cons (o := { dst := none, op := Go.Op.insert 63 (Go.Operand.tmp 4) (Go.Operand.tmp 11) (Go.Operand.tmp 12), type := 0, pos := "text.go:34", after := #[{ on := 0, ground := Go.Ground.data }, { on := 10, ground := Go.Ground.data }, { on := 11, ground := Go.Ground.data }], guard := none }) rfl (fun K hK => ?_) ?_
    · obtain ⟨W1, hr, hM1, hg⟩ := put_node hM (⟨5, 0⟩ : NodeD) (by decide)
      have hr1 : (Instr.mapUpdate 63 (.map (some m)) (.agg #[.int .i64 5, .int .i64 0]) (.agg #[.string { data := #[40] }, .string { data := #[59, 32] }, .string { data := #[41] }])).run Tryz.prog W = .ok () W1 := hr
      clear hr
      simp only [phrAct]
      go_simp
      exact hK.out _ _ trivial (fun _ => wpAnyH_listed (by kernel_rfl) rfl (H00011 W1 (hM1.put (fun y => by simp only [setOf, List.any_cons, List.any_nil, Bool.or_false]; try (generalize eqN y ⟨0, 0⟩ = b0; generalize eqN y ⟨1, 0⟩ = b1; generalize eqN y ⟨2, 0⟩ = b2; generalize eqN y ⟨5, 0⟩ = b3; generalize eqN y ⟨6, 0⟩ = b4; revert b0 b1 b2 b3 b4; decide))) (hK0.trans (KeptT.grown hg (fun b e => by injection e with e; simp [e])))))
    exact AllReadyH.nil
  have H00000 : ∀ W, PhrOf W m (setOf []) → KeptT [m] w0 W → wpAnyH Tryz.prog .any phrOps Q (fun _ => True) 7 #[true, true, true, false, true, true, false, true, true, false, true, true, false, true, true, false, false, false] (phrAct m) W := fun W hM hK0 => by
    refine wpAnyH_ready (rs := [3, 6, 9, 12, 15]) (by kernel_rfl) (by simp) ?_
    refine AllReadyH.cons (o := { dst := none, op := Go.Op.insert 63 (Go.Operand.tmp 4) (Go.Operand.tmp 5) (Go.Operand.tmp 6), type := 0, pos := "text.go:34", after := #[{ on := 0, ground := Go.Ground.data }, { on := 1, ground := Go.Ground.data }, { on := 2, ground := Go.Ground.data }], guard := none }) rfl (fun K hK => ?_) ?_
    · obtain ⟨W1, hr, hM1, hg⟩ := put_node hM (⟨0, 0⟩ : NodeD) (by decide)
      have hr1 : (Instr.mapUpdate 63 (.map (some m)) (.agg #[.int .i64 0, .int .i64 0]) (.agg #[.string { data := #[110, 111, 116, 104, 105, 110, 103] }, .string { data := #[] }, .string { data := #[] }])).run Tryz.prog W = .ok () W1 := hr
      clear hr
      simp only [phrAct]
      go_simp
      exact hK.out _ _ trivial (fun _ => wpAnyH_listed (by kernel_rfl) rfl (H10000 W1 (hM1.put (fun y => by simp only [setOf, List.any_cons, List.any_nil, Bool.or_false]; try (generalize eqN y ⟨0, 0⟩ = b0; generalize eqN y ⟨1, 0⟩ = b1; generalize eqN y ⟨2, 0⟩ = b2; generalize eqN y ⟨5, 0⟩ = b3; generalize eqN y ⟨6, 0⟩ = b4; revert b0 b1 b2 b3 b4; decide))) (hK0.trans (KeptT.grown hg (fun b e => by injection e with e; simp [e])))))
    refine AllReadyH.cons (o := { dst := none, op := Go.Op.insert 63 (Go.Operand.tmp 4) (Go.Operand.tmp 7) (Go.Operand.tmp 8), type := 0, pos := "text.go:34", after := #[{ on := 0, ground := Go.Ground.data }, { on := 4, ground := Go.Ground.data }, { on := 5, ground := Go.Ground.data }], guard := none }) rfl (fun K hK => ?_) ?_
    · obtain ⟨W1, hr, hM1, hg⟩ := put_node hM (⟨1, 0⟩ : NodeD) (by decide)
      have hr1 : (Instr.mapUpdate 63 (.map (some m)) (.agg #[.int .i64 1, .int .i64 0]) (.agg #[.string { data := #[112, 97, 117, 115, 101] }, .string { data := #[] }, .string { data := #[] }])).run Tryz.prog W = .ok () W1 := hr
      clear hr
      simp only [phrAct]
      go_simp
      exact hK.out _ _ trivial (fun _ => wpAnyH_listed (by kernel_rfl) rfl (H01000 W1 (hM1.put (fun y => by simp only [setOf, List.any_cons, List.any_nil, Bool.or_false]; try (generalize eqN y ⟨0, 0⟩ = b0; generalize eqN y ⟨1, 0⟩ = b1; generalize eqN y ⟨2, 0⟩ = b2; generalize eqN y ⟨5, 0⟩ = b3; generalize eqN y ⟨6, 0⟩ = b4; revert b0 b1 b2 b3 b4; decide))) (hK0.trans (KeptT.grown hg (fun b e => by injection e with e; simp [e])))))
    refine AllReadyH.cons (o := { dst := none, op := Go.Op.insert 63 (Go.Operand.tmp 4) (Go.Operand.tmp 9) (Go.Operand.tmp 10), type := 0, pos := "text.go:34", after := #[{ on := 0, ground := Go.Ground.data }, { on := 7, ground := Go.Ground.data }, { on := 8, ground := Go.Ground.data }], guard := none }) rfl (fun K hK => ?_) ?_
    · obtain ⟨W1, hr, hM1, hg⟩ := put_node hM (⟨2, 0⟩ : NodeD) (by decide)
      have hr1 : (Instr.mapUpdate 63 (.map (some m)) (.agg #[.int .i64 2, .int .i64 0]) (.agg #[.string { data := #[104, 97, 108, 116] }, .string { data := #[] }, .string { data := #[] }])).run Tryz.prog W = .ok () W1 := hr
      clear hr
      simp only [phrAct]
      go_simp
      exact hK.out _ _ trivial (fun _ => wpAnyH_listed (by kernel_rfl) rfl (H00100 W1 (hM1.put (fun y => by simp only [setOf, List.any_cons, List.any_nil, Bool.or_false]; try (generalize eqN y ⟨0, 0⟩ = b0; generalize eqN y ⟨1, 0⟩ = b1; generalize eqN y ⟨2, 0⟩ = b2; generalize eqN y ⟨5, 0⟩ = b3; generalize eqN y ⟨6, 0⟩ = b4; revert b0 b1 b2 b3 b4; decide))) (hK0.trans (KeptT.grown hg (fun b e => by injection e with e; simp [e])))))
    refine AllReadyH.cons (o := { dst := none, op := Go.Op.insert 63 (Go.Operand.tmp 4) (Go.Operand.tmp 11) (Go.Operand.tmp 12), type := 0, pos := "text.go:34", after := #[{ on := 0, ground := Go.Ground.data }, { on := 10, ground := Go.Ground.data }, { on := 11, ground := Go.Ground.data }], guard := none }) rfl (fun K hK => ?_) ?_
    · obtain ⟨W1, hr, hM1, hg⟩ := put_node hM (⟨5, 0⟩ : NodeD) (by decide)
      have hr1 : (Instr.mapUpdate 63 (.map (some m)) (.agg #[.int .i64 5, .int .i64 0]) (.agg #[.string { data := #[40] }, .string { data := #[59, 32] }, .string { data := #[41] }])).run Tryz.prog W = .ok () W1 := hr
      clear hr
      simp only [phrAct]
      go_simp
      exact hK.out _ _ trivial (fun _ => wpAnyH_listed (by kernel_rfl) rfl (H00010 W1 (hM1.put (fun y => by simp only [setOf, List.any_cons, List.any_nil, Bool.or_false]; try (generalize eqN y ⟨0, 0⟩ = b0; generalize eqN y ⟨1, 0⟩ = b1; generalize eqN y ⟨2, 0⟩ = b2; generalize eqN y ⟨5, 0⟩ = b3; generalize eqN y ⟨6, 0⟩ = b4; revert b0 b1 b2 b3 b4; decide))) (hK0.trans (KeptT.grown hg (fun b e => by injection e with e; simp [e])))))
    refine AllReadyH.cons (o := { dst := none, op := Go.Op.insert 63 (Go.Operand.tmp 4) (Go.Operand.tmp 13) (Go.Operand.tmp 14), type := 0, pos := "text.go:34", after := #[{ on := 0, ground := Go.Ground.data }, { on := 13, ground := Go.Ground.data }, { on := 14, ground := Go.Ground.data }], guard := none }) rfl (fun K hK => ?_) ?_
    · obtain ⟨W1, hr, hM1, hg⟩ := put_node hM (⟨6, 0⟩ : NodeD) (by decide)
      have hr1 : (Instr.mapUpdate 63 (.map (some m)) (.agg #[.int .i64 6, .int .i64 0]) (.agg #[.string { data := #[40] }, .string { data := #[32, 124, 32] }, .string { data := #[41] }])).run Tryz.prog W = .ok () W1 := hr
      clear hr
      simp only [phrAct]
      go_simp
      exact hK.out _ _ trivial (fun _ => wpAnyH_listed (by kernel_rfl) rfl (H00001 W1 (hM1.put (fun y => by simp only [setOf, List.any_cons, List.any_nil, Bool.or_false]; try (generalize eqN y ⟨0, 0⟩ = b0; generalize eqN y ⟨1, 0⟩ = b1; generalize eqN y ⟨2, 0⟩ = b2; generalize eqN y ⟨5, 0⟩ = b3; generalize eqN y ⟨6, 0⟩ = b4; revert b0 b1 b2 b3 b4; decide))) (hK0.trans (KeptT.grown hg (fun b e => by injection e with e; simp [e])))))
    exact AllReadyH.nil
  exact H00000
end Go.Proofs.YtongajonecgdpagGreatDoor
