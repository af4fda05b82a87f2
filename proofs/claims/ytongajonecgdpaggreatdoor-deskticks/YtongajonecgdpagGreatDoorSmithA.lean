/- The smith's memory: a box, rows of its own (gates, registers, outs, by whom each output is put out), and what stays whatever is written into these. -/
import Derived.Test.YtongajonecgdpagGreatDoorForgeM
import Derived.Test.YtongajonecgdpagGreatDoorReachM
import Derived.Test.YtongajonecgdpagGreatDoorEvalP
import Derived.Laws.OwnMore
import Derived.Test.YtongajonecgdpagGreatDoorProgP
import Derived.Deep.AppendLies
import Derived.Deep.Upon
import Derived.Deep.DeepCutAuto
import Derived.Deep.CutBlock
namespace Go.Proofs.YtongajonecgdpagGreatDoor
open Go.RowKit

open Go.Maps
def ownB (v : Value) : List Nat := v.ownBlock.toList
theorem ownB_mem {v : Value} {x : Nat} : x ∈ ownB v ↔ v.ownBlock = some x := by unfold ownB; cases v.ownBlock <;> simp [eq_comm]
theorem row_apart {w : World} {B1 B2 s1 s2 n1 n2 : Nat} {e1 e2 : TypeId} {v1 v2 : Value} {x1 x2 : List Value} (h1 : w.ownsRow B1 e1 s1 v1 n1 x1) (h2 : w.ownsRow B2 e2 s2 v2 n2 x2) (he : e1 ≠ e2) : ∀ x, v1.ownBlock = some x → v2.ownBlock ≠ some x := by
  intro x hx hy
  rcases h1.2 with ⟨h3, _⟩ | ⟨g, cap, cur, hv, _, hh, _⟩
  · rw [h3] at hx; simp [Value.ownBlock] at hx
  · rcases h2.2 with ⟨h4, _⟩ | ⟨g', cap', cur', hv', _, hh', _⟩
    · rw [h4] at hy; simp [Value.ownBlock] at hy
    · rw [hv] at hx; rw [hv'] at hy
      have e3 : g = x := by simpa [Value.ownBlock] using hx
      have e4 : g' = x := by simpa [Value.ownBlock] using hy
      subst e3; subst e4
      rw [hh] at hh'
      injection hh' with h5
      injection h5 with _ h6 _
      exact he h6
theorem row_ne {w : World} {base g size n : Nat} {e T : TypeId} {v : Value} {xs vs : List Value} (h : w.ownsRow base e size v n xs) (hc : Cells w g vs T) (hT : T ≠ e) : v.ownBlock ≠ some g := by
  rcases h.2 with ⟨h1, _⟩ | ⟨g', cap, cur, hv, _, hh, _⟩
  · rw [h1]; simp [Value.ownBlock]
  · rw [hv]
    intro e1
    have e2 : g' = g := by simpa [Value.ownBlock] using e1
    subst e2
    unfold Cells at hc
    rw [hh] at hc
    injection hc with hc
    injection hc with _ hc _
    exact hT hc.symm
theorem row_kept {w w' : World} {base size n : Nat} {e : TypeId} {v : Value} {xs : List Value} {G : List Nat} (h : w.ownsRow base e size v n xs) (hk : KeptG G w w') (hn : ∀ b, v.ownBlock = some b → b ∉ G) : w'.ownsRow base e size v n xs := by
  refine ⟨h.1, ?_⟩
  rcases h.2 with hn | ⟨g', cap, cur, hv, hbs, hgg, rest⟩
  · exact .inl hn
  · exact .inr ⟨g', cap, cur, hv, hbs, (hk.2 g' (Array.getElem?_eq_some_iff.1 hgg).1 (hn g' (by rw [hv]; rfl))).trans hgg, rest⟩
theorem row_set {w : World} {base size n bm k : Nat} {e : TypeId} {v u : Value} {xs : List Value} (h : w.ownsRow base e size v n xs) (hne : v.ownBlock ≠ some bm) : (w.setCell ⟨bm, k, none⟩ u).ownsRow base e size v n xs :=
  row_kept (G := [bm]) h (KeptG.set u (by simp)) (fun b hb h1 => hne (by rw [List.mem_singleton.1 h1] at hb; exact hb))
theorem row_turn {w w' : World} {base size n bm k : Nat} {e : TypeId} {v u : Value} {xs : List Value} {row : Option Nat} (h : w.ownsRow base e size v n xs) (hg : w.grownBy w' row) (hne : ∀ x, v.ownBlock = some x → row ≠ some x) (hb : v.ownBlock ≠ some bm) : (w'.setCell ⟨bm, k, none⟩ u).ownsRow base e size v n xs := by
  refine row_set (h.kept hg ?_) hb
  cases e1 : v.ownBlock with
  | none => exact Or.inl rfl
  | some x => exact Or.inr (fun h2 => hne x e1 h2.symm)
theorem row_nil {w : World} {base : Nat} {e : TypeId} {size : Nat} {a : Option Addr} {n c k : Nat} {xs : List Value} (h : w.ownsRow base e size (.slice a n c) k xs) : a = none → n = 0 ∧ c = 0 := by
  intro ha
  rcases h.2 with ⟨h1, _⟩ | ⟨g, cap, cur, hv, _⟩
  · injection h1 with _ h2 h3; exact ⟨h2, h3⟩
  · injection hv with h3 _ _; rw [ha] at h3; simp at h3
/-- A list of the call's own stays, if nothing is written into its block. -/
theorem Kp.row {G : List Nat} {W : World} {B size n : Nat} {e : TypeId} {v : Value} {xs : List Value} (h : W.ownsRow B e size v n xs) (hG : ∀ b, v.ownBlock = some b → b ∉ G) : Kp G W (fun V => V.ownsRow B e size v n xs) := fun _ hk => row_kept h hk hG
theorem Kp.imp {G : List Nat} {W : World} {Q R : World → Prop} (h : Kp G W Q) (hi : ∀ V, Q V → R V) : Kp G W R := fun V hk => hi V (h V hk)
theorem Kp.and {G : List Nat} {W : World} {Q R : World → Prop} (h : Kp G W Q) (h' : Kp G W R) : Kp G W (fun V => Q V ∧ R V) := fun V hk => ⟨h V hk, h' V hk⟩
/-- What lay there ahead of the blocks G. -/
theorem Kp.early {G : List Nat} {B : Nat} {W : World} {Q : World → Prop} (hG : ∀ g ∈ G, B ≤ g) (hB : B ≤ W.heap.size) (h : ∀ V, W.heap.size ≤ V.heap.size → (∀ k, k < B → V.heap[k]? = W.heap[k]?) → Q V) : Kp G W Q := fun V hk => h V hk.1 (fun k hk1 => hk.2 k (by omega) (fun hm => by have := hG k hm; omega))

/-- A row of gates, their lists so that they stay whatever is written into the blocks G. -/
def GRk (G : List Nat) (W : World) (cs : List Value) (gs : List GateD) : Prop := cs.length = gs.length * 3 ∧ ∀ j (hj : j < gs.length), ∃ aa an ac, cs[j * 3]? = some (.int .i64 gs[j].kind) ∧ cs[j * 3 + 1]? = some (.int .i64 gs[j].n) ∧ cs[j * 3 + 2]? = some (.slice aa an ac) ∧ Kp G W (fun V => Ints V aa an gs[j].args)
theorem GRk.nil (G : List Nat) (W : World) : GRk G W [] [] := ⟨rfl, fun j hj => by simp at hj⟩
theorem GRk.step {G G' : List Nat} {W W1 : World} {cs : List Value} {gs : List GateD} (h : GRk G W cs gs) (hk : KeptG G W W1) (hG : ∀ g ∈ G', g ∈ G ∨ W.heap.size ≤ g) : GRk G' W1 cs gs :=
  ⟨h.1, fun j hj => by obtain ⟨aa, an, ac, h1, h2, h3, h4⟩ := h.2 j hj; exact ⟨aa, an, ac, h1, h2, h3, h4.step hk hG⟩⟩
theorem GRk.more {G : List Nat} {W : World} {cs : List Value} {gs : List GateD} (h : GRk G W cs gs) {x : GateD} {aa : Option Addr} {an ac : Nat} (hI : Kp G W (fun V => Ints V aa an x.args)) : GRk G W (cs ++ [.int .i64 x.kind, .int .i64 x.n, .slice aa an ac]) (gs ++ [x]) := by
  have hl := h.1
  refine ⟨by simp [hl]; omega, fun j hj => ?_⟩
  by_cases e : j < gs.length
  · obtain ⟨a', n', c', h1, h2, h3, h4⟩ := h.2 j e
    refine ⟨a', n', c', ?_, ?_, ?_, ?_⟩
    · rw [List.getElem?_append_left (by omega), List.getElem_append_left e]; exact h1
    · rw [List.getElem?_append_left (by omega), List.getElem_append_left e]; exact h2
    · rw [List.getElem?_append_left (by omega)]; exact h3
    · rw [List.getElem_append_left e]; exact h4
  · have ej : j = gs.length := by simp at hj; omega
    subst ej
    refine ⟨aa, an, ac, ?_, ?_, ?_, by simpa using hI⟩
    · rw [List.getElem?_append_right (by omega), show gs.length * 3 - cs.length = 0 by omega]; simp
    · rw [List.getElem?_append_right (by omega), show gs.length * 3 + 1 - cs.length = 1 by omega]; simp
    · rw [List.getElem?_append_right (by omega), show gs.length * 3 + 2 - cs.length = 2 by omega]; simp
theorem own_gatesR {w : World} {base : Nat} {e : TypeId} {a : Option Addr} {c n : Nat} {G : List Nat} {cs : List Value} {gs : List GateD} (h : w.ownsRow base e 3 (.slice a n c) n cs) (hG : GRk G w cs gs) (hn : n = gs.length) (hm : n ≤ maxLen) : Gates w a n gs := by
  rcases h.2 with ⟨h1, h2⟩ | ⟨g, cap, cur, hv, hg, hh, r⟩
  · subst h2
    exact ⟨hn, by omega, Or.inl (List.eq_nil_of_length_eq_zero hn.symm)⟩
  · injection hv with hv1 hv2 hv3
    subst hv1
    refine ⟨hn, by omega, Or.inr ⟨g, 0, rfl, (Array.getElem?_eq_some_iff.1 hh).1, fun i hi => ?_⟩⟩
    obtain ⟨aa, an, ac, h1, h2, h3, h4⟩ := hG.2 i hi
    have c1 := h.cells (g := g) rfl _ _ h1
    have c2 := h.cells (g := g) rfl _ _ h2
    have c3 := h.cells (g := g) rfl _ _ h3
    rw [addr_plus] at c1 c2 c3
    exact ⟨c1, by rw [← Nat.add_assoc] at c2; exact c2, aa, an, ac, by rw [← Nat.add_assoc] at c3; exact c3, h4.now⟩
/-- What a row of registers holds. -/
def stV (rs : List (Bool × Int)) : List Value := rs.flatMap (fun r => [.bool r.1, .int .i64 r.2])
theorem stV_at : ∀ (rs : List (Bool × Int)) (i : Nat) (hi : i < rs.length), (stV rs)[i * 2]? = some (.bool rs[i].1) ∧ (stV rs)[i * 2 + 1]? = some (.int .i64 rs[i].2)
  | r :: rs, 0, _ => ⟨rfl, rfl⟩
  | r :: rs, i + 1, hi => by
    have := stV_at rs i (by simpa using hi)
    rw [show (i + 1) * 2 = i * 2 + 2 by omega]
    exact this
theorem stV_set : ∀ (rs : List (Bool × Int)) (i : Nat) (x : Int), (stV rs).set (i * 2 + 1) (.int .i64 x) = stV (rs.set i ((rs.getD i (false, 0)).1, x))
  | [], i, x => by simp [stV]
  | r :: rs, 0, x => rfl
  | r :: rs, i + 1, x => by
    have := stV_set rs i x
    rw [show (i + 1) * 2 + 1 = (i * 2 + 1) + 2 by omega]
    show (Value.bool r.1) :: (Value.int .i64 r.2) :: ((stV rs).set (i * 2 + 1) (.int .i64 x)) = _
    rw [this]
    rfl
theorem stV_snoc (rs : List (Bool × Int)) (b : Bool) (x : Int) : stV (rs ++ [(b, x)]) = stV rs ++ [.bool b, .int .i64 x] := by simp [stV]
theorem own_regsR {w : World} {base : Nat} {e : TypeId} {a : Option Addr} {n c : Nat} {rs : List (Bool × Int)} (h : w.ownsRow base e 2 (.slice a n c) n (stV rs)) (hn : n = rs.length) (hm : n ≤ maxLen) : Regs w a n rs := by
  rcases h.2 with ⟨h1, h2⟩ | ⟨g, cap, cur, hv, hg, hh, r⟩
  · subst h2
    exact ⟨hn, by omega, Or.inl (List.eq_nil_of_length_eq_zero hn.symm)⟩
  · injection hv with hv1 _ _
    subst hv1
    refine ⟨hn, by omega, Or.inr ⟨g, 0, rfl, (Array.getElem?_eq_some_iff.1 hh).1, fun i hi => ?_⟩⟩
    obtain ⟨h1, h2⟩ := stV_at rs i hi
    have c1 := h.cells (g := g) rfl _ _ h1
    have c2 := h.cells (g := g) rfl _ _ h2
    rw [addr_plus] at c1 c2
    exact ⟨c1, by rw [← Nat.add_assoc] at c2; exact c2⟩

/-- What a smith holds besides its rows. -/
structure KK where
  nv : Value
  iv : Value
  fr : Value
  wv : Value
  mv : Value
/-- The rows. -/
structure Rw where
  gv : Value
  rv : Value
  ov : Value
  pv : Nat → Value
def boxV (k : KK) (r : Rw) : List Value := [.int .i64 3, r.gv, r.rv, r.ov, k.nv, k.iv, k.fr, k.wv, k.mv, r.pv 0, r.pv 1, r.pv 2]
def rowsL (b : Nat) (r : Rw) : List Nat := b :: (ownB r.gv ++ (ownB r.rv ++ (ownB r.ov ++ (ownB (r.pv 0) ++ (ownB (r.pv 1) ++ ownB (r.pv 2))))))
theorem rowsL_mem {b : Nat} {r : Rw} {x : Nat} : x ∈ rowsL b r ↔ x = b ∨ r.gv.ownBlock = some x ∨ r.rv.ownBlock = some x ∨ r.ov.ownBlock = some x ∨ ∃ c, c < 3 ∧ (r.pv c).ownBlock = some x := by
  simp only [rowsL, List.mem_cons, List.mem_append, ownB_mem]
  constructor
  · rintro (h | h | h | h | h | h | h)
    · exact Or.inl h
    · exact Or.inr (Or.inl h)
    · exact Or.inr (Or.inr (Or.inl h))
    · exact Or.inr (Or.inr (Or.inr (Or.inl h)))
    · exact Or.inr (Or.inr (Or.inr (Or.inr ⟨0, by omega, h⟩)))
    · exact Or.inr (Or.inr (Or.inr (Or.inr ⟨1, by omega, h⟩)))
    · exact Or.inr (Or.inr (Or.inr (Or.inr ⟨2, by omega, h⟩)))
  · rintro (h | h | h | h | ⟨c, hc, h⟩)
    · exact Or.inl h
    · exact Or.inr (Or.inl h)
    · exact Or.inr (Or.inr (Or.inl h))
    · exact Or.inr (Or.inr (Or.inr (Or.inl h)))
    · have : c = 0 ∨ c = 1 ∨ c = 2 := by omega
      rcases this with rfl | rfl | rfl
      · exact Or.inr (Or.inr (Or.inr (Or.inr (Or.inl h))))
      · exact Or.inr (Or.inr (Or.inr (Or.inr (Or.inr (Or.inl h)))))
      · exact Or.inr (Or.inr (Or.inr (Or.inr (Or.inr (Or.inr h)))))
/-- The outs so far; and, where it is told, where the lists lie by which outputs are put out. -/
abbrev OS := List Int × Option (Nat → Value)
structure SmIn (B : Nat) (W : World) (b : Nat) (k : KK) (X : List Nat) (Q : World → Prop) (s : SmD) (os : OS) (r : Rw) (cs : List Value) : Prop where
  hb : B ≤ b
  box : Cells W b (boxV k r) 109
  gates : W.ownsRow B 126 3 r.gv s.gates.length cs
  regs : W.ownsRow B 133 2 r.rv s.regs.length (stV s.regs)
  outs : W.ownsRow B 3 1 r.ov os.1.length (intsV os.1)
  puts : ∀ c, c < 3 → W.ownsRow B 3 1 (r.pv c) (s.puts.getD c []).length (intsV (s.puts.getD c []))
  apo : ∀ c, c < 3 → ∀ x, (r.pv c).ownBlock = some x → r.ov.ownBlock ≠ some x
  app : ∀ c d, c < 3 → d < 3 → c ≠ d → ∀ x, (r.pv c).ownBlock = some x → (r.pv d).ownBlock ≠ some x
  keep : GRk (rowsL b r ++ X) W cs s.gates
  rest : Kp (rowsL b r ++ X) W Q
  xs : ∀ x ∈ X, x < W.heap.size ∧ x ∉ rowsL b r
  pvs : ∀ pv, os.2 = some pv → r.pv = pv
theorem SmIn.lt {B : Nat} {W : World} {b : Nat} {k : KK} {X : List Nat} {Q : World → Prop} {s : SmD} {os : OS} {r : Rw} {cs : List Value} (h : SmIn B W b k X Q s os r cs) : ∀ x ∈ rowsL b r, B ≤ x ∧ x < W.heap.size := by
  intro x hx
  rcases rowsL_mem.1 hx with rfl | h1 | h1 | h1 | ⟨c, hc, h1⟩
  · exact ⟨h.hb, h.box.lt⟩
  · exact h.gates.lt x h1
  · exact h.regs.lt x h1
  · exact h.outs.lt x h1
  · exact (h.puts c hc).lt x h1
theorem SmIn.on {B : Nat} {W W' : World} {b : Nat} {k : KK} {X : List Nat} {Q : World → Prop} {s : SmD} {os : OS} {r : Rw} {cs : List Value} (h : SmIn B W b k X Q s os r cs) (hb : Below W.heap.size W W') : SmIn B W' b k X Q s os r cs where
  hb := h.hb
  box := h.box.below hb h.box.lt
  gates := own_below h.gates hb
  regs := own_below h.regs hb
  outs := own_below h.outs hb
  puts := fun c hc => own_below (h.puts c hc) hb
  apo := h.apo
  app := h.app
  keep := h.keep.step (KeptG.of hb) (fun _ hg => Or.inl hg)
  rest := h.rest.on hb
  xs := fun x hx => ⟨Nat.lt_of_lt_of_le (h.xs x hx).1 hb.size, (h.xs x hx).2⟩
  pvs := h.pvs
/-- The smith, its own blocks told. -/
def SmAt (B : Nat) (W : World) (b : Nat) (k : KK) (G X : List Nat) (Q : World → Prop) (s : SmD) (os : OS) : Prop := ∃ r cs, SmIn B W b k X Q s os r cs ∧ G = rowsL b r
/-- What comes of a call: the smith turned, and nothing else that was there. -/
def SmRet (B b : Nat) (k : KK) (G X : List Nat) (Q : World → Prop) (w w' : World) (s' : SmD) (os' : OS) : Prop := ∃ G', SmAt B w' b k G' X Q s' os' ∧ KeptG G w w' ∧ (∀ g ∈ G', g ∈ G ∨ w.heap.size ≤ g) ∧ Below B w w'
theorem SmAt.on {B : Nat} {W W' : World} {b : Nat} {k : KK} {G X : List Nat} {Q : World → Prop} {s : SmD} {os : OS} (h : SmAt B W b k G X Q s os) (hb : Below W.heap.size W W') : SmAt B W' b k G X Q s os := by
  obtain ⟨r, cs, h1, h2⟩ := h
  exact ⟨r, cs, h1.on hb, h2⟩
theorem SmAt.lt {B : Nat} {W : World} {b : Nat} {k : KK} {G X : List Nat} {Q : World → Prop} {s : SmD} {os : OS} (h : SmAt B W b k G X Q s os) : ∀ x ∈ G, B ≤ x ∧ x < W.heap.size := by
  obtain ⟨r, cs, h1, h2⟩ := h
  rw [h2]; exact h1.lt
theorem SmAt.restK {B : Nat} {W : World} {b : Nat} {k : KK} {G X : List Nat} {Q : World → Prop} {s : SmD} {os : OS} (h : SmAt B W b k G X Q s os) : Kp (G ++ X) W Q := by
  obtain ⟨r, cs, h1, h2⟩ := h
  rw [h2]; exact h1.rest
theorem SmAt.xlt {B : Nat} {W : World} {b : Nat} {k : KK} {G X : List Nat} {Q : World → Prop} {s : SmD} {os : OS} (h : SmAt B W b k G X Q s os) : ∀ x ∈ X, x < W.heap.size ∧ x ∉ G := by
  obtain ⟨r, cs, h1, h2⟩ := h
  rw [h2]; exact h1.xs
theorem KeptG.left {G X : List Nat} {w w' : World} (h : KeptG G w w') : KeptG (G ++ X) w w' := h.mono (fun _ hb => List.mem_append_left _ hb)
theorem KeptG.right {G X : List Nat} {w w' : World} (h : KeptG X w w') : KeptG (G ++ X) w w' := h.mono (fun _ hb => List.mem_append_right _ hb)
theorem sub_left {G G' X : List Nat} {n : Nat} (h : ∀ g ∈ G', g ∈ G ∨ n ≤ g) : ∀ g ∈ G' ++ X, g ∈ G ++ X ∨ n ≤ g := fun g hg => by
  rcases List.mem_append.1 hg with h1 | h1
  · rcases h g h1 with h2 | h2
    · exact Or.inl (List.mem_append_left _ h2)
    · exact Or.inr h2
  · exact Or.inl (List.mem_append_right _ h1)
/-- Something else is written, into blocks that are not the smith's. -/
theorem SmAt.turnX {B : Nat} {W W' : World} {b : Nat} {k : KK} {G X X' : List Nat} {Q : World → Prop} {s : SmD} {os : OS} (h : SmAt B W b k G X Q s os) (hk : KeptG X W W') (hX : ∀ x ∈ X', x ∈ X ∨ W.heap.size ≤ x) (hlt : ∀ x ∈ X', x < W'.heap.size) : SmAt B W' b k G X' Q s os := by
  obtain ⟨r, cs, h1, rfl⟩ := h
  have hno : ∀ x, x ∈ rowsL b r → x ∉ X := fun x hx hm => (h1.xs x hm).2 hx
  have hsub : ∀ g ∈ rowsL b r ++ X', g ∈ rowsL b r ++ X ∨ W.heap.size ≤ g := fun g hg => by
    rcases List.mem_append.1 hg with h2 | h2
    · exact Or.inl (List.mem_append_left _ h2)
    · rcases hX g h2 with h3 | h3
      · exact Or.inl (List.mem_append_right _ h3)
      · exact Or.inr h3
  refine ⟨r, cs, ⟨h1.hb, (hk.2 b h1.box.lt (hno b (rowsL_mem.2 (Or.inl rfl)))).trans h1.box, row_kept h1.gates hk (fun y hy => hno y (rowsL_mem.2 (Or.inr (Or.inl hy)))), row_kept h1.regs hk (fun y hy => hno y (rowsL_mem.2 (Or.inr (Or.inr (Or.inl hy))))), row_kept h1.outs hk (fun y hy => hno y (rowsL_mem.2 (Or.inr (Or.inr (Or.inr (Or.inl hy)))))), fun c hc => row_kept (h1.puts c hc) hk (fun y hy => hno y (rowsL_mem.2 (Or.inr (Or.inr (Or.inr (Or.inr ⟨c, hc, hy⟩)))))), h1.apo, h1.app, h1.keep.step hk.right hsub, h1.rest.step hk.right hsub, fun x hx => ⟨hlt x hx, fun hm => ?_⟩, h1.pvs⟩, rfl⟩
  rcases hX x hx with h3 | h3
  · exact hno x hm h3
  · have := (h1.lt x hm).2
    omega
theorem SmAt.base {B : Nat} {W : World} {b : Nat} {k : KK} {G X : List Nat} {Q : World → Prop} {s : SmD} {os : OS} (h : SmAt B W b k G X Q s os) : B ≤ W.heap.size := by
  obtain ⟨r, cs, h1, h2⟩ := h
  have := h1.hb
  have := h1.box.lt
  omega
/-- The cells that do not turn. -/
theorem SmAt.cells {B : Nat} {W : World} {b : Nat} {k : KK} {G X : List Nat} {Q : World → Prop} {s : SmD} {os : OS} (h : SmAt B W b k G X Q s os) : b < W.heap.size ∧ W.cell? ⟨b, 4, none⟩ = some k.nv ∧ W.cell? ⟨b, 5, none⟩ = some k.iv ∧ W.cell? ⟨b, 6, none⟩ = some k.fr ∧ W.cell? ⟨b, 7, none⟩ = some k.wv ∧ W.cell? ⟨b, 8, none⟩ = some k.mv := by
  obtain ⟨r, cs, h1, h2⟩ := h
  have hc := h1.box.cell
  exact ⟨h1.box.lt, hc 4, hc 5, hc 6, hc 7, hc 8⟩
theorem SmRet.trans {B b : Nat} {k : KK} {G X : List Nat} {Q : World → Prop} {w w1 w2 : World} {s1 s2 : SmD} {o1 o2 : OS} {G1 : List Nat} (_h1 : SmAt B w1 b k G1 X Q s1 o1) (hk : KeptG G w w1) (hG : ∀ g ∈ G1, g ∈ G ∨ w.heap.size ≤ g) (hb : Below B w w1) (h : SmRet B b k G1 X Q w1 w2 s2 o2) : SmRet B b k G X Q w w2 s2 o2 := by
  obtain ⟨G2, a1, a2, a3, a4⟩ := h
  refine ⟨G2, a1, ⟨Nat.le_trans hk.1 a2.1, fun j hj hn => ?_⟩, fun g hg => ?_, hb.trans a4⟩
  · refine (a2.2 j (Nat.lt_of_lt_of_le hj hk.1) (fun hm => ?_)).trans (hk.2 j hj hn)
    rcases hG j hm with h5 | h5
    · exact hn h5
    · omega
  · rcases a3 g hg with h5 | h5
    · exact hG g h5
    · have := hk.1
      exact Or.inr (by omega)
theorem SmRet.self {B b : Nat} {k : KK} {G X : List Nat} {Q : World → Prop} {w w' : World} {s : SmD} {os : OS} (h : SmAt B w b k G X Q s os) (hb : Below w.heap.size w w') : SmRet B b k G X Q w w' s os :=
  ⟨G, h.on hb, KeptG.of hb, fun _ hg => Or.inl hg, hb.mono h.base⟩
/-- A world ahead. -/
theorem SmRet.early {B b : Nat} {k : KK} {G X : List Nat} {Q : World → Prop} {w w1 w2 : World} {s s2 : SmD} {os o2 : OS} (h0 : SmAt B w b k G X Q s os) (hb : Below w.heap.size w w1) (h : SmRet B b k G X Q w1 w2 s2 o2) : SmRet B b k G X Q w w2 s2 o2 :=
  SmRet.trans (h0.on hb) (KeptG.of hb) (fun _ hg => Or.inl hg) (hb.mono h0.base) h
/-- What stays whatever the smith does. -/
theorem SmRet.stays {B b : Nat} {k : KK} {G X : List Nat} {Q R : World → Prop} {w w' : World} {s' : SmD} {os' : OS} (h : SmRet B b k G X Q w w' s' os') (hR : Kp (G ++ X) w R) : ∃ G', SmAt B w' b k G' X Q s' os' ∧ Kp (G' ++ X) w' R ∧ KeptG G w w' ∧ (∀ g ∈ G', g ∈ G ∨ w.heap.size ≤ g) ∧ Below B w w' := by
  obtain ⟨G', a1, a2, a3, a4⟩ := h
  exact ⟨G', a1, hR.step a2.left (sub_left a3), a2, a3, a4⟩
theorem SmAt.see {B : Nat} {W : World} {b : Nat} {k : KK} {G X : List Nat} {Q : World → Prop} {s : SmD} {os : List Int} (h : SmAt B W b k G X Q s (os, none)) : ∃ pv, SmAt B W b k G X Q s (os, some pv) := by
  obtain ⟨r, cs, h1, h2⟩ := h
  exact ⟨r.pv, r, cs, ⟨h1.hb, h1.box, h1.gates, h1.regs, h1.outs, h1.puts, h1.apo, h1.app, h1.keep, h1.rest, h1.xs, fun pv e => by injection e⟩, h2⟩

open Go.Maps
def addGate (s : SmD) (g : GateD) : SmD := { s with gates := s.gates ++ [g] }
def addReg (s : SmD) (b : Bool) : SmD := { s with regs := s.regs ++ [(b, 0)] }
/-- What is so of the world behind: rows stay, other blocks too. -/
theorem rows_turn {B : Nat} {W w8 : World} {b j : Nat} {k : KK} {X : List Nat} {Q : World → Prop} {s : SmD} {os : OS} {r : Rw} {cs : List Value} (h : SmIn B W b k X Q s os r cs) {row : Option Nat} {u : Value} (hrow : ∀ x, row = some x → x ∈ rowsL b r) (hgr : W.grownBy w8 row) (hnb : row ≠ some b) :
    Cells w8 b (boxV k r) 109 ∧ KeptG (rowsL b r) W w8 ∧ KeptG (rowsL b r) W (w8.setCell ⟨b, j, none⟩ u) ∧ Below B W w8 ∧ Below B W (w8.setCell ⟨b, j, none⟩ u) := by
  have hbl := h.box.lt
  have hk8 : KeptG (rowsL b r) W w8 := KeptG.grown hgr hrow
  have hB : B ≤ W.heap.size := by have := h.hb; omega
  have hb8 : Below B W w8 := (Below.refl B W).grown hgr hB (fun x hx => (h.lt x (hrow x hx)).1)
  exact ⟨(hgr.block b hbl (Ne.symm hnb)).trans h.box, hk8, hk8.trans (KeptG.set u (rowsL_mem.2 (Or.inl rfl))), hb8, hb8.setCell h.hb _⟩
theorem SmIn.moreG {B : Nat} {W w8 : World} {b : Nat} {k : KK} {X : List Nat} {Q : World → Prop} {s : SmD} {os : OS} {r : Rw} {cs : List Value} (h : SmIn B W b k X Q s os r cs) (x : GateD) {aa : Option Addr} {an ac g8 cap8 : Nat}
    (hI : Kp (rowsL b r ++ X) W (fun V => Ints V aa an x.args)) (hown : w8.ownsRow B 126 3 (.slice (some ⟨g8, 0, none⟩) (s.gates.length + 1) cap8) (s.gates.length + 1) (cs ++ [.int .i64 x.kind, .int .i64 x.n, .slice aa an ac])) (hgr : W.grownBy w8 r.gv.ownBlock) (hat : r.gv.ownBlock = some g8 ∨ g8 = W.heap.size) :
    SmRet B b k (rowsL b r) X Q W (w8.setCell ⟨b, 1, none⟩ (.slice (some ⟨g8, 0, none⟩) (s.gates.length + 1) cap8)) (addGate s x) os := by
  have n1 := row_ne h.gates h.box (by decide)
  obtain ⟨hbx, hk8, hk, hb8, hb9⟩ := rows_turn (j := 1) (u := .slice (some ⟨g8, 0, none⟩) (s.gates.length + 1) cap8) h (fun x hx => rowsL_mem.2 (Or.inr (Or.inl hx))) hgr n1
  have hlt := h.lt
  have hsub : ∀ g ∈ rowsL b { r with gv := .slice (some ⟨g8, 0, none⟩) (s.gates.length + 1) cap8 }, g ∈ rowsL b r ∨ W.heap.size ≤ g := fun g hg => by
    rcases rowsL_mem.1 hg with h1 | h1 | h1 | h1 | h1
    · exact Or.inl (rowsL_mem.2 (Or.inl h1))
    · have : g8 = g := by simpa [Value.ownBlock] using h1
      subst this
      rcases hat with h2 | h2
      · exact Or.inl (rowsL_mem.2 (Or.inr (Or.inl h2)))
      · exact Or.inr (by omega)
    · exact Or.inl (rowsL_mem.2 (Or.inr (Or.inr (Or.inl h1))))
    · exact Or.inl (rowsL_mem.2 (Or.inr (Or.inr (Or.inr (Or.inl h1)))))
    · exact Or.inl (rowsL_mem.2 (Or.inr (Or.inr (Or.inr (Or.inr h1)))))
  refine ⟨_, ⟨{ r with gv := .slice (some ⟨g8, 0, none⟩) (s.gates.length + 1) cap8 }, cs ++ [.int .i64 x.kind, .int .i64 x.n, .slice aa an ac], ⟨h.hb, hbx.set 1 _, ?_, ?_, ?_, ?_, h.apo, h.app, ?_, ?_, ?_, ?_⟩, rfl⟩, hk, hsub, hb9⟩
  · have := row_set (k := 1) (u := .slice (some ⟨g8, 0, none⟩) (s.gates.length + 1) cap8) hown (row_ne hown hbx (by decide))
    simpa [addGate] using this
  · exact row_turn h.regs hgr (fun y hy => by have := row_apart h.regs h.gates (by decide) y hy; exact this) (row_ne h.regs h.box (by decide))
  · exact row_turn h.outs hgr (fun y hy => by have := row_apart h.outs h.gates (by decide) y hy; exact this) (row_ne h.outs h.box (by decide))
  · exact fun c hc => row_turn (h.puts c hc) hgr (fun y hy => by have := row_apart (h.puts c hc) h.gates (by decide) y hy; exact this) (row_ne (h.puts c hc) h.box (by decide))
  · exact (h.keep.step hk.left (sub_left hsub)).more (hI.step hk.left (sub_left hsub))
  · exact h.rest.step hk.left (sub_left hsub)
  · exact fun x hx => ⟨Nat.lt_of_lt_of_le (h.xs x hx).1 hk.1, fun hm => by
      rcases hsub x hm with h9 | h9
      · exact (h.xs x hx).2 h9
      · have := (h.xs x hx).1; omega⟩
  · exact h.pvs
theorem SmIn.moreR {B : Nat} {W w8 : World} {b : Nat} {k : KK} {X : List Nat} {Q : World → Prop} {s : SmD} {os : OS} {r : Rw} {cs : List Value} (h : SmIn B W b k X Q s os r cs) (bg : Bool) {v' : Value}
    (hown : w8.ownsRow B 133 2 v' (s.regs.length + 1) (stV s.regs ++ [.bool bg, .int .i64 0])) (hgr : W.grownBy w8 r.rv.ownBlock) (hat : v'.ownBlock = r.rv.ownBlock ∨ v'.ownBlock = some W.heap.size) :
    SmRet B b k (rowsL b r) X Q W (w8.setCell ⟨b, 2, none⟩ v') (addReg s bg) os := by
  have n1 := row_ne h.regs h.box (by decide)
  obtain ⟨hbx, hk8, hk, hb8, hb9⟩ := rows_turn (j := 2) (u := v') h (fun x hx => rowsL_mem.2 (Or.inr (Or.inr (Or.inl hx)))) hgr n1
  have hsub : ∀ g ∈ rowsL b { r with rv := v' }, g ∈ rowsL b r ∨ W.heap.size ≤ g := fun g hg => by
    rcases rowsL_mem.1 hg with h1 | h1 | h1 | h1 | h1
    · exact Or.inl (rowsL_mem.2 (Or.inl h1))
    · exact Or.inl (rowsL_mem.2 (Or.inr (Or.inl h1)))
    · rcases hat with h2 | h2
      · exact Or.inl (rowsL_mem.2 (Or.inr (Or.inr (Or.inl (h2 ▸ h1)))))
      · have h3 : v'.ownBlock = some g := h1
        rw [h2] at h3; injection h3 with h3
        exact Or.inr (by omega)
    · exact Or.inl (rowsL_mem.2 (Or.inr (Or.inr (Or.inr (Or.inl h1)))))
    · exact Or.inl (rowsL_mem.2 (Or.inr (Or.inr (Or.inr (Or.inr h1)))))
  refine ⟨_, ⟨{ r with rv := v' }, cs, ⟨h.hb, hbx.set 2 _, ?_, ?_, ?_, ?_, h.apo, h.app, ?_, ?_, ?_, ?_⟩, rfl⟩, hk, hsub, hb9⟩
  · exact row_turn h.gates hgr (fun y hy => by have := row_apart h.gates h.regs (by decide) y hy; exact this) (row_ne h.gates h.box (by decide))
  · have := row_set (k := 2) (u := v') hown (row_ne hown hbx (by decide))
    simpa [addReg, stV_snoc] using this
  · exact row_turn h.outs hgr (fun y hy => by have := row_apart h.outs h.regs (by decide) y hy; exact this) (row_ne h.outs h.box (by decide))
  · exact fun c hc => row_turn (h.puts c hc) hgr (fun y hy => by have := row_apart (h.puts c hc) h.regs (by decide) y hy; exact this) (row_ne (h.puts c hc) h.box (by decide))
  · exact h.keep.step hk.left (sub_left hsub)
  · exact h.rest.step hk.left (sub_left hsub)
  · exact fun x hx => ⟨Nat.lt_of_lt_of_le (h.xs x hx).1 hk.1, fun hm => by
      rcases hsub x hm with h9 | h9
      · exact (h.xs x hx).2 h9
      · have := (h.xs x hx).1; omega⟩
  · exact h.pvs
/-- An output more. -/
theorem SmIn.moreO {B : Nat} {W w8 : World} {b : Nat} {k : KK} {X : List Nat} {Q : World → Prop} {s : SmD} {os : OS} {r : Rw} {cs : List Value} (h : SmIn B W b k X Q s os r cs) (x : Int) {v' : Value}
    (hown : w8.ownsRow B 3 1 v' (os.1.length + 1) (intsV os.1 ++ [.int .i64 x])) (hgr : W.grownBy w8 r.ov.ownBlock) (hat : v'.ownBlock = r.ov.ownBlock ∨ v'.ownBlock = some W.heap.size) :
    SmRet B b k (rowsL b r) X Q W (w8.setCell ⟨b, 3, none⟩ v') s (os.1 ++ [x], os.2) := by
  have n1 := row_ne h.outs h.box (by decide)
  obtain ⟨hbx, hk8, hk, hb8, hb9⟩ := rows_turn (j := 3) (u := v') h (fun x hx => rowsL_mem.2 (Or.inr (Or.inr (Or.inr (Or.inl hx))))) hgr n1
  have hsub : ∀ g ∈ rowsL b { r with ov := v' }, g ∈ rowsL b r ∨ W.heap.size ≤ g := fun g hg => by
    rcases rowsL_mem.1 hg with h1 | h1 | h1 | h1 | h1
    · exact Or.inl (rowsL_mem.2 (Or.inl h1))
    · exact Or.inl (rowsL_mem.2 (Or.inr (Or.inl h1)))
    · exact Or.inl (rowsL_mem.2 (Or.inr (Or.inr (Or.inl h1))))
    · rcases hat with h2 | h2
      · exact Or.inl (rowsL_mem.2 (Or.inr (Or.inr (Or.inr (Or.inl (h2 ▸ h1))))))
      · have h3 : v'.ownBlock = some g := h1
        rw [h2] at h3; injection h3 with h3
        exact Or.inr (by omega)
    · exact Or.inl (rowsL_mem.2 (Or.inr (Or.inr (Or.inr (Or.inr h1)))))
  refine ⟨_, ⟨{ r with ov := v' }, cs, ⟨h.hb, hbx.set 3 _, ?_, ?_, ?_, ?_, ?_, h.app, ?_, ?_, ?_, ?_⟩, rfl⟩, hk, hsub, hb9⟩
  · exact row_turn h.gates hgr (fun y hy => by have := row_apart h.gates h.outs (by decide) y hy; exact this) (row_ne h.gates h.box (by decide))
  · exact row_turn h.regs hgr (fun y hy => by have := row_apart h.regs h.outs (by decide) y hy; exact this) (row_ne h.regs h.box (by decide))
  · have := row_set (k := 3) (u := v') hown (row_ne hown hbx (by decide))
    simpa [intsV] using this
  · exact fun c hc => row_turn (h.puts c hc) hgr (fun y hy => h.apo c hc y hy) (row_ne (h.puts c hc) h.box (by decide))
  · intro c hc y hy h1
    rcases hat with h2 | h2
    · exact h.apo c hc y hy (h2 ▸ h1)
    · have h3 : v'.ownBlock = some y := h1
      rw [h2] at h3; injection h3 with h3
      have := ((h.puts c hc).lt y hy).2
      omega
  · exact h.keep.step hk.left (sub_left hsub)
  · exact h.rest.step hk.left (sub_left hsub)
  · exact fun x hx => ⟨Nat.lt_of_lt_of_le (h.xs x hx).1 hk.1, fun hm => by
      rcases hsub x hm with h9 | h9
      · exact (h.xs x hx).2 h9
      · have := (h.xs x hx).1; omega⟩
  · exact h.pvs
theorem box_put (k : KK) (r : Rw) (c : Nat) (hc : c < 3) (v' : Value) : (boxV k r).set (9 + c) v' = boxV k { r with pv := fun d => if d = c then v' else r.pv d } := by
  have : c = 0 ∨ c = 1 ∨ c = 2 := by omega
  rcases this with rfl | rfl | rfl <;> rfl
/-- By whom an output is put out: one more. -/
theorem SmIn.moreP {B : Nat} {W w8 : World} {b : Nat} {k : KK} {X : List Nat} {Q : World → Prop} {s : SmD} {os : OS} {r : Rw} {cs : List Value} (h : SmIn B W b k X Q s os r cs) (hp : s.puts.length = 3) (hno : os.2 = none) (c : Nat) (hc : c < 3) (x : Int) {v' : Value}
    (hown : w8.ownsRow B 3 1 v' ((s.puts.getD c []).length + 1) (intsV (s.puts.getD c []) ++ [.int .i64 x])) (hgr : W.grownBy w8 (r.pv c).ownBlock) (hat : v'.ownBlock = (r.pv c).ownBlock ∨ v'.ownBlock = some W.heap.size) :
    SmRet B b k (rowsL b r) X Q W (w8.setCell ⟨b, 9 + c, none⟩ v') (putG s c x) os := by
  have n1 := row_ne (h.puts c hc) h.box (by decide)
  obtain ⟨hbx, hk8, hk, hb8, hb9⟩ := rows_turn (j := 9 + c) (u := v') h (fun x hx => rowsL_mem.2 (Or.inr (Or.inr (Or.inr (Or.inr ⟨c, hc, hx⟩))))) hgr n1
  have hsub : ∀ g ∈ rowsL b { r with pv := fun d => if d = c then v' else r.pv d }, g ∈ rowsL b r ∨ W.heap.size ≤ g := fun g hg => by
    rcases rowsL_mem.1 hg with h1 | h1 | h1 | h1 | ⟨d, hd, h1⟩
    · exact Or.inl (rowsL_mem.2 (Or.inl h1))
    · exact Or.inl (rowsL_mem.2 (Or.inr (Or.inl h1)))
    · exact Or.inl (rowsL_mem.2 (Or.inr (Or.inr (Or.inl h1))))
    · exact Or.inl (rowsL_mem.2 (Or.inr (Or.inr (Or.inr (Or.inl h1)))))
    · by_cases e : d = c
      · subst e
        have h3 : v'.ownBlock = some g := by simpa using h1
        rcases hat with h2 | h2
        · exact Or.inl (rowsL_mem.2 (Or.inr (Or.inr (Or.inr (Or.inr ⟨d, hd, h2 ▸ h3⟩)))))
        · rw [h2] at h3; injection h3 with h3
          exact Or.inr (by omega)
      · have h3 : (r.pv d).ownBlock = some g := by simpa [e] using h1
        exact Or.inl (rowsL_mem.2 (Or.inr (Or.inr (Or.inr (Or.inr ⟨d, hd, h3⟩)))))
  have hget : ∀ d, (putG s c x).puts.getD d [] = if d = c then s.puts.getD c [] ++ [x] else s.puts.getD d [] := fun d => by
    unfold putG
    simp only []
    rw [List.getD_eq_getElem?_getD, List.getElem?_set]
    by_cases e : c = d
    · subst e; simp [show c < s.puts.length by omega]
    · rw [if_neg e, if_neg (Ne.symm e), List.getD_eq_getElem?_getD]
  refine ⟨_, ⟨{ r with pv := fun d => if d = c then v' else r.pv d }, cs, ⟨h.hb, ?_, ?_, ?_, ?_, ?_, ?_, ?_, ?_, ?_, ?_, ?_⟩, rfl⟩, hk, hsub, hb9⟩
  · rw [← box_put k r c hc v']; exact hbx.set (9 + c) _
  · exact row_turn h.gates hgr (fun y hy => by have := row_apart h.gates (h.puts c hc) (by decide) y hy; exact this) (row_ne h.gates h.box (by decide))
  · exact row_turn h.regs hgr (fun y hy => by have := row_apart h.regs (h.puts c hc) (by decide) y hy; exact this) (row_ne h.regs h.box (by decide))
  · exact row_turn h.outs hgr (fun y hy h9 => h.apo c hc y h9 hy) (row_ne h.outs h.box (by decide))
  · intro d hd
    rw [hget d]
    by_cases e : d = c
    · subst e
      have := row_set (k := 9 + d) (u := v') hown (row_ne hown hbx (by decide))
      simpa [intsV] using this
    · simp only [if_neg e]
      exact row_turn (h.puts d hd) hgr (fun y hy => h.app d c hd hc e y hy) (row_ne (h.puts d hd) h.box (by decide))
  · intro d hd y hy
    by_cases e : d = c
    · subst e
      have h3 : v'.ownBlock = some y := by simpa using hy
      rcases hat with h2 | h2
      · exact h.apo d hd y (h2 ▸ h3)
      · rw [h2] at h3; injection h3 with h3
        intro h9
        have := (h.outs.lt y h9).2
        omega
    · exact h.apo d hd y (by simpa [e] using hy)
  · intro d d' hd hd' hne y hy
    by_cases e : d = c
    · subst e
      have h3 : v'.ownBlock = some y := by simpa using hy
      have e' : ¬ d' = d := fun e9 => hne e9.symm
      simp only [if_neg e']
      rcases hat with h2 | h2
      · exact h.app d d' hd hd' hne y (h2 ▸ h3)
      · rw [h2] at h3; injection h3 with h3
        intro h9
        have := ((h.puts d' hd').lt y h9).2
        omega
    · have h3 : (r.pv d).ownBlock = some y := by simpa [e] using hy
      by_cases e' : d' = c
      · subst e'
        simp only [if_true]
        intro h9
        rcases hat with h2 | h2
        · exact h.app d d' hd hd' hne y h3 (h2 ▸ h9)
        · rw [h2] at h9; injection h9 with h9
          have := ((h.puts d hd).lt y h3).2
          omega
      · simp only [if_neg e']
        exact h.app d d' hd hd' hne y h3
  · exact h.keep.step hk.left (sub_left hsub)
  · exact h.rest.step hk.left (sub_left hsub)
  · exact fun x hx => ⟨Nat.lt_of_lt_of_le (h.xs x hx).1 hk.1, fun hm => by
      rcases hsub x hm with h9 | h9
      · exact (h.xs x hx).2 h9
      · have := (h.xs x hx).1; omega⟩
  · intro pv e; rw [hno] at e; simp at e
/-- What a register takes. -/
theorem SmIn.takes {B : Nat} {W : World} {b : Nat} {k : KK} {X : List Nat} {Q : World → Prop} {s : SmD} {os : OS} {r : Rw} {cs : List Value} (h : SmIn B W b k X Q s os r cs) (j : Nat) (x : Int) {g c : Nat} (hv : r.rv = .slice (some ⟨g, 0, none⟩) s.regs.length c) :
    SmRet B b k (rowsL b r) X Q W (W.setCell ⟨g, j * 2 + 1, none⟩ (.int .i64 x)) { s with regs := s.regs.set j ((s.regs.getD j (false, 0)).1, x) } os := by
  have hreg := h.regs
  rw [hv] at hreg
  obtain ⟨h1, hgr⟩ := hreg.stored (j * 2 + 1) (.int .i64 x)
  have hrow : r.rv.ownBlock = some g := by rw [hv]; rfl
  have hmem : g ∈ rowsL b r := rowsL_mem.2 (Or.inr (Or.inr (Or.inl hrow)))
  have hk : KeptG (rowsL b r) W (W.setCell ⟨g, j * 2 + 1, none⟩ (.int .i64 x)) := KeptG.set _ hmem
  have hgb : g ≠ b := fun e => row_ne h.regs h.box (by decide) (by rw [hrow, e])
  have hbase := (h.lt g hmem).1
  have hsub : ∀ y ∈ rowsL b r, y ∈ rowsL b r ∨ W.heap.size ≤ y := fun _ hy => Or.inl hy
  refine ⟨_, ⟨r, cs, ⟨h.hb, ?_, ?_, ?_, ?_, ?_, h.apo, h.app, ?_, ?_, ?_, h.pvs⟩, rfl⟩, hk, hsub, (Below.refl B W).setCell hbase _⟩
  · exact (set_other (Ne.symm hgb)).trans h.box
  · exact row_set h.gates (fun e => row_apart h.gates h.regs (by decide) g e hrow)
  · rw [hv]
    have h2 := stV_set s.regs j x
    rw [← h2]
    simpa using h1
  · exact row_set h.outs (fun e => row_apart h.outs h.regs (by decide) g e hrow)
  · exact fun c hc => row_set (h.puts c hc) (fun e => row_apart (h.puts c hc) h.regs (by decide) g e hrow)
  · exact h.keep.step hk.left (sub_left hsub)
  · exact h.rest.step hk.left (sub_left hsub)
  · exact fun x hx => ⟨Nat.lt_of_lt_of_le (h.xs x hx).1 hk.1, fun hm => by
      rcases hsub x hm with h9 | h9
      · exact (h.xs x hx).2 h9
      · have := (h.xs x hx).1; omega⟩

open Go.Maps
theorem hq_keep {W W' : World} {gb : Nat} {u0 u1 u2 : Value} (hs : W.heap.size ≤ W'.heap.size) (hk : gb < W.heap.size → W'.heap[gb]? = W.heap[gb]?) (h : gb < W.heap.size ∧ W.cell? ⟨gb, 0, none⟩ = some u0 ∧ W.cell? ⟨gb, 1, none⟩ = some u1 ∧ W.cell? ⟨gb, 2, none⟩ = some u2) :
    gb < W'.heap.size ∧ W'.cell? ⟨gb, 0, none⟩ = some u0 ∧ W'.cell? ⟨gb, 1, none⟩ = some u1 ∧ W'.cell? ⟨gb, 2, none⟩ = some u2 := by
  have hk' := hk h.1
  exact ⟨Nat.lt_of_lt_of_le h.1 hs, (World.cell?_of_block (a := ⟨gb, 0, none⟩) hk').trans h.2.1, (World.cell?_of_block (a := ⟨gb, 1, none⟩) hk').trans h.2.2.1, (World.cell?_of_block (a := ⟨gb, 2, none⟩) hk').trans h.2.2.2⟩
theorem hq_on {W W' : World} {gb : Nat} {u0 u1 u2 : Value} (hb : Below W.heap.size W W') (h : gb < W.heap.size ∧ W.cell? ⟨gb, 0, none⟩ = some u0 ∧ W.cell? ⟨gb, 1, none⟩ = some u1 ∧ W.cell? ⟨gb, 2, none⟩ = some u2) :
    gb < W'.heap.size ∧ W'.cell? ⟨gb, 0, none⟩ = some u0 ∧ W'.cell? ⟨gb, 1, none⟩ = some u1 ∧ W'.cell? ⟨gb, 2, none⟩ = some u2 := hq_keep hb.size (fun h1 => hb.block _ h1) h
theorem hq_alloc {W : World} {gb : Nat} {u0 u1 u2 : Value} {o : Obj} (h : gb < W.heap.size ∧ W.cell? ⟨gb, 0, none⟩ = some u0 ∧ W.cell? ⟨gb, 1, none⟩ = some u1 ∧ W.cell? ⟨gb, 2, none⟩ = some u2) :
    gb < (W.alloc o).heap.size ∧ (W.alloc o).cell? ⟨gb, 0, none⟩ = some u0 ∧ (W.alloc o).cell? ⟨gb, 1, none⟩ = some u1 ∧ (W.alloc o).cell? ⟨gb, 2, none⟩ = some u2 := hq_on ((Below.refl W.heap.size W).alloc (Nat.le_refl _) o) h
theorem hq_set {W : World} {gb g k : Nat} {u0 u1 u2 v : Value} (hne : gb ≠ g) (h : gb < W.heap.size ∧ W.cell? ⟨gb, 0, none⟩ = some u0 ∧ W.cell? ⟨gb, 1, none⟩ = some u1 ∧ W.cell? ⟨gb, 2, none⟩ = some u2) :
    gb < (W.setCell ⟨g, k, none⟩ v).heap.size ∧ (W.setCell ⟨g, k, none⟩ v).cell? ⟨gb, 0, none⟩ = some u0 ∧ (W.setCell ⟨g, k, none⟩ v).cell? ⟨gb, 1, none⟩ = some u1 ∧ (W.setCell ⟨g, k, none⟩ v).cell? ⟨gb, 2, none⟩ = some u2 := hq_keep (Nat.le_of_eq (by simp)) (fun _ => set_other hne) h
theorem hq_drew {W : World} {gb : Nat} {u0 u1 u2 : Value} (h : gb < W.heap.size ∧ W.cell? ⟨gb, 0, none⟩ = some u0 ∧ W.cell? ⟨gb, 1, none⟩ = some u1 ∧ W.cell? ⟨gb, 2, none⟩ = some u2) :
    gb < W.drew.heap.size ∧ W.drew.cell? ⟨gb, 0, none⟩ = some u0 ∧ W.drew.cell? ⟨gb, 1, none⟩ = some u1 ∧ W.drew.cell? ⟨gb, 2, none⟩ = some u2 := hq_on (Below.refl W.heap.size W).drew h
theorem hq_new (w : World) (u0 u1 u2 : Value) (T : TypeId) : w.heap.size < (w.alloc (.cells #[u0, u1, u2] T)).heap.size ∧ (w.alloc (.cells #[u0, u1, u2] T)).cell? ⟨w.heap.size, 0, none⟩ = some u0 ∧ (w.alloc (.cells #[u0, u1, u2] T)).cell? ⟨w.heap.size, 1, none⟩ = some u1 ∧ (w.alloc (.cells #[u0, u1, u2] T)).cell? ⟨w.heap.size, 2, none⟩ = some u2 := ⟨by simp, by simp, by simp, by simp⟩
theorem Tryz.infoGate' : (Tryz.prog.info? 126).map (fun i => (i.zero, i.size, i.bytes)) = some (some (.agg #[.int .i64 0, .int .i64 0, .slice none 0 0]), 3, 40) := by kernel_rfl
theorem Tryz.infoStore' : (Tryz.prog.info? 133).map (fun i => (i.zero, i.size, i.bytes)) = some (some (.agg #[.bool false, .int .i64 0]), 2, 16) := by kernel_rfl

set_option maxRecDepth 100000 in
set_option maxHeartbeats 4000000 in
theorem add_any {B b : Nat} {k : KK} {G X : List Nat} {Q : World → Prop} {s : SmD} {os : OS} {w : World} (h : SmAt B w b k G X Q s os) (x : GateD) {aa : Option Addr} {an ac : Nat} (hI : Kp (G ++ X) w (fun V => Ints V aa an x.args)) (hsm : s.gates.length ≤ 1000) :
    Calls Tryz.prog 90 #[.pointer (some ⟨b, 0, none⟩), .agg #[.int .i64 x.kind, .int .i64 x.n, .slice aa an ac]] w fun e w' => e = .returned (.int .i64 (s.gates.length : Nat)) ∧ SmRet B b k G X Q w w' (addGate s x) os := by
  have HA := hide h
  obtain ⟨r, cs, h0, rfl⟩ := h
  obtain ⟨i0, hi, hz0, hz1, hz2⟩ := info_parts Tryz.infoGate'
  have hb0 : Below w.heap.size w (w.alloc (.cells #[.int .i64 x.kind, .int .i64 x.n, .slice aa an ac] 126)) := (Below.refl _ _).alloc (Nat.le_refl _) _
  have hq1 := hq_new w (.int .i64 x.kind) (.int .i64 x.n) (.slice aa an ac) 126
  have h1 := h0.on hb0
  have hI1 := hI.on hb0
  have hneb : w.heap.size ≠ b := by have := h0.box.lt; omega
  have hNO : r.gv.ownBlock ≠ some w.heap.size := fun e => by have := (h0.gates.lt _ e).2; omega
  have hBw : B ≤ w.heap.size := by have := h0.hb; have := h0.box.lt; omega
  clear h0 hI
  go_enter Tryz.func90, Tryz.ntmps90
  go_upto_region 1 with fail
  have hBw1 : B ≤ (w.alloc (.cells #[.int .i64 x.kind, .int .i64 x.n, .slice aa an ac] 126)).heap.size := Nat.le_trans hBw hb0.size
  generalize hw1 : w.alloc (.cells #[.int .i64 x.kind, .int .i64 x.n, .slice aa an ac] 126) = w1 at *
  clear hw1
  have hVd := h1.on (Below.refl w1.heap.size w1).drew
  have d1 : w1.cell? ⟨b, 1, none⟩ = some r.gv := h1.box.cell 1
  have hbl := h1.box.lt
  have hnA := Nat.ne_of_gt hbl
  have hnA2 := Nat.ne_of_lt hbl
  have hSS := hq_drew hq1
  refine wp_region_held_drew (S := fun W => w.heap.size < W.heap.size ∧ W.cell? ⟨w.heap.size, 0, none⟩ = some (.int .i64 x.kind) ∧ W.cell? ⟨w.heap.size, 1, none⟩ = some (.int .i64 x.n) ∧ W.cell? ⟨w.heap.size, 2, none⟩ = some (.slice aa an ac)) (by kernel_rfl) ?_ (fun hHeld => ?_)
  · exact hSS
  refine wpAnyH_take (i := 0) (oi := { dst := some 5, op := Go.Op.move (Go.Operand.tmp 0), type := 104, pos := "smith.go:146", after := #[], guard := none }) (v := ?_) rfl (by kernel_rfl) (by kernel_rfl) (by kernel_rfl) (fun _ _ _ h => h) (Or.inl ⟨by rfl, ?_⟩) (by assumption) ?_
  rotate_left
  · intro w hSw; (try dsimp only at hSw); go_simp; (try (with_reducible rfl))
  try simp only [Act.put, List.setIfInBounds_toArray, List.set_cons_zero, List.set_cons_succ]
  refine wpAnyH_take (i := 1) (oi := { dst := some 6, op := Go.Op.move (Go.Operand.tmp 0), type := 104, pos := "smith.go:146", after := #[], guard := none }) (v := ?_) rfl (by kernel_rfl) (by kernel_rfl) (by kernel_rfl) (fun _ _ _ h => h) (Or.inl ⟨by rfl, ?_⟩) (by assumption) ?_
  rotate_left
  · intro w hSw; (try dsimp only at hSw); go_simp; (try (with_reducible rfl))
  try simp only [Act.put, List.setIfInBounds_toArray, List.set_cons_zero, List.set_cons_succ]
  refine wpAnyH_take (i := 2) (oi := { dst := some 7, op := Go.Op.nilCheck (Go.Operand.tmp 6), type := 0, pos := "smith.go:146", after := #[{ on := 1, ground := Go.Ground.data }], guard := none }) (v := ?_) rfl (by kernel_rfl) (by kernel_rfl) (by kernel_rfl) (fun _ _ _ h => h) (Or.inl ⟨by rfl, ?_⟩) (by assumption) ?_
  rotate_left
  · intro w hSw; (try dsimp only at hSw); go_simp; (try (with_reducible rfl))
  try simp only [Act.put, List.setIfInBounds_toArray, List.set_cons_zero, List.set_cons_succ]
  refine wpAnyH_take (i := 3) (oi := { dst := some 8, op := Go.Op.fieldAddr 109 (Go.Operand.tmp 7) 0, type := 0, pos := "smith.go:146", after := #[{ on := 2, ground := Go.Ground.data }], guard := none }) (v := ?_) rfl (by kernel_rfl) (by kernel_rfl) (by kernel_rfl) (fun _ _ _ h => h) (Or.inl ⟨by rfl, ?_⟩) (by assumption) ?_
  rotate_left
  · intro w hSw; (try dsimp only at hSw); go_simp; (try (with_reducible rfl))
  try simp only [Act.put, List.setIfInBounds_toArray, List.set_cons_zero, List.set_cons_succ]
  refine wpAnyH_take (i := 4) (oi := { dst := some 9, op := Go.Op.fieldAddr 70 (Go.Operand.tmp 8) 1, type := 0, pos := "smith.go:146", after := #[{ on := 3, ground := Go.Ground.data }], guard := none }) (v := ?_) rfl (by kernel_rfl) (by kernel_rfl) (by kernel_rfl) (fun _ _ _ h => h) (Or.inl ⟨by rfl, ?_⟩) (by assumption) ?_
  rotate_left
  · intro w hSw; (try dsimp only at hSw); go_simp; (try (with_reducible rfl))
  try simp only [Act.put, List.setIfInBounds_toArray, List.set_cons_zero, List.set_cons_succ]
  refine wpAnyH_take (i := 6) (oi := { dst := some 11, op := Go.Op.load 126 (Go.Operand.tmp 3), type := 126, pos := "smith.go:146", after := #[], guard := none }) (v := ?_) rfl (by kernel_rfl) (by kernel_rfl) (by kernel_rfl) (fun _ _ _ h => h) (Or.inl ⟨by rfl, ?_⟩) (by assumption) ?_
  rotate_left
  · intro w hSw; (try dsimp only at hSw); go_simp; (try (with_reducible rfl))
  try simp only [Act.put, List.setIfInBounds_toArray, List.set_cons_zero, List.set_cons_succ]
  refine wpAnyH_ready (rs := [5, 7]) (by kernel_rfl) (by simp) ?_
  refine AllReadyH.cons (o := { dst := some 10, op := Go.Op.load 67 (Go.Operand.tmp 9), type := 67, pos := "smith.go:146", after := #[{ on := 4, ground := Go.Ground.data }], guard := none }) rfl (fun K hK => ?_) ?_
  · go_simp
    refine hK.out _ _ ?_ (fun hHeld => ?_)
    · (try dsimp only)
      (first | exact hSS | exact hS9 | exact hS8 | exact hq_alloc hSS | assumption)
    clear hK K
    try simp only [Act.put, List.setIfInBounds_toArray, List.set_cons_zero, List.set_cons_succ]
    refine wpAnyH_ready (rs := [7]) (by kernel_rfl) (by simp) ?_
    refine AllReadyH.cons (o := { dst := some 12, op := Go.Op.buildSlice 67 1 #[(0, Go.Operand.tmp 11)], type := 67, pos := "smith.go:146", after := #[{ on := 6, ground := Go.Ground.data }], guard := none }) rfl (fun K hK => ?_) ?_
    · go_simp
      refine hK.out _ _ ?_ (fun hHeld => ?_)
      · (try dsimp only)
        (first | exact hSS | exact hS9 | exact hS8 | exact hq_alloc hSS | assumption)
      clear hK K
      try simp only [Act.put, List.setIfInBounds_toArray, List.set_cons_zero, List.set_cons_succ]
      refine wpAnyH_ready (rs := [8]) (by kernel_rfl) (by simp) ?_
      refine AllReadyH.cons (o := { dst := some 13, op := Go.Op.call { callee := Go.Callee.builtin Go.Builtin.append, args := #[Go.Operand.tmp 10, Go.Operand.tmp 12], argTypes := #[67, 67] }, type := 67, pos := "smith.go:146", after := #[{ on := 5, ground := Go.Ground.data }, { on := 7, ground := Go.Ground.data }], guard := none }) rfl (fun K hK => ?_) ?_
      · refine step_append_lies _ rfl _ _ 67 rfl B 126 i0 (.agg #[.int .i64 0, .int .i64 0, .slice none 0 0]) 3 40 Tryz.underlying67 hi hz0 hz1 hz2 rfl (by decide) r.gv s.gates.length cs rfl (hVd.gates.alloc _) ⟨w1.heap.size, 0, none⟩ 1 1 [.int .i64 x.kind, .int .i64 x.n, .slice aa an ac] rfl rfl (World.news_of_block (cs := #[.int .i64 x.kind, .int .i64 x.n, .slice aa an ac]) (MapKept.heap_alloc w1.drew _).1) (by intro u hu; simp at hu; rcases hu with rfl | rfl | rfl <;> rfl) (by decide) (by unfold maxLen; omega) (by omega) (by simp; omega) _ rfl ?_
        intro g8 cap8 w8 hown8 hgr8 hat8 hlt8
        have hV8 := hVd.on ((Below.refl w1.drew.heap.size w1.drew).alloc (Nat.le_refl _) (.cells #[.int .i64 x.kind, .int .i64 x.n, .slice aa an ac] 126))
        have hI8 := (hI1.on (Below.refl w1.heap.size w1).drew).on ((Below.refl w1.drew.heap.size w1.drew).alloc (Nat.le_refl _) (.cells #[.int .i64 x.kind, .int .i64 x.n, .slice aa an ac] 126))
        have hS8 := hq_keep hgr8.size (fun h1 => hgr8.block _ h1 (Ne.symm hNO)) (hq_alloc (o := .cells #[.int .i64 x.kind, .int .i64 x.n, .slice aa an ac] 126) hSS)
        obtain ⟨hc8, _⟩ := rows_turn (j := 1) (u := .bool true) hV8 (fun y hy => rowsL_mem.2 (Or.inr (Or.inl hy))) hgr8 (row_ne hV8.gates hV8.box (by decide))
        have d8 : w8.cell? ⟨b, 1, none⟩ = some r.gv := hc8.cell 1
        have f8 := hc8.frozen 1
        have hS9 := hq_set (k := 1) (v := .slice (some ⟨g8, 0, none⟩) (s.gates.length + 1) cap8) hneb hS8
        refine hK.out _ _ ?_ (fun hHeld => ?_)
        · (try dsimp only)
          (first | exact hSS | exact hS9 | exact hS8 | exact hq_alloc hSS | assumption)
        clear hK K
        try simp only [Act.put, List.setIfInBounds_toArray, List.set_cons_zero, List.set_cons_succ]
        refine wpAnyH_take (i := 9) (oi := { dst := some 14, op := Go.Op.nilCheck (Go.Operand.tmp 5), type := 0, pos := "smith.go:146", after := #[{ on := 0, ground := Go.Ground.data }, { on := 0, ground := Go.Ground.phase }, { on := 1, ground := Go.Ground.phase }, { on := 2, ground := Go.Ground.phase }, { on := 3, ground := Go.Ground.phase }, { on := 4, ground := Go.Ground.phase }, { on := 5, ground := Go.Ground.phase }, { on := 6, ground := Go.Ground.phase }, { on := 7, ground := Go.Ground.phase }, { on := 8, ground := Go.Ground.phase }], guard := none }) (v := ?_) rfl (by kernel_rfl) (by kernel_rfl) (by kernel_rfl) (fun _ _ _ h => h) (Or.inl ⟨by rfl, ?_⟩) (by assumption) ?_
        rotate_left
        · intro w hSw; (try dsimp only at hSw); go_simp; (try (with_reducible rfl))
        try simp only [Act.put, List.setIfInBounds_toArray, List.set_cons_zero, List.set_cons_succ]
        refine wpAnyH_take (i := 10) (oi := { dst := some 15, op := Go.Op.fieldAddr 109 (Go.Operand.tmp 14) 0, type := 0, pos := "smith.go:146", after := #[{ on := 9, ground := Go.Ground.data }, { on := 0, ground := Go.Ground.phase }, { on := 1, ground := Go.Ground.phase }, { on := 2, ground := Go.Ground.phase }, { on := 3, ground := Go.Ground.phase }, { on := 4, ground := Go.Ground.phase }, { on := 5, ground := Go.Ground.phase }, { on := 6, ground := Go.Ground.phase }, { on := 7, ground := Go.Ground.phase }, { on := 8, ground := Go.Ground.phase }], guard := none }) (v := ?_) rfl (by kernel_rfl) (by kernel_rfl) (by kernel_rfl) (fun _ _ _ h => h) (Or.inl ⟨by rfl, ?_⟩) (by assumption) ?_
        rotate_left
        · intro w hSw; (try dsimp only at hSw); go_simp; (try (with_reducible rfl))
        try simp only [Act.put, List.setIfInBounds_toArray, List.set_cons_zero, List.set_cons_succ]
        refine wpAnyH_take (i := 11) (oi := { dst := some 16, op := Go.Op.fieldAddr 70 (Go.Operand.tmp 15) 1, type := 0, pos := "smith.go:146", after := #[{ on := 10, ground := Go.Ground.data }, { on := 0, ground := Go.Ground.phase }, { on := 1, ground := Go.Ground.phase }, { on := 2, ground := Go.Ground.phase }, { on := 3, ground := Go.Ground.phase }, { on := 4, ground := Go.Ground.phase }, { on := 5, ground := Go.Ground.phase }, { on := 6, ground := Go.Ground.phase }, { on := 7, ground := Go.Ground.phase }, { on := 8, ground := Go.Ground.phase }], guard := none }) (v := ?_) rfl (by kernel_rfl) (by kernel_rfl) (by kernel_rfl) (fun _ _ _ h => h) (Or.inl ⟨by rfl, ?_⟩) (by assumption) ?_
        rotate_left
        · intro w hSw; (try dsimp only at hSw); go_simp; (try (with_reducible rfl))
        try simp only [Act.put, List.setIfInBounds_toArray, List.set_cons_zero, List.set_cons_succ]
        refine wpAnyH_ready (rs := [12]) (by kernel_rfl) (by simp) ?_
        refine AllReadyH.cons (o := { dst := none, op := Go.Op.store 67 (Go.Operand.tmp 16) (Go.Operand.tmp 13), type := 0, pos := "smith.go:146", after := #[{ on := 11, ground := Go.Ground.data }, { on := 8, ground := Go.Ground.data }, { on := 8, ground := Go.Ground.chain }, { on := 0, ground := Go.Ground.phase }, { on := 1, ground := Go.Ground.phase }, { on := 2, ground := Go.Ground.phase }, { on := 3, ground := Go.Ground.phase }, { on := 4, ground := Go.Ground.phase }, { on := 5, ground := Go.Ground.phase }, { on := 6, ground := Go.Ground.phase }, { on := 7, ground := Go.Ground.phase }, { on := 8, ground := Go.Ground.phase }], guard := none }) rfl (fun K hK => ?_) ?_
        · go_simp
          refine hK.out _ _ ?_ (fun hHeld => ?_)
          · (try dsimp only)
            (first | exact hSS | exact hS9 | exact hS8 | exact hq_alloc hSS | assumption)
          clear hK K
          try simp only [Act.put]
          refine wpAnyH_done (by kernel_rfl) ?_ _
          have d9 : (w8.setCell ⟨b, 1, none⟩ (.slice (some ⟨g8, 0, none⟩) (s.gates.length + 1) cap8)).cell? ⟨b, 1, none⟩ = some (.slice (some ⟨g8, 0, none⟩) (s.gates.length + 1) cap8) := (hc8.set 1 (.slice (some ⟨g8, 0, none⟩) (s.gates.length + 1) cap8)).cell 1
          have R := hide (hV8.moreG x hI8 hown8 hgr8 hat8)
          clear hV8 hI8 hown8 hgr8 hat8 hlt8 hc8 d8 f8 hS8 hS9
          generalize hw9 : w8.setCell ⟨b, 1, none⟩ (.slice (some ⟨g8, 0, none⟩) (s.gates.length + 1) cap8) = w9 at *
          clear hw9
          go_wp2_with fail
          go_ret
          exact ⟨rfl, SmRet.early (unhide HA) (bstep hb0 ((Below.refl _ w1).drew.alloc (Nat.le_refl _) _)) (unhide R)⟩
        exact AllReadyH.nil
      exact AllReadyH.nil
    exact AllReadyH.nil
  refine AllReadyH.cons (o := { dst := some 12, op := Go.Op.buildSlice 67 1 #[(0, Go.Operand.tmp 11)], type := 67, pos := "smith.go:146", after := #[{ on := 6, ground := Go.Ground.data }], guard := none }) rfl (fun K hK => ?_) ?_
  · go_simp
    refine hK.out _ _ ?_ (fun hHeld => ?_)
    · (try dsimp only)
      (first | exact hSS | exact hS9 | exact hS8 | exact hq_alloc hSS | assumption)
    clear hK K
    try simp only [Act.put, List.setIfInBounds_toArray, List.set_cons_zero, List.set_cons_succ]
    refine wpAnyH_ready (rs := [5]) (by kernel_rfl) (by simp) ?_
    refine AllReadyH.cons (o := { dst := some 10, op := Go.Op.load 67 (Go.Operand.tmp 9), type := 67, pos := "smith.go:146", after := #[{ on := 4, ground := Go.Ground.data }], guard := none }) rfl (fun K hK => ?_) ?_
    · go_simp
      refine hK.out _ _ ?_ (fun hHeld => ?_)
      · (try dsimp only)
        (first | exact hSS | exact hS9 | exact hS8 | exact hq_alloc hSS | assumption)
      clear hK K
      try simp only [Act.put, List.setIfInBounds_toArray, List.set_cons_zero, List.set_cons_succ]
      refine wpAnyH_ready (rs := [8]) (by kernel_rfl) (by simp) ?_
      refine AllReadyH.cons (o := { dst := some 13, op := Go.Op.call { callee := Go.Callee.builtin Go.Builtin.append, args := #[Go.Operand.tmp 10, Go.Operand.tmp 12], argTypes := #[67, 67] }, type := 67, pos := "smith.go:146", after := #[{ on := 5, ground := Go.Ground.data }, { on := 7, ground := Go.Ground.data }], guard := none }) rfl (fun K hK => ?_) ?_
      · refine step_append_lies _ rfl _ _ 67 rfl B 126 i0 (.agg #[.int .i64 0, .int .i64 0, .slice none 0 0]) 3 40 Tryz.underlying67 hi hz0 hz1 hz2 rfl (by decide) r.gv s.gates.length cs rfl (hVd.gates.alloc _) ⟨w1.heap.size, 0, none⟩ 1 1 [.int .i64 x.kind, .int .i64 x.n, .slice aa an ac] rfl rfl (World.news_of_block (cs := #[.int .i64 x.kind, .int .i64 x.n, .slice aa an ac]) (MapKept.heap_alloc w1.drew _).1) (by intro u hu; simp at hu; rcases hu with rfl | rfl | rfl <;> rfl) (by decide) (by unfold maxLen; omega) (by omega) (by simp; omega) _ rfl ?_
        intro g8 cap8 w8 hown8 hgr8 hat8 hlt8
        have hV8 := hVd.on ((Below.refl w1.drew.heap.size w1.drew).alloc (Nat.le_refl _) (.cells #[.int .i64 x.kind, .int .i64 x.n, .slice aa an ac] 126))
        have hI8 := (hI1.on (Below.refl w1.heap.size w1).drew).on ((Below.refl w1.drew.heap.size w1.drew).alloc (Nat.le_refl _) (.cells #[.int .i64 x.kind, .int .i64 x.n, .slice aa an ac] 126))
        have hS8 := hq_keep hgr8.size (fun h1 => hgr8.block _ h1 (Ne.symm hNO)) (hq_alloc (o := .cells #[.int .i64 x.kind, .int .i64 x.n, .slice aa an ac] 126) hSS)
        obtain ⟨hc8, _⟩ := rows_turn (j := 1) (u := .bool true) hV8 (fun y hy => rowsL_mem.2 (Or.inr (Or.inl hy))) hgr8 (row_ne hV8.gates hV8.box (by decide))
        have d8 : w8.cell? ⟨b, 1, none⟩ = some r.gv := hc8.cell 1
        have f8 := hc8.frozen 1
        have hS9 := hq_set (k := 1) (v := .slice (some ⟨g8, 0, none⟩) (s.gates.length + 1) cap8) hneb hS8
        refine hK.out _ _ ?_ (fun hHeld => ?_)
        · (try dsimp only)
          (first | exact hSS | exact hS9 | exact hS8 | exact hq_alloc hSS | assumption)
        clear hK K
        try simp only [Act.put, List.setIfInBounds_toArray, List.set_cons_zero, List.set_cons_succ]
        refine wpAnyH_take (i := 9) (oi := { dst := some 14, op := Go.Op.nilCheck (Go.Operand.tmp 5), type := 0, pos := "smith.go:146", after := #[{ on := 0, ground := Go.Ground.data }, { on := 0, ground := Go.Ground.phase }, { on := 1, ground := Go.Ground.phase }, { on := 2, ground := Go.Ground.phase }, { on := 3, ground := Go.Ground.phase }, { on := 4, ground := Go.Ground.phase }, { on := 5, ground := Go.Ground.phase }, { on := 6, ground := Go.Ground.phase }, { on := 7, ground := Go.Ground.phase }, { on := 8, ground := Go.Ground.phase }], guard := none }) (v := ?_) rfl (by kernel_rfl) (by kernel_rfl) (by kernel_rfl) (fun _ _ _ h => h) (Or.inl ⟨by rfl, ?_⟩) (by assumption) ?_
        rotate_left
        · intro w hSw; (try dsimp only at hSw); go_simp; (try (with_reducible rfl))
        try simp only [Act.put, List.setIfInBounds_toArray, List.set_cons_zero, List.set_cons_succ]
        refine wpAnyH_take (i := 10) (oi := { dst := some 15, op := Go.Op.fieldAddr 109 (Go.Operand.tmp 14) 0, type := 0, pos := "smith.go:146", after := #[{ on := 9, ground := Go.Ground.data }, { on := 0, ground := Go.Ground.phase }, { on := 1, ground := Go.Ground.phase }, { on := 2, ground := Go.Ground.phase }, { on := 3, ground := Go.Ground.phase }, { on := 4, ground := Go.Ground.phase }, { on := 5, ground := Go.Ground.phase }, { on := 6, ground := Go.Ground.phase }, { on := 7, ground := Go.Ground.phase }, { on := 8, ground := Go.Ground.phase }], guard := none }) (v := ?_) rfl (by kernel_rfl) (by kernel_rfl) (by kernel_rfl) (fun _ _ _ h => h) (Or.inl ⟨by rfl, ?_⟩) (by assumption) ?_
        rotate_left
        · intro w hSw; (try dsimp only at hSw); go_simp; (try (with_reducible rfl))
        try simp only [Act.put, List.setIfInBounds_toArray, List.set_cons_zero, List.set_cons_succ]
        refine wpAnyH_take (i := 11) (oi := { dst := some 16, op := Go.Op.fieldAddr 70 (Go.Operand.tmp 15) 1, type := 0, pos := "smith.go:146", after := #[{ on := 10, ground := Go.Ground.data }, { on := 0, ground := Go.Ground.phase }, { on := 1, ground := Go.Ground.phase }, { on := 2, ground := Go.Ground.phase }, { on := 3, ground := Go.Ground.phase }, { on := 4, ground := Go.Ground.phase }, { on := 5, ground := Go.Ground.phase }, { on := 6, ground := Go.Ground.phase }, { on := 7, ground := Go.Ground.phase }, { on := 8, ground := Go.Ground.phase }], guard := none }) (v := ?_) rfl (by kernel_rfl) (by kernel_rfl) (by kernel_rfl) (fun _ _ _ h => h) (Or.inl ⟨by rfl, ?_⟩) (by assumption) ?_
        rotate_left
        · intro w hSw; (try dsimp only at hSw); go_simp; (try (with_reducible rfl))
        try simp only [Act.put, List.setIfInBounds_toArray, List.set_cons_zero, List.set_cons_succ]
        refine wpAnyH_ready (rs := [12]) (by kernel_rfl) (by simp) ?_
        refine AllReadyH.cons (o := { dst := none, op := Go.Op.store 67 (Go.Operand.tmp 16) (Go.Operand.tmp 13), type := 0, pos := "smith.go:146", after := #[{ on := 11, ground := Go.Ground.data }, { on := 8, ground := Go.Ground.data }, { on := 8, ground := Go.Ground.chain }, { on := 0, ground := Go.Ground.phase }, { on := 1, ground := Go.Ground.phase }, { on := 2, ground := Go.Ground.phase }, { on := 3, ground := Go.Ground.phase }, { on := 4, ground := Go.Ground.phase }, { on := 5, ground := Go.Ground.phase }, { on := 6, ground := Go.Ground.phase }, { on := 7, ground := Go.Ground.phase }, { on := 8, ground := Go.Ground.phase }], guard := none }) rfl (fun K hK => ?_) ?_
        · go_simp
          refine hK.out _ _ ?_ (fun hHeld => ?_)
          · (try dsimp only)
            (first | exact hSS | exact hS9 | exact hS8 | exact hq_alloc hSS | assumption)
          clear hK K
          try simp only [Act.put]
          refine wpAnyH_done (by kernel_rfl) ?_ _
          have d9 : (w8.setCell ⟨b, 1, none⟩ (.slice (some ⟨g8, 0, none⟩) (s.gates.length + 1) cap8)).cell? ⟨b, 1, none⟩ = some (.slice (some ⟨g8, 0, none⟩) (s.gates.length + 1) cap8) := (hc8.set 1 (.slice (some ⟨g8, 0, none⟩) (s.gates.length + 1) cap8)).cell 1
          have R := hide (hV8.moreG x hI8 hown8 hgr8 hat8)
          clear hV8 hI8 hown8 hgr8 hat8 hlt8 hc8 d8 f8 hS8 hS9
          generalize hw9 : w8.setCell ⟨b, 1, none⟩ (.slice (some ⟨g8, 0, none⟩) (s.gates.length + 1) cap8) = w9 at *
          clear hw9
          go_wp2_with fail
          go_ret
          exact ⟨rfl, SmRet.early (unhide HA) (bstep hb0 ((Below.refl _ w1).drew.alloc (Nat.le_refl _) _)) (unhide R)⟩
        exact AllReadyH.nil
      exact AllReadyH.nil
    exact AllReadyH.nil
  exact AllReadyH.nil

open Go.Maps
theorem row_slice {w : World} {B n size : Nat} {e : TypeId} {v : Value} {vs : List Value} (h : w.ownsRow B e size v n vs) : ∃ a c, v = .slice a n c := by
  rcases h.2 with ⟨h2, h3⟩ | ⟨g, cap, cur, h2, _⟩
  · rw [h3]; exact ⟨_, _, h2⟩
  · exact ⟨_, _, h2⟩

set_option maxRecDepth 100000 in
set_option maxHeartbeats 4000000 in
theorem register_any {B b : Nat} {k : KK} {G X : List Nat} {Q : World → Prop} {s : SmD} {os : OS} {w : World} (h : SmAt B w b k G X Q s os) (bg : Bool) (hsm : s.gates.length ≤ 1000) (hsr : s.regs.length ≤ 1000) :
    Calls Tryz.prog 91 #[.pointer (some ⟨b, 0, none⟩), .bool bg] w fun e w' => e = .returned (.int .i64 (s.gates.length : Nat)) ∧ SmRet B b k G X Q w w' (addGate (addReg s bg) ⟨3, (s.regs.length : Nat), []⟩) os := by
  have HA := hide h
  obtain ⟨r, cs, h0, rfl⟩ := h
  obtain ⟨i0, hi, hz0, hz1, hz2⟩ := info_parts Tryz.infoStore'
  have hBw : B ≤ w.heap.size := by have := h0.hb; have := h0.box.lt; omega
  have d1 : w.cell? ⟨b, 2, none⟩ = some r.rv := h0.box.cell 2
  have hbl := h0.box.lt
  go_enter Tryz.func91, Tryz.ntmps91
  go_wp2_with (at_builtin; refine wpList_append_own_at _ rfl _ _ 68 rfl B 133 i0 (.agg #[.bool false, .int .i64 0]) 2 16 Tryz.underlying68 hi hz0 hz1 hz2 rfl (by decide) _ _ _ rfl (h0.regs.alloc _) ⟨w.heap.size, 0, none⟩ 1 1 [.bool bg, .int .i64 0] rfl rfl ?c1 ?c2 ?c3 ?c4 ?c5 ?_)
  case c1 =>
    intro j u hj
    match j, hj with
    | 0, hj => simp at hj; subst hj; simp [Addr.add]
    | 1, hj => simp at hj; subst hj; simp [Addr.add]
  case c2 => intro u hu; simp at hu; rcases hu with rfl | rfl <;> rfl
  case c3 => unfold maxLen; omega
  case c4 => omega
  case c5 => simp; omega
  intro v' w8 hown8 hgr8 _ hat8
  have hb1 : Below w.heap.size w (w.alloc (.cells #[.bool bg, .int .i64 0] 133)) := (Below.refl _ _).alloc (Nat.le_refl _) _
  have hV8 := h0.on hb1
  obtain ⟨hc8, _⟩ := rows_turn (j := 2) (u := v') hV8 (fun y hy => rowsL_mem.2 (Or.inr (Or.inr (Or.inl hy)))) hgr8 (row_ne hV8.regs hV8.box (by decide))
  have d8 : w8.cell? ⟨b, 2, none⟩ = some r.rv := hc8.cell 2
  have f8 := hc8.frozen 2
  have d9 : (w8.setCell ⟨b, 2, none⟩ v').cell? ⟨b, 2, none⟩ = some v' := (hc8.set 2 v').cell 2
  obtain ⟨a', c', rfl⟩ := row_slice hown8
  have R := hide (hV8.moreR bg hown8 hgr8 (hat8.imp_right (fun e => e.trans (by simp))))
  clear h0 hown8 hgr8 hat8 hc8 hV8 hi hz0 hz1 hz2 d1
  generalize hw9 : w8.setCell ⟨b, 2, none⟩ (.slice a' (s.regs.length + 1) c') = w9 at *
  go_wp2_with fail
  obtain ⟨G9, hS9, hk9, hG9, hB9⟩ := unhide R
  refine (add_any hS9 ⟨3, (s.regs.length : Nat), []⟩ (aa := none) (an := 0) (ac := 0) (fun V _ => Ints.none V) hsm).mono ?_
  rintro e w10 ⟨rfl, hR⟩
  go_wp2_with fail
  go_ret
  exact ⟨rfl, SmRet.early (unhide HA) hb1 (SmRet.trans hS9 hk9 hG9 hB9 hR)⟩

set_option maxRecDepth 100000 in
set_option maxHeartbeats 4000000 in
/-- A register (by its gate) takes what another gate has. -/
theorem store_any {B b : Nat} {k : KK} {G X : List Nat} {Q : World → Prop} {s : SmD} {os : OS} {w : World} (h : SmAt B w b k G X Q s os) {g j : Nat} (hg : g < s.gates.length) (hj : (s.gates[g]).n = (j : Int)) (hjr : j < s.regs.length) (x : Int) :
    Calls Tryz.prog 92 #[.pointer (some ⟨b, 0, none⟩), .int .i64 (g : Int), .int .i64 x] w fun e w' => e = .returned (.tuple #[]) ∧ SmRet B b k G X Q w w' { s with regs := s.regs.set j ((s.regs.getD j (false, 0)).1, x) } os := by
  obtain ⟨r, cs, h0, rfl⟩ := h
  obtain ⟨ga, gc, hgv⟩ := row_slice h0.gates
  obtain ⟨ra, rc, hrv⟩ := row_slice h0.regs
  have hgo := h0.gates
  have hro := h0.regs
  rw [hgv] at hgo
  rw [hrv] at hro
  obtain ⟨gb, rfl⟩ : ∃ gb, ga = some ⟨gb, 0, none⟩ := by
    rcases hgo.2 with ⟨h1, h2⟩ | ⟨g', cap, cur, hv, _⟩
    · omega
    · injection hv with hv1 _ _; exact ⟨g', hv1⟩
  obtain ⟨rb, rfl⟩ : ∃ rb, ra = some ⟨rb, 0, none⟩ := by
    rcases hro.2 with ⟨h1, h2⟩ | ⟨g', cap, cur, hv, _⟩
    · omega
    · injection hv with hv1 _ _; exact ⟨g', hv1⟩
  obtain ⟨aa, an, ac, z1, hcn, z2, z3⟩ := h0.keep.2 g hg
  rw [hj] at hcn
  have e1 : w.cell? ⟨gb, g * 3 + 1, none⟩ = some (.int .i64 (j : Int)) := by
    have := hgo.cells (g := gb) rfl _ _ hcn
    rw [addr_plus] at this
    simpa using this
  have e2 : w.cell? ⟨b, 1, none⟩ = some (.slice (some ⟨gb, 0, none⟩) s.gates.length gc) := by rw [← hgv]; exact h0.box.cell 1
  have e3 : w.cell? ⟨b, 2, none⟩ = some (.slice (some ⟨rb, 0, none⟩) s.regs.length rc) := by rw [← hrv]; exact h0.box.cell 2
  have e4 : ∃ y, w.cell? ⟨rb, j * 2 + 1, none⟩ = some (.int .i64 y) := by
    have := hro.cells (g := rb) rfl _ _ (stV_at s.regs j hjr).2
    rw [addr_plus] at this
    exact ⟨_, by simpa using this⟩
  obtain ⟨y, e4⟩ := e4
  have e5 : w.frozen? ⟨rb, j * 2 + 1, none⟩ = false := hro.frozenAt _
  have n1 : gb ≠ rb := fun e => row_apart h0.gates h0.regs (by decide) gb (by rw [hgv]; rfl) (by rw [hrv, e]; rfl)
  have n2 : b ≠ rb := fun e => row_ne h0.regs h0.box (by decide) (by rw [hrv, e]; rfl)
  have q1 : (w.setCell ⟨rb, j * 2 + 1, none⟩ (.int .i64 x)).cell? ⟨gb, g * 3 + 1, none⟩ = some (.int .i64 (j : Int)) := (World.cell?_of_block (set_other n1)).trans e1
  have q2 : (w.setCell ⟨rb, j * 2 + 1, none⟩ (.int .i64 x)).cell? ⟨b, 1, none⟩ = some (.slice (some ⟨gb, 0, none⟩) s.gates.length gc) := (World.cell?_of_block (set_other n2)).trans e2
  have q3 : (w.setCell ⟨rb, j * 2 + 1, none⟩ (.int .i64 x)).cell? ⟨b, 2, none⟩ = some (.slice (some ⟨rb, 0, none⟩) s.regs.length rc) := (World.cell?_of_block (set_other n2)).trans e3
  have hgi : (g : Int) < (s.gates.length : Int) := by omega
  have hji : (j : Int) < (s.regs.length : Int) := by omega
  have hbd := (Below.refl w.heap.size w).drew
  have HB := hide (show SmAt B w b k (rowsL b r) X Q s os from ⟨r, cs, h0, rfl⟩)
  have R := hide ((h0.on hbd).takes j x hrv)
  clear h0 hgo hro hcn hgv hrv z1 z2 z3 hj hjr
  go_enter Tryz.func92, Tryz.ntmps92
  go_region_held3 (fun W => W.cell? ⟨gb, g * 3 + 1, none⟩ = some (.int .i64 (j : Int)) ∧ W.cell? ⟨b, 1, none⟩ = some (.slice (some ⟨gb, 0, none⟩) s.gates.length gc) ∧ W.cell? ⟨b, 2, none⟩ = some (.slice (some ⟨rb, 0, none⟩) s.regs.length rc))
    ((first | exact ⟨e1, e2, e3⟩ | exact ⟨q1, q2, q3⟩))
    (fail)
  all_goals (go_wp2_with fail; go_end0)
  all_goals exact ⟨rfl, SmRet.early (unhide HB) hbd (unhide R)⟩

set_option maxRecDepth 100000 in
set_option maxHeartbeats 4000000 in
/-- A gate of its own, its args copied. -/
theorem gate_any {B b : Nat} {k : KK} {G X : List Nat} {Q : World → Prop} {s : SmD} {os : OS} {w : World} (h : SmAt B w b k G X Q s os) (kd : Int) (l : List Int) {aa : Option Addr} {an ac : Nat} (hI : Ints w aa an l) (hz : aa = none → an = 0 ∧ ac = 0) (hn : an ≤ 100) (hsm : s.gates.length ≤ 1000) :
    Calls Tryz.prog 93 #[.pointer (some ⟨b, 0, none⟩), .int .i64 kd, .slice aa an ac] w fun e w' => e = .returned (.int .i64 (s.gates.length : Nat)) ∧ SmRet B b k G X Q w w' (addG s kd l) os := by
  go_enter Tryz.func93, Tryz.ntmps93
  go_wp2_with fail
  refine (Clone_any l aa an ac w hI hz hn).mono ?_
  rintro e w1 ⟨v, rfl, hown, hb1⟩
  obtain ⟨a1, c1, rfl⟩ := row_slice hown
  have hS1 := h.on hb1
  have hlt := h.lt
  have hxl := h.xlt
  have hK : Kp (G ++ X) w1 (fun V => Ints V a1 an (⟨kd, 0, l⟩ : GateD).args) := (Kp.row hown (fun y hy hm => by
    have := (hown.lt y hy).1
    rcases List.mem_append.1 hm with h9 | h9
    · have := (hlt y h9).2; omega
    · have := (hxl y h9).1; omega)).imp (fun V hV => by
    obtain ⟨a2, c2, e, hI2⟩ := own_ints hV (by unfold maxLen; omega)
    injection e with e1 e2 e3
    subst e1
    exact hI2)
  go_wp2_with fail
  refine (add_any hS1 ⟨kd, 0, l⟩ hK hsm).mono ?_
  rintro e w2 ⟨rfl, hR⟩
  go_wp2_with fail
  go_ret
  exact ⟨rfl, SmRet.early h hb1 hR⟩

open Go.Maps
theorem smith_keyed : Keyed Tryz.prog 3 := int_keyed Tryz.underlying3
theorem smith_zero (w : World) : (zeroValue 3).run Tryz.prog w = .ok (.int .i64 0) w := by kernel_rfl
theorem smith_wf {x : Int} (h0 : 0 ≤ x) (h1 : x ≤ 1000000) : (Lit.int .i64 x).wf = true := by
  have h := wrap64_wf x
  rwa [show wrap64 x = x by unfold wrap64; omega] at h
theorem smith_key {x : Int} (h0 : 0 ≤ x) (h1 : x ≤ 1000000) : keyOf Tryz.prog 3 (.int .i64 x) = some (.int .i64 x) := keyOf_int_mk Tryz.underlying3 (smith_wf h0 h1)
theorem smith_lit (x : Int) : WideAt.IsKeyLit (.int .i64 x) := by first | trivial | rfl | (simp [WideAt.IsKeyLit])
theorem smith_ne {j k : Nat} (h : j ≠ k) : (Lit.int .i64 (j : Int)) ≠ .int .i64 (k : Int) := fun e => h (by injection e with _ e; omega)
/-- The map tells of each of the first k nodes that may wait its gate. -/
def WaitD (p : List NodeD) (k : Nat) (D : DataW Unit) : Prop :=
  Tidy D ∧ ∀ j : Nat, Maps.has D (.int .i64 (j : Int)) = (decide (j < k) && waitK (kindAt p j)) ∧ (j < k → waitK (kindAt p j) = true → D.atKey (.int .i64 (j : Int)) (.lit (.int .i64 0)) = .lit (.int .i64 (waitG p j)))
theorem WaitD.nil (p : List NodeD) : WaitD p 0 (.map []) := ⟨tidy_empty, fun j => ⟨by simp [has_eq], fun h => by omega⟩⟩
theorem WaitD.skip {p : List NodeD} {k : Nat} {D : DataW Unit} (h : WaitD p k D) (hk : waitK (kindAt p k) = false) : WaitD p (k + 1) D := by
  refine ⟨h.1, fun j => ?_⟩
  obtain ⟨h1, h2⟩ := h.2 j
  by_cases e : j = k
  · subst e; exact ⟨by rw [h1, hk]; simp, fun _ h9 => by rw [hk] at h9; simp at h9⟩
  · have : (decide (j < k + 1)) = decide (j < k) := by rw [decide_eq_decide]; omega
    exact ⟨by rw [h1, this], fun h9 h10 => h2 (by omega) h10⟩
theorem WaitD.put {p : List NodeD} {k : Nat} {D : DataW Unit} (h : WaitD p k D) (hk : waitK (kindAt p k) = true) : WaitD p (k + 1) (D.put (.int .i64 (k : Int)) (.lit (.int .i64 (waitG p k)))) := by
  refine ⟨h.1.put (smith_lit _) _, fun j => ?_⟩
  obtain ⟨h1, h2⟩ := h.2 j
  by_cases e : j = k
  · subst e
    exact ⟨by rw [has_put_same h.1.isMap (smith_lit _), hk]; simp, fun _ _ => atKey_put_same h.1.isMap (smith_lit _) _ _⟩
  · have : (decide (j < k + 1)) = decide (j < k) := by rw [decide_eq_decide]; omega
    exact ⟨by rw [has_put_other (smith_ne e), h1, this], fun h9 h10 => by rw [atKey_put_other (smith_ne e)]; exact h2 (by omega) h10⟩
def WaitAt (w : World) (m : Nat) (p : List NodeD) (k : Nat) : Prop := ∃ D, w.ownsMap Tryz.prog 3 (plainElem (H := Unit) Tryz.prog 3) m k D ∧ WaitD p k D
theorem WaitAt.lt {w : World} {m k : Nat} {p : List NodeD} (h : WaitAt w m p k) : m < w.heap.size := by obtain ⟨D, h1, _⟩ := h; exact h1.lt
theorem WaitAt.keep {w w' : World} {m k : Nat} {p : List NodeD} (h : WaitAt w m p k) (hb : w'.heap[m]? = w.heap[m]?) : WaitAt w' m p k := by
  obtain ⟨D, ⟨es, clock, h1, h2⟩, h3⟩ := h
  exact ⟨D, ⟨es, clock, hb.trans h1, h2⟩, h3⟩
theorem waitG_small (p : List NodeD) (j : Nat) (hj : j ≤ 100) : 0 ≤ waitG p j ∧ waitG p j ≤ 1000000 := by
  have := may_le (p := p) j
  unfold waitG
  omega
set_option maxRecDepth 100000 in
theorem WaitAt.look {w : World} {m k : Nat} {p : List NodeD} (h : WaitAt w m p k) {j : Nat} (hj : j < k) (hb : waitK (kindAt p j) = true) (hs : j ≤ 100) : (Instr.lookup 106 (.map (some m)) (.int .i64 (j : Int)) false).run Tryz.prog w = .ok (.int .i64 (waitG p j)) w := by
  obtain ⟨D, h1, h2⟩ := h
  obtain ⟨c, h3, h4, _⟩ := h1.lookup_int smith_keyed Tryz.underlying106 Tryz.underlying3 (smith_zero w) (smith_key (x := (j : Int)) (by omega) (by omega))
  have h5 := (h2.2 j).2 hj hb
  have hc : c = waitG p j := by
    have h6 := h4.symm.trans h5
    injection h6 with h6
    injection h6
  rw [h3, hc]
set_option maxRecDepth 100000 in
theorem WaitAt.ok {w : World} {m k : Nat} {p : List NodeD} (h : WaitAt w m p k) {j : Nat} (hj : j < k) (hs : j ≤ 100) : ∃ c, (Instr.lookup 106 (.map (some m)) (.int .i64 (j : Int)) true).run Tryz.prog w = .ok (.tuple #[.int .i64 c, .bool (waitK (kindAt p j))]) w ∧ (waitK (kindAt p j) = true → c = waitG p j) := by
  obtain ⟨D, h1, h2⟩ := h
  have hw0 : (Lit.int .i64 0).wf = true := by decide
  obtain ⟨v, ps, h3, h4⟩ := h1.look_ok smith_keyed Tryz.underlying106 (smith_zero w) (plainElem_int Tryz.underlying3 hw0) (smith_key (x := (j : Int)) (by omega) (by omega))
  obtain ⟨c, rfl, h5, _⟩ := plainElem_int_inv Tryz.underlying3 h4
  rw [(h2.2 j).1, show decide (j < k) = true from decide_eq_true hj, Bool.true_and] at h3
  refine ⟨c, h3, fun hb => ?_⟩
  have h6 := (h2.2 j).2 hj hb
  injection h5 with h7 _
  rw [h6] at h7
  injection h7 with h7
  injection h7 with _ h7
  exact h7.symm

/-- What a smith was handed, and what newSmith laid. -/
structure SP where
  na : Option Addr
  nn : Nat
  nc : Nat
  ia : Option Addr
  ic : Nat
  wa : Option Addr
  wc : Nat
  m : Nat
def SP.kk (P : SP) : KK := ⟨.slice P.na P.nn P.nc, .slice P.ia 3 P.ic, .int .i64 3, .slice P.wa 3 P.wc, .map (some P.m)⟩
def SP.q (P : SP) (p : List NodeD) (V : World) : Prop := Nodes V P.na P.nn p ∧ Ints V P.ia 3 [0, 1, 2] ∧ Ints V P.wa 3 [4, 5, 6] ∧ WaitAt V P.m p p.length
abbrev SmP (B : Nat) (W : World) (b : Nat) (P : SP) (G X : List Nat) (p : List NodeD) (s : SmD) (os : OS) : Prop := SmAt B W b P.kk G X (P.q p) s os
abbrev SmQ (B b : Nat) (P : SP) (G X : List Nat) (p : List NodeD) (w w' : World) (s' : SmD) (os' : OS) : Prop := SmRet B b P.kk G X (P.q p) w w' s' os'
theorem SmAt.q {B : Nat} {W : World} {b : Nat} {P : SP} {G X : List Nat} {p : List NodeD} {s : SmD} {os : OS} (h : SmP B W b P G X p s os) : P.q p W := h.restK.now

set_option maxHeartbeats 1000000 in
theorem sparts_any {B b : Nat} {P : SP} {G X : List Nat} {p : List NodeD} {s : SmD} {os : OS} {w : World} (h : SmP B w b P G X p s os) (hc : P.nn ≤ P.nc) (k : Nat) :
    Calls Tryz.prog 120 #[.pointer (some ⟨b, 0, none⟩), .int .i64 (k : Int)] w fun e w' => e = .returned (.tuple #[.int .i64 (partA p k), .int .i64 (partB p k), .int .i64 (partC p k)]) ∧ Below w.heap.size w w' := by
  obtain ⟨hbl, c4, _, _, _, _⟩ := h.cells
  have c4' : w.cell? ⟨b, 4, none⟩ = some (.slice P.na P.nn P.nc) := c4
  have hN := h.q.1
  clear c4 h
  go_enter Tryz.func120, Tryz.ntmps120
  go_wp2_with fail
  refine (PParts_any p _ _ _ (k : Int) _ hN hc).mono ?_
  rintro e w1 ⟨he, hb⟩
  unfold PartsRet at he
  obtain ⟨pa, hpa⟩ : ∃ pa, partA p (k : Int) = pa := ⟨_, rfl⟩
  obtain ⟨pb, hpb⟩ : ∃ pb, partB p (k : Int) = pb := ⟨_, rfl⟩
  obtain ⟨pc, hpc⟩ : ∃ pc, partC p (k : Int) = pc := ⟨_, rfl⟩
  obtain ⟨pe, hpe⟩ : ∃ pe, partsE p (k : Int) = pe := ⟨_, rfl⟩
  rw [hpa, hpb, hpc, hpe] at he
  have HR := hide (show (Ending.returned (.tuple #[.int .i64 pa, .int .i64 pb, .int .i64 pc])) = .returned (.tuple #[.int .i64 (partA p (k : Int)), .int .i64 (partB p (k : Int)), .int .i64 (partC p (k : Int))]) by rw [hpa, hpb, hpc])
  subst he
  clear hpa hpb hpc hpe
  go_wp2_with fail
  exact bodyPost_ret (v := .tuple #[.int .i64 pa, .int .i64 pb, .int .i64 pc]) (by simp [results, Tryz.results120, go_sem]) rfl ⟨unhide HR, hb⟩

/-- The gates of those from k on, below i, who may wait. -/
def someTo (p : List NodeD) (k i : Nat) : List Int := ((List.range i).filter (fun j => decide (k ≤ j) && waitK (kindAt p j))).map (waitG p)
theorem someTo_all (p : List NodeD) (k : Nat) : someTo p k (endP p k) = someArgs p k := rfl
theorem someTo_le (p : List NodeD) (k i : Nat) : (someTo p k i).length ≤ i := by
  unfold someTo
  rw [List.length_map]
  exact Nat.le_trans (List.length_filter_le _ _) (by simp)
theorem someTo_start (p : List NodeD) (k : Nat) : someTo p k k = [] := by
  unfold someTo
  rw [List.map_eq_nil_iff, List.filter_eq_nil_iff]
  intro j hj
  have := List.mem_range.1 hj
  simp; omega
theorem someTo_yes (p : List NodeD) {k i : Nat} (hi : k ≤ i) (hw : waitK (kindAt p i) = true) : someTo p k (i + 1) = someTo p k i ++ [waitG p i] := by
  unfold someTo
  rw [List.range_succ, List.filter_append, List.map_append]
  simp [hi, hw]
theorem someTo_no (p : List NodeD) {k i : Nat} (hw : waitK (kindAt p i) = false) : someTo p k (i + 1) = someTo p k i := by
  unfold someTo
  rw [List.range_succ, List.filter_append, List.map_append]
  simp [hw]
theorem partC_at {p : List NodeD} (hok : POk p) {k : Nat} (hk : k < p.length) : partC p (k : Int) = (endP p k : Nat) := by
  unfold partC
  rw [if_pos (show partsE p (k : Int) = 0 by unfold partsE; rw [if_pos (of_pok hok), if_pos ⟨by omega, by omega⟩])]
  rfl

set_option maxRecDepth 100000 in
set_option maxHeartbeats 4000000 in
theorem someWait_any {B b : Nat} {P : SP} {G X : List Nat} {p : List NodeD} {s : SmD} {os : OS} {w : World} (hok : POk p) (h : SmP B w b P G X p s os) (hc : P.nn ≤ P.nc) {k : Nat} (hk : k < p.length) (hsm : s.gates.length ≤ 1000) :
    Calls Tryz.prog 95 #[.pointer (some ⟨b, 0, none⟩), .int .i64 (k : Int)] w fun e w' => e = .returned (.int .i64 (s.gates.length : Nat)) ∧ SmQ B b P G X p w w' (addG s 5 (someArgs p k)) os := by
  have hfew := hok.few
  have hen := end_le hok.form hk
  have hgt := end_gt hk
  have HC := hide (partC_at hok hk)
  obtain ⟨i0, hi, hz0, hz1, hz2⟩ := info_parts Tryz.infoInt
  go_enter Tryz.func95, Tryz.ntmps95
  go_wp2_with fail
  refine (sparts_any h hc k).mono ?_
  rintro e w1 ⟨rfl, hb1⟩
  rw [unhide HC]
  have h1 := h.on hb1
  obtain ⟨pa, hpa⟩ : ∃ pa, partA p (k : Int) = pa := ⟨_, rfl⟩
  obtain ⟨pb, hpb⟩ : ∃ pb, partB p (k : Int) = pb := ⟨_, rfl⟩
  rw [hpa, hpb]
  clear hpa hpb
  obtain ⟨en, hen'⟩ : ∃ en, endP p k = en := ⟨_, rfl⟩
  have HEN := hide hen'
  rw [hen'] at hen hgt ⊢
  clear hen'
  go_wp2_with fail
  go_loopw [8, 9] (fun v i wr => ∃ j : Nat, k ≤ j ∧ j ≤ en ∧ i = .int .i64 j ∧ wr.ownsRow w1.heap.size 3 1 v (someTo p k j).length (intsV (someTo p k j)) ∧ Below w1.heap.size w1 wr) (fun _ i _ => en - (intOf i).toNat)
  case atStart => exact ⟨k, Nat.le_refl _, Nat.le_of_lt hgt, rfl, by rw [someTo_start]; exact World.ownsRow_nil _ _ _ _, Below.refl _ _⟩
  case round =>
    obtain ⟨j, hj1, hj2, rfl, hown, hbel⟩ := hrel
    have hS := h1.on hbel
    obtain ⟨hbl, _, _, _, _, c8⟩ := hS.cells
    have c8' : wr.cell? ⟨b, 8, none⟩ = some (.map (some P.m)) := c8
    clear c8
    have hln := someTo_le p k j
    by_cases hlt : j < en
    · have hji : (j : Int) < (en : Int) := by omega
      obtain ⟨c, hlook, hcc⟩ := hS.q.2.2.2.ok (j := j) (by omega) (by omega)
      cases ew : waitK (kindAt p j)
      · rw [ew] at hlook
        rw [← someTo_no p ew] at hown
        have R := hide hown
        clear ew hown hcc
        go_wp2_with fail
        exact ⟨⟨j + 1, by omega, by omega, by go_num, unhide R, hbel⟩, by simp [intOf]; omega⟩
      · rw [ew] at hlook
        obtain rfl := hcc ew
        have HT := hide (someTo_yes p hj1 ew)
        obtain ⟨ls, hls⟩ : ∃ ls, someTo p k j = ls := ⟨_, rfl⟩
        obtain ⟨gx, hgx⟩ : ∃ gx, waitG p j = gx := ⟨_, rfl⟩
        rw [hls] at hown hln
        rw [hgx] at hlook
        have HLS := hide (And.intro hls hgx)
        clear ew hcc hls hgx
        have hbw := hbel.size
        go_wp2_with (at_builtin; refine wpList_append_own _ rfl _ _ 28 rfl w1.heap.size 3 i0 (.int .i64 0) 1 8 Tryz.underlying28 hi hz0 hz1 hz2 rfl (by decide) _ _ _ rfl (hown.alloc _) ⟨wr.heap.size, 0, none⟩ 1 1 [.int .i64 gx] rfl rfl ?c1 ?c2 ?c3 ?c4 ?c5 ?_)
        case c1 =>
          intro j u hj
          match j, hj with
          | 0, hj => simp at hj; subst hj; simp [Addr.add]
        case c2 => intro u hu; simp at hu; subst hu; rfl
        case c3 => unfold maxLen; omega
        case c4 => omega
        case c5 => simp; omega
        intro v' w3 hown' hgrow _
        have hb9 : Below w1.heap.size wr w3 := ((Below.refl _ wr).alloc hbw _).grown hgrow (by simp; omega) (fun k hk => (hown.lt k hk).1)
        have R := hide (show w3.ownsRow w1.heap.size 3 1 v' (someTo p k (j + 1)).length (intsV (someTo p k (j + 1))) ∧ Below w1.heap.size w1 w3 by
          rw [unhide HT, (unhide HLS).1, (unhide HLS).2]
          exact ⟨by simpa [intsV] using hown', hbel.trans hb9⟩)
        clear hown hown' hgrow hlook
        go_wp2_with fail
        exact ⟨⟨j + 1, by omega, by omega, by go_num, (unhide R).1, (unhide R).2⟩, by simp [intOf]; omega⟩
    · have hje : j = en := by omega
      subst hje
      rw [← unhide HEN, someTo_all] at hown
      have hln2 : (someArgs p k).length ≤ 14 := some_few hok hk
      obtain ⟨ls, hls⟩ : ∃ ls, someArgs p k = ls := ⟨_, rfl⟩
      rw [hls] at hown hln2
      have HLS := hide hls
      obtain ⟨a2, c2, rfl, hI⟩ := own_ints hown (by unfold maxLen; omega)
      have hnil := row_nil hown
      clear hls hown
      go_wp2_with fail
      refine (gate_any hS 5 ls hI hnil (by omega) hsm).mono ?_
      rintro e w4 ⟨rfl, hR⟩
      have R := hide (show SmQ B b P G X p w w4 (addG s 5 (someArgs p k)) os by rw [unhide HLS]; exact SmRet.early h (bstep hb1 hbel) hR)
      clear hR
      go_wp2_with fail
      go_ret
      exact ⟨rfl, unhide R⟩

open Go.Maps
theorem lit_one (w : World) (x : Int) : Ints (w.alloc (.cells #[.int .i64 x] 3)) (some ⟨w.heap.size, 0, none⟩) 1 [x] := Ints.new w _ _ 1 [x] rfl rfl (by unfold maxLen; simp)
theorem lit_two (w : World) (x y : Int) : Ints (w.alloc (.cells #[.int .i64 x, .int .i64 y] 3)) (some ⟨w.heap.size, 0, none⟩) 2 [x, y] := Ints.new w _ _ 2 [x, y] rfl rfl (by unfold maxLen; simp)
theorem gate1_any {B b : Nat} {k : KK} {G X : List Nat} {Q : World → Prop} {s : SmD} {os : OS} {w : World} (h : SmAt B w b k G X Q s os) (kd x : Int) (hsm : s.gates.length ≤ 1000) :
    Calls Tryz.prog 93 #[.pointer (some ⟨b, 0, none⟩), .int .i64 kd, .slice (some ⟨w.heap.size, 0, none⟩) 1 1] (w.alloc (.cells #[.int .i64 x] 3)) fun e w' => e = .returned (.int .i64 (s.gates.length : Nat)) ∧ SmRet B b k G X Q w w' (addG s kd [x]) os := by
  have hb := (Below.refl _ w).alloc (Nat.le_refl _) (.cells #[.int .i64 x] 3)
  refine (gate_any (h.on hb) kd [x] (lit_one w x) (fun e => by simp at e) (by decide) hsm).mono ?_
  rintro e w' ⟨rfl, hR⟩
  exact ⟨rfl, SmRet.early h hb hR⟩
theorem gate2_any {B b : Nat} {k : KK} {G X : List Nat} {Q : World → Prop} {s : SmD} {os : OS} {w : World} (h : SmAt B w b k G X Q s os) (kd x y : Int) (hsm : s.gates.length ≤ 1000) :
    Calls Tryz.prog 93 #[.pointer (some ⟨b, 0, none⟩), .int .i64 kd, .slice (some ⟨w.heap.size, 0, none⟩) 2 2] (w.alloc (.cells #[.int .i64 x, .int .i64 y] 3)) fun e w' => e = .returned (.int .i64 (s.gates.length : Nat)) ∧ SmRet B b k G X Q w w' (addG s kd [x, y]) os := by
  have hb := (Below.refl _ w).alloc (Nat.le_refl _) (.cells #[.int .i64 x, .int .i64 y] 3)
  refine (gate_any (h.on hb) kd [x, y] (lit_two w x y) (fun e => by simp at e) (by decide) hsm).mono ?_
  rintro e w' ⟨rfl, hR⟩
  exact ⟨rfl, SmRet.early h hb hR⟩
theorem gate0_any {B b : Nat} {k : KK} {G X : List Nat} {Q : World → Prop} {s : SmD} {os : OS} {w : World} (h : SmAt B w b k G X Q s os) (kd : Int) (hsm : s.gates.length ≤ 1000) :
    Calls Tryz.prog 93 #[.pointer (some ⟨b, 0, none⟩), .int .i64 kd, .slice none 0 0] w fun e w' => e = .returned (.int .i64 (s.gates.length : Nat)) ∧ SmRet B b k G X Q w w' (addG s kd []) os :=
  gate_any h kd [] (Ints.none w) (fun _ => ⟨rfl, rfl⟩) (by decide) hsm

/-- What is asked of the call for a node. -/
def SNodeC (p : List NodeD) (m : Nat) : Prop := ∀ (B b : Nat) (P : SP) (G X : List Nat) (s : SmD) (os : OS) (w : World) (k : Nat) (bg gg : Int), P.nn ≤ P.nc → SmP B w b P G X p s os → SmOk p s → k < p.length → endP p k - k ≤ m → inG s bg → inG s gg → 2 * s.gates.length + 21 * (endP p k - k) ≤ 1490 → total s + (endP p k - k) ≤ 500 → os.2 = none →
  Calls Tryz.prog 94 #[.pointer (some ⟨b, 0, none⟩), .int .i64 (k : Int), .int .i64 bg, .int .i64 gg] w fun e w' => e = .returned (.int .i64 (nodeF p m k bg gg s).2) ∧ SmQ B b P G X p w w' (nodeF p m k bg gg s).1 os

set_option maxRecDepth 100000 in
set_option maxHeartbeats 4000000 in
theorem behind_any {B b : Nat} {P : SP} {G X : List Nat} {p : List NodeD} {s : SmD} {os : OS} {w : World} (hok : POk p) {m : Nat} (hn : SNodeC p m) (hc : P.nn ≤ P.nc) (h : SmP B w b P G X p s os) (ho : SmOk p s) {k1 k2 : Nat} {bg gg : Int} (hk1 : k1 < p.length) (hk2 : k2 < p.length) (hm1 : endP p k1 - k1 ≤ m) (hm2 : endP p k2 - k2 ≤ m) (hb : inG s bg) (hg : inG s gg) (hbd : 2 * s.gates.length + 21 * ((endP p k1 - k1) + (endP p k2 - k2)) ≤ 1480) (hbt : total s + ((endP p k1 - k1) + (endP p k2 - k2)) ≤ 500) (hos : os.2 = none) :
    Calls Tryz.prog 122 #[.pointer (some ⟨b, 0, none⟩), .int .i64 (k1 : Int), .int .i64 (k2 : Int), .int .i64 bg, .int .i64 gg] w fun e w' => e = .returned (.int .i64 (behindF (nodeF p m) p k1 k2 bg gg s).2) ∧ SmQ B b P G X p w w' (behindF (nodeF p m) p k1 k2 bg gg s).1 os := by
  have hfw := some_few hok hk1
  have h1 := ho.add 5 (someArgs p k1) (some_in hok ho hk1) (Or.inl ⟨by omega, by omega, by omega⟩)
  have n1 := inG.new s 5 (someArgs p k1)
  have h2 := h1.add 4 [gg, here s] (fun x hx => by rcases List.mem_cons.1 hx with rfl | hx; exact hg.add _ _; (have : x = here s := by simpa using hx); rw [this]; exact n1) (Or.inl ⟨by omega, by omega, by simp⟩)
  have n2 := inG.new (addG s 5 (someArgs p k1)) 4 [gg, here s]
  have h3 := h2.add 6 [here (addG s 5 (someArgs p k1))] (fun x hx => by (have : x = here (addG s 5 (someArgs p k1)) := by simpa using hx); rw [this]; exact n2) (Or.inr (Or.inl ⟨rfl, rfl⟩))
  have n3 := inG.new (addG (addG s 5 (someArgs p k1)) 4 [gg, here s]) 6 [here (addG s 5 (someArgs p k1))]
  have h4 := h3.add 4 [gg, here (addG (addG s 5 (someArgs p k1)) 4 [gg, here s])] (fun x hx => by rcases List.mem_cons.1 hx with rfl | hx; exact ((hg.add _ _).add _ _).add _ _; (have : x = here (addG (addG s 5 (someArgs p k1)) 4 [gg, here s]) := by simpa using hx); rw [this]; exact n3) (Or.inl ⟨by omega, by omega, by simp⟩)
  have n4 := inG.new (addG (addG (addG s 5 (someArgs p k1)) 4 [gg, here s]) 6 [here (addG s 5 (someArgs p k1))]) 4 [gg, here (addG (addG s 5 (someArgs p k1)) 4 [gg, here s])]
  have r := node_made hok m k1 bg (here (addG s 5 (someArgs p k1))) _ hk1 hm1 h4 ((((hb.add _ _).add _ _).add _ _).add _ _) ((n2.add _ _).add _ _)
  have HB := hide (And.intro ((((hb.add 5 (someArgs p k1)).add 4 [gg, here s]).add 6 [here (addG s 5 (someArgs p k1))]).add 4 [gg, here (addG (addG s 5 (someArgs p k1)) 4 [gg, here s])]) (And.intro ((n2.add 6 [here (addG s 5 (someArgs p k1))]).add 4 [gg, here (addG (addG s 5 (someArgs p k1)) 4 [gg, here s])]) n4))
  have HR := hide r
  have H4 := hide h4
  clear h1 h2 h3 h4 n1 n2 n3 n4 r ho hb hg
  go_enter Tryz.func122, Tryz.ntmps122
  go_wp2_with fail
  refine (someWait_any hok h hc hk1 (by omega)).mono ?_
  rintro e w1 ⟨rfl, hR⟩
  obtain ⟨G1, hS1, hk1', hG1, hB1⟩ := hR
  go_wp2_with fail
  refine (gate2_any hS1 4 gg (here s) (by rw [add_len]; omega)).mono ?_
  rintro e w2 ⟨rfl, hR⟩
  obtain ⟨G2, hS2, hk2', hG2, hB2⟩ := SmRet.trans hS1 hk1' hG1 hB1 hR
  clear hR hS1 hk1' hG1 hB1
  go_wp2_with fail
  refine (gate1_any hS2 6 (here (addG s 5 (someArgs p k1))) (by simp only [add_len]; omega)).mono ?_
  rintro e w3 ⟨rfl, hR⟩
  obtain ⟨G3, hS3, hk3', hG3, hB3⟩ := SmRet.trans hS2 hk2' hG2 hB2 hR
  clear hR hS2 hk2' hG2 hB2
  go_wp2_with fail
  refine (gate2_any hS3 4 gg (here (addG (addG s 5 (someArgs p k1)) 4 [gg, here s])) (by simp only [add_len]; omega)).mono ?_
  rintro e w4 ⟨rfl, hR⟩
  obtain ⟨G4, hS4, hk4', hG4, hB4⟩ := SmRet.trans hS3 hk3' hG3 hB3 hR
  clear hR hS3 hk3' hG3 hB3
  go_wp2_with fail
  refine (hn B b P G4 X _ os w4 k1 bg (here (addG s 5 (someArgs p k1))) hc hS4 (unhide H4) hk1 hm1 (unhide HB).1 (unhide HB).2.1 (by simp only [add_len]; omega) (by show total s + _ ≤ 500; omega) hos).mono ?_
  rintro e w5 ⟨rfl, hR⟩
  obtain ⟨G5, hS5, hk5', hG5, hB5⟩ := SmRet.trans hS4 hk4' hG4 hB4 hR
  clear hR hS4 hk4' hG4 hB4
  obtain ⟨z1, z2, z3, z4, z5⟩ := unhide HR
  simp only [add_len] at z4
  go_wp2_with fail
  refine (hn B b P G5 X _ os w5 k2 _ (here (addG (addG (addG s 5 (someArgs p k1)) 4 [gg, here s]) 6 [here (addG s 5 (someArgs p k1))])) hc hS5 z1 hk2 hm2 z2 ((unhide HB).2.2.on z3) (by omega) (by have z6 : total _ ≤ total s + _ := z5; omega) hos).mono ?_
  rintro e w6 ⟨rfl, hR⟩
  have R := hide (SmRet.trans hS5 hk5' hG5 hB5 hR)
  clear hR hS5 hk5' hG5 hB5 z1 z2 z3 z4 z5
  go_wp2_with fail
  go_ret
  exact ⟨rfl, unhide R⟩

open Go.Maps
/-- What comes part by part. -/
def partsS (f : PartF) (p : List NodeD) (g : Int) (l : List (Nat × Int)) (s : SmD) : Nat → SmD × (List Int × List Int)
  | 0 => (s, [], [])
  | i + 1 => ((partF f p g (l.getD i (0, 0)).1 (l.getD i (0, 0)).2 (partsS f p g l s i).1).1, (partsS f p g l s i).2.1 ++ [(partF f p g (l.getD i (0, 0)).1 (l.getD i (0, 0)).2 (partsS f p g l s i).1).2.1], (partsS f p g l s i).2.2 ++ [(partF f p g (l.getD i (0, 0)).1 (l.getD i (0, 0)).2 (partsS f p g l s i).1).2.2])
theorem partsS_two (f : PartF) (p : List NodeD) (g : Int) (k1 : Nat) (b1 : Int) (k2 : Nat) (b2 : Int) (s : SmD) : atOnceF f p g k1 b1 k2 b2 s =
    (addG (addG (addG (addG (partsS f p g [(k1, b1), (k2, b2)] s 2).1 5 (partsS f p g [(k1, b1), (k2, b2)] s 2).2.2) 6 [here (partsS f p g [(k1, b1), (k2, b2)] s 2).1]) 5 (partsS f p g [(k1, b1), (k2, b2)] s 2).2.1) 4 [here (addG (addG (partsS f p g [(k1, b1), (k2, b2)] s 2).1 5 (partsS f p g [(k1, b1), (k2, b2)] s 2).2.2) 6 [here (partsS f p g [(k1, b1), (k2, b2)] s 2).1]), here (addG (partsS f p g [(k1, b1), (k2, b2)] s 2).1 5 (partsS f p g [(k1, b1), (k2, b2)] s 2).2.2)],
      here (addG (addG (addG (partsS f p g [(k1, b1), (k2, b2)] s 2).1 5 (partsS f p g [(k1, b1), (k2, b2)] s 2).2.2) 6 [here (partsS f p g [(k1, b1), (k2, b2)] s 2).1]) 5 (partsS f p g [(k1, b1), (k2, b2)] s 2).2.1)) := rfl
theorem partsS_made {p : List NodeD} (hok : POk p) {m : Nat} {g : Int} {l : List (Nat × Int)} {s : SmD} (ho : SmOk p s) (hg : inG s g) (hk : ∀ i, i < 2 → (l.getD i (0, 0)).1 < p.length ∧ endP p (l.getD i (0, 0)).1 - (l.getD i (0, 0)).1 ≤ m ∧ inG s (l.getD i (0, 0)).2) : ∀ i, i ≤ 2 →
    SmOk p (partsS (nodeF p m) p g l s i).1 ∧ s.gates <+: (partsS (nodeF p m) p g l s i).1.gates ∧ 2 * (partsS (nodeF p m) p g l s i).1.gates.length ≤ 2 * s.gates.length + 21 * (((List.range i).map (fun j => endP p (l.getD j (0, 0)).1 - (l.getD j (0, 0)).1)).sum) ∧ (partsS (nodeF p m) p g l s i).2.1.length = i ∧ (partsS (nodeF p m) p g l s i).2.2.length = i ∧ total (partsS (nodeF p m) p g l s i).1 ≤ total s + (((List.range i).map (fun j => endP p (l.getD j (0, 0)).1 - (l.getD j (0, 0)).1)).sum)
  | 0, _ => ⟨ho, List.prefix_refl _, by simp [partsS], rfl, rfl, by simp [partsS]⟩
  | i + 1, hi => by
    obtain ⟨h1, h2, h3, h4, h5, h6⟩ := partsS_made hok ho hg hk i (by omega)
    obtain ⟨q1, q2, q3⟩ := hk i (by omega)
    obtain ⟨a1, a2, a3, a4, a5, a6⟩ := part_made hok (node_made hok m) q1 q2 h1 (q3.on h2) (hg.on h2)
    have hs9 : (partsS (nodeF p m) p g l s (i + 1)).1 = (partF (nodeF p m) p g (l.getD i (0, 0)).1 (l.getD i (0, 0)).2 (partsS (nodeF p m) p g l s i).1).1 := rfl
    have hs8 : (((List.range (i + 1)).map (fun j => endP p (l.getD j (0, 0)).1 - (l.getD j (0, 0)).1)).sum) = (((List.range i).map (fun j => endP p (l.getD j (0, 0)).1 - (l.getD j (0, 0)).1)).sum) + (endP p (l.getD i (0, 0)).1 - (l.getD i (0, 0)).1) := by
      rw [List.range_succ, List.map_append, List.sum_append]
      simp
    rw [hs9, hs8]
    exact ⟨a1, h2.trans a4, by omega, by simp [partsS, h4], by simp [partsS, h5], by omega⟩
/-- The next call, what came since being told. -/
theorem SmRet.next {B b : Nat} {k : KK} {G G1 X : List Nat} {Q R R2 : World → Prop} {w w1 w2 : World} {s2 : SmD} {o2 : OS} (hR : SmRet B b k G1 X Q w1 w2 s2 o2) (h1 : Kp (G1 ++ X) w1 R) (h2 : Kp G1 w1 R2) (hk : KeptG G w w1) (hG : ∀ g ∈ G1, g ∈ G ∨ w.heap.size ≤ g) (hB : Below B w w1) :
    ∃ G2, SmAt B w2 b k G2 X Q s2 o2 ∧ Kp (G2 ++ X) w2 R ∧ Kp G2 w2 R2 ∧ KeptG G w w2 ∧ (∀ g ∈ G2, g ∈ G ∨ w.heap.size ≤ g) ∧ Below B w w2 := by
  obtain ⟨G2, a1, a2, a3, a4⟩ := hR
  refine ⟨G2, a1, h1.step a2.left (sub_left a3), h2.step a2 a3, ⟨Nat.le_trans hk.1 a2.1, fun j hj hn => ?_⟩, fun g hg => ?_, hB.trans a4⟩
  · refine (a2.2 j (Nat.lt_of_lt_of_le hj hk.1) (fun hm => ?_)).trans (hk.2 j hj hn)
    rcases hG j hm with h5 | h5
    · exact hn h5
    · omega
  · rcases a3 g hg with h5 | h5
    · exact hG g h5
    · have := hk.1
      exact Or.inr (by omega)
theorem Kp.blk {G : List Nat} {W : World} {x : Nat} {vs : List Value} {T : TypeId} (h : Cells W x vs T) (hx : x ∉ G) : Kp G W (fun V => Cells V x vs T) := fun _ hk => (hk.2 x h.lt hx).trans h
theorem KeptG.on2 {G : List Nat} {w w1 w2 : World} (h : KeptG G w w1) {B : Nat} (hb : Below B w1 w2) (hB : w.heap.size ≤ B) : KeptG G w w2 :=
  ⟨Nat.le_trans h.1 hb.size, fun k hk hG => (hb.block k (by omega)).trans (h.2 k hk hG)⟩
theorem row_ints {W : World} {B n c : Nat} {a : Option Addr} {xs : List Int} (h : W.ownsRow B 3 1 (.slice a n c) n (intsV xs)) (hm : n ≤ maxLen) : Ints W a n xs := by
  obtain ⟨a2, c2, e, hI⟩ := own_ints h hm
  injection e with e1 _ _
  subst e1
  exact hI
/-- What lies there at the head of a round. -/
def AtOn (B b : Nat) (P : SP) (G X : List Nat) (p : List NodeD) (os : OS) (w wr : World) (s : SmD) (xs ys : List Int) (n : Nat) (vo vl : Value) : Prop :=
  ∃ G', SmP B wr b P G' (ownB vo ++ (ownB vl ++ X)) p s os ∧ wr.ownsRow w.heap.size 3 1 vo n (intsV xs) ∧ wr.ownsRow w.heap.size 3 1 vl n (intsV ys) ∧ (∀ x, vo.ownBlock = some x → vl.ownBlock ≠ some x) ∧ KeptG G w wr ∧ (∀ g ∈ G', g ∈ G ∨ w.heap.size ≤ g) ∧ Below B w wr
theorem rows2 {G : List Nat} {W : World} {B n : Nat} {vo vl : Value} {xs ys : List Value} (h1 : W.ownsRow B 3 1 vo n xs) (h2 : W.ownsRow B 3 1 vl n ys) {X : List Nat} (hX : ∀ x ∈ ownB vo ++ (ownB vl ++ X), x ∉ G) : Kp G W (fun V => V.ownsRow B 3 1 vo n xs ∧ V.ownsRow B 3 1 vl n ys) :=
  (Kp.row h1 (fun y hy => hX y (List.mem_append_left _ (ownB_mem.2 hy)))).and (Kp.row h2 (fun y hy => hX y (List.mem_append_right _ (List.mem_append_left _ (ownB_mem.2 hy)))))

set_option maxRecDepth 100000 in
set_option maxHeartbeats 8000000 in
theorem atOnce_any {B b : Nat} {P : SP} {G X : List Nat} {p : List NodeD} {s : SmD} {os : OS} {w : World} (hok : POk p) {m : Nat} (hn : SNodeC p m) (hc : P.nn ≤ P.nc) (h : SmP B w b P G X p s os) (ho : SmOk p s) {k1 k2 : Nat} {b1 b2 gg : Int} (hk1 : k1 < p.length) (hk2 : k2 < p.length) (hm1 : endP p k1 - k1 ≤ m) (hm2 : endP p k2 - k2 ≤ m) (hb1 : inG s b1) (hb2 : inG s b2) (hg : inG s gg) (hbd : 2 * s.gates.length + 21 * ((endP p k1 - k1) + (endP p k2 - k2)) ≤ 1480) (hbt : total s + ((endP p k1 - k1) + (endP p k2 - k2)) ≤ 500) (hos : os.2 = none) {pb : Nat} (hpb : Cells w pb [.int .i64 (k1 : Int), .int .i64 b1, .int .i64 (k2 : Int), .int .i64 b2] 155) (hpg : pb ∉ G) :
    Calls Tryz.prog 123 #[.pointer (some ⟨b, 0, none⟩), .int .i64 gg, .slice (some ⟨pb, 0, none⟩) 2 2] w fun e w' => e = .returned (.int .i64 (atOnceF (nodeF p m) p gg k1 b1 k2 b2 s).2) ∧ SmQ B b P G X p w w' (atOnceF (nodeF p m) p gg k1 b1 k2 b2 s).1 os := by
  obtain ⟨l, hl⟩ : ∃ l, [(k1, b1), (k2, b2)] = l := ⟨_, rfl⟩
  have HE := hide (partsS_two (nodeF p m) p gg k1 b1 k2 b2 s)
  have HL : Hid (∀ i, i < 2 → (l.getD i (0, 0)).1 < p.length ∧ endP p (l.getD i (0, 0)).1 - (l.getD i (0, 0)).1 ≤ m ∧ inG s (l.getD i (0, 0)).2) := hide (by
    intro i hi
    subst hl
    have : i = 0 ∨ i = 1 := by omega
    rcases this with rfl | rfl
    · exact ⟨hk1, hm1, hb1⟩
    · exact ⟨hk2, hm2, hb2⟩)
  have HM := hide (partsS_made (g := gg) hok ho hg (unhide HL))
  have HS : Hid (∀ i, i < 2 → (((List.range i).map (fun j => endP p (l.getD j (0, 0)).1 - (l.getD j (0, 0)).1)).sum) + (endP p (l.getD i (0, 0)).1 - (l.getD i (0, 0)).1) ≤ (endP p k1 - k1) + (endP p k2 - k2)) := hide (by
    intro i hi
    subst hl
    have : i = 0 ∨ i = 1 := by omega
    rcases this with rfl | rfl
    · simp
    · simp)
  have HS2 : Hid ((((List.range 2).map (fun j => endP p (l.getD j (0, 0)).1 - (l.getD j (0, 0)).1)).sum) = (endP p k1 - k1) + (endP p k2 - k2)) := hide (by
    subst hl
    simp [List.range_succ])
  have HC : Hid (∀ i, i < 2 → (w.cell? ⟨pb, i * 2, none⟩ = some (.int .i64 ((l.getD i (0, 0)).1 : Nat)) ∧ w.cell? ⟨pb, i * 2 + 1, none⟩ = some (.int .i64 (l.getD i (0, 0)).2))) := hide (by
    intro i hi
    subst hl
    have : i = 0 ∨ i = 1 := by omega
    rcases this with rfl | rfl
    · exact ⟨hpb.cell 0, hpb.cell 1⟩
    · exact ⟨hpb.cell 2, hpb.cell 3⟩)
  have hpl := hpb.lt
  have HG := hide hg
  have hbase := h.base
  have hGlt := h.lt
  have hXlt := h.xlt
  rw [hl] at HE
  clear hk1 hk2 hm1 hm2 hb1 hb2 hpb hl hg
  obtain ⟨i0, hi, hz0, hz1, hz2⟩ := info_parts Tryz.infoInt
  go_enter Tryz.func123, Tryz.ntmps123
  go_wp2_with fail
  go_loopw [7, 8, 17] (fun vo vl iv wr => ∃ i : Nat, i ≤ 2 ∧ iv = .int .i64 i ∧ AtOn B b P G X p os w wr (partsS (nodeF p m) p gg l s i).1 (partsS (nodeF p m) p gg l s i).2.1 (partsS (nodeF p m) p gg l s i).2.2 i vo vl) (fun _ _ iv _ => 2 - (intOf iv).toNat)
  case atStart => exact ⟨0, by omega, rfl, G, h.turnX (KeptG.refl _ _) (fun x hx => Or.inl (by simpa [ownB, Value.ownBlock] using hx)) (fun x hx => (hXlt x (by simpa [ownB, Value.ownBlock] using hx)).1), World.ownsRow_nil _ _ _ _, World.ownsRow_nil _ _ _ _, by simp [Value.ownBlock], KeptG.refl _ _, fun _ hg => Or.inl hg, Below.refl _ _⟩
  case round =>
    obtain ⟨i, hi2, rfl, hA⟩ := hrel
    obtain ⟨G0, hS0, hro, hrl, hd, hk0, hG0, hB0⟩ := hA
    obtain ⟨m1, m2, m3, m4, m5, m6⟩ := unhide HM i hi2
    obtain ⟨av, ac, hav⟩ := row_slice hro
    obtain ⟨lv, lc, hlv⟩ := row_slice hrl
    subst hav
    subst hlv
    by_cases hlt : i < 2
    · obtain ⟨l1, l2, l3⟩ := unhide HL i hlt
      have l4 := unhide HS i hlt
      have hsum := m3
      obtain ⟨c1, c2⟩ := unhide HC i hlt
      have hpm := part_made hok (node_made hok m) l1 l2 m1 (l3.on m2) ((unhide HG).on m2)
      have HSS := hide (show partsS (nodeF p m) p gg l s (i + 1) = ((partF (nodeF p m) p gg (l.getD i (0, 0)).1 (l.getD i (0, 0)).2 (partsS (nodeF p m) p gg l s i).1).1, (partsS (nodeF p m) p gg l s i).2.1 ++ [(partF (nodeF p m) p gg (l.getD i (0, 0)).1 (l.getD i (0, 0)).2 (partsS (nodeF p m) p gg l s i).1).2.1], (partsS (nodeF p m) p gg l s i).2.2 ++ [(partF (nodeF p m) p gg (l.getD i (0, 0)).1 (l.getD i (0, 0)).2 (partsS (nodeF p m) p gg l s i).1).2.2]) from rfl)
      have hbg := l3.on m2
      have hgg := (unhide HG).on m2
      generalize (l.getD i (0, 0)).1 = kq at *
      generalize (l.getD i (0, 0)).2 = bq at *
      generalize hst : partsS (nodeF p m) p gg l s i = st at *
      obtain ⟨sa, xs, ys⟩ := st
      simp only at *
      have HLEN := hide (And.intro m4 m5)
      clear hst m4 m5
      have hbq : 2 * sa.gates.length + 21 * (endP p kq - kq) ≤ 1480 := by omega
      have hbz : total sa + (endP p kq - kq) ≤ 500 := by omega
      have hki : (i : Int) < 2 := by omega
      have x1 : wr.cell? ⟨pb, i * 2, none⟩ = some (.int .i64 (kq : Int)) := (World.cell?_of_block (hk0.2 pb hpl hpg)).trans c1
      have x2 : wr.cell? ⟨pb, i * 2 + 1, none⟩ = some (.int .i64 bq) := (World.cell?_of_block (hk0.2 pb hpl hpg)).trans c2
      have hplr : pb < wr.heap.size := Nat.lt_of_lt_of_le hpl hk0.1
      have hal := (Below.refl wr.heap.size wr).alloc (Nat.le_refl _) (.cells #[.int .i64 (kq : Int), .int .i64 bq] 155)
      have hSA := hS0.on hal
      have hcA := Cells.new wr [.int .i64 (kq : Int), .int .i64 bq] 155
      have hX0 := hS0.xlt
      have hG0l := hS0.lt
      have hboxA : Kp (G0 ++ (ownB (.slice av i ac) ++ (ownB (.slice lv i lc) ++ X))) (wr.alloc (.cells #[.int .i64 (kq : Int), .int .i64 bq] 155)) (fun V => Cells V wr.heap.size [.int .i64 (kq : Int), .int .i64 bq] 155) := Kp.blk hcA (fun hm => by
        rcases List.mem_append.1 hm with h9 | h9
        · have := (hG0l _ h9).2; omega
        · have := (hX0 _ h9).1; omega)
      have hrowA := rows2 (G := G0) (own_below hro hal) (own_below hrl hal) (X := X) (fun x hx => (hX0 x hx).2)
      have hkA := hk0.on2 hal hk0.1
      have hBA := hB0.trans (hal.mono (Nat.le_trans hbase hk0.1))
      -- the gates
      have hfw := some_few hok l1
      have q1 := m1.add 5 (someArgs p kq) (some_in hok m1 l1) (Or.inl ⟨by omega, by omega, by omega⟩)
      have n1 := inG.new sa 5 (someArgs p kq)
      have q2 := q1.add 4 [gg, here sa] (fun x hx => by rcases List.mem_cons.1 hx with rfl | hx; exact hgg.add _ _; (have : x = here sa := by simpa using hx); rw [this]; exact n1) (Or.inl ⟨by omega, by omega, by simp⟩)
      have n2 := inG.new (addG sa 5 (someArgs p kq)) 4 [gg, here sa]
      have hmade := node_made hok m kq bq (here (addG sa 5 (someArgs p kq))) _ l1 l2 q2 ((hbg.add _ _).add _ _) n2
      have HQ := hide (And.intro q2 (And.intro ((hbg.add 5 (someArgs p kq)).add 4 [gg, here sa]) n2))
      have HMD := hide hmade
      have HPF := hide (show partF (nodeF p m) p gg kq bq sa = (addG (addG (addG (nodeF p m kq bq (here (addG sa 5 (someArgs p kq))) (addG (addG sa 5 (someArgs p kq)) 4 [gg, here sa])).1 5 [bq, here (addG sa 5 (someArgs p kq))]) 6 [(nodeF p m kq bq (here (addG sa 5 (someArgs p kq))) (addG (addG sa 5 (someArgs p kq)) 4 [gg, here sa])).2]) 4 [here (nodeF p m kq bq (here (addG sa 5 (someArgs p kq))) (addG (addG sa 5 (someArgs p kq)) 4 [gg, here sa])).1, here (addG (nodeF p m kq bq (here (addG sa 5 (someArgs p kq))) (addG (addG sa 5 (someArgs p kq)) 4 [gg, here sa])).1 5 [bq, here (addG sa 5 (someArgs p kq))])], ((nodeF p m kq bq (here (addG sa 5 (someArgs p kq))) (addG (addG sa 5 (someArgs p kq)) 4 [gg, here sa])).2, here (addG (addG (nodeF p m kq bq (here (addG sa 5 (someArgs p kq))) (addG (addG sa 5 (someArgs p kq)) 4 [gg, here sa])).1 5 [bq, here (addG sa 5 (someArgs p kq))]) 6 [(nodeF p m kq bq (here (addG sa 5 (someArgs p kq))) (addG (addG sa 5 (someArgs p kq)) 4 [gg, here sa])).2]))) from rfl)
      clear hpm q1 q2 n1 n2 hmade hbg hgg m1 m2 m3 m6 hsum c1 c2 hcA hX0 hG0l hS0 hro hrl hk0 hB0
      go_wp2_with fail
      clear x1 x2
      refine (someWait_any hok hSA hc l1 (by omega)).mono ?_
      rintro e w1 ⟨rfl, hR⟩
      obtain ⟨G1, hS1, hbox1, hrow1, hk1, hG1, hB1⟩ := SmRet.next hR hboxA hrowA hkA hG0 hBA
      clear hR hSA hboxA hrowA hkA hG0 hBA
      go_wp2_with fail
      refine (gate2_any hS1 4 gg (here sa) (by rw [add_len]; omega)).mono ?_
      rintro e w2 ⟨rfl, hR⟩
      obtain ⟨G2, hS2, hbox2, hrow2, hk2, hG2, hB2⟩ := SmRet.next hR hbox1 hrow1 hk1 hG1 hB1
      clear hR hS1 hbox1 hrow1 hk1 hG1 hB1
      have y0 : w2.cell? ⟨wr.heap.size, 0, none⟩ = some (.int .i64 (kq : Int)) := hbox2.now.cell 0
      have y1 : w2.cell? ⟨wr.heap.size, 1, none⟩ = some (.int .i64 bq) := hbox2.now.cell 1
      have yl := hbox2.now.lt
      go_wp2_with fail
      clear y0 y1 yl
      refine (hn B b P G2 _ _ os w2 kq bq (here (addG sa 5 (someArgs p kq))) hc hS2 (unhide HQ).1 l1 l2 (unhide HQ).2.1 (unhide HQ).2.2 (by simp only [add_len]; omega) hbz hos).mono ?_
      rintro e w3 ⟨rfl, hR⟩
      obtain ⟨G3, hS3, hbox3, hrow3, hk3, hG3, hB3⟩ := SmRet.next hR hbox2 hrow2 hk2 hG2 hB2
      clear hR hS2 hbox2 hrow2 hk2 hG2 hB2
      obtain ⟨z1, z2, z3, z4, z5⟩ := unhide HMD
      simp only [add_len] at z4
      generalize nodeF p m kq bq (here (addG sa 5 (someArgs p kq))) (addG (addG sa 5 (someArgs p kq)) 4 [gg, here sa]) = rr at *
      obtain ⟨t, o⟩ := rr
      simp only at *
      clear z1 z2 z3 z5
      have y1 : w3.cell? ⟨wr.heap.size, 1, none⟩ = some (.int .i64 bq) := hbox3.now.cell 1
      have yl := hbox3.now.lt
      go_wp2_with fail
      clear y1 yl
      refine (gate2_any hS3 5 bq (here (addG sa 5 (someArgs p kq))) (by omega)).mono ?_
      rintro e w4 ⟨rfl, hR⟩
      obtain ⟨G4, hS4, _, hrow4, hk4, hG4, hB4⟩ := SmRet.next hR hbox3 hrow3 hk3 hG3 hB3
      clear hR hS3 hbox3 hrow3 hk3 hG3 hB3
      obtain ⟨hro4, hrl4⟩ := hrow4.now
      have hw4 : w.heap.size ≤ w4.heap.size := hk4.1
      clear hrow4
      go_wp2_with (at_builtin; refine wpList_append_own_at _ rfl _ _ 28 rfl w.heap.size 3 i0 (.int .i64 0) 1 8 Tryz.underlying28 hi hz0 hz1 hz2 rfl (by decide) _ _ _ rfl (hro4.alloc _) ⟨w4.heap.size, 0, none⟩ 1 1 [.int .i64 o] rfl rfl ?c1 ?c2 ?c3 ?c4 ?c5 ?_)
      case c1 =>
        intro j u hj
        match j, hj with
        | 0, hj => simp at hj; subst hj; simp [Addr.add]
      case c2 => intro u hu; simp at hu; subst hu; rfl
      case c3 => unfold maxLen; omega
      case c4 => omega
      case c5 => simp; omega
      intro v5 w5 hown5 hgr5 _ hat5
      have hal4 := (Below.refl w4.heap.size w4).alloc (Nat.le_refl _) (.cells #[.int .i64 o] 3)
      have hro4a := own_below hro4 hal4
      have hrl4a := own_below hrl4 hal4
      have hS4a := hS4.on hal4
      have hk4a := hk4.on2 hal4 hw4
      have hb5 : Below w.heap.size (w4.alloc (.cells #[.int .i64 o] 3)) w5 := (Below.refl w.heap.size _).grown hgr5 (Nat.le_trans hw4 hal4.size) (fun y hy => (hro4a.lt y hy).1)
      have hB5 : Below B w w5 := (hB4.trans (hal4.mono (Nat.le_trans hbase hw4))).trans (hb5.mono hbase)
      have hk5 := hk4a.on2 hb5 (Nat.le_refl _)
      have hX5 : ∀ y ∈ ownB v5 ++ (ownB (.slice lv i lc) ++ X), y ∈ ownB (.slice av i ac) ++ (ownB (.slice lv i lc) ++ X) ∨ (w4.alloc (.cells #[.int .i64 o] 3)).heap.size ≤ y := fun y hy => by
        rcases List.mem_append.1 hy with h9 | h9
        · have h10 := ownB_mem.1 h9
          rcases hat5 with h11 | h11
          · exact Or.inl (List.mem_append_left _ (ownB_mem.2 (h11 ▸ h10)))
          · rw [h11] at h10; injection h10 with h10
            exact Or.inr (by simp; omega)
        · exact Or.inl (List.mem_append_right _ h9)
      have hS5 := hS4a.turnX (KeptG.grown hgr5 (fun y hy => List.mem_append_left _ (ownB_mem.2 hy))) hX5 (fun y hy => by
        rcases List.mem_append.1 hy with h9 | h9
        · exact (hown5.lt y (ownB_mem.1 h9)).2
        · exact Nat.lt_of_lt_of_le (hS4a.xlt y (List.mem_append_right _ h9)).1 hgr5.size)
      have hrl5 : w5.ownsRow w.heap.size 3 1 (.slice lv i lc) i (intsV ys) := hrl4a.kept hgr5 (by
        cases e : (Value.slice lv i lc).ownBlock with
        | none => exact Or.inl rfl
        | some y => exact Or.inr (fun h9 => hd y h9.symm e))
      have hd5 : ∀ x, v5.ownBlock = some x → (Value.slice lv i lc).ownBlock ≠ some x := fun y hy h9 => by
        rcases hat5 with h11 | h11
        · exact hd y (h11 ▸ hy) h9
        · rw [h11] at hy; injection hy with hy
          have := (hrl4a.lt y h9).2
          simp at this; omega
      have hown5' : w5.ownsRow w.heap.size 3 1 v5 (i + 1) (intsV (xs ++ [o])) := by simpa [intsV] using hown5
      clear hown5 hgr5 hat5 hX5 hb5 hk4a hS4a hrl4a hro4a hro4 hrl4 hd hS4 hk4 hB4 hal4 hw4
      have hrow5 : Kp G4 w5 (fun V => V.ownsRow w.heap.size 3 1 v5 (i + 1) (intsV (xs ++ [o])) ∧ V.ownsRow w.heap.size 3 1 (.slice lv i lc) i (intsV ys)) := (Kp.row hown5' (fun y hy => (hS5.xlt y (List.mem_append_left _ (ownB_mem.2 hy))).2)).and (Kp.row hrl5 (fun y hy => (hS5.xlt y (List.mem_append_right _ (List.mem_append_left _ (ownB_mem.2 hy)))).2))
      clear hown5' hrl5
      go_wp2_with fail
      refine (gate1_any hS5 6 o (by simp only [add_len]; omega)).mono ?_
      rintro e w6 ⟨rfl, hR⟩
      obtain ⟨G6, hS6, _, hrow6, hk6, hG6, hB6⟩ := SmRet.next (R := fun _ => True) hR (fun _ _ => trivial) hrow5 hk5 hG4 hB5
      clear hR hS5 hrow5 hk5 hG4 hB5
      go_wp2_with fail
      refine (gate2_any hS6 4 (here t) (here (addG t 5 [bq, here (addG sa 5 (someArgs p kq))])) (by simp only [add_len]; omega)).mono ?_
      rintro e w7 ⟨rfl, hR⟩
      obtain ⟨G7, hS7, _, hrow7, hk7, hG7, hB7⟩ := SmRet.next (R := fun _ => True) hR (fun _ _ => trivial) hrow6 hk6 hG6 hB6
      clear hR hS6 hrow6 hk6 hG6 hB6
      obtain ⟨hro7, hrl7⟩ := hrow7.now
      have hw7 : w.heap.size ≤ w7.heap.size := hk7.1
      obtain ⟨lg, hlg⟩ : ∃ lg, here (addG (addG t 5 [bq, here (addG sa 5 (someArgs p kq))]) 6 [o]) = lg := ⟨_, rfl⟩
      have hlg' : (((addG (addG t 5 [bq, here (addG sa 5 (someArgs p kq))]) 6 [o]).gates.length : Nat) : Int) = lg := hlg
      have HLG := hide hlg
      rw [hlg']
      clear hrow7 hlg hlg'
      go_wp2_with (at_builtin; refine wpList_append_own_at _ rfl _ _ 28 rfl w.heap.size 3 i0 (.int .i64 0) 1 8 Tryz.underlying28 hi hz0 hz1 hz2 rfl (by decide) _ _ _ rfl (hrl7.alloc _) ⟨w7.heap.size, 0, none⟩ 1 1 [.int .i64 lg] rfl rfl ?c1 ?c2 ?c3 ?c4 ?c5 ?_)
      case c1 =>
        intro j u hj
        match j, hj with
        | 0, hj => simp at hj; subst hj; simp [Addr.add]
      case c2 => intro u hu; simp at hu; subst hu; rfl
      case c3 => unfold maxLen; omega
      case c4 => omega
      case c5 => simp; omega
      intro v8 w8 hown8 hgr8 _ hat8
      have hal7 := (Below.refl w7.heap.size w7).alloc (Nat.le_refl _) (.cells #[.int .i64 lg] 3)
      have hro7a := own_below hro7 hal7
      have hrl7a := own_below hrl7 hal7
      have hS7a := hS7.on hal7
      have hk7a := hk7.on2 hal7 hw7
      have hb8 : Below w.heap.size (w7.alloc (.cells #[.int .i64 lg] 3)) w8 := (Below.refl w.heap.size _).grown hgr8 (Nat.le_trans hw7 hal7.size) (fun y hy => (hrl7a.lt y hy).1)
      have hB8 : Below B w w8 := (hB7.trans (hal7.mono (Nat.le_trans hbase hw7))).trans (hb8.mono hbase)
      have hk8 := hk7a.on2 hb8 (Nat.le_refl _)
      have hX8 : ∀ y ∈ ownB v5 ++ (ownB v8 ++ X), y ∈ ownB v5 ++ (ownB (.slice lv i lc) ++ X) ∨ (w7.alloc (.cells #[.int .i64 lg] 3)).heap.size ≤ y := fun y hy => by
        rcases List.mem_append.1 hy with h9 | h9
        · exact Or.inl (List.mem_append_left _ h9)
        · rcases List.mem_append.1 h9 with h9 | h9
          · have h10 := ownB_mem.1 h9
            rcases hat8 with h11 | h11
            · exact Or.inl (List.mem_append_right _ (List.mem_append_left _ (ownB_mem.2 (h11 ▸ h10))))
            · rw [h11] at h10; injection h10 with h10
              exact Or.inr (by simp; omega)
          · exact Or.inl (List.mem_append_right _ (List.mem_append_right _ h9))
      have hS8 := hS7a.turnX (KeptG.grown hgr8 (fun y hy => List.mem_append_right _ (List.mem_append_left _ (ownB_mem.2 hy)))) hX8 (fun y hy => by
        rcases List.mem_append.1 hy with h9 | h9
        · exact Nat.lt_of_lt_of_le (hro7a.lt y (ownB_mem.1 h9)).2 hgr8.size
        · rcases List.mem_append.1 h9 with h9 | h9
          · exact (hown8.lt y (ownB_mem.1 h9)).2
          · exact Nat.lt_of_lt_of_le (hS7a.xlt y (List.mem_append_right _ (List.mem_append_right _ h9))).1 hgr8.size)
      have hro8 : w8.ownsRow w.heap.size 3 1 v5 (i + 1) (intsV (xs ++ [o])) := hro7a.kept hgr8 (by
        cases e : v5.ownBlock with
        | none => exact Or.inl rfl
        | some y => exact Or.inr (fun h9 => hd5 y e h9.symm))
      have hd8 : ∀ x, v5.ownBlock = some x → v8.ownBlock ≠ some x := fun y hy h9 => by
        rcases hat8 with h11 | h11
        · exact hd5 y hy (h11 ▸ h9)
        · rw [h11] at h9; injection h9 with h9
          have := (hro7a.lt y hy).2
          simp at this; omega
      have hown8' : w8.ownsRow w.heap.size 3 1 v8 (i + 1) (intsV (ys ++ [lg])) := by simpa [intsV] using hown8
      have R := hide (show AtOn B b P G X p os w w8 (partsS (nodeF p m) p gg l s (i + 1)).1 (partsS (nodeF p m) p gg l s (i + 1)).2.1 (partsS (nodeF p m) p gg l s (i + 1)).2.2 (i + 1) v5 v8 by
        rw [unhide HSS, unhide HPF, unhide HLG]
        exact ⟨G7, hS8, hro8, hown8', hd8, hk8, hG7, hB8⟩)
      clear hown8 hgr8 hat8 hX8 hb8 hk7a hS7a hrl7a hro7a hro7 hrl7 hd5 hS7 hk7 hB7 hal7 hw7 hS8 hro8 hown8' hd8 hk8 hG7 hB8
      go_wp2_with fail
      exact ⟨⟨i + 1, by omega, by go_num, unhide R⟩, by simp [intOf]; omega⟩
    · have hi' : i = 2 := by omega
      subst hi'
      have hsum2 := unhide HS2
      have hbq : 2 * (partsS (nodeF p m) p gg l s 2).1.gates.length ≤ 1480 := by omega
      generalize hst : partsS (nodeF p m) p gg l s 2 = st at *
      obtain ⟨sa, xs, ys⟩ := st
      simp only at *
      have hX0 := hS0.xlt
      have hS1 : SmP B wr b P G0 X p sa os := hS0.turnX (KeptG.refl _ _) (fun y hy => Or.inl (List.mem_append_right _ (List.mem_append_right _ hy))) (fun y hy => (hX0 y (List.mem_append_right _ (List.mem_append_right _ hy))).1)
      have hrow0 := rows2 (G := G0) hro hrl (X := X) (fun x hx => (hX0 x hx).2)
      have hnl := row_nil hrl
      have hno := row_nil hro
      clear hst m1 m2 m3 m6 hX0 hd hS0
      have hI1 := row_ints hrl (by unfold maxLen; omega)
      clear hro hrl
      go_wp2_with fail
      refine (gate_any hS1 5 ys hI1 hnl (by omega) (by omega)).mono ?_
      rintro e w1 ⟨rfl, hR⟩
      obtain ⟨G1, hS2, _, hrow1, hk1, hG1, hB1⟩ := SmRet.next (R := fun _ => True) hR (fun _ _ => trivial) hrow0 hk0 hG0 hB0
      clear hR hS1 hrow0 hk0 hG0 hB0 hI1
      go_wp2_with fail
      refine (gate1_any hS2 6 (here sa) (by simp only [add_len]; omega)).mono ?_
      rintro e w2 ⟨rfl, hR⟩
      obtain ⟨G2, hS3, _, hrow2, hk2, hG2, hB2⟩ := SmRet.next (R := fun _ => True) hR (fun _ _ => trivial) hrow1 hk1 hG1 hB1
      clear hR hS2 hrow1 hk1 hG1 hB1
      have hI2 := row_ints hrow2.now.1 (by unfold maxLen; omega)
      go_wp2_with fail
      refine (gate_any hS3 5 xs hI2 hno (by omega) (by simp only [add_len]; omega)).mono ?_
      rintro e w3 ⟨rfl, hR⟩
      obtain ⟨G3, hS4, _, hrow3, hk3, hG3, hB3⟩ := SmRet.next (R := fun _ => True) hR (fun _ _ => trivial) hrow2 hk2 hG2 hB2
      clear hR hS3 hrow2 hk2 hG2 hB2 hI2 hrow3
      go_wp2_with fail
      refine (gate2_any hS4 4 (here (addG (addG sa 5 ys) 6 [here sa])) (here (addG sa 5 ys)) (by simp only [add_len]; omega)).mono ?_
      rintro e w4 ⟨rfl, hR⟩
      have R := hide (SmRet.trans hS4 hk3 hG3 hB3 hR)
      clear hR hS4 hk3 hG3 hB3
      go_wp2_with fail
      go_ret
      rw [unhide HE]
      exact ⟨rfl, unhide R⟩

set_option maxRecDepth 100000 in
set_option maxHeartbeats 4000000 in
theorem schoice_any {B b : Nat} {P : SP} {G X : List Nat} {p : List NodeD} {s : SmD} {os : OS} {w : World} (hok : POk p) {m : Nat} (hn : SNodeC p m) (hc : P.nn ≤ P.nc) (h : SmP B w b P G X p s os) (ho : SmOk p s) {k1 k2 : Nat} {is bg gg : Int} (hk1 : k1 < p.length) (hk2 : k2 < p.length) (hm1 : endP p k1 - k1 ≤ m) (hm2 : endP p k2 - k2 ≤ m) (hi : inG s is) (hb : inG s bg) (hg : inG s gg) (hbd : 2 * s.gates.length + 21 * ((endP p k1 - k1) + (endP p k2 - k2)) ≤ 1470) (hbt : total s + ((endP p k1 - k1) + (endP p k2 - k2)) ≤ 500) (hos : os.2 = none) :
    Calls Tryz.prog 124 #[.pointer (some ⟨b, 0, none⟩), .int .i64 is, .int .i64 (k1 : Int), .int .i64 (k2 : Int), .int .i64 bg, .int .i64 gg] w fun e w' => e = .returned (.int .i64 (choiceF (nodeF p m) p is k1 k2 bg gg s).2) ∧ SmQ B b P G X p w w' (choiceF (nodeF p m) p is k1 k2 bg gg s).1 os := by
  have h1 := ho.add 4 [bg, is] (fun x hx => by rcases List.mem_cons.1 hx with rfl | hx; exact hb; (have : x = is := by simpa using hx); rw [this]; exact hi) (Or.inl ⟨by omega, by omega, by simp⟩)
  have n1 := inG.new s 4 [bg, is]
  have h2 := h1.add 6 [is] (fun x hx => by (have : x = is := by simpa using hx); rw [this]; exact hi.add _ _) (Or.inr (Or.inl ⟨rfl, rfl⟩))
  have n2 := inG.new (addG s 4 [bg, is]) 6 [is]
  have h3 := h2.add 4 [bg, here (addG s 4 [bg, is])] (fun x hx => by rcases List.mem_cons.1 hx with rfl | hx; exact (hb.add _ _).add _ _; (have : x = here (addG s 4 [bg, is]) := by simpa using hx); rw [this]; exact n2) (Or.inl ⟨by omega, by omega, by simp⟩)
  have n3 := inG.new (addG (addG s 4 [bg, is]) 6 [is]) 4 [bg, here (addG s 4 [bg, is])]
  have HQ := hide (And.intro h3 (And.intro ((n1.add 6 [is]).add 4 [bg, here (addG s 4 [bg, is])]) (And.intro n3 (((hg.add 4 [bg, is]).add 6 [is]).add 4 [bg, here (addG s 4 [bg, is])]))))
  clear h1 h2 h3 n1 n2 n3 hi hb hg ho
  go_enter Tryz.func124, Tryz.ntmps124
  go_wp2_with fail
  refine (gate2_any h 4 bg is (by omega)).mono ?_
  rintro e w1 ⟨rfl, hR⟩
  obtain ⟨G1, hS1, hk1', hG1, hB1⟩ := hR
  go_wp2_with fail
  refine (gate1_any hS1 6 is (by simp only [add_len]; omega)).mono ?_
  rintro e w2 ⟨rfl, hR⟩
  obtain ⟨G2, hS2, hk2', hG2, hB2⟩ := SmRet.trans hS1 hk1' hG1 hB1 hR
  clear hR hS1 hk1' hG1 hB1
  go_wp2_with fail
  refine (gate2_any hS2 4 bg (here (addG s 4 [bg, is])) (by simp only [add_len]; omega)).mono ?_
  rintro e w3 ⟨rfl, hR⟩
  obtain ⟨G3, hS3, hk3', hG3, hB3⟩ := SmRet.trans hS2 hk2' hG2 hB2 hR
  clear hR hS2 hk2' hG2 hB2
  go_wp2_with fail
  have hal := (Below.refl w3.heap.size w3).alloc (Nat.le_refl _) (.cells #[.int .i64 (k1 : Int), .int .i64 (here s), .int .i64 (k2 : Int), .int .i64 (here (addG (addG s 4 [bg, is]) 6 [is]))] 155)
  have hlt3 := hS3.lt
  refine (atOnce_any hok hn hc (hS3.on hal) (unhide HQ).1 (k1 := k1) (k2 := k2) (b1 := here s) (b2 := here (addG (addG s 4 [bg, is]) 6 [is])) hk1 hk2 hm1 hm2 (unhide HQ).2.1 (unhide HQ).2.2.1 (unhide HQ).2.2.2 (by simp only [add_len]; omega) hbt hos (Cells.new w3 [.int .i64 (k1 : Int), .int .i64 (here s), .int .i64 (k2 : Int), .int .i64 (here (addG (addG s 4 [bg, is]) 6 [is]))] 155) (fun hm => by have := (hlt3 _ hm).2; omega)).mono ?_
  rintro e w4 ⟨rfl, hR⟩
  have R := hide (SmRet.trans hS3 hk3' hG3 hB3 (SmRet.early hS3 hal hR))
  clear hR hS3 hk3' hG3 hB3 hal hlt3
  go_wp2_with fail
  go_ret
  exact ⟨rfl, unhide R⟩

open Go.Maps
theorem wait_reg {p : List NodeD} {s : SmD} (ho : SmOk p s) {k : Nat} (hk : k < p.length) (hw : waitK (kindAt p k) = true) : ∃ hg : 7 + mayN p k < s.gates.length, (s.gates[7 + mayN p k]).n = ((4 + mayN p k : Nat) : Int) ∧ 4 + mayN p k < s.regs.length := by
  have hm : mayN p k < numW p := may_lt hk hw
  have h1 := ho.many
  have h2 := ho.regs
  refine ⟨by omega, ?_, by omega⟩
  have h3 : (gates0 p)[7 + mayN p k]? = some ⟨3, ((4 + mayN p k : Nat) : Int), []⟩ := by
    unfold gates0
    rw [List.getElem?_append_right (by simp)]
    simp [hm]
  obtain ⟨t, ht⟩ := ho.base
  have h4 : s.gates[7 + mayN p k]? = some ⟨3, ((4 + mayN p k : Nat) : Int), []⟩ := by
    rw [← ht, List.getElem?_append_left (by rw [gates0_len]; omega)]; exact h3
  rw [(List.getElem?_eq_some_iff.1 h4).2]
theorem storeG_wait (p : List NodeD) (s : SmD) (k : Nat) (x : Int) : storeG s (waitG p k) x = { s with regs := s.regs.set (4 + mayN p k) ((s.regs.getD (4 + mayN p k) (false, 0)).1, x) } := by
  unfold storeG waitG
  rw [show (((7 + mayN p k : Nat) : Int) - 3).toNat = 4 + mayN p k by omega]
theorem sstore_any {B b : Nat} {P : SP} {G X : List Nat} {p : List NodeD} {s : SmD} {os : OS} {w : World} (h : SmP B w b P G X p s os) (ho : SmOk p s) {k gx : Nat} (hk : k < p.length) (hw : waitK (kindAt p k) = true) (hgx : 7 + mayN p k = gx) (x : Int) :
    Calls Tryz.prog 92 #[.pointer (some ⟨b, 0, none⟩), .int .i64 (gx : Int), .int .i64 x] w fun e w' => e = .returned (.tuple #[]) ∧ SmQ B b P G X p w w' (storeG s (waitG p k) x) os := by
  obtain ⟨h1, h2, h3⟩ := wait_reg ho hk hw
  subst hgx
  rw [storeG_wait]
  exact store_any h h1 h2 h3 x
theorem SmAt.held {B : Nat} {W : World} {b : Nat} {P : SP} {G X : List Nat} {p : List NodeD} {s : SmD} {os : OS} (h : SmP B W b P G X p s os) {k gx : Nat} (hk : k < p.length) (hp : p.length ≤ 14) (hw : waitK (kindAt p k) = true) (hgx : 7 + mayN p k = gx) : W.cell? ⟨b, 8, none⟩ = some (.map (some P.m)) ∧ (Instr.lookup 106 (.map (some P.m)) (.int .i64 (k : Int)) false).run Tryz.prog W = .ok (.int .i64 (gx : Int)) W := by
  refine ⟨h.cells.2.2.2.2.2, ?_⟩
  have := h.q.2.2.2.look hk hw (by omega)
  unfold waitG at this
  rw [hgx] at this
  exact this

set_option maxRecDepth 100000 in
set_option maxHeartbeats 8000000 in
theorem await_any {B b : Nat} {P : SP} {G X : List Nat} {p : List NodeD} {s : SmD} {os : OS} {w : World} (hok : POk p) (h : SmP B w b P G X p s os) (ho : SmOk p s) {k : Nat} {bg gg : Int} (hk : k < p.length) (hkd : kindAt p k = 4) (hb : inG s bg) (hg : inG s gg) (hbd : s.gates.length ≤ 900) :
    Calls Tryz.prog 121 #[.pointer (some ⟨b, 0, none⟩), .int .i64 (k : Int), .int .i64 bg, .int .i64 gg] w fun e w' => e = .returned (.int .i64 (awaitF p k bg gg s).2) ∧ SmQ B b P G X p w w' (awaitF p k bg gg s).1 os := by
  have hw : waitK (kindAt p k) = true := by rw [hkd]; rfl
  obtain ⟨gx, hgx⟩ : ∃ gx, 7 + mayN p k = gx := ⟨_, rfl⟩
  have hfew := hok.few
  have hsg := hok.sigs p[k] (List.getElem_mem hk)
  obtain ⟨z, hz⟩ := Int.eq_ofNat_of_zero_le hsg.1
  have hsig : sigI p k = (z : Int) := by simp [sigI, sigAt, List.getD_eq_getElem?_getD, hk, hz]
  have hz2 : z ≤ 2 := by
    have h1 := hsg.2
    rw [hz] at h1
    unfold mostS at h1
    split at h1 <;> omega
  have hsgI : inG s (z : Int) := ho.lowIn (by omega) (by omega)
  have h1 := ho.add 6 [(z : Int)] (fun x hx => by (have : x = (z : Int) := by simpa using hx); rw [this]; exact hsgI) (Or.inr (Or.inl ⟨rfl, rfl⟩))
  have n1 := inG.new s 6 [(z : Int)]
  have h2 := h1.add 4 [gg, here s] (fun x hx => by rcases List.mem_cons.1 hx with rfl | hx; exact hg.add _ _; (have : x = here s := by simpa using hx); rw [this]; exact n1) (Or.inl ⟨by omega, by omega, by simp⟩)
  have n2 := inG.new (addG s 6 [(z : Int)]) 4 [gg, here s]
  have h3 := h2.add 5 [bg, here (addG s 6 [(z : Int)])] (fun x hx => by rcases List.mem_cons.1 hx with rfl | hx; exact (hb.add _ _).add _ _; (have : x = here (addG s 6 [(z : Int)]) := by simpa using hx); rw [this]; exact n2) (Or.inl ⟨by omega, by omega, by simp⟩)
  have H3 := hide h3
  obtain ⟨hbl, c4, c5, _, _, _⟩ := h.cells
  have c4' : w.cell? ⟨b, 4, none⟩ = some (.slice P.na P.nn P.nc) := c4
  have c5' : w.cell? ⟨b, 5, none⟩ = some (.slice P.ia 3 P.ic) := c5
  have HN := hide h.q.1.1
  have hkn : (k : Int) < (P.nn : Int) := by have := unhide HN; omega
  obtain ⟨nb, noff, hna, hnlt, d0, d1⟩ := h.q.1.at hk
  have hiz : z < [(0 : Int), 1, 2].length := by simp; omega
  obtain ⟨ib, ioff, hia, hilt, e0⟩ := h.q.2.1.at hiz
  have hiz3 : ([(0 : Int), 1, 2])[z] = (z : Int) := by
    have : z = 0 ∨ z = 1 ∨ z = 2 := by omega
    rcases this with rfl | rfl | rfl <;> rfl
  rw [hiz3] at e0
  have hz3 : (z : Int) < 3 := by omega
  rw [hz] at d1
  rw [hna] at c4'
  rw [hia] at c5'
  have HF := hide (show awaitF p k bg gg s = (addG (storeG (addG (addG (addG s 6 [(z : Int)]) 4 [gg, here s]) 5 [bg, here (addG s 6 [(z : Int)])]) (waitG p k) (here (addG (addG s 6 [(z : Int)]) 4 [gg, here s]))) 4 [gg, (z : Int)], here (storeG (addG (addG (addG s 6 [(z : Int)]) 4 [gg, here s]) 5 [bg, here (addG s 6 [(z : Int)])]) (waitG p k) (here (addG (addG s 6 [(z : Int)]) 4 [gg, here s])))) by unfold awaitF; rw [hsig])
  have HK := hide (And.intro hw hgx)
  have HD := hide (fun N : Nat => h.on (below_drewN (Below.refl _ w) N))
  clear h1 h2 h3 n1 n2 hb hg ho hsgI hiz hiz3 hsg hz hsig c4 c5 hna hia hw hgx hkd hok
  go_enter Tryz.func121, Tryz.ntmps121
  go_wp2_with fail
  go_quiet (fail)
  all_goals
    go_wp2_with fail
    refine (gate1_any (unhide HD _) 6 (z : Int) (by omega)).mono ?_
    rintro e w1 ⟨rfl, hR⟩
    have hbw := below_drewN (Below.refl w.heap.size w)
    obtain ⟨G1, hS1, hk1', hG1, hB1⟩ := SmRet.early h (hbw _) hR
    clear hR
    go_wp2_with fail
    refine (gate2_any hS1 4 gg (here s) (by simp only [add_len]; omega)).mono ?_
    rintro e w2 ⟨rfl, hR⟩
    obtain ⟨G2, hS2, hk2', hG2, hB2⟩ := SmRet.trans hS1 hk1' hG1 hB1 hR
    clear hR hS1 hk1' hG1 hB1
    have HH2 := (hS2.on (Below.refl w2.heap.size w2).drew).held hk hfew (unhide HK).1 (unhide HK).2
    have HH2a := ((hS2.on (Below.refl w2.heap.size w2).drew).on ((Below.refl w2.drew.heap.size w2.drew).alloc (Nat.le_refl _) (.cells #[.int .i64 bg, .int .i64 (here (addG s 6 [(z : Int)]))] 3))).held hk hfew (unhide HK).1 (unhide HK).2
    have hd2 := (Below.refl w2.heap.size w2).drew
    go_wp2_with fail
    go_region_held3 (fun W => W.cell? ⟨b, 8, none⟩ = some (.map (some P.m)) ∧ (Instr.lookup 106 (.map (some P.m)) (.int .i64 (k : Int)) false).run Tryz.prog W = .ok (.int .i64 (gx : Int)) W)
      ((first | exact HH2 | exact HH2a | exact HH3 | exact HH4))
      ((first
        | (go_at_call 93; refine (gate2_any (hS2.on hd2) 5 bg (here (addG s 6 [(z : Int)])) (by simp only [add_len]; omega)).mono ?_; rintro e w3 ⟨rfl, hR⟩; obtain ⟨G3, hS3, hk3', hG3, hB3⟩ := SmRet.trans hS2 hk2' hG2 hB2 (SmRet.early hS2 hd2 hR); have HH3 := hS3.held hk hfew (unhide HK).1 (unhide HK).2)
        | (go_at_call 92; refine (sstore_any hS3 (unhide H3) hk (unhide HK).1 (unhide HK).2 _).mono ?_; rintro e w4 ⟨rfl, hR⟩; obtain ⟨G4, hS4, hk4', hG4, hB4⟩ := SmRet.trans hS3 hk3' hG3 hB3 hR; have HH4 := hS4.held hk hfew (unhide HK).1 (unhide HK).2)))
    all_goals
      clear HH2 HH2a HH3 HH4
      go_wp2_with fail
      refine (gate2_any hS4 4 gg (z : Int) (by show (addG (addG (addG s 6 [(z : Int)]) 4 [gg, here s]) 5 [bg, here (addG s 6 [(z : Int)])]).gates.length ≤ 1000; simp only [add_len]; omega)).mono ?_
      rintro e w5 ⟨rfl, hR⟩
      have R := hide (SmRet.trans hS4 hk4' hG4 hB4 hR)
      clear hR hS4 hk4' hG4 hB4
      go_wp2_with fail
      go_ret
      rw [unhide HF]
      exact ⟨rfl, unhide R⟩
end Go.Proofs.YtongajonecgdpagGreatDoor
