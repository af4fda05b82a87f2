/- What is reached (plain): state by state, for each number of inputs, what comes by Do, if it is new. -/
import Derived.Test.YtongajonecgdpagGreatDoorTickB
import Derived.Test.YtongajonecgdpagGreatDoorTickP
import Derived.Maps.OwnSet
namespace Go.Proofs.YtongajonecgdpagGreatDoor
open Go.RowKit

structure St where
  sts : List (List Int)
  ws : List (List Int)
  err : Int
  way : List Int

def reach0 (d : NetD) : St := ⟨[begins d], [[]], 0, []⟩
theorem getD_more {α : Type} {l m t : List α} {z : α} (h : m = l ++ t) {k : Nat} (hk : k < l.length) : m.getD k z = l.getD k z := by
  rw [h]; simp [List.getD_eq_getElem?_getD, List.getElem?_append_left hk]
/-- A state: so many values, each No or Yes. -/
def IsSt (n : Nat) (x : List Int) : Prop := x.length = n ∧ ∀ y ∈ x, y = 0 ∨ y = 1
def numTo (x : List Int) : Nat → Int
  | 0 => 0
  | k + 1 => numTo x k + (if x.getD k 0 = 1 then 2 ^ k else 0)
def numV (x : List Int) : Int := numTo x x.length
theorem numTo_lt (x : List Int) : ∀ k, 0 ≤ numTo x k ∧ numTo x k < 2 ^ k
  | 0 => ⟨Int.le_refl _, by show (0 : Int) < 2 ^ 0; decide⟩
  | k + 1 => by
    have h := numTo_lt x k
    have hp : (0 : Int) < 2 ^ k := Int.pow_pos (by decide)
    have he : (2 : Int) ^ (k + 1) = 2 ^ k * 2 := Int.pow_succ 2 k
    unfold numTo
    rw [he]
    split <;> omega
theorem numTo_inj (x y : List Int) : ∀ k, numTo x k = numTo y k → ∀ i, i < k → (x.getD i 0 = 1 ↔ y.getD i 0 = 1)
  | 0, _, i, hi => absurd hi (by omega)
  | k + 1, h, i, hi => by
    have hx := numTo_lt x k
    have hy := numTo_lt y k
    have hk : (x.getD k 0 = 1 ↔ y.getD k 0 = 1) ∧ numTo x k = numTo y k := by
      unfold numTo at h
      by_cases e1 : x.getD k 0 = 1 <;> by_cases e2 : y.getD k 0 = 1
      · rw [if_pos e1, if_pos e2] at h; exact ⟨⟨fun _ => e2, fun _ => e1⟩, by omega⟩
      · rw [if_pos e1, if_neg e2] at h; omega
      · rw [if_neg e1, if_pos e2] at h; omega
      · rw [if_neg e1, if_neg e2] at h; exact ⟨⟨fun h => absurd h e1, fun h => absurd h e2⟩, by omega⟩
    by_cases e : i = k
    · rw [e]; exact hk.1
    · exact numTo_inj x y k hk.2 i (by omega)
theorem numV_inj {n : Nat} {x y : List Int} (hx : IsSt n x) (hy : IsSt n y) (h : numV x = numV y) : x = y := by
  unfold numV at h
  rw [hx.1, hy.1] at h
  apply List.ext_getElem (by rw [hx.1, hy.1])
  intro i h1 h2
  have := numTo_inj x y n h i (by have := hx.1; omega)
  simp only [List.getD_eq_getElem?_getD, List.getElem?_eq_getElem h1, List.getElem?_eq_getElem h2, Option.getD_some] at this
  have a := hx.2 _ (List.getElem_mem h1)
  have b := hy.2 _ (List.getElem_mem h2)
  rcases a with a | a <;> rcases b with b | b
  · rw [a, b]
  · have := this.2 b; omega
  · have := this.1 a; omega
  · rw [a, b]
theorem begins_st (d : NetD) : IsSt d.regs.length (begins d) := by
  refine ⟨by simp [begins], fun y hy => ?_⟩
  obtain ⟨r, _, rfl⟩ := List.mem_map.1 hy
  split <;> simp
/-- By these inputs, instant by instant and all right, one comes to that state. -/
def Goes (d : NetD) (l st : List Int) : Prop := (∀ y ∈ l, 0 ≤ y ∧ y < 2 ^ d.ins.toNat) ∧ errTo d l l.length = 0 ∧ stateAt d l l.length = st
theorem Goes.snoc {d : NetD} {l st : List Int} (h : Goes d l st) {x : Nat} (hx : x < 2 ^ d.ins.toNat) (he : doE d st (bitsV x d.ins.toNat) = 0) : Goes d (l ++ [(x : Int)]) (doNext d st (bitsV x d.ins.toNat)) := by
  obtain ⟨h1, h2, h3⟩ := h
  have hx' : (x : Int) < 2 ^ d.ins.toNat := by
    have h6 : ((2 ^ d.ins.toNat : Nat) : Int) = 2 ^ d.ins.toNat := by rw [Int.natCast_pow]; rfl
    omega
  have hl : (l ++ [(x : Int)]).length = l.length + 1 := by simp
  have hs : stateAt d (l ++ [(x : Int)]) l.length = st := by rw [stateAt_snoc d l x l.length (Nat.le_refl _)]; exact h3
  have ha : errAt d (l ++ [(x : Int)]) l.length = 0 := by unfold errAt; rw [hs, getD_last]; exact he
  refine ⟨fun y hy => ?_, ?_, ?_⟩
  · rcases List.mem_append.1 hy with h | h
    · exact h1 y h
    · have : y = (x : Int) := by simpa using h
      rw [this]; exact ⟨by omega, hx'⟩
  · rw [hl]
    show (if errTo d (l ++ [(x : Int)]) l.length = 0 then errAt d (l ++ [(x : Int)]) l.length else errTo d (l ++ [(x : Int)]) l.length) = 0
    rw [errTo_snoc d l x l.length (Nat.le_refl _), if_pos h2, ha]
  · rw [hl]
    show doNext d (stateAt d (l ++ [(x : Int)]) l.length) (bitsV ((l ++ [(x : Int)]).getD l.length 0) d.ins.toNat) = _
    rw [hs, getD_last]

structure Inv (d : NetD) (s : St) : Prop where
  st : ∀ x ∈ s.sts, IsSt d.regs.length x
  len : s.sts.length = s.ws.length
  nodup : s.sts.Nodup
  goes : ∀ i, i < s.sts.length → Goes d (s.ws.getD i []) (s.sts.getD i [])
  err : s.err = 0 ∨ s.err = 2 ∨ s.err = 6
  way : s.err = 6 → ∃ l st, ∃ x : Nat, s.way = l ++ [(x : Int)] ∧ x < 2 ^ d.ins.toNat ∧ Goes d l st ∧ doE d st (bitsV x d.ins.toNat) = 6
  none : s.err = 0 → s.way = []

theorem Inv.start (d : NetD) : Inv d (reach0 d) := by
  refine ⟨?_, rfl, ?_, ?_, Or.inl rfl, ?_, fun _ => rfl⟩
  · intro x hx
    have : x = begins d := by simpa [reach0] using hx
    rw [this]; exact begins_st d
  · simp [reach0]
  · intro i hi
    have : i = 0 := by simp [reach0] at hi; exact hi
    subst this
    exact ⟨by simp [reach0], rfl, rfl⟩
  · intro h; simp [reach0] at h
open Go.Maps
/-- What lay in w lies in w', but for the blocks G. -/
def Kept (w w' : World) (G : List (Option Nat)) : Prop := w.heap.size ≤ w'.heap.size ∧ ∀ k, k < w.heap.size → some k ∉ G → w'.heap[k]? = w.heap[k]?
theorem Kept.trans {w w1 w2 : World} {G : List (Option Nat)} (h : Kept w w1 G) (h' : Kept w1 w2 G) : Kept w w2 G :=
  ⟨Nat.le_trans h.1 h'.1, fun k hk hn => (h'.2 k (Nat.lt_of_lt_of_le hk h.1) hn).trans (h.2 k hk hn)⟩
/-- Numbers in memory, and in none of the blocks G. -/
def OffG (w : World) (G : List (Option Nat)) (a : Option Addr) (n : Nat) (xs : List Int) : Prop := Ints w a n xs ∧ (n = 0 ∨ ∃ b off, a = some ⟨b, off, none⟩ ∧ b < w.heap.size ∧ some b ∉ G)
theorem OffG.kept {w w' : World} {G G' : List (Option Nat)} {a : Option Addr} {n : Nat} {xs : List Int} (h : OffG w G a n xs) (hk : Kept w w' G) (hG : ∀ b, b < w.heap.size → some b ∉ G → some b ∉ G') : OffG w' G' a n xs := by
  obtain ⟨⟨h1, h2, h3⟩, h4⟩ := h
  rcases h4 with h4 | ⟨b, off, ha, hl, hne⟩
  · exact ⟨⟨h1, h2, Or.inl (List.length_eq_zero_iff.1 (by omega))⟩, Or.inl h4⟩
  · refine ⟨⟨h1, h2, ?_⟩, Or.inr ⟨b, off, ha, Nat.lt_of_lt_of_le hl hk.1, hG b hl hne⟩⟩
    rcases h3 with h3 | ⟨b', off', ha', hl', hc⟩
    · exact Or.inl h3
    · rw [ha] at ha'
      injection ha' with ha'
      injection ha' with e1 e2 _
      subst e1; subst e2
      refine Or.inr ⟨b, off, ha, Nat.lt_of_lt_of_le hl hk.1, fun i hi => ?_⟩
      rw [World.cell?_of_block (w := w) (hk.2 b hl hne)]
      exact hc i hi
theorem OffG.fresh {w : World} {base : Nat} {G : List (Option Nat)} {a : Option Addr} {n : Nat} {xs : List Int} (h : Ints w a n xs) (hF : Fresh base a n) (hg : ∀ k, some k ∈ G → k < base) : OffG w G a n xs := by
  refine ⟨h, ?_⟩
  rcases hF with hF | ⟨b, off, ha, hb⟩
  · exact Or.inl hF
  · rcases h.2.2 with h3 | ⟨b', off', ha', hl', hc⟩
    · exact Or.inl (by rw [h.1, h3]; rfl)
    · rw [ha] at ha'
      injection ha' with ha'
      injection ha' with e1 e2 _
      exact Or.inr ⟨b, off, ha, by omega, fun e => by have := hg b e; omega⟩
/-- What was there ahead of the blocks G. -/
theorem OffG.early {w w' : World} {G : List (Option Nat)} {a : Option Addr} {n : Nat} {xs : List Int} (h : Ints w a n xs) (hb : Below w.heap.size w w') (hg : ∀ k, some k ∈ G → w.heap.size ≤ k) : OffG w' G a n xs := by
  refine ⟨h.below hb, ?_⟩
  rcases h.2.2 with h3 | ⟨b, off, ha, hl, hc⟩
  · exact Or.inl (by rw [h.1, h3]; rfl)
  · exact Or.inr ⟨b, off, ha, Nat.lt_of_lt_of_le hl hb.size, fun e => by have := hg b e; omega⟩

/-- Places: pairs of slices. -/
def Pairs (w : World) (G : List (Option Nat)) (vs : List Value) (sts ws : List (List Int)) : Prop :=
  sts.length = ws.length ∧ vs.length = sts.length * 2 ∧ ∀ i (_ : i < sts.length), ∃ a n c a' n' c', vs[i * 2]? = some (.slice a n c) ∧ vs[i * 2 + 1]? = some (.slice a' n' c') ∧ OffG w G a n (sts.getD i []) ∧ OffG w G a' n' (ws.getD i []) ∧ (a' = none → n' = 0 ∧ c' = 0)
theorem Pairs.nil (w : World) (G : List (Option Nat)) : Pairs w G [] [] [] := ⟨rfl, rfl, fun i hi => absurd hi (by simp)⟩
theorem Pairs.kept {w w' : World} {G G' : List (Option Nat)} {vs : List Value} {sts ws : List (List Int)} (h : Pairs w G vs sts ws) (hk : Kept w w' G) (hG : ∀ b, b < w.heap.size → some b ∉ G → some b ∉ G') : Pairs w' G' vs sts ws :=
  ⟨h.1, h.2.1, fun i hi => by
    obtain ⟨a, n, c, a', n', c', e1, e2, o1, o2, z⟩ := h.2.2 i hi
    exact ⟨a, n, c, a', n', c', e1, e2, o1.kept hk hG, o2.kept hk hG, z⟩⟩
theorem Pairs.snoc {w : World} {G : List (Option Nat)} {vs : List Value} {sts ws : List (List Int)} {a a' : Option Addr} {n c n' c' : Nat} {x y : List Int} (h : Pairs w G vs sts ws) (hx : OffG w G a n x) (hy : OffG w G a' n' y) (hz : a' = none → n' = 0 ∧ c' = 0) :
    Pairs w G (vs ++ [.slice a n c, .slice a' n' c']) (sts ++ [x]) (ws ++ [y]) := by
  obtain ⟨h1, h2, h3⟩ := h
  refine ⟨by simp [h1], by simp [h2]; omega, fun i hi => ?_⟩
  have hi' : i < sts.length + 1 := by simpa using hi
  by_cases e : i < sts.length
  · obtain ⟨a0, n0, c0, a1, n1, c1, e1, e2, o1, o2, z⟩ := h3 i e
    refine ⟨a0, n0, c0, a1, n1, c1, ?_, ?_, ?_, ?_, z⟩
    · rw [List.getElem?_append_left (by omega)]; exact e1
    · rw [List.getElem?_append_left (by omega)]; exact e2
    · rw [getD_more rfl e]; exact o1
    · rw [getD_more rfl (by omega)]; exact o2
  · have ei : i = sts.length := by omega
    subst ei
    refine ⟨a, n, c, a', n', c', ?_, ?_, ?_, ?_, hz⟩
    · rw [List.getElem?_append_right (by omega), h2]; simp
    · rw [List.getElem?_append_right (by omega), h2]; simp
    · simpa [List.getD_eq_getElem?_getD] using hx
    · rw [h1]; simpa [List.getD_eq_getElem?_getD] using hy

/-- The map says of each state whether it is among those. -/
def SMap (rl : Nat) (sts : List (List Int)) (D : DataW Unit) : Prop := ∀ x, IsSt rl x → ∃ c, D.atKey (.int .i64 (numV x)) (.lit (.int .i64 0)) = .lit (.int .i64 c) ∧ (0 < c ↔ x ∈ sts)
theorem SMap.nil (rl : Nat) : SMap rl [] (.map []) := fun x _ => ⟨0, rfl, by simp⟩
theorem SMap.put {rl : Nat} {sts : List (List Int)} {D : DataW Unit} (h : SMap rl sts D) (hD : IsMap D) {x : List Int} (hx : IsSt rl x) (n : Int) (hn : 0 < n) : SMap rl (sts ++ [x]) (D.put (.int .i64 (numV x)) (.lit (.int .i64 n))) := by
  intro y hy
  by_cases e : y = x
  · subst e
    exact ⟨n, atKey_put_same hD (by first | trivial | rfl | (simp [WideAt.IsKeyLit])) _ _, by simp; exact hn⟩
  · obtain ⟨c, h1, h2⟩ := h y hy
    refine ⟨c, ?_, ?_⟩
    · rw [atKey_put_other (fun hh => e (numV_inj hy hx (by injection hh)))]; exact h1
    · rw [h2]; simp [e]

theorem nil_eq (w : World) : Sem.run Tryz.prog (binOp BinOp.eql 28 (Value.slice none 0 0) (Value.slice none 0 0)) w = .ok (.bool true) w := by kernel_rfl
theorem nil_ne (w : World) (ad : Addr) (n c : Nat) : Sem.run Tryz.prog (binOp BinOp.eql 28 (Value.slice (some ad) n c) (Value.slice none 0 0)) w = .ok (.bool false) w := by kernel_rfl

set_option maxRecDepth 100000 in
set_option maxHeartbeats 1000000 in
theorem Clone_any (xs : List Int) (a : Option Addr) (n c : Nat) (w : World) (h : Ints w a n xs) (hz : a = none → n = 0 ∧ c = 0) (hn : n ≤ 100) :
    Calls Tryz.prog 119 #[.slice a n c] w fun e w' => ∃ v, e = .returned v ∧ w'.ownsRow w.heap.size 3 1 v n (xs.map (fun x => Value.int .i64 x)) ∧ Below w.heap.size w w' := by
  cases a with
  | none =>
    obtain ⟨rfl, rfl⟩ := hz rfl
    have hx : xs = [] := List.length_eq_zero_iff.1 h.1.symm
    subst hx
    have hne := nil_eq w
    go_enter Tryz.func119, Tryz.ntmps119
    go_wp2_with fail
    go_ret
    exact ⟨_, rfl, World.ownsRow_nil _ _ _ _, Below.refl _ _⟩
  | some ad =>
    obtain ⟨i0, hi, hz0, hz1, hz2⟩ := info_parts Tryz.infoInt
    have HI := hide h
    have HN := hide h.1
    have hne := nil_ne w ad n c
    clear h hz
    go_enter Tryz.func119, Tryz.ntmps119
    go_wp2_with (at_builtin; refine wpList_append_own _ rfl _ _ 28 rfl w.heap.size 3 i0 (.int .i64 0) 1 8 Tryz.underlying28 hi hz0 hz1 hz2 rfl (by decide) _ 0 (([] : List Int).map (fun x => Value.int .i64 x)) rfl (app_empty w w.heap.size w.heap.size rfl (Nat.le_refl _)) ad n c (xs.map (fun x => Value.int .i64 x)) rfl ?c0 ?c1 ?c2 ?c3 ?c4 ?c5 ?_)
    case c0 => have := unhide HN; simp; omega
    case c1 =>
      intro j u hj
      obtain ⟨h1, h2, h3⟩ := (unhide HI).below ((Below.refl _ w).alloc (Nat.le_refl _) (.cells #[] 3))
      rcases h3 with h3 | ⟨b, off, h4, _, hcell⟩
      · subst h3; simp at hj
      · simp at h4; subst h4
        have hj' : j < xs.length := by
          rcases Nat.lt_or_ge j xs.length with h | h
          · exact h
          · rw [List.getElem?_eq_none (by simpa using h)] at hj; simp at hj
        rw [addr_plus, hcell j hj']
        simpa [hj'] using hj
    case c2 =>
      intro u hu
      obtain ⟨z, _, rfl⟩ := List.mem_map.1 hu
      rfl
    case c3 => unfold maxLen; omega
    case c4 => omega
    case c5 => simp
    intro v' w3 hown' hgrow _
    have hb3 : Below w.heap.size w w3 := ((Below.refl _ w).alloc (Nat.le_refl _) _).grown hgrow (by simp) (fun k hk => by simp [Value.ownBlock] at hk; omega)
    have hown2 : w3.ownsRow w.heap.size 3 1 v' n (xs.map (fun x => Value.int .i64 x)) := by
      simpa using hown'
    clear hown' hgrow
    go_wp2_with fail
    go_ret
    exact ⟨_, rfl, hown2, hb3⟩
end Go.Proofs.YtongajonecgdpagGreatDoor
