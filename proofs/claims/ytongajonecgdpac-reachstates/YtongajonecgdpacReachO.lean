/- The walker's memory: a box, a row of places, a map; row.Number and slices.Clone. -/
import Derived.Test.YtongajonecgdpacReachN
import Derived.Test.YtongajonecgdpacTickR
import Derived.Test.YtongajonecgdpacApp
import Derived.Maps.OwnSet
namespace Go.Proofs.Ytongajonecgdpac
open Go.RowKit Go.Maps

/-- What lay in w lies in w', but for the blocks G. -/
def Kept (w w' : World) (G : List (Option Nat)) : Prop := w.heap.size ≤ w'.heap.size ∧ ∀ k, k < w.heap.size → some k ∉ G → w'.heap[k]? = w.heap[k]?
theorem Kept.of_below {w w' : World} (h : Below w.heap.size w w') (G : List (Option Nat)) : Kept w w' G := ⟨h.size, fun k hk _ => h.block k hk⟩
theorem Kept.of_grown {w w' : World} {g : Option Nat} (h : w.grownBy w' g) {G : List (Option Nat)} (hg : g ∈ G) : Kept w w' G := ⟨h.size, fun k hk hn => h.block k hk (fun e => hn (by rw [e]; exact hg))⟩
theorem Kept.trans {w w1 w2 : World} {G : List (Option Nat)} (h : Kept w w1 G) (h' : Kept w1 w2 G) : Kept w w2 G :=
  ⟨Nat.le_trans h.1 h'.1, fun k hk hn => (h'.2 k (Nat.lt_of_lt_of_le hk h.1) hn).trans (h.2 k hk hn)⟩
theorem grown_setCell (w : World) (b k : Nat) (v : Value) : w.grownBy (w.setCell ⟨b, k, none⟩ v) (some b) :=
  ⟨rfl, rfl, rfl, by simp, fun i _ hi => Go.heap_setCell_other w _ i v (fun e => hi (by rw [e]))⟩

/-- Numbers in memory, and in none of the blocks G. -/
def OffG (w : World) (G : List (Option Nat)) (a : Option Addr) (n : Nat) (xs : List Int) : Prop := Ints w a n xs ∧ (n = 0 ∨ ∃ b off, a = some ⟨b, off, none⟩ ∧ b < w.heap.size ∧ some b ∉ G)
theorem OffG.kept {w w' : World} {G G' : List (Option Nat)} {a : Option Addr} {n : Nat} {xs : List Int} (h : OffG w G a n xs) (hk : Kept w w' G) (hG : ∀ b, b < w.heap.size → some b ∉ G → some b ∉ G') : OffG w' G' a n xs := by
  obtain ⟨⟨h1, h2, h3⟩, h4⟩ := h
  rcases h4 with h4 | ⟨b, off, ha, hl, hne⟩
  · exact ⟨⟨h1, h2, Or.inl (List.length_eq_zero_iff.1 (by omega))⟩, Or.inl h4⟩
  · refine ⟨⟨h1, h2, ?_⟩, Or.inr ⟨b, off, ha, Nat.lt_of_lt_of_le hl hk.1, hG b hl hne⟩⟩
    rcases h3 with h3 | ⟨b', off', ha', hl', hc⟩
    · exact Or.inl h3
    · rw [ha] at ha'
      injection ha' with ha'
      injection ha' with e1 e2 _
      subst e1; subst e2
      refine Or.inr ⟨b, off, ha, Nat.lt_of_lt_of_le hl hk.1, fun i hi => ?_⟩
      rw [World.cell?_of_block (w := w) (hk.2 b hl hne)]
      exact hc i hi
theorem OffG.fresh {w : World} {base : Nat} {G : List (Option Nat)} {a : Option Addr} {n : Nat} {xs : List Int} (h : Ints w a n xs) (hF : Fresh base a n) (hg : ∀ k, some k ∈ G → k < base) : OffG w G a n xs := by
  refine ⟨h, ?_⟩
  rcases hF with hF | ⟨b, off, ha, hb⟩
  · exact Or.inl hF
  · rcases h.2.2 with h3 | ⟨b', off', ha', hl', hc⟩
    · exact Or.inl (by rw [h.1, h3]; rfl)
    · rw [ha] at ha'
      injection ha' with ha'
      injection ha' with e1 e2 _
      exact Or.inr ⟨b, off, ha, by omega, fun e => by have := hg b e; omega⟩
/-- What was there ahead of the blocks G. -/
theorem OffG.early {w w' : World} {G : List (Option Nat)} {a : Option Addr} {n : Nat} {xs : List Int} (h : Ints w a n xs) (hb : Below w.heap.size w w') (hg : ∀ k, some k ∈ G → w.heap.size ≤ k) : OffG w' G a n xs := by
  refine ⟨h.below hb, ?_⟩
  rcases h.2.2 with h3 | ⟨b, off, ha, hl, hc⟩
  · exact Or.inl (by rw [h.1, h3]; rfl)
  · exact Or.inr ⟨b, off, ha, Nat.lt_of_lt_of_le hl hb.size, fun e => by have := hg b e; omega⟩

/-- Places: pairs of slices. -/
def Pairs (w : World) (G : List (Option Nat)) (vs : List Value) (sts ws : List (List Int)) : Prop :=
  sts.length = ws.length ∧ vs.length = sts.length * 2 ∧ ∀ i (_ : i < sts.length), ∃ a n c a' n' c', vs[i * 2]? = some (.slice a n c) ∧ vs[i * 2 + 1]? = some (.slice a' n' c') ∧ OffG w G a n (sts.getD i []) ∧ OffG w G a' n' (ws.getD i []) ∧ (a' = none → n' = 0 ∧ c' = 0)
theorem Pairs.nil (w : World) (G : List (Option Nat)) : Pairs w G [] [] [] := ⟨rfl, rfl, fun i hi => absurd hi (by simp)⟩
theorem Pairs.kept {w w' : World} {G G' : List (Option Nat)} {vs : List Value} {sts ws : List (List Int)} (h : Pairs w G vs sts ws) (hk : Kept w w' G) (hG : ∀ b, b < w.heap.size → some b ∉ G → some b ∉ G') : Pairs w' G' vs sts ws :=
  ⟨h.1, h.2.1, fun i hi => by
    obtain ⟨a, n, c, a', n', c', e1, e2, o1, o2, z⟩ := h.2.2 i hi
    exact ⟨a, n, c, a', n', c', e1, e2, o1.kept hk hG, o2.kept hk hG, z⟩⟩
theorem Pairs.snoc {w : World} {G : List (Option Nat)} {vs : List Value} {sts ws : List (List Int)} {a a' : Option Addr} {n c n' c' : Nat} {x y : List Int} (h : Pairs w G vs sts ws) (hx : OffG w G a n x) (hy : OffG w G a' n' y) (hz : a' = none → n' = 0 ∧ c' = 0) :
    Pairs w G (vs ++ [.slice a n c, .slice a' n' c']) (sts ++ [x]) (ws ++ [y]) := by
  obtain ⟨h1, h2, h3⟩ := h
  refine ⟨by simp [h1], by simp [h2]; omega, fun i hi => ?_⟩
  have hi' : i < sts.length + 1 := by simpa using hi
  by_cases e : i < sts.length
  · obtain ⟨a0, n0, c0, a1, n1, c1, e1, e2, o1, o2, z⟩ := h3 i e
    refine ⟨a0, n0, c0, a1, n1, c1, ?_, ?_, ?_, ?_, z⟩
    · rw [List.getElem?_append_left (by omega)]; exact e1
    · rw [List.getElem?_append_left (by omega)]; exact e2
    · rw [getD_more rfl e]; exact o1
    · rw [getD_more rfl (by omega)]; exact o2
  · have ei : i = sts.length := by omega
    subst ei
    refine ⟨a, n, c, a', n', c', ?_, ?_, ?_, ?_, hz⟩
    · rw [List.getElem?_append_right (by omega), h2]; simp
    · rw [List.getElem?_append_right (by omega), h2]; simp
    · simpa [List.getD_eq_getElem?_getD] using hx
    · rw [h1]; simpa [List.getD_eq_getElem?_getD] using hy

/-- The map says of each state whether it is among those. -/
def SMap (rl : Nat) (sts : List (List Int)) (D : DataW Unit) : Prop := ∀ x, IsSt rl x → ∃ c, D.atKey (.int .i64 (numV x)) (.lit (.int .i64 0)) = .lit (.int .i64 c) ∧ (0 < c ↔ x ∈ sts)
theorem SMap.nil (rl : Nat) : SMap rl [] (.map []) := fun x _ => ⟨0, rfl, by simp⟩
theorem SMap.put {rl : Nat} {sts : List (List Int)} {D : DataW Unit} (h : SMap rl sts D) (hD : IsMap D) {x : List Int} (hx : IsSt rl x) (n : Int) (hn : 0 < n) : SMap rl (sts ++ [x]) (D.put (.int .i64 (numV x)) (.lit (.int .i64 n))) := by
  intro y hy
  by_cases e : y = x
  · subst e
    exact ⟨n, atKey_put_same hD (by first | trivial | rfl | (simp [WideAt.IsKeyLit])) _ _, by simp; exact hn⟩
  · obtain ⟨c, h1, h2⟩ := h y hy
    refine ⟨c, ?_, ?_⟩
    · rw [atKey_put_other (fun hh => e (numV_inj hy hx (by injection hh)))]; exact h1
    · rw [h2]; simp [e]

/-- The net's cells. -/
structure NC where
  i : Nat
  ga : Option Addr
  gn : Nat
  gc : Nat
  ra : Option Addr
  rn : Nat
  rc : Nat
  oa : Option Addr
  on : Nat
  oc : Nat
/-- The walker. -/
structure Wk (w : World) (B b m : Nat) (k : NC) (rl : Nat) (pv : Value) (sts ws : List (List Int)) : Prop where
  hb : B ≤ b
  hm : B ≤ m
  box : w.heap[b]? = some (.cells #[.int .i64 (k.i : Int), .slice k.ga k.gn k.gc, .slice k.ra k.rn k.rc, .slice k.oa k.on k.oc, pv, .map (some m)] 66 (0, 0))
  row : ∃ vs, w.ownsRow B 68 2 pv sts.length vs ∧ Pairs w [pv.ownBlock, some b, some m] vs sts ws
  map : ∃ D, w.ownsMap Try.prog 3 (plainElem (H := Unit) Try.prog 3) m sts.length D ∧ SMap rl sts D
theorem ownsMap_below {w w' : World} {m n : Nat} {D : DataW Unit} (h : w.ownsMap Try.prog 3 (plainElem (H := Unit) Try.prog 3) m n D) (hb : Below w.heap.size w w') : w'.ownsMap Try.prog 3 (plainElem (H := Unit) Try.prog 3) m n D := by
  have hl := h.lt
  obtain ⟨es, clock, h1, h2⟩ := h
  exact ⟨es, clock, (hb.block m hl).trans h1, h2⟩
theorem Wk.below {w w' : World} {B b m : Nat} {k : NC} {rl : Nat} {pv : Value} {sts ws : List (List Int)} (h : Wk w B b m k rl pv sts ws) (hb : Below w.heap.size w w') : Wk w' B b m k rl pv sts ws := by
  refine ⟨h.hb, h.hm, (hb.block b (Array.getElem?_eq_some_iff.1 h.box).1).trans h.box, ?_, ?_⟩
  · obtain ⟨vs, h1, h2⟩ := h.row
    exact ⟨vs, ownsRow_below h1 hb, h2.kept (Kept.of_below hb _) (fun _ _ h => h)⟩
  · obtain ⟨D, h1, h2⟩ := h.map
    exact ⟨D, ownsMap_below h1 hb, h2⟩
theorem Wk.lt {w : World} {B b m : Nat} {k : NC} {rl : Nat} {pv : Value} {sts ws : List (List Int)} (h : Wk w B b m k rl pv sts ws) : ∀ j, some j ∈ [pv.ownBlock, some b, some m] → j < w.heap.size := by
  intro j hj
  simp only [List.mem_cons, List.not_mem_nil, or_false] at hj
  rcases hj with hj | hj | hj
  · obtain ⟨vs, h1, _⟩ := h.row; exact (h1.lt j hj.symm).2
  · injection hj with hj; rw [hj]; exact (Array.getElem?_eq_some_iff.1 h.box).1
  · injection hj with hj; rw [hj]; obtain ⟨D, h1, _⟩ := h.map; exact h1.lt
theorem Wk.slice {w : World} {B b m : Nat} {k : NC} {rl : Nat} {pv : Value} {sts ws : List (List Int)} (h : Wk w B b m k rl pv sts ws) : ∃ a c, pv = .slice a sts.length c := by
  obtain ⟨vs, h1, _⟩ := h.row
  rcases h1.2 with ⟨h2, h3⟩ | ⟨g, cap, cur, h2, _⟩
  · rw [h3]; exact ⟨_, _, h2⟩
  · exact ⟨_, _, h2⟩
theorem Wk.cell {w : World} {B b m : Nat} {k : NC} {rl : Nat} {pv : Value} {sts ws : List (List Int)} (h : Wk w B b m k rl pv sts ws) :
    b < w.heap.size ∧ w.cell? ⟨b, 0, none⟩ = some (.int .i64 (k.i : Int)) ∧ w.cell? ⟨b, 1, none⟩ = some (.slice k.ga k.gn k.gc) ∧ w.cell? ⟨b, 2, none⟩ = some (.slice k.ra k.rn k.rc) ∧ w.cell? ⟨b, 3, none⟩ = some (.slice k.oa k.on k.oc) ∧ w.cell? ⟨b, 4, none⟩ = some pv ∧ w.cell? ⟨b, 5, none⟩ = some (.map (some m)) := by
  refine ⟨(Array.getElem?_eq_some_iff.1 h.box).1, ?_, ?_, ?_, ?_, ?_, ?_⟩ <;> rw [cell_of_row w b _ _ _ _ h.box] <;> rfl

theorem or_pow (x : List Int) (k : Nat) (hk : k ≤ 20) : bits .or .i64 (numTo x k) (wrap64 (2 ^ k)) = numTo x k + 2 ^ k := by
  have h := numTo_lt x k
  have hp := power_le k hk
  have hp0 : (0 : Int) < 2 ^ k := Int.pow_pos (by decide)
  have e62 : (2 : Int) ^ 62 = 4611686018427387904 := by decide
  have hw : wrap64 (2 ^ k) = 2 ^ k := by unfold wrap64; omega
  rw [hw]
  obtain ⟨a, ha⟩ := Int.eq_ofNat_of_zero_le h.1
  obtain ⟨b, hb⟩ := Int.eq_ofNat_of_zero_le (Int.le_of_lt hp0)
  have n62 : (2 : Nat) ^ 62 = 4611686018427387904 := by decide
  have h1 := (bits_nat .i64 62 (by decide) wraps_i64 a b (by rw [n62]; omega) (by rw [n62]; omega)).2
  have h2 := (bits_nat .i64 62 (by decide) wraps_i64 b a (by rw [n62]; omega) (by rw [n62]; omega)).2
  have h3 := bits_join .i64 62 (by decide) wraps_i64 k (2 ^ k) (numTo x k) (Int.le_of_lt hp0) (Int.emod_self) (by rw [e62]; omega) h.1 h.2 (by rw [e62]; omega)
  rw [ha, hb] at h3 ⊢
  rw [h1, Nat.or_comm, ← h2, h3]
  omega

set_option maxHeartbeats 1000000 in
theorem Number_any (x : List Int) (a : Option Addr) (n c : Nat) (w : World) (h : Ints w a n x) (hn : n ≤ 20) :
    Calls Try.prog 76 #[.slice a n c] w fun e w' => e = .returned (.int .i64 (numV x)) ∧ w' = w := by
  have HLL : Hid (x.length = n) := h.1.symm
  go_enter Try.func76, Try.ntmps76
  go_wp2_with fail
  go_loopw [3, 8] (fun v i wr => ∃ k : Nat, k ≤ n ∧ i = .int .i64 k ∧ v = .int .i64 (numTo x k) ∧ wr = w) (fun _ i _ => n - (intOf i).toNat)
  case atStart => exact ⟨0, Nat.zero_le _, rfl, rfl, rfl⟩
  case round =>
    obtain ⟨k, hk, rfl, rfl, rfl⟩ := hrel
    by_cases hlt : k < n
    · have hltl : k < x.length := by have := HLL.out; omega
      have hki : (k : Int) < (n : Int) := by omega
      obtain ⟨b, off, rfl, hbb, c1⟩ := h.at hltl
      have hget : x.getD k 0 = x[k] := by simp [List.getD_eq_getElem?_getD, hltl]
      by_cases e : x[k] = 1
      · have HN := hide (show numTo x (k + 1) = numTo x k + 2 ^ k by show numTo x k + (if x.getD k 0 = 1 then 2 ^ k else 0) = _; rw [hget, if_pos e])
        have hq : (x[k] == 1) = true := by simp [e]
        clear e hget
        go_wp2_with fail
        exact ⟨⟨k + 1, by omega, by go_num, by rw [unhide HN, or_pow x k (by omega)], by first | rfl | trivial⟩, by simp [intOf]; omega⟩
      · have HN := hide (show numTo x (k + 1) = numTo x k by show numTo x k + (if x.getD k 0 = 1 then 2 ^ k else 0) = _; rw [hget, if_neg e]; omega)
        have hq : (x[k] == 1) = false := by simp [e]
        clear e hget
        go_wp2_with fail
        exact ⟨⟨k + 1, by omega, by go_num, by rw [unhide HN], by first | rfl | trivial⟩, by simp [intOf]; omega⟩
    · have HN := hide (show numV x = numTo x k by unfold numV; rw [show x.length = k by have := HLL.out; omega])
      go_wp2_with fail
      go_ret
      exact ⟨ret_int (unhide HN).symm, rfl⟩

theorem nil_eq (w : World) : Sem.run Try.prog (binOp BinOp.eql 24 (Value.slice none 0 0) (Value.slice none 0 0)) w = .ok (.bool true) w := by kernel_rfl
theorem nil_ne (w : World) (ad : Addr) (n c : Nat) : Sem.run Try.prog (binOp BinOp.eql 24 (Value.slice (some ad) n c) (Value.slice none 0 0)) w = .ok (.bool false) w := by kernel_rfl

set_option maxRecDepth 100000 in
set_option maxHeartbeats 1000000 in
theorem Clone_any (xs : List Int) (a : Option Addr) (n c : Nat) (w : World) (h : Ints w a n xs) (hz : a = none → n = 0 ∧ c = 0) (hn : n ≤ 100) :
    Calls Try.prog 44 #[.slice a n c] w fun e w' => ∃ v, e = .returned v ∧ w'.ownsRow w.heap.size 3 1 v n (xs.map (fun x => Value.int .i64 x)) ∧ Below w.heap.size w w' := by
  cases a with
  | none =>
    obtain ⟨rfl, rfl⟩ := hz rfl
    have hx : xs = [] := List.length_eq_zero_iff.1 h.1.symm
    subst hx
    have hne := nil_eq w
    go_enter Try.func44, Try.ntmps44
    go_wp2_with fail
    go_ret
    exact ⟨_, rfl, World.ownsRow_nil _ _ _ _, Below.refl _ _⟩
  | some ad =>
    obtain ⟨i0, hi, hz0, hz1, hz2⟩ := info_parts Try.infoInt
    have HI := hide h
    have HN := hide h.1
    have hne := nil_ne w ad n c
    clear h hz
    go_enter Try.func44, Try.ntmps44
    go_wp2_with (at_builtin; refine wpList_append_own _ rfl _ _ 24 rfl w.heap.size 3 i0 (.int .i64 0) 1 8 Try.underlying24 hi hz0 hz1 hz2 rfl (by decide) _ 0 (([] : List Int).map (fun x => Value.int .i64 x)) rfl (app_empty w w.heap.size w.heap.size rfl (Nat.le_refl _)) ad n c (xs.map (fun x => Value.int .i64 x)) rfl ?c0 ?c1 ?c2 ?c3 ?c4 ?c5 ?_)
    case c0 => have := unhide HN; simp; omega
    case c1 =>
      intro j u hj
      obtain ⟨h1, h2, h3⟩ := (unhide HI).below ((Below.refl _ w).alloc (Nat.le_refl _) (.cells #[] 3))
      rcases h3 with h3 | ⟨b, off, h4, _, hcell⟩
      · subst h3; simp at hj
      · simp at h4; subst h4
        have hj' : j < xs.length := by
          rcases Nat.lt_or_ge j xs.length with h | h
          · exact h
          · rw [List.getElem?_eq_none (by simpa using h)] at hj; simp at hj
        rw [addr_plus, hcell j hj']
        simpa [hj'] using hj
    case c2 =>
      intro u hu
      obtain ⟨z, _, rfl⟩ := List.mem_map.1 hu
      rfl
    case c3 => unfold maxLen; omega
    case c4 => omega
    case c5 => simp
    intro v' w3 hown' hgrow _
    have hb3 : Below w.heap.size w w3 := ((Below.refl _ w).alloc (Nat.le_refl _) _).grown hgrow (by simp) (fun k hk => by simp [Value.ownBlock] at hk; omega)
    have hown2 : w3.ownsRow w.heap.size 3 1 v' n (xs.map (fun x => Value.int .i64 x)) := by
      simpa using hown'
    clear hown' hgrow
    go_wp2_with fail
    go_ret
    exact ⟨_, rfl, hown2, hb3⟩
end Go.Proofs.Ytongajonecgdpac
