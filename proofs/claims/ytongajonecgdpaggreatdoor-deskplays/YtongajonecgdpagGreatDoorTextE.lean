/- The document's two: two parts of a node, with words ahead, between and behind. -/
import Derived.Test.YtongajonecgdpagGreatDoorReadE
import Derived.Test.YtongajonecgdpagGreatDoorTextR
namespace Go.Proofs.YtongajonecgdpagGreatDoor
open Go.RowKit

def FromRet (r : Option (List NodeD × List UInt8)) (w w' : World) (e : Ending) : Prop :=
  match r with
  | some (l, rest) => ∃ a c, e = .returned (.tuple #[.slice a l.length c, .string ⟨rest.toArray⟩, .bool true]) ∧ Nodes w' a l.length l ∧ l.length ≤ c ∧ Below w.heap.size w w'
  | none => ∃ (a : Option Addr) (n c : Nat) (rest : List UInt8), e = .returned (.tuple #[.slice a n c, .string ⟨rest.toArray⟩, .bool false]) ∧ Below w.heap.size w w'
theorem from_no {r : Option (List NodeD × List UInt8)} {w w' : World} {e : Ending} (h : r = none) {a : Option Addr} {n c : Nat} {rest : List UInt8} (he : e = .returned (.tuple #[.slice a n c, .string ⟨rest.toArray⟩, .bool false])) (hb : Below w.heap.size w w') : FromRet r w w' e := by
  subst h; exact ⟨a, n, c, rest, he, hb⟩
theorem from_yes {r : Option (List NodeD × List UInt8)} {w w' : World} {e : Ending} {l : List NodeD} {rest : List UInt8} (h : r = some (l, rest)) {a : Option Addr} {c : Nat} (he : e = .returned (.tuple #[.slice a l.length c, .string ⟨rest.toArray⟩, .bool true])) (hN : Nodes w' a l.length l) (hc : l.length ≤ c) (hb : Below w.heap.size w w') : FromRet r w w' e := by
  subst h; exact ⟨a, c, he, hN, hc, hb⟩
theorem two_len {f : List UInt8 → Int → Option (List NodeD × List UInt8)} (hf : ∀ s left l r, f s left = some (l, r) → 1 ≤ l.length ∧ (l.length : Int) ≤ left) {x : NodeD} {s ahead between behind : List UInt8} {left : Int} {l : List NodeD} {r : List UInt8} (h : twoF f x s ahead between behind left = some (l, r)) : 1 ≤ l.length ∧ (l.length : Int) ≤ left := by
  unfold twoF at h
  split at h
  · split at h
    · simp at h
    · rename_i one r1 h1
      split at h
      · split at h
        · simp at h
        · rename_i other r2 h2
          split at h
          · simp only [Option.some.injEq, Prod.mk.injEq] at h
            obtain ⟨rfl, rfl⟩ := h
            have a1 := hf _ _ _ _ h1
            have a2 := hf _ _ _ _ h2
            simp only [List.length_append, List.length_singleton]
            omega
          · simp at h
      · simp at h
  · simp at h
theorem from_len : ∀ (m : Nat) (s : List UInt8) (left : Int) (l : List NodeD) (r : List UInt8), fromF m s left = some (l, r) → 1 ≤ l.length ∧ (l.length : Int) ≤ left
  | 0, s, left, l, r, h => by simp [fromF] at h
  | m + 1, s, left, l, r, h => by
    have ih := from_len m
    unfold fromF at h
    split at h
    · simp at h
    rename_i hl
    have one : ∀ y : NodeD, [y] = l → 1 ≤ l.length ∧ (l.length : Int) ≤ left := fun y e => by rw [← e]; simp; omega
    split at h
    · simp only [Option.some.injEq, Prod.mk.injEq] at h; exact one _ h.1
    split at h
    · simp only [Option.some.injEq, Prod.mk.injEq] at h; exact one _ h.1
    split at h
    · simp only [Option.some.injEq, Prod.mk.injEq] at h; exact one _ h.1
    split at h
    · rw [Option.map_eq_some_iff] at h; obtain ⟨q, _, h⟩ := h; simp only [Prod.mk.injEq] at h; exact one _ h.1
    split at h
    · rw [Option.map_eq_some_iff] at h; obtain ⟨q, _, h⟩ := h; simp only [Prod.mk.injEq] at h; exact one _ h.1
    split at h
    · rw [Option.bind_eq_some_iff] at h; obtain ⟨q, _, h⟩ := h; exact two_len ih h
    split at h
    · rw [Option.bind_eq_some_iff] at h; obtain ⟨q, _, h⟩ := h; exact two_len ih h
    split at h
    · cases ht : twoF (fromF m) ⟨5, 0⟩ (afterL s [40]).1 [] [59, 32] [41] left with
      | some v => rw [ht] at h; simp only [Option.orElse, Option.some.injEq] at h; subst h; exact two_len ih ht
      | none => rw [ht] at h; exact two_len ih h
    · simp at h
def FromC (m : Nat) : Prop := ∀ (s : List UInt8) (left : Int) (w : World), left ≤ m → left ≤ 14 → -2 ≤ left → Calls Tryz.prog 45 #[.string ⟨s.toArray⟩, .int .i64 left] w fun e w' => FromRet (fromF m s left) w w' e
theorem nodes_cells {w : World} {b off n : Nat} {l : List NodeD} (h : Nodes w (some ⟨b, off, none⟩) n l) : ∀ j u, (cellsN l)[j]? = some u → w.cell? ((⟨b, off, none⟩ : Addr).add j) = some u := fun j u hu => by
  have hlt : j < 2 * l.length := by have := (List.getElem?_eq_some_iff.1 hu).1; rw [cellsN_len] at this; exact this
  have hk : j / 2 < l.length := by omega
  obtain ⟨b', off', e, _, c1, c2⟩ := h.at hk
  injection e with e
  injection e with e1 e2 _
  subst e1; subst e2
  have hadd : (⟨b, off, none⟩ : Addr).add j = ⟨b, off + j, none⟩ := by unfold Addr.add; split <;> simp_all
  rw [hadd]
  obtain ⟨d1, d2⟩ := cellsN_at l (j / 2) hk
  rcases Nat.mod_two_eq_zero_or_one j with e | e
  · have ej : j = j / 2 * 2 := by omega
    rw [ej] at hu
    rw [show off + j = off + j / 2 * 2 by omega, c1, ← d1, ← hu]
  · have ej : j = j / 2 * 2 + 1 := by omega
    rw [ej] at hu
    rw [show off + j = off + j / 2 * 2 + 1 by omega, c2, ← d2, ← hu]
theorem cells_one (l : List NodeD) : ∀ u ∈ cellsN l, u.oneCell' = true := fun u hu => by
  obtain ⟨x, _, h⟩ := List.mem_flatMap.1 hu
  simp at h
  rcases h with rfl | rfl <;> rfl
theorem nodes_pos {w : World} {a : Option Addr} {n : Nat} {l : List NodeD} (h : Nodes w a n l) (hl : 1 ≤ l.length) : ∃ b off, a = some ⟨b, off, none⟩ := by
  rcases h.2.2 with h | ⟨b, off, h, _⟩
  · subst h; simp at hl
  · exact ⟨b, off, h⟩

def twoK (f : List UInt8 → Int → Option (List NodeD × List UInt8)) (x : NodeD) (one : List NodeD) (s2 behind : List UInt8) (left : Int) : Option (List NodeD × List UInt8) :=
  match f s2 (left - 1 - (one.length : Int)) with
  | none => none
  | some (other, r2) => if (afterL r2 behind).2 then some ([x] ++ one ++ other, (afterL r2 behind).1) else none
def twoG (f : List UInt8 → Int → Option (List NodeD × List UInt8)) (x : NodeD) (one : List NodeD) (r1 between behind : List UInt8) (left : Int) : Option (List NodeD × List UInt8) :=
  if (afterL r1 between).2 then twoK f x one (afterL r1 between).1 behind left else none
def twoH (f : List UInt8 → Int → Option (List NodeD × List UInt8)) (x : NodeD) (s1 between behind : List UInt8) (left : Int) : Option (List NodeD × List UInt8) :=
  match f s1 (left - 2) with
  | none => none
  | some (one, r1) => twoG f x one r1 between behind left

theorem nodes_grown {w w' : World} {b off n : Nat} {l : List NodeD} {row : Option Nat} (h : Nodes w (some ⟨b, off, none⟩) n l) (hg : w.grownBy w' row) (hne : row ≠ some b) : Nodes w' (some ⟨b, off, none⟩) n l := by
  obtain ⟨h1, h2, h3⟩ := h
  refine ⟨h1, h2, ?_⟩
  rcases h3 with h3 | ⟨b', off', ha, hl, hc⟩
  · exact Or.inl h3
  · injection ha with ha
    injection ha with e1 e2 _
    subst e1; subst e2
    exact Or.inr ⟨b, off, rfl, Nat.lt_of_lt_of_le hl hg.size, fun i hi => ⟨hg.cell (hc i hi).1 (fun e => hne e.symm), hg.cell (hc i hi).2 (fun e => hne e.symm)⟩⟩
theorem nodes_lt {w : World} {b off n : Nat} {l : List NodeD} (h : Nodes w (some ⟨b, off, none⟩) n l) (hl : 1 ≤ l.length) : b < w.heap.size := by
  obtain ⟨b', off', e, hlt, _⟩ := h.at (k := 0) hl
  injection e with e
  injection e with e1 _ _
  subst e1
  exact hlt

set_option maxRecDepth 100000 in
set_option maxHeartbeats 8000000 in
theorem two_any (m : Nat) (IH : FromC m) (x : NodeD) (s ahead between behind : List UInt8) (left : Int) (w : World) (h1 : left ≤ (m : Int) + 1) (h2 : left ≤ 14) (h3 : 0 < left) :
    Calls Tryz.prog 81 #[.agg #[.int .i64 x.kind, .int .i64 x.sig], .string ⟨s.toArray⟩, .string ⟨ahead.toArray⟩, .string ⟨between.toArray⟩, .string ⟨behind.toArray⟩, .int .i64 left] w fun e w' => FromRet (twoF (fromF m) x s ahead between behind left) w w' e := by
  obtain ⟨i0, hi, hz0, hz1, hz2⟩ := info_parts Tryz.infoNode
  have hb0 : Below w.heap.size w (w.alloc (.cells #[.int .i64 x.kind, .int .i64 x.sig] 93)) := (Below.refl _ _).alloc (Nat.le_refl _) _
  obtain ⟨y1, y2, y0⟩ := pairT w (.int .i64 x.kind) (.int .i64 x.sig) 93
  go_enter Tryz.func81, Tryz.ntmps81
  go_wp2_with fail
  generalize w.alloc (.cells #[.int .i64 x.kind, .int .i64 x.sig] 93) = w1 at *
  refine (after_any s ahead _).mono ?_
  rintro e w' ⟨rfl, rfl⟩
  rename World => w1
  obtain ⟨q1, hq1⟩ : ∃ q, (afterL s ahead).2 = q := ⟨_, rfl⟩
  rw [hq1]
  cases q1
  · have HN := hide (show twoF (fromF m) x s ahead between behind left = none by unfold twoF; rw [hq1]; rfl)
    clear hq1
    go_wp2_with fail
    go_ret3
    exact from_no (unhide HN) rfl hb0
  have HT := hide (show twoF (fromF m) x s ahead between behind left = twoH (fromF m) x (afterL s ahead).1 between behind left by unfold twoF; rw [hq1]; rfl)
  generalize (afterL s ahead).1 = s1 at *
  clear hq1
  go_wp2_with fail
  refine (IH s1 (left - 2) w1 (by omega) (by omega) (by omega)).mono ?_
  intro e w2 hret
  obtain ⟨r1, hr1⟩ : ∃ r, fromF m s1 (left - 2) = r := ⟨_, rfl⟩
  rw [hr1] at hret
  cases r1 with
  | none =>
    obtain ⟨a, n, c, rest, rfl, hb⟩ := hret
    have HN := hide (show twoF (fromF m) x s ahead between behind left = none by rw [unhide HT]; unfold twoH; rw [hr1])
    have B2 := bstep hb0 hb
    clear hr1 hb hb0 y0 y1 y2
    go_wp2_with fail
    go_ret3
    exact from_no (unhide HN) rfl B2
  | some p1 =>
  obtain ⟨one, t1⟩ := p1
  obtain ⟨a1, c1, rfl, hN1, _, hb⟩ := hret
  have HT2 := hide (show twoF (fromF m) x s ahead between behind left = twoG (fromF m) x one t1 between behind left by rw [unhide HT]; unfold twoH; rw [hr1])
  obtain ⟨hl1, hl2⟩ := from_len m _ _ _ _ hr1
  have B2 := bstep hb0 hb
  have y12 := (hb.cell (p := ⟨w.heap.size, 0, none⟩) y0).trans y1
  have y22 := (hb.cell (p := ⟨w.heap.size, 1, none⟩) y0).trans y2
  have y02 := Nat.lt_of_lt_of_le y0 hb.size
  clear hr1 hb hb0 y0 y1 y2 HT
  go_wp2_with fail
  refine (after_any t1 between _).mono ?_
  rintro e w' ⟨rfl, rfl⟩
  rename World => w2
  obtain ⟨q2, hq2⟩ : ∃ q, (afterL t1 between).2 = q := ⟨_, rfl⟩
  rw [hq2]
  cases q2
  · have HN := hide (show twoF (fromF m) x s ahead between behind left = none by rw [unhide HT2]; unfold twoG; rw [hq2]; rfl)
    clear hq2 y02 y12 y22
    go_wp2_with fail
    go_ret3
    exact from_no (unhide HN) rfl B2
  have HT3 := hide (show twoF (fromF m) x s ahead between behind left = twoK (fromF m) x one (afterL t1 between).1 behind left by rw [unhide HT2]; unfold twoG; rw [hq2]; rfl)
  generalize (afterL t1 between).1 = s2 at *
  have hl14 : (one.length : Int) ≤ 14 := by omega
  have hl0 : 0 ≤ (one.length : Int) := by omega
  clear hq2 HT2
  go_wp2_with fail
  refine (IH s2 (left - 1 - (one.length : Int)) w2 (by omega) (by omega) (by omega)).mono ?_
  intro e w3 hret
  obtain ⟨r2, hr2⟩ : ∃ r, fromF m s2 (left - 1 - (one.length : Int)) = r := ⟨_, rfl⟩
  rw [hr2] at hret
  cases r2 with
  | none =>
    obtain ⟨a, n, c, rest, rfl, hb⟩ := hret
    have HN := hide (show twoF (fromF m) x s ahead between behind left = none by rw [unhide HT3]; unfold twoK; rw [hr2])
    have B3 := bstep B2 hb
    clear hr2 hb B2 y02 y12 y22
    go_wp2_with fail
    go_ret3
    exact from_no (unhide HN) rfl B3
  | some p2 =>
  obtain ⟨other, t2⟩ := p2
  obtain ⟨a2, c2, rfl, hN2, _, hb⟩ := hret
  have HT4 := hide (show twoF (fromF m) x s ahead between behind left = if (afterL t2 behind).2 then some ([x] ++ one ++ other, (afterL t2 behind).1) else none by rw [unhide HT3]; unfold twoK; rw [hr2])
  obtain ⟨hk1, hk2⟩ := from_len m _ _ _ _ hr2
  have B3 := bstep B2 hb
  have hN13 := hN1.below hb
  have y13 := (hb.cell (p := ⟨w.heap.size, 0, none⟩) y02).trans y12
  have y23 := (hb.cell (p := ⟨w.heap.size, 1, none⟩) y02).trans y22
  have y03 := Nat.lt_of_lt_of_le y02 hb.size
  clear hr2 hb B2 y02 y12 y22 HT3 hN1
  go_wp2_with fail
  refine (after_any t2 behind _).mono ?_
  rintro e w' ⟨rfl, rfl⟩
  rename World => w3
  obtain ⟨b1, o1, rfl⟩ := nodes_pos hN13 hl1
  obtain ⟨b2, o2, rfl⟩ := nodes_pos hN2 hk1
  have hown := World.ownsRow_lit (base := w.heap.size) (e := 93) (size := 2) w3 #[.int .i64 x.kind, .int .i64 x.sig] 1 (by have := B3.size; omega) (by unfold maxLen; omega) rfl
  have hbA := (Below.refl w3.heap.size w3).alloc (Nat.le_refl _) (.cells #[.int .i64 x.kind, .int .i64 x.sig] 93)
  have hNA := hN13.below hbA
  have hMA := hN2.below hbA
  have BA := bstep B3 hbA
  have hb2l := nodes_lt hN2 hk1
  clear hbA hN13 hN2
  have hl7 : (cellsN one).length = one.length * 2 := by rw [cellsN_len]; omega
  have hl8 : (cellsN other).length = other.length * 2 := by rw [cellsN_len]; omega
  have hm1 : one.length ≤ 14 := by omega
  have hm2 : other.length ≤ 14 := by omega
  go_wp2_with (at_builtin; refine wpList_append_own _ rfl _ _ 27 rfl w.heap.size 93 i0 (.agg #[.int .i64 0, .int .i64 0]) 2 16 Tryz.underlying27 hi hz0 hz1 hz2 rfl (by decide) _ _ _ rfl hown ⟨b1, o1, none⟩ one.length c1 (cellsN one) rfl hl7 (nodes_cells hNA) (cells_one one) (by unfold maxLen; omega) (by omega) BA.size ?_)
  intro v8 w8 hown8 hgr8 _
  have B8 : Below w.heap.size w w8 := BA.grown hgr8 BA.size (fun g e => by simp [Value.ownBlock] at e; have := B3.size; omega)
  have hM8 : Nodes w8 (some ⟨b2, o2, none⟩) other.length other := nodes_grown hMA hgr8 (fun e => by simp [Value.ownBlock] at e; omega)
  have HO8 := hide hown8
  have HB8 := hide B8
  have HB3 := hide B3
  clear hown8 hgr8 hown hNA hMA BA y03 y13 y23 hb2l B3
  have B8 := unhide HB8
  go_wp2_with (at_builtin; refine wpList_append_own _ rfl _ _ 27 rfl w.heap.size 93 i0 (.agg #[.int .i64 0, .int .i64 0]) 2 16 Tryz.underlying27 hi hz0 hz1 hz2 rfl (by decide) _ _ _ rfl (unhide HO8) ⟨b2, o2, none⟩ other.length c2 (cellsN other) rfl hl8 (nodes_cells hM8) (cells_one other) (by unfold maxLen; omega) (by omega) B8.size ?_)
  intro v9 w9 hown9 hgr9 _
  have B9 : Below w.heap.size w w9 := B8.grown hgr9 B8.size (fun g e => ((unhide HO8).lt g e).1)
  have hown : w9.ownsRow w.heap.size 93 2 v9 ([x] ++ one ++ other).length (cellsN ([x] ++ one ++ other)) := by
    have e : cellsN ([x] ++ one ++ other) = [.int .i64 x.kind, .int .i64 x.sig] ++ cellsN one ++ cellsN other := by simp [cellsN]
    have e2 : ([x] ++ one ++ other).length = 1 + one.length + other.length := by simp; omega
    rw [e, e2]
    exact hown9
  obtain ⟨a9, c9, hv9, hN9, hc9⟩ := own_nodes hown (by simp; omega)
  have HN9 := hide hN9
  have HC9 := hide hc9
  have HV9 := hide hv9
  have R := hide B9
  clear hown9 hgr9 hM8 B8 HO8 hown hN9 hc9 hv9 B9
  obtain ⟨q3, hq3⟩ : ∃ q, (afterL t2 behind).2 = q := ⟨_, rfl⟩
  rw [hq3] at HT4 ⊢
  go_wp2_with fail
  go_ret3
  rw [unhide HV9]
  cases q3
  · exact from_no (by rw [unhide HT4]; rfl) rfl (unhide R)
  · exact from_yes (by rw [unhide HT4]; rfl) rfl (unhide HN9) (unhide HC9) (unhide R)
end Go.Proofs.YtongajonecgdpagGreatDoor
