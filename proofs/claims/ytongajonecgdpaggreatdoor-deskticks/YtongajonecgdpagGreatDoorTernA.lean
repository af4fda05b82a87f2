/- What the small readers of lists of whole numbers answer (tern.isOneOf, linchpinref.within, linchpinref.count, linchpinref.Values), for every list that is read. -/
import Derived.Test.YtongajonecgdpagGreatDoorRows
import Derived.WalkKit
import Derived.WalkSpells
import Derived.WalkLawsBesides
import Derived.Deep.QuietTactic
import Derived.BigQuiet
namespace Go.Proofs.YtongajonecgdpagGreatDoor
open Go.RowKit

/-- A slice of ints as the walk meets it: nothing in it, or a row of cells. -/
def Ints (w : World) (a : Option Addr) (n : Nat) (xs : List Int) : Prop :=
  n = xs.length ∧ xs.length ≤ maxLen ∧ (xs = [] ∨ ∃ b off, a = some ⟨b, off, none⟩ ∧ b < w.heap.size ∧ ∀ i (hi : i < xs.length), w.cell? ⟨b, off + i, none⟩ = some (.int .i64 xs[i]))

theorem ret_int {k : IntKind} {a b : Int} (h : a = b) : Ending.returned (.int k a) = .returned (.int k b) := by rw [h]
theorem ret_bool {a b : Bool} (h : a = b) : Ending.returned (.bool a) = .returned (.bool b) := by rw [h]

def has (v : Int) (xs : List Int) : Bool := xs.any (fun x => v == x)

theorem take_snoc (xs : List Int) (k : Nat) (h : k < xs.length) : xs.take (k + 1) = xs.take k ++ [xs[k]] := by
  rw [List.take_succ_eq_append_getElem h]

theorem has_snoc (v : Int) (xs : List Int) (y : Int) : has v (xs ++ [y]) = (has v xs || v == y) := by simp [has]
theorem has_of (v : Int) (xs : List Int) (k : Nat) (h : k < xs.length) (e : v = xs[k]) : has v xs = true := by
  simp only [has, List.any_eq_true]
  exact ⟨xs[k], by simp, by simp [e]⟩

set_option maxHeartbeats 400000 in
theorem isOneOf_any (v : Int) (xs : List Int) (a : Option Addr) (n cap : Nat) (w : World) (h : Ints w a n xs) :
    Calls Tryz.prog 161 #[.int .i64 v, .slice a n cap] w fun e w' => e = .returned (.bool (has v xs)) ∧ w' = w := by
  obtain ⟨rfl, hm, h⟩ := h
  unfold maxLen at hm
  go_enter Tryz.func161, Tryz.ntmps161
  go_wp2
  go_loop [9] (fun i => ∃ k : Nat, k ≤ xs.length ∧ i = .int .i64 k ∧ has v (xs.take k) = false) (fun i => xs.length - (intOf i).toNat)
  case atStart => exact ⟨0, Nat.zero_le _, rfl, rfl⟩
  case round =>
    obtain ⟨k, hk, rfl, hno⟩ := hrel
    by_cases hlt : k < xs.length
    · rcases h with h | ⟨b, off, rfl, hb, hc⟩
      · rw [h] at hlt; simp at hlt
      · have hcell := hc k hlt
        have HS : Hid (has v (xs.take (k + 1)) = (has v (xs.take k) || v == xs[k])) := by rw [take_snoc xs k hlt, has_snoc]; exact rfl
        have HN : Hid (has v (xs.take k) = false) := hno
        clear hc hno
        by_cases e : v = xs[k]
        · have hd : Hid (has v xs = true) := has_of v xs k hlt e
          have he : (v == xs[k]) = true := by simp [e]
          clear e
          go_wp2
          go_ret
          exact ⟨ret_bool hd.out.symm, rfl⟩
        · have he : (v == xs[k]) = false := by simp [e]
          clear e
          go_wp2
          exact ⟨⟨k + 1, by omega, by go_num, by rw [HS.out, HN.out, he]; rfl⟩, by simp [intOf]; omega⟩
    · have hf : Hid (has v xs = false) := by rw [List.take_of_length_le (by omega)] at hno; exact hno
      clear hno
      go_wp2
      go_ret
      exact ⟨ret_bool hf.out.symm, rfl⟩

theorem Ints.below {w w' : World} {a : Option Addr} {n : Nat} {xs : List Int} (h : Ints w a n xs) (hb : Below w.heap.size w w') : Ints w' a n xs := by
  obtain ⟨h1, h2, h3⟩ := h
  refine ⟨h1, h2, ?_⟩
  rcases h3 with h3 | ⟨b, off, ha, hlt, hc⟩
  · exact Or.inl h3
  · exact Or.inr ⟨b, off, ha, Nat.lt_of_lt_of_le hlt hb.size, fun i hi => by rw [hb.cell (p := ⟨b, off + i, none⟩) hlt]; exact hc i hi⟩

theorem Ints.below' {B : Nat} {w w' : World} {a : Option Addr} {n : Nat} {xs : List Int} (h : Ints w a n xs) (hb : Below B w w') (hB : w.heap.size ≤ B) : Ints w' a n xs := h.below (hb.mono hB)

theorem Ints.none (w : World) : Ints w Option.none 0 [] := ⟨rfl, Nat.zero_le _, Or.inl rfl⟩

theorem cell_new (w : World) (C : Array Value) (T : TypeId) (i : Nat) (h : i < C.size) : (w.alloc (.cells C T)).cell? ⟨w.heap.size, 0 + i, none⟩ = some C[i] := by
  rw [World.cell?_alloc_new]; simp [h]

theorem Ints.new (w : World) (C : Array Value) (T : TypeId) (n : Nat) (xs : List Int) (hC : C = (xs.map (fun x => Value.int .i64 x)).toArray) (hn : n = xs.length) (hm : xs.length ≤ maxLen) :
    Ints (w.alloc (.cells C T)) (some ⟨w.heap.size, 0, Option.none⟩) n xs := by
  refine ⟨hn, hm, Or.inr ⟨w.heap.size, 0, rfl, by simp, fun i hi => ?_⟩⟩
  subst hC
  rw [cell_new _ _ _ i (by simpa using hi)]
  simp

def val (x : Int) : Bool := decide (0 ≤ x ∧ x ≤ 2)
def vals (xs : List Int) : Bool := xs.all val
theorem vals_snoc (xs : List Int) (y : Int) : vals (xs ++ [y]) = (vals xs && val y) := by simp [vals]
theorem vals_no (xs : List Int) (k : Nat) (h : k < xs.length) (e : val xs[k] = false) : vals xs = false := by
  simp only [vals, List.all_eq_false]
  exact ⟨xs[k], by simp, by simp [e]⟩
theorem has012 (x : Int) : has x [0, 1, 2] = val x := by
  simp only [has, val, List.any_cons, List.any_nil, Bool.or_false]
  rw [Bool.eq_iff_iff]; simp; omega

def cnt (v : Int) (xs : List Int) : Nat := (xs.filter (fun x => x == v)).length
theorem cnt_pos (v : Int) (xs : List Int) : decide (0 < (cnt v xs : Int)) = has v xs := by
  rw [Bool.eq_iff_iff, decide_eq_true_iff]
  simp only [cnt, has, List.any_eq_true, beq_iff_eq]
  constructor
  · intro h
    have h' : 0 < (xs.filter (fun x => x == v)).length := by omega
    obtain ⟨y, hy⟩ := List.exists_mem_of_length_pos h'
    rw [List.mem_filter] at hy
    exact ⟨y, hy.1, by simpa using (beq_iff_eq.1 hy.2).symm⟩
  · rintro ⟨y, hy, e⟩
    have : y ∈ xs.filter (fun x => x == v) := List.mem_filter.2 ⟨hy, by simp [e]⟩
    have := List.length_pos_of_mem this
    omega

theorem lt_maxLen (n : Nat) (h : n ≤ 100) : n ≤ maxLen := by unfold maxLen; omega

def ckE (xs : List Int) : Int := if vals xs then 0 else 3

theorem ret_pair {k l : IntKind} {a b c d : Int} (h : a = b) (g : c = d) : Ending.returned (.tuple #[.int k a, .int l c]) = .returned (.tuple #[.int k b, .int l d]) := by rw [h, g]
set_option maxHeartbeats 400000 in
theorem check_any (xs : List Int) (a : Option Addr) (n cap : Nat) (w : World) (h : Ints w a n xs) :
    Calls Tryz.prog 147 #[.slice a n cap] w fun e w' => e = .returned (.int .i64 (ckE xs)) ∧ Below w.heap.size w w' := by
  obtain ⟨rfl, hm, h⟩ := h
  unfold maxLen at hm
  go_enter Tryz.func147, Tryz.ntmps147
  go_wp2
  go_loopw [7] (fun i wr => ∃ k : Nat, k ≤ xs.length ∧ i = .int .i64 k ∧ vals (xs.take k) = true ∧ Below w.heap.size w wr) (fun i _ => xs.length - (intOf i).toNat)
  case atStart => exact ⟨0, Nat.zero_le _, rfl, rfl, Below.refl _ _⟩
  case round =>
    obtain ⟨k, hk, rfl, hno, hbel⟩ := hrel
    by_cases hlt : k < xs.length
    · rcases h with h | ⟨b, off, rfl, hb, hc⟩
      · rw [h] at hlt; simp at hlt
      · have hcell : wr.cell? ⟨b, off + k, none⟩ = some (.int .i64 xs[k]) := by rw [hbel.cell (p := ⟨b, off + k, none⟩) hb]; exact hc k hlt
        have HS : Hid (vals (xs.take (k + 1)) = (vals (xs.take k) && val xs[k])) := by rw [take_snoc xs k hlt, vals_snoc]; exact rfl
        have HN : Hid (vals (xs.take k) = true) := hno
        have hnew : Ints (wr.alloc (.cells #[.int .i64 0, .int .i64 1, .int .i64 2] 3)) (some ⟨wr.heap.size, 0, none⟩) 3 [0, 1, 2] := Ints.new _ _ _ _ _ rfl rfl (lt_maxLen _ (by simp))
        have hb2 : Below w.heap.size w (wr.alloc (.cells #[.int .i64 0, .int .i64 1, .int .i64 2] 3)) := hbel.alloc hbel.size _
        clear hc hno
        cases e : val xs[k]
        · have hd : Hid (ckE xs = 3) := by simp [Hid, ckE, vals_no xs k hlt e]
          have he : Hid (has xs[k] [0, 1, 2] = false) := by rw [has012]; exact e
          clear e
          go_wp2_with (go_at_call 161; refine (isOneOf_any _ [0, 1, 2] _ _ _ _ hnew).mono ?_; rintro e w' ⟨rfl, rfl⟩; rw [he.out])
          go_ret
          exact ⟨ret_int hd.out.symm, hb2⟩
        · have he : Hid (has xs[k] [0, 1, 2] = true) := by rw [has012]; exact e
          have e' : Hid (val xs[k] = true) := e
          clear e
          go_wp2_with (go_at_call 161; refine (isOneOf_any _ [0, 1, 2] _ _ _ _ hnew).mono ?_; rintro e w' ⟨rfl, rfl⟩; rw [he.out])
          exact ⟨⟨k + 1, by omega, by go_num, by rw [HS.out, HN.out, e'.out]; rfl, hb2⟩, by simp [intOf]; omega⟩
    · have hf : Hid (ckE xs = 0) := by rw [List.take_of_length_le (by omega)] at hno; simp [Hid, ckE, hno]
      clear hno
      go_wp2
      go_ret
      exact ⟨ret_int hf.out.symm, hbel⟩

def tellV (d o : Int) (xs : List Int) : Int := if has d xs then d else if has 2 xs then 2 else o

set_option maxHeartbeats 400000 in
theorem tell_any (d o : Int) (xs : List Int) (a : Option Addr) (n cap : Nat) (w : World) (h : Ints w a n xs) :
    Calls Tryz.prog 171 #[.int .i64 d, .int .i64 o, .slice a n cap] w fun e w' => e = .returned (.int .i64 (tellV d o xs)) ∧ w' = w := by
  cases h1 : has d xs
  · have H1 : Hid (has d xs = false) := h1
    cases h2 : has 2 xs
    · have H2 : Hid (has 2 xs = false) := h2
      have HT : Hid (tellV d o xs = o) := by simp [Hid, tellV, h1, h2]
      clear h1 h2
      go_enter Tryz.func171, Tryz.ntmps171
      go_wp2_with fail
      refine (isOneOf_any _ _ _ _ _ _ h).mono ?_
      rintro e w' ⟨rfl, rfl⟩
      rw [H1.out]
      go_wp2_with fail
      refine (isOneOf_any _ _ _ _ _ _ h).mono ?_
      rintro e w' ⟨rfl, rfl⟩
      rw [H2.out]
      go_wp2
      go_ret
      exact ⟨ret_int HT.out.symm, rfl⟩
    · have H2 : Hid (has 2 xs = true) := h2
      have HT : Hid (tellV d o xs = 2) := by simp [Hid, tellV, h1, h2]
      clear h1 h2
      go_enter Tryz.func171, Tryz.ntmps171
      go_wp2_with fail
      refine (isOneOf_any _ _ _ _ _ _ h).mono ?_
      rintro e w' ⟨rfl, rfl⟩
      rw [H1.out]
      go_wp2_with fail
      refine (isOneOf_any _ _ _ _ _ _ h).mono ?_
      rintro e w' ⟨rfl, rfl⟩
      rw [H2.out]
      go_wp2
      go_ret
      exact ⟨ret_int HT.out.symm, rfl⟩
  · have H1 : Hid (has d xs = true) := h1
    have HT : Hid (tellV d o xs = d) := by simp [Hid, tellV, h1]
    clear h1
    go_enter Tryz.func171, Tryz.ntmps171
    go_wp2_with fail
    refine (isOneOf_any _ _ _ _ _ _ h).mono ?_
    rintro e w' ⟨rfl, rfl⟩
    rw [H1.out]
    go_wp2
    go_ret
    exact ⟨ret_int HT.out.symm, rfl⟩

def allV (xs : List Int) : Int := if vals xs then tellV 0 1 xs else 0
def anyV (xs : List Int) : Int := if vals xs then tellV 1 0 xs else 0

set_option maxHeartbeats 400000 in
theorem All_any (xs : List Int) (a : Option Addr) (n cap : Nat) (w : World) (h : Ints w a n xs) :
    Calls Tryz.prog 168 #[.slice a n cap] w fun e w' => e = .returned (.tuple #[.int .i64 (allV xs), .int .i64 (ckE xs)]) ∧ Below w.heap.size w w' := by
  cases hv : vals xs
  · have HA : Hid (allV xs = 0) := by simp [Hid, allV, hv]
    have HC : Hid (ckE xs = 3) := by simp [Hid, ckE, hv]
    clear hv
    go_enter Tryz.func168, Tryz.ntmps168
    go_wp2_with fail
    refine (check_any _ _ _ _ _ h).mono ?_
    rintro e w' ⟨rfl, hb⟩
    rw [HC.out]
    go_wp2
    go_ret2
    exact ⟨ret_pair HA.out.symm HC.out.symm, hb⟩
  · have HA : Hid (allV xs = tellV 0 1 xs) := by simp [Hid, allV, hv]
    have HC : Hid (ckE xs = 0) := by simp [Hid, ckE, hv]
    clear hv
    go_enter Tryz.func168, Tryz.ntmps168
    go_wp2_with fail
    refine (check_any _ _ _ _ _ h).mono ?_
    rintro e w' ⟨rfl, hb⟩
    rw [HC.out]
    go_wp2_with fail
    refine (tell_any _ _ _ _ _ _ _ (h.below hb)).mono ?_
    rintro e w2 ⟨rfl, rfl⟩
    go_wp2
    go_ret2
    exact ⟨ret_pair HA.out.symm HC.out.symm, hb⟩

set_option maxHeartbeats 400000 in
theorem Any_any (xs : List Int) (a : Option Addr) (n cap : Nat) (w : World) (h : Ints w a n xs) :
    Calls Tryz.prog 169 #[.slice a n cap] w fun e w' => e = .returned (.tuple #[.int .i64 (anyV xs), .int .i64 (ckE xs)]) ∧ Below w.heap.size w w' := by
  cases hv : vals xs
  · have HA : Hid (anyV xs = 0) := by simp [Hid, anyV, hv]
    have HC : Hid (ckE xs = 3) := by simp [Hid, ckE, hv]
    clear hv
    go_enter Tryz.func169, Tryz.ntmps169
    go_wp2_with fail
    refine (check_any _ _ _ _ _ h).mono ?_
    rintro e w' ⟨rfl, hb⟩
    rw [HC.out]
    go_wp2
    go_ret2
    exact ⟨ret_pair HA.out.symm HC.out.symm, hb⟩
  · have HA : Hid (anyV xs = tellV 1 0 xs) := by simp [Hid, anyV, hv]
    have HC : Hid (ckE xs = 0) := by simp [Hid, ckE, hv]
    clear hv
    go_enter Tryz.func169, Tryz.ntmps169
    go_wp2_with fail
    refine (check_any _ _ _ _ _ h).mono ?_
    rintro e w' ⟨rfl, hb⟩
    rw [HC.out]
    go_wp2_with fail
    refine (tell_any _ _ _ _ _ _ _ (h.below hb)).mono ?_
    rintro e w2 ⟨rfl, rfl⟩
    go_wp2
    go_ret2
    exact ⟨ret_pair HA.out.symm HC.out.symm, hb⟩

def not1 (v : Int) : Int := if v = 2 then 2 else 1 - v
def notV (v : Int) : Int := if val v then not1 v else 0
def notE (v : Int) : Int := if val v then 0 else 3
theorem ck_one (v : Int) : ckE [v] = notE v := by simp [ckE, notE, vals]
set_option maxHeartbeats 400000 in
theorem Not_any (v : Int) (w : World) :
    Calls Tryz.prog 170 #[.int .i64 v] w fun e w' => e = .returned (.tuple #[.int .i64 (notV v), .int .i64 (notE v)]) ∧ Below w.heap.size w w' := by
  have hnew : Ints (w.alloc (.cells #[.int .i64 v] 3)) (some ⟨w.heap.size, 0, none⟩) 1 [v] := Ints.new _ _ _ _ _ rfl rfl (lt_maxLen _ (by simp))
  have hb : Below w.heap.size w (w.alloc (.cells #[.int .i64 v] 3)) := (Below.refl _ _).alloc (Nat.le_refl _) _
  cases hv : val v
  · have HA : Hid (notV v = 0) := by simp [Hid, notV, hv]
    have HC : Hid (ckE [v] = 3) := by rw [ck_one]; simp [Hid, notE, hv]
    have HE : Hid (notE v = 3) := by simp [Hid, notE, hv]
    clear hv
    go_enter Tryz.func170, Tryz.ntmps170
    go_wp2_with fail
    refine (check_any _ _ _ _ _ hnew).mono ?_
    rintro e w' ⟨rfl, hb'⟩
    rw [HC.out]
    go_wp2
    go_ret2
    exact ⟨ret_pair HA.out.symm HE.out.symm, hb.trans (hb'.mono (by simp))⟩
  · have HC : Hid (ckE [v] = 0) := by rw [ck_one]; simp [Hid, notE, hv]
    have HE : Hid (notE v = 0) := by simp [Hid, notE, hv]
    have hr : v = 0 ∨ v = 1 ∨ v = 2 := by simp [val] at hv; omega
    clear hv
    rcases hr with rfl | rfl | rfl
    all_goals
      go_enter Tryz.func170, Tryz.ntmps170
      go_wp2_with fail
      refine (check_any _ _ _ _ _ hnew).mono ?_
      rintro e w' ⟨rfl, hb'⟩
      rw [HC.out]
      go_wp2
      go_ret2
      exact ⟨ret_pair rfl HE.out.symm, ((hb.trans (hb'.mono (by simp))).alloc (Nat.le_trans hb.size hb'.size) _)⟩

def leqTo (xs ys : List Int) (k : Nat) : Bool := (List.range k).all fun i => xs.getD i 0 == 2 || xs.getD i 0 == ys.getD i 0
def leqV (xs ys : List Int) : Bool := leqTo xs ys xs.length
theorem getD_at (xs : List Int) (k : Nat) (h : k < xs.length) : xs.getD k 0 = xs[k] := by simp [List.getD_eq_getElem?_getD, h]

theorem bstep {w wk w' : World} (hb : Below w.heap.size w wk) (h : Below wk.heap.size wk w') : Below w.heap.size w w' := hb.trans (h.mono hb.size)
theorem has_true (v : Int) (xs : List Int) : has v xs = true ↔ v ∈ xs := by
  simp only [has, List.any_eq_true, beq_iff_eq]
  constructor
  · rintro ⟨x, hx, rfl⟩; exact hx
  · intro h; exact ⟨v, h, rfl⟩
theorem has_false (v : Int) (xs : List Int) : has v xs = false ↔ ¬ v ∈ xs := by
  rw [← has_true]; cases has v xs <;> simp
theorem vals_true (xs : List Int) : vals xs = true ↔ ∀ x ∈ xs, x = 0 ∨ x = 1 ∨ x = 2 := by
  simp only [vals, val, List.all_eq_true, decide_eq_true_iff]
  exact ⟨fun h x hx => by have := h x hx; omega, fun h x hx => by have := h x hx; omega⟩

theorem leqV_at (xs ys : List Int) (h : leqV xs ys = true) (i : Nat) (hi : i < xs.length) (hi' : i < ys.length) : xs[i] = 2 ∨ xs[i] = ys[i] := by
  simp only [leqV, leqTo, List.all_eq_true, List.mem_range, Bool.or_eq_true, beq_iff_eq] at h
  have := h i hi
  rw [getD_at xs i hi, getD_at ys i hi'] at this
  exact this

theorem tell_leq (d o : Int) (hd : d ≠ 2) (xs ys : List Int) (hl : xs.length = ys.length) (h : leqV xs ys = true) : tellV d o xs = 2 ∨ tellV d o xs = tellV d o ys := by
  cases h1 : has d xs
  · cases h2 : has 2 xs
    · right
      have : xs = ys := by
        apply List.ext_getElem hl
        intro i hi hi'
        rcases leqV_at xs ys h i hi hi' with e | e
        · exact absurd (e ▸ List.getElem_mem hi) ((has_false _ _).1 h2)
        · exact e
      rw [this]
    · left; simp [tellV, h1, h2]
  · right
    obtain ⟨i, hi, e⟩ := List.getElem_of_mem ((has_true _ _).1 h1)
    have hi' : i < ys.length := by omega
    have h3 : has d ys = true := by
      rw [has_true]
      rcases leqV_at xs ys h i hi hi' with e2 | e2
      · omega
      · rw [← e, e2]; exact List.getElem_mem hi'
    simp [tellV, h1, h3]

theorem tellV_val {d o : Int} (hd : d = 0 ∨ d = 1) (ho : o = 0 ∨ o = 1) (xs : List Int) : tellV d o xs = 0 ∨ tellV d o xs = 1 ∨ tellV d o xs = 2 := by
  unfold tellV; split
  · omega
  · split <;> omega
theorem own_below {w w' : World} {base : Nat} {e : TypeId} {size : Nat} {v : Value} {n : Nat} {xs : List Value} (h : w.ownsRow base e size v n xs) (hb : Below w.heap.size w w') : w'.ownsRow base e size v n xs := by
  obtain ⟨h1, h2⟩ := h
  refine ⟨h1, ?_⟩
  rcases h2 with h2 | ⟨g, cap, cur, hv, hg, hh, r⟩
  · exact Or.inl h2
  · exact Or.inr ⟨g, cap, cur, hv, hg, by rw [hb.block g (Array.getElem?_eq_some_iff.1 hh).1]; exact hh, r⟩

theorem own_ints {w : World} {base : Nat} {e : TypeId} {v : Value} {n : Nat} {ys : List Int} (h : w.ownsRow base e 1 v n (ys.map (fun x => Value.int .i64 x))) (hm : n ≤ maxLen) :
    ∃ a cap, v = .slice a n cap ∧ Ints w a n ys := by
  have hn : n = ys.length := by have := h.1; simpa using this.symm
  rcases h.2 with ⟨h1, h2⟩ | ⟨g, cap, cur, hv, hg, hh, r⟩
  · subst h2
    have : ys = [] := List.eq_nil_of_length_eq_zero hn.symm
    exact ⟨_, _, h1, hn, by omega, Or.inl this⟩
  · refine ⟨_, cap, hv, hn, by omega, Or.inr ⟨g, 0, rfl, (Array.getElem?_eq_some_iff.1 hh).1, fun i hi => ?_⟩⟩
    rw [hv] at h
    rw [Nat.zero_add, h.cellAt i (by omega)]
    simp [hi]

theorem Tryz.infoInt : (Tryz.prog.info? 3).map (fun i => (i.zero, i.size, i.bytes)) = some (some (.int .i64 0), 1, 8) := by kernel_rfl

theorem set_other {w : World} {bb k : Nat} {v : Value} {j : Nat} (h : j ≠ bb) : (w.setCell ⟨bb, k, none⟩ v).heap[j]? = w.heap[j]? := Below.heap_setCell w _ v j (by simpa using h)
/-- All but the blocks G lies as it did. -/
def KeptG (G : List Nat) (w w' : World) : Prop := w.heap.size ≤ w'.heap.size ∧ ∀ k, k < w.heap.size → k ∉ G → w'.heap[k]? = w.heap[k]?
theorem KeptG.refl (G : List Nat) (w : World) : KeptG G w w := ⟨Nat.le_refl _, fun _ _ _ => rfl⟩
theorem KeptG.of {G : List Nat} {w w' : World} (h : Below w.heap.size w w') : KeptG G w w' := ⟨h.size, fun k hk _ => h.block k hk⟩
theorem KeptG.trans {G : List Nat} {w w' w'' : World} (h : KeptG G w w') (h' : KeptG G w' w'') : KeptG G w w'' := ⟨Nat.le_trans h.1 h'.1, fun k hk hG => (h'.2 k (Nat.lt_of_lt_of_le hk h.1) hG).trans (h.2 k hk hG)⟩
theorem KeptG.grown {G : List Nat} {w w' : World} {row : Option Nat} (hg : w.grownBy w' row) (hr : ∀ b, row = some b → b ∈ G) : KeptG G w w' := ⟨hg.size, fun k hk hG => hg.block k hk (fun e => hG (hr k e.symm))⟩
theorem KeptG.set {G : List Nat} {w : World} {g k : Nat} (v : Value) (hg : g ∈ G) : KeptG G w (w.setCell ⟨g, k, none⟩ v) := ⟨Nat.le_of_eq (by simp), fun j _ hG => set_other (fun e => hG (e ▸ hg))⟩
theorem KeptG.block {G : List Nat} {w w' : World} (h : KeptG G w w') {b : Nat} (hb : b < w.heap.size) (hG : b ∉ G) : w'.heap[b]? = w.heap[b]? := h.2 b hb hG
theorem KeptG.mono {G G' : List Nat} {w w' : World} (h : KeptG G w w') (hs : ∀ b, b ∈ G → b ∈ G') : KeptG G' w w' := ⟨h.1, fun k hk hn => h.2 k hk (fun hm => hn (hs k hm))⟩
/-- It stays so, whatever is written into the blocks G. -/
def Kp (G : List Nat) (W : World) (Q : World → Prop) : Prop := ∀ W', KeptG G W W' → Q W'
theorem Kp.now {G : List Nat} {W : World} {Q : World → Prop} (h : Kp G W Q) : Q W := h W (KeptG.refl _ _)
theorem Kp.step {G G' : List Nat} {W W1 : World} {Q : World → Prop} (h : Kp G W Q) (hk : KeptG G W W1) (hG : ∀ g ∈ G', g ∈ G ∨ W.heap.size ≤ g) : Kp G' W1 Q := fun W' h' =>
  h W' ⟨Nat.le_trans hk.1 h'.1, fun k hk1 hkG => (h'.2 k (Nat.lt_of_lt_of_le hk1 hk.1) (fun hm => by rcases hG k hm with h1 | h1; exact hkG h1; omega)).trans (hk.2 k hk1 hkG)⟩
theorem Kp.on {G : List Nat} {W W1 : World} {Q : World → Prop} (h : Kp G W Q) (hb : Below W.heap.size W W1) : Kp G W1 Q := h.step (KeptG.of hb) (fun _ hg => Or.inl hg)
theorem Kp.box {G : List Nat} {W W1 : World} {Q : World → Prop} (h : Kp G W Q) (hb : Below W.heap.size W W1) : Kp (W.heap.size :: G) W1 Q := h.step (KeptG.of hb) (fun g hg => by
  rcases List.mem_cons.1 hg with h1 | h1
  · exact Or.inr (Nat.le_of_eq h1.symm)
  · exact Or.inl h1)
theorem Kp.less {G G' : List Nat} {W : World} {Q : World → Prop} (h : Kp G W Q) (hs : ∀ g ∈ G', g ∈ G) : Kp G' W Q := h.step (KeptG.refl _ _) (fun g hg => Or.inl (hs g hg))

end Go.Proofs.YtongajonecgdpagGreatDoor
