/- What a script's lines give: plain. -/
import Derived.Test.YtongajonecgdpagGreatDoorTextS
import Derived.Test.YtongajonecgdpagGreatDoorWalkT
import Derived.Test.YtongajonecgdpagGreatDoorForgeM
import Derived.Lib.IndexBytes
import Derived.Lib.IndexMore
import Derived.Lib.Join
import Derived.Lib.ItoaNum
import Derived.Lib.Bytealg
import Derived.Test.YtongajonecgdpagGreatDoorTextB
import Derived.Test.YtongajonecgdpagGreatDoorTickA
import Derived.Laws.DeepStrings4
import Derived.WalkSpells
namespace Go.Proofs.YtongajonecgdpagGreatDoor
open Go.RowKit

def dTick : List UInt8 := [116, 105, 99, 107]
def dRest : List UInt8 := [114, 101, 115, 116]
def dShow : List UInt8 := [115, 104, 111, 119]
def dAgain : List UInt8 := [97, 103, 97, 105, 110]
def dOver : List UInt8 := [111, 118, 101, 114]
def dOk : List UInt8 := [111, 107]
def dErr : List UInt8 := [101, 114, 114, 111, 114, 32, 49]
/-- The inputs' words of one instant. -/
def insT (x : Nat) : Nat → List UInt8
  | 0 => []
  | k + 1 => insT x k ++ (if x / 2 ^ k % 2 = 1 then 32 :: letter 120 k else [])
def tickL (x : Nat) : List UInt8 := dTick ++ insT x 3
def insOf (l : List UInt8) : Option Nat := (List.range 8).find? (fun x => tickL x == l)
def waitTo (ws : List Bool) : Nat → List (List UInt8)
  | 0 => []
  | k + 1 => waitTo ws k ++ (if ws.getD k false then [Lib.decDigits k] else [])
def putTo (os : List Bool) : Nat → List (List UInt8)
  | 0 => []
  | k + 1 => putTo os k ++ (if os.getD k false then [letter 65 k] else [])
def joinW (l : List (List UInt8)) : List UInt8 := if l = [] then [45] else Lib.join l [32]
def tickW (p : List NodeD) (r : RestD) (x : Nat) : List (List UInt8) := putTo (walkR p r (x : Int)).outs 3 ++ (if walkO p r (x : Int) then [dOver] else [])
def giveT (p : List NodeD) (s : List UInt8) (r : RestD) (l : List UInt8) : List UInt8 :=
  if l = dRest then joinW (waitTo r.waits p.length)
  else if l = dShow then s
  else if l = dAgain then dOk
  else match insOf l with
    | some x => joinW (tickW p r x)
    | none => dErr
def giveR (p : List NodeD) (r : RestD) (l : List UInt8) : RestD :=
  if l = dRest then r
  else if l = dShow then r
  else if l = dAgain then beginR p
  else match insOf l with
    | some x => walkR p r (x : Int)
    | none => r
/-- What the text behind gives, when so much of a line is read. -/
def runD (p : List NodeD) (s : List UInt8) : List UInt8 → List UInt8 → RestD → List UInt8
  | [], _, _ => []
  | c :: cs, ln, r => if c = 10 then giveT p s r ln ++ [10] ++ runD p s cs [] (giveR p r ln) else runD p s cs (ln ++ [c]) r
def deskE (s t : List UInt8) : Int :=
  if readE s = 0 then (if 4096 < t.length ∨ 40 < t.count 10 then 2 else if t = [] ∨ t.getLast? = some 10 then 0 else 1) else readE s
def deskT (s t : List UInt8) : List UInt8 := if deskE s t = 0 then runD (readL s) s t [] (beginR (readL s)) else []

theorem begin_ok {p : List NodeD} (h : checkP p = 0) : restE p (beginR p) = 0 := by unfold beginR; rw [if_pos h]; exact restE_fresh h
theorem ins_lt {l : List UInt8} {x : Nat} (h : insOf l = some x) : x < 8 ∧ tickL x = l := by
  have h1 := List.find?_some h
  have h2 := List.mem_of_find?_eq_some h
  exact ⟨List.mem_range.1 h2, by simpa using h1⟩
theorem walk_at {p : List NodeD} {r : RestD} (h : restE p r = 0) {x : Nat} (hx : x < 8) : walkE p r (x : Int) = 0 := by unfold walkE; rw [if_pos h, if_pos (by omega)]
theorem give_ok {p : List NodeD} {r : RestD} (h0 : checkP p = 0) (h : restE p r = 0) (l : List UInt8) : restE p (giveR p r l) = 0 := by
  unfold giveR
  split
  · exact h
  split
  · exact h
  split
  · exact begin_ok h0
  split
  · rename_i x hx
    exact walk_rest (walk_at h (ins_lt hx).1)
  · exact h
theorem insT_le (x : Nat) : ∀ k, (insT x k).length ≤ 2 * k
  | 0 => by simp [insT]
  | k + 1 => by
    have := insT_le x k
    unfold insT
    split <;> simp [letter] <;> omega
theorem join_le (l : List (List UInt8)) (m : Nat) (h : ∀ x ∈ l, x.length ≤ m) : (Lib.join l [32]).length ≤ (m + 1) * l.length := by
  cases l with
  | nil => simp [Lib.join]
  | cons a t =>
    rw [Lib.join_cons]
    have h1 := h a (by simp)
    have h2 : (Lib.joinTail [32] t).length ≤ (m + 1) * t.length := by
      have h3 : ∀ x ∈ t, x.length ≤ m := fun x hx => h x (by simp [hx])
      clear h h1
      induction t with
      | nil => simp [Lib.joinTail]
      | cons b t ih =>
        have e : Lib.joinTail [32] (b :: t) = ([32] ++ b) ++ Lib.joinTail [32] t := rfl
        have := ih (fun x hx => h3 x (by simp [hx]))
        have h4 := h3 b (by simp)
        rw [e, List.length_append, List.length_append, List.length_cons (a := b), Nat.mul_add]
        simp only [List.length_cons, List.length_nil]
        omega
    rw [List.length_append, List.length_cons, Nat.mul_add]
    omega
theorem join_le' (l : List (List UInt8)) (m : Nat) (h : ∀ x ∈ l, x.length ≤ m) : (joinW l).length ≤ (m + 1) * l.length + 1 := by
  unfold joinW
  split
  · simp
  · exact Nat.le_trans (join_le l m h) (Nat.le_succ _)
theorem digits_le (k : Nat) (h : k < 14) : (Lib.decDigits k).length ≤ 2 := by
  unfold Lib.decDigits
  split
  · simp
  · rw [Lib.decDigits, dif_pos (by omega)]; simp
theorem wait_len (ws : List Bool) : ∀ k, k ≤ 14 → (waitTo ws k).length ≤ k ∧ ∀ x ∈ waitTo ws k, x.length ≤ 2
  | 0, _ => ⟨Nat.le_refl _, fun x hx => by simp [waitTo] at hx⟩
  | k + 1, hk => by
    obtain ⟨h1, h2⟩ := wait_len ws k (by omega)
    have h3 := digits_le k (by omega)
    unfold waitTo
    split
    · refine ⟨by simp; omega, fun x hx => ?_⟩
      rcases List.mem_append.1 hx with h | h
      · exact h2 x h
      · rw [List.mem_singleton.1 h]; exact h3
    · rw [List.append_nil]
      exact ⟨by omega, h2⟩
theorem put_len (os : List Bool) : ∀ k, (putTo os k).length ≤ k ∧ ∀ x ∈ putTo os k, x.length ≤ 4
  | 0 => ⟨Nat.le_refl _, fun x hx => by simp [putTo] at hx⟩
  | k + 1 => by
    obtain ⟨h1, h2⟩ := put_len os k
    unfold putTo
    split
    · refine ⟨by simp; omega, fun x hx => ?_⟩
      rcases List.mem_append.1 hx with h | h
      · exact h2 x h
      · rw [List.mem_singleton.1 h]; simp [letter]
    · rw [List.append_nil]
      exact ⟨by omega, h2⟩
theorem tick_len (p : List NodeD) (r : RestD) (x : Nat) : (tickW p r x).length ≤ 4 ∧ ∀ y ∈ tickW p r x, y.length ≤ 4 := by
  obtain ⟨h1, h2⟩ := put_len (walkR p r (x : Int)).outs 3
  unfold tickW
  split
  · refine ⟨by simp; omega, fun y hy => ?_⟩
    rcases List.mem_append.1 hy with h | h
    · exact h2 y h
    · rw [List.mem_singleton.1 h]; simp [dOver]
  · rw [List.append_nil]
    exact ⟨by omega, h2⟩
theorem give_len {p : List NodeD} (hp : p.length ≤ 14) {s : List UInt8} (hs : s.length ≤ 4096) (r : RestD) (l : List UInt8) : (giveT p s r l).length ≤ 4096 := by
  unfold giveT
  split
  · obtain ⟨h1, h2⟩ := wait_len r.waits p.length hp
    have := join_le' _ 2 h2
    omega
  split
  · exact hs
  split
  · decide
  split
  · rename_i x _
    obtain ⟨h1, h2⟩ := tick_len p r x
    have := join_le' _ 4 h2
    omega
  · decide
theorem run_len {p : List NodeD} (hp : p.length ≤ 14) {s : List UInt8} (hs : s.length ≤ 4096) : ∀ (t ln : List UInt8) (r : RestD), (runD p s t ln r).length ≤ 4097 * t.count 10
  | [], ln, r => by simp [runD]
  | c :: cs, ln, r => by
    unfold runD
    split
    · rename_i h
      subst h
      have h1 := give_len hp hs r ln
      have h2 := run_len hp hs cs [] (giveR p r ln)
      rw [List.length_append, List.length_append, List.count_cons_self]
      simp only [List.length_cons, List.length_nil]
      omega
    · rename_i h
      have h2 := run_len hp hs cs (ln ++ [c]) r
      rw [List.count_cons_of_ne (fun e => h e)]
      exact h2
theorem run_cut (p : List NodeD) (s : List UInt8) : ∀ (a b ln : List UInt8) (r : RestD), (10 : UInt8) ∉ a → runD p s (a ++ 10 :: b) ln r = giveT p s r (ln ++ a) ++ [10] ++ runD p s b [] (giveR p r (ln ++ a))
  | [], b, ln, r, _ => by rw [List.append_nil]; show runD p s (10 :: b) ln r = _; rw [runD, if_pos rfl]
  | c :: a, b, ln, r, h => by
    have hc : c ≠ 10 := fun e => h (by rw [e]; simp)
    have ha : (10 : UInt8) ∉ a := fun e => h (by simp [e])
    show runD p s (c :: (a ++ 10 :: b)) ln r = _
    rw [runD, if_neg hc, run_cut p s a b (ln ++ [c]) r ha]
    simp
theorem index_at : ∀ (a b : List UInt8), (10 : UInt8) ∉ a → Lib.indexByte (a ++ 10 :: b) 10 = (a.length : Int)
  | [], b, _ => by simp [Lib.indexByte]
  | c :: a, b, h => by
    have hc : c ≠ 10 := fun e => h (by rw [e]; simp)
    have ih := index_at a b (fun e => h (by simp [e]))
    show Lib.indexByte (c :: (a ++ 10 :: b)) 10 = _
    unfold Lib.indexByte
    rw [ih]
    have h1 : (c == 10) = false := beq_eq_false_iff_ne.2 hc
    have h2 : ((a.length : Int) == -1) = false := beq_eq_false_iff_ne.2 (by omega)
    simp [h1, h2]
theorem first_ten : ∀ (t : List UInt8), (10 : UInt8) ∈ t → ∃ a b, t = a ++ 10 :: b ∧ (10 : UInt8) ∉ a
  | [], h => by simp at h
  | c :: t, h => by
    by_cases hc : c = 10
    · exact ⟨[], t, by rw [hc]; rfl, by simp⟩
    · have h' : (10 : UInt8) ∈ t := by
        rcases List.mem_cons.1 h with e | e
        · exact absurd e.symm hc
        · exact e
      obtain ⟨a, b, e, ha⟩ := first_ten t h'
      refine ⟨c :: a, b, by rw [e]; rfl, fun e2 => ?_⟩
      rcases List.mem_cons.1 e2 with e3 | e3
      · exact hc e3.symm
      · exact ha e3
/-- A text with a line feed: its first line, and what is behind. -/
theorem cut_at {t : List UInt8} (h : (10 : UInt8) ∈ t) : ∃ a b, t = a ++ 10 :: b ∧ (10 : UInt8) ∉ a ∧ Lib.cut t [10] = (a, b, true) := by
  obtain ⟨a, b, e, ha⟩ := first_ten t h
  refine ⟨a, b, e, ha, ?_⟩
  have h1 : Lib.index t [10] = (a.length : Int) := by rw [Lib.index_one, e, index_at a b ha]
  unfold Lib.cut
  rw [h1, if_pos (by omega), e]
  simp
/-- Nothing, or it ends with a line feed. -/
def EndsW (t : List UInt8) : Prop := t = [] ∨ t.getLast? = some 10
theorem ends_mem {t : List UInt8} (h : EndsW t) (h0 : t ≠ []) : (10 : UInt8) ∈ t := by
  rcases h with h | h
  · exact absurd h h0
  · exact List.mem_of_getLast? h
theorem ends_on {a b : List UInt8} (h : EndsW (a ++ 10 :: b)) : EndsW b := by
  cases b with
  | nil => exact Or.inl rfl
  | cons c b =>
    rcases h with h | h
    · simp at h
    · right
      rw [← h]
      simp [List.getLast?_append, List.getLast?_cons]
theorem suffix_is (t : List UInt8) (h : t ≠ []) : Lib.hasSuffix t [10] = decide (t.getLast? = some 10) := by
  obtain ⟨a, c, rfl⟩ : ∃ a c, t = a ++ [c] := ⟨t.dropLast, t.getLast h, (List.dropLast_concat_getLast h).symm⟩
  have e : Lib.hasSuffix (a ++ [c]) [10] = decide (c = 10) := by
    rw [Bool.eq_iff_iff]
    unfold Lib.hasSuffix
    rw [List.isSuffixOf_iff_suffix, decide_eq_true_iff]
    constructor
    · rintro ⟨z, hz⟩
      have := congrArg List.getLast? hz
      simp at this
      exact this.symm
    · rintro rfl
      exact ⟨a, rfl⟩
  rw [e]
  simp

theorem Tryz.infoStr : (Tryz.prog.info? 9).map (fun i => (i.zero, i.size, i.bytes)) = some (some (.string .empty), 1, 16) := by kernel_rfl
def strV (l : List (List UInt8)) : List Value := l.map (fun s => .string ⟨s.toArray⟩)
theorem strV_len (l : List (List UInt8)) : (strV l).length = l.length := by simp [strV]
theorem strV_snoc (l : List (List UInt8)) (x : List UInt8) : strV (l ++ [x]) = strV l ++ [.string ⟨x.toArray⟩] := by simp [strV]
/-- A row of texts. -/
def Strs (w : World) (a : Option Addr) (n : Nat) (l : List (List UInt8)) : Prop := n = l.length ∧ ((l = [] ∧ True) ∨ ∃ b, a = some ⟨b, 0, none⟩ ∧ b < w.heap.size ∧ ∀ j (h : j < l.length), w.cell? ⟨b, j, none⟩ = some (.string ⟨l[j].toArray⟩))
theorem Strs.below {w w' : World} {a : Option Addr} {n : Nat} {l : List (List UInt8)} (h : Strs w a n l) (hb : Below w.heap.size w w') : Strs w' a n l := by
  obtain ⟨h1, h2⟩ := h
  refine ⟨h1, ?_⟩
  rcases h2 with h2 | ⟨b, ha, hlt, hc⟩
  · exact Or.inl h2
  · exact Or.inr ⟨b, ha, Nat.lt_of_lt_of_le hlt hb.size, fun j hj => (hb.cell (p := ⟨b, j, none⟩) hlt).trans (hc j hj)⟩
theorem own_strs {w : World} {base : Nat} {v : Value} {n : Nat} {l : List (List UInt8)} (h : w.ownsRow base 9 1 v n (strV l)) : ∃ a cap, v = .slice a n cap ∧ Strs w a n l ∧ n ≤ cap := by
  have hn : n = l.length := by have := h.1; rw [strV_len] at this; omega
  rcases h.2 with ⟨h1, h2⟩ | ⟨g, cap, cur, hv, hg, hh, h4, r⟩
  · subst h2
    exact ⟨_, _, h1, ⟨hn, Or.inl ⟨List.eq_nil_of_length_eq_zero hn.symm, trivial⟩⟩, Nat.le_refl _⟩
  · refine ⟨_, cap, hv, ⟨hn, Or.inr ⟨g, rfl, (Array.getElem?_eq_some_iff.1 hh).1, fun j hj => ?_⟩⟩, h4⟩
    rw [hv] at h
    rw [h.cellAt j (by omega)]
    simp [strV, hj]
theorem Strs.cell {w : World} {a : Option Addr} {n : Nat} {l : List (List UInt8)} (h : Strs w a n l) (h0 : l ≠ []) : ∃ b, a = some ⟨b, 0, none⟩ ∧ b < w.heap.size ∧ ∀ j (h : j < l.length), w.cell? ⟨b, j, none⟩ = some (.string ⟨l[j].toArray⟩) := by
  rcases h.2 with ⟨h2, _⟩ | h2
  · exact absurd h2 h0
  · exact h2

theorem dig_one (n : Nat) (hn : n < 10) : Lib.decDigits n = [UInt8.ofNat (48 + n)] := by unfold Lib.decDigits; rw [dif_pos (by omega)]
theorem dig_two (n : Nat) (h1 : 10 ≤ n) (h2 : n < 20) : Lib.decDigits n = Lib.decDigits 1 ++ [UInt8.ofNat (48 + (n - 10))] := by
  conv => lhs; unfold Lib.decDigits
  rw [dif_neg (by omega), show n / 10 = 1 by omega, show n % 10 = n - 10 by omega]
set_option maxRecDepth 100000 in
theorem digit_one (n : Nat) (hn : n ≤ 9) (w : World) :
    Calls Tryz.prog 22 #[.int .i64 (n : Int)] w fun e w' => e = .returned (.string ⟨(Lib.decDigits n).toArray⟩) ∧ Below w.heap.size w w' := by
  have hb := fun x => (Below.refl _ w).alloc (Nat.le_refl _) (.cells #[.int .u8 x] 5)
  have R := hide (dig_one n (by omega))
  rcases (show n = 0 ∨ n = 1 ∨ n = 2 ∨ n = 3 ∨ n = 4 ∨ n = 5 ∨ n = 6 ∨ n = 7 ∨ n = 8 ∨ n = 9 by omega) with rfl | rfl | rfl | rfl | rfl | rfl | rfl | rfl | rfl | rfl
  · have h1 := one_byte w 48 48 rfl
    go_enter Tryz.func22, Tryz.ntmps22
    go_wp2_with fail
    go_ret
    exact ⟨ret_str (by rw [unhide R]; rfl), hb _⟩
  · have h1 := one_byte w 49 49 rfl
    go_enter Tryz.func22, Tryz.ntmps22
    go_wp2_with fail
    go_ret
    exact ⟨ret_str (by rw [unhide R]; rfl), hb _⟩
  · have h1 := one_byte w 50 50 rfl
    go_enter Tryz.func22, Tryz.ntmps22
    go_wp2_with fail
    go_ret
    exact ⟨ret_str (by rw [unhide R]; rfl), hb _⟩
  · have h1 := one_byte w 51 51 rfl
    go_enter Tryz.func22, Tryz.ntmps22
    go_wp2_with fail
    go_ret
    exact ⟨ret_str (by rw [unhide R]; rfl), hb _⟩
  · have h1 := one_byte w 52 52 rfl
    go_enter Tryz.func22, Tryz.ntmps22
    go_wp2_with fail
    go_ret
    exact ⟨ret_str (by rw [unhide R]; rfl), hb _⟩
  · have h1 := one_byte w 53 53 rfl
    go_enter Tryz.func22, Tryz.ntmps22
    go_wp2_with fail
    go_ret
    exact ⟨ret_str (by rw [unhide R]; rfl), hb _⟩
  · have h1 := one_byte w 54 54 rfl
    go_enter Tryz.func22, Tryz.ntmps22
    go_wp2_with fail
    go_ret
    exact ⟨ret_str (by rw [unhide R]; rfl), hb _⟩
  · have h1 := one_byte w 55 55 rfl
    go_enter Tryz.func22, Tryz.ntmps22
    go_wp2_with fail
    go_ret
    exact ⟨ret_str (by rw [unhide R]; rfl), hb _⟩
  · have h1 := one_byte w 56 56 rfl
    go_enter Tryz.func22, Tryz.ntmps22
    go_wp2_with fail
    go_ret
    exact ⟨ret_str (by rw [unhide R]; rfl), hb _⟩
  · have h1 := one_byte w 57 57 rfl
    go_enter Tryz.func22, Tryz.ntmps22
    go_wp2_with fail
    go_ret
    exact ⟨ret_str (by rw [unhide R]; rfl), hb _⟩
set_option maxRecDepth 100000 in
theorem Digits_any (n : Nat) (hn : n ≤ 13) (w : World) :
    Calls Tryz.prog 22 #[.int .i64 (n : Int)] w fun e w' => e = .returned (.string ⟨(Lib.decDigits n).toArray⟩) ∧ Below w.heap.size w w' := by
  by_cases h9 : n ≤ 9
  · exact digit_one n h9 w
  have hb := fun x => (Below.refl _ w).alloc (Nat.le_refl _) (.cells #[.int .u8 x] 5)
  have R := hide (dig_two n (by omega) (by omega))
  have hl : (Lib.decDigits 1).length ≤ 2 := digits_le 1 (by omega)
  have D := hide (fun W => digit_one 1 (by omega) W)
  generalize Lib.decDigits 1 = d1 at *
  rcases (show n = 10 ∨ n = 11 ∨ n = 12 ∨ n = 13 by omega) with rfl | rfl | rfl | rfl
  all_goals clear h9
  · have h1 := one_byte w 48 48 rfl
    go_enter Tryz.func22, Tryz.ntmps22
    go_wp2_with fail
    refine (unhide D _).mono ?_
    rintro e w2 ⟨rfl, hb2⟩
    go_wp2_with fail
    go_ret
    exact ⟨ret_str (by rw [unhide R]; exact str_app _ _), bstep (hb _) hb2⟩
  · have h1 := one_byte w 49 49 rfl
    go_enter Tryz.func22, Tryz.ntmps22
    go_wp2_with fail
    refine (unhide D _).mono ?_
    rintro e w2 ⟨rfl, hb2⟩
    go_wp2_with fail
    go_ret
    exact ⟨ret_str (by rw [unhide R]; exact str_app _ _), bstep (hb _) hb2⟩
  · have h1 := one_byte w 50 50 rfl
    go_enter Tryz.func22, Tryz.ntmps22
    go_wp2_with fail
    refine (unhide D _).mono ?_
    rintro e w2 ⟨rfl, hb2⟩
    go_wp2_with fail
    go_ret
    exact ⟨ret_str (by rw [unhide R]; exact str_app _ _), bstep (hb _) hb2⟩
  · have h1 := one_byte w 51 51 rfl
    go_enter Tryz.func22, Tryz.ntmps22
    go_wp2_with fail
    refine (unhide D _).mono ?_
    rintro e w2 ⟨rfl, hb2⟩
    go_wp2_with fail
    go_ret
    exact ⟨ret_str (by rw [unhide R]; exact str_app _ _), bstep (hb _) hb2⟩

theorem join_snoc {l : List (List UInt8)} (h : l ≠ []) (x : List UInt8) : Lib.join (l ++ [x]) [32] = (Lib.join l [32] ++ [32]) ++ x := by
  cases l with
  | nil => exact absurd rfl h
  | cons a t =>
    show Lib.join (a :: (t ++ [x])) [32] = _
    rw [Lib.join_cons, Lib.join_cons]
    simp [Lib.joinTail]
theorem join_take_le (l : List (List UInt8)) (k : Nat) : (Lib.join (l.take k) [32]).length ≤ (Lib.join l [32]).length := by
  cases l with
  | nil => simp
  | cons a t =>
    cases k with
    | zero => simp [Lib.join]
    | succ k =>
      rw [List.take_succ_cons, Lib.join_cons, Lib.join_cons]
      have e : Lib.joinTail [32] t = Lib.joinTail [32] (t.take k) ++ Lib.joinTail [32] (t.drop k) := by
        unfold Lib.joinTail
        rw [← List.flatten_append, ← List.map_append, List.take_append_drop]
      rw [e]
      simp
theorem mem_join_le {l : List (List UInt8)} {x : List UInt8} (h : x ∈ l) : x.length ≤ (Lib.join l [32]).length := by
  obtain ⟨i, hi, rfl⟩ := List.getElem_of_mem h
  have h1 := join_take_le l (i + 1)
  rw [List.take_succ_eq_append_getElem hi] at h1
  by_cases h0 : l.take i = []
  · rw [h0] at h1
    simpa [Lib.join_one] using h1
  · rw [join_snoc h0] at h1
    simp at h1
    omega
set_option maxRecDepth 100000 in
set_option maxHeartbeats 2000000 in
theorem joined_any (l : List (List UInt8)) (a : Option Addr) (n c : Nat) (w : World) (h : Strs w a n l) (hm : (Lib.join l [32]).length ≤ 100000) (hn : n ≤ 20) :
    Calls Tryz.prog 23 #[.slice a n c] w fun e w' => e = .returned (.string ⟨(joinW l).toArray⟩) ∧ Below w.heap.size w w' := by
  by_cases h0 : l = []
  · subst h0
    have hn0 : n = 0 := h.1
    subst hn0
    go_enter Tryz.func23, Tryz.ntmps23
    go_wp2_with fail
    go_ret
    exact ⟨rfl, Below.refl _ _⟩
  obtain ⟨b, rfl, hbb, hc⟩ := h.cell h0
  have hnl : n = l.length := h.1
  have hpos : 0 < l.length := List.length_pos_iff.2 h0
  have hn1 : ((n : Int) == 0) = false := beq_eq_false_iff_ne.2 (by omega)
  have hi1 : (0 : Int) < (n : Int) := by omega
  have R := hide (show joinW l = Lib.join l [32] by unfold joinW; rw [if_neg h0])
  have HC := hide hc
  have c0 := hc 0 hpos
  clear hc h
  go_enter Tryz.func23, Tryz.ntmps23
  go_wp2_with fail
  go_loopw [3, 4] (fun sv kv wr => ∃ k : Nat, 1 ≤ k ∧ k ≤ n ∧ kv = .int .i64 k ∧ sv = .string ⟨(Lib.join (l.take k) [32]).toArray⟩ ∧ Below w.heap.size w wr) (fun _ kv _ => n - (intOf kv).toNat)
  case atStart =>
    refine ⟨1, Nat.le_refl _, by omega, rfl, ?_, Below.refl _ _⟩
    have e : l.take 1 = [l[0]] := by rw [show (1 : Nat) = 0 + 1 from rfl, List.take_succ_eq_append_getElem hpos]; rfl
    rw [e, Lib.join_one]
  case round =>
    obtain ⟨k, hk1, hk, rfl, rfl, hbel⟩ := hrel
    by_cases hlt : k < n
    · have hkl : k < l.length := by omega
      have hki : (k : Int) < (n : Int) := by omega
      have ck := (hbel.cell (p := ⟨b, k, none⟩) hbb).trans (unhide HC k hkl)
      have q1 : (Lib.join (l.take k) [32]).length ≤ 100000 := Nat.le_trans (join_take_le l k) hm
      have q2 : (l[k]).length ≤ 100000 := Nat.le_trans (mem_join_le (List.getElem_mem hkl)) hm
      have R2 := hide (show Lib.join (l.take (k + 1)) [32] = (Lib.join (l.take k) [32] ++ [32]) ++ l[k] by
        rw [List.take_succ_eq_append_getElem hkl, join_snoc (by intro e; rw [List.take_eq_nil_iff] at e; rcases e with e | e; omega; exact h0 e)])
      generalize l[k] = x at *
      obtain ⟨u, hu⟩ : ∃ u, Lib.join (l.take k) [32] = u := ⟨_, rfl⟩
      rw [hu] at q1 R2 ⊢
      have e3 := hide (show (⟨u.toArray⟩ : ByteArray) ++ ⟨[32].toArray⟩ ++ ⟨x.toArray⟩ = ⟨((u ++ [32]) ++ x).toArray⟩ by rw [str_app, str_app])
      go_wp2_with fail
      exact ⟨⟨k + 1, by omega, by omega, by go_num, by rw [unhide R2]; exact congrArg Value.string (unhide e3), hbel⟩, by simp [intOf]; omega⟩
    · have hkn : k = n := by omega
      subst hkn
      rw [List.take_of_length_le (by omega)]
      go_wp2_with fail
      go_ret
      exact ⟨ret_str (by rw [unhide R]), hbel⟩

def insFrom (s : List UInt8) : Option Nat := (List.range 8).find? (fun x => insT x 3 == s)
theorem ins_some {s : List UInt8} {x : Nat} (hx : x < 8) (h : insT x 3 = s) (hno : ∀ y, y < x → insT y 3 ≠ s) : insFrom s = some x := by
  unfold insFrom
  rw [List.find?_eq_some_iff_getElem]
  refine ⟨by simpa using h, x, by simpa using hx, by simp, fun j hj => ?_⟩
  simpa using hno j hj
theorem ins_none {s : List UInt8} (hno : ∀ y, y < 8 → insT y 3 ≠ s) : insFrom s = none := by
  unfold insFrom
  rw [List.find?_eq_none]
  intro y hy
  simpa using hno y (List.mem_range.1 hy)
theorem tick_eq (x : Nat) (l : List UInt8) : (tickL x == l) = ((afterL l dTick).2 && (insT x 3 == (afterL l dTick).1)) := by
  rw [Bool.eq_iff_iff]
  unfold tickL afterL
  by_cases h : l.take dTick.length = dTick
  · rw [if_pos h]
    have e : l = dTick ++ l.drop dTick.length := by conv => lhs; rw [← List.take_append_drop dTick.length l, h]
    simp only [Bool.true_and, beq_iff_eq]
    constructor
    · intro h2; rw [← h2]; simp
    · intro h2; rw [h2]; exact e.symm
  · rw [if_neg h]
    simp only [Bool.false_and, beq_iff_eq]
    constructor
    · intro h2; exact absurd (by rw [← h2]; simp) h
    · intro h2; simp at h2
theorem ins_of (l : List UInt8) : insOf l = if (afterL l dTick).2 then insFrom (afterL l dTick).1 else none := by
  unfold insOf insFrom
  simp only [tick_eq]
  cases (afterL l dTick).2
  · simp
  · simp
set_option maxRecDepth 100000 in
set_option maxHeartbeats 2000000 in
theorem inputsFrom_any (s : List UInt8) (w : World) :
    Calls Tryz.prog 21 #[.string ⟨s.toArray⟩] w fun e w' => e = .returned (.tuple #[.int .i64 ((insFrom s).getD 0 : Nat), .bool (insFrom s).isSome]) ∧ Below w.heap.size w w' := by
  have PW := hide (fun W => power_any 3 (by omega) W)
  go_enter Tryz.func21, Tryz.ntmps21
  go_wp2_with fail
  go_loopw [5] (fun xv wr => ∃ x : Nat, x ≤ 8 ∧ xv = .int .i64 x ∧ Hid (∀ y, y < x → insT y 3 ≠ s) ∧ Below w.heap.size w wr) (fun xv _ => 8 - (intOf xv).toNat)
  case atStart => exact ⟨0, by omega, rfl, hide (fun y hy => by omega), Below.refl _ _⟩
  case round =>
    obtain ⟨x, hx, rfl, HNO, hbel⟩ := hrel
    go_wp2_with fail
    refine (unhide PW _).mono ?_
    rintro e w2 ⟨rfl, rfl⟩
    rename World => w2
    by_cases h8 : x < 8
    · have hx8 : (x : Int) < 8 := by omega
      go_wp2_with fail
      go_loopw [6, 7] (fun tv kv wr => ∃ k : Nat, k ≤ 3 ∧ kv = .int .i64 k ∧ tv = .string ⟨(insT x k).toArray⟩ ∧ Below w.heap.size w wr) (fun _ kv _ => 3 - (intOf kv).toNat)
      case atStart => exact ⟨0, by omega, rfl, rfl, hbel⟩
      case round =>
        obtain ⟨k, hk, rfl, rfl, hbel⟩ := hrel
        by_cases hk3 : k < 3
        · have hki : (k : Int) < 3 := by omega
          have q1 := insT_le x k
          have hx0 : (0 : Int) ≤ (x : Int) := by omega
          have hx1 : (x : Int) ≤ 1048576 := by omega
          have hkl : k < (bitsV (x : Int) 3).length := by rw [bitsV_len]; exact hk3
          have hval : (bitsV (x : Int) 3)[k] = ((x / 2 ^ k % 2 : Nat) : Int) := by simp [bitsV]
          go_wp2_with fail
          refine (bits_any (x : Int) 3 _ hx0 hx1 (by omega)).mono ?_
          rintro e wB ⟨aB, nB, cB, rfl, hIB, hbB⟩
          obtain ⟨b, off, rfl, hbb, c0⟩ := hIB.at hkl
          have hnB : nB = 3 := by rw [hIB.1, bitsV_len]
          subst hnB
          have hb3 := bstep hbel hbB
          rw [hval] at c0
          clear hval hIB hkl hbel hbB
          rcases (show x / 2 ^ k % 2 = 0 ∨ x / 2 ^ k % 2 = 1 by omega) with hb | hb
          · have R2 := hide (show insT x (k + 1) = insT x k by show insT x k ++ _ = _; rw [if_neg (by omega), List.append_nil])
            rw [hb] at c0
            go_wp2_with fail
            exact ⟨⟨k + 1, by omega, by go_num, by rw [unhide R2], hb3⟩, by simp [intOf]; omega⟩
          · have R2 := hide (show insT x (k + 1) = (insT x k ++ [32]) ++ letter 120 k by show insT x k ++ _ = _; rw [if_pos hb]; simp)
            rw [hb] at c0
            go_wp2_with fail
            refine (sign_any 120 k (Or.inr rfl) (by omega) _).mono ?_
            rintro e wS ⟨rfl, hbS⟩
            have hb4 := bstep hb3 hbS
            have q2 : (letter 120 k).length ≤ 1 := by simp [letter]
            generalize letter 120 k = y at *
            obtain ⟨u, hu⟩ : ∃ u, insT x k = u := ⟨_, rfl⟩
            rw [hu] at q1 R2 ⊢
            have e3 := hide (show (⟨u.toArray⟩ : ByteArray) ++ ⟨[32].toArray⟩ ++ ⟨y.toArray⟩ = ⟨((u ++ [32]) ++ y).toArray⟩ by rw [str_app, str_app])
            go_wp2_with fail
            exact ⟨⟨k + 1, by omega, by go_num, by rw [unhide R2]; exact congrArg Value.string (unhide e3), hb4⟩, by simp [intOf]; omega⟩
        · have hk3' : k = 3 := by omega
          subst hk3'
          by_cases he : insT x 3 = s
          · have R := hide (ins_some h8 he (unhide HNO))
            subst he
            go_wp2_with fail
            go_ret2
            rw [unhide R]
            exact ⟨rfl, hbel⟩
          · have hef : (insT x 3 == s) = false := by simp [he]
            have HN2 := hide (show ∀ y, y < x + 1 → insT y 3 ≠ s from fun y hy => if h : y < x then unhide HNO y h else by rw [show y = x by omega]; exact he)
            clear he
            generalize insT x 3 = u at *
            go_wp2_with fail
            exact ⟨⟨x + 1, by omega, by go_num, HN2, hbel⟩, by simp [intOf]; omega⟩
    · have hx8 : x = 8 := by omega
      subst hx8
      have R := hide (ins_none (unhide HNO))
      go_wp2_with fail
      go_ret2
      rw [unhide R]
      exact ⟨rfl, hbel⟩
end Go.Proofs.YtongajonecgdpagGreatDoor
