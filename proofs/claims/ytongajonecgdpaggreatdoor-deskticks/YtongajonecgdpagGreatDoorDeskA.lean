/- What a script's lines give: plain. -/
import Derived.Test.YtongajonecgdpagGreatDoorTextS
import Derived.Test.YtongajonecgdpagGreatDoorWalkT
import Derived.Test.YtongajonecgdpagGreatDoorForgeM
import Derived.Lib.IndexBytes
import Derived.Lib.IndexMore
import Derived.Lib.Join
import Derived.Lib.ItoaNum
import Derived.Lib.Bytealg
import Derived.Test.YtongajonecgdpagGreatDoorTextB
import Derived.Test.YtongajonecgdpagGreatDoorTickA
import Derived.Laws.DeepStrings4
import Derived.WalkSpells
namespace Go.Proofs.YtongajonecgdpagGreatDoor
open Go.RowKit

def dTick : List UInt8 := [116, 105, 99, 107]
def dRest : List UInt8 := [114, 101, 115, 116]
def dShow : List UInt8 := [115, 104, 111, 119]
def dAgain : List UInt8 := [97, 103, 97, 105, 110]
def dOver : List UInt8 := [111, 118, 101, 114]
def dOk : List UInt8 := [111, 107]
def dErr : List UInt8 := [101, 114, 114, 111, 114, 32, 49]
/-- The inputs' words of one instant. -/
def insT (x : Nat) : Nat → List UInt8
  | 0 => []
  | k + 1 => insT x k ++ (if x / 2 ^ k % 2 = 1 then 32 :: letter 120 k else [])
def tickL (x : Nat) : List UInt8 := dTick ++ insT x 3
def insOf (l : List UInt8) : Option Nat := (List.range 8).find? (fun x => tickL x == l)
def waitTo (ws : List Bool) : Nat → List (List UInt8)
  | 0 => []
  | k + 1 => waitTo ws k ++ (if ws.getD k false then [Lib.decDigits k] else [])
def putTo (os : List Bool) : Nat → List (List UInt8)
  | 0 => []
  | k + 1 => putTo os k ++ (if os.getD k false then [letter 65 k] else [])
def joinW (l : List (List UInt8)) : List UInt8 := if l = [] then [45] else Lib.join l [32]
def tickW (p : List NodeD) (r : RestD) (x : Nat) : List (List UInt8) := putTo (walkR p r (x : Int)).outs 3 ++ (if walkO p r (x : Int) then [dOver] else [])
def giveT (p : List NodeD) (s : List UInt8) (r : RestD) (l : List UInt8) : List UInt8 :=
  if l = dRest then joinW (waitTo r.waits p.length)
  else if l = dShow then s
  else if l = dAgain then dOk
  else match insOf l with
    | some x => joinW (tickW p r x)
    | none => dErr
def giveR (p : List NodeD) (r : RestD) (l : List UInt8) : RestD :=
  if l = dRest then r
  else if l = dShow then r
  else if l = dAgain then beginR p
  else match insOf l with
    | some x => walkR p r (x : Int)
    | none => r
/-- What the text behind gives, when so much of a line is read. -/
def runD (p : List NodeD) (s : List UInt8) : List UInt8 → List UInt8 → RestD → List UInt8
  | [], _, _ => []
  | c :: cs, ln, r => if c = 10 then giveT p s r ln ++ [10] ++ runD p s cs [] (giveR p r ln) else runD p s cs (ln ++ [c]) r
def deskE (s t : List UInt8) : Int :=
  if readE s = 0 then (if 4096 < t.length ∨ 40 < t.count 10 then 2 else if t = [] ∨ t.getLast? = some 10 then 0 else 1) else readE s
def deskT (s t : List UInt8) : List UInt8 := if deskE s t = 0 then runD (readL s) s t [] (beginR (readL s)) else []

theorem begin_ok {p : List NodeD} (h : checkP p = 0) : restE p (beginR p) = 0 := by unfold beginR; rw [if_pos h]; exact restE_fresh h
theorem ins_lt {l : List UInt8} {x : Nat} (h : insOf l = some x) : x < 8 ∧ tickL x = l := by
  have h1 := List.find?_some h
  have h2 := List.mem_of_find?_eq_some h
  exact ⟨List.mem_range.1 h2, by simpa using h1⟩
theorem walk_at {p : List NodeD} {r : RestD} (h : restE p r = 0) {x : Nat} (hx : x < 8) : walkE p r (x : Int) = 0 := by unfold walkE; rw [if_pos h, if_pos (by omega)]
theorem give_ok {p : List NodeD} {r : RestD} (h0 : checkP p = 0) (h : restE p r = 0) (l : List UInt8) : restE p (giveR p r l) = 0 := by
  unfold giveR
  split
  · exact h
  split
  · exact h
  split
  · exact begin_ok h0
  split
  · rename_i x hx
    exact walk_rest (walk_at h (ins_lt hx).1)
  · exact h
theorem insT_le (x : Nat) : ∀ k, (insT x k).length ≤ 2 * k
  | 0 => by simp [insT]
  | k + 1 => by
    have := insT_le x k
    unfold insT
    split <;> simp [letter] <;> omega
theorem join_le (l : List (List UInt8)) (m : Nat) (h : ∀ x ∈ l, x.length ≤ m) : (Lib.join l [32]).length ≤ (m + 1) * l.length := by
  cases l with
  | nil => simp [Lib.join]
  | cons a t =>
    rw [Lib.join_cons]
    have h1 := h a (by simp)
    have h2 : (Lib.joinTail [32] t).length ≤ (m + 1) * t.length := by
      have h3 : ∀ x ∈ t, x.length ≤ m := fun x hx => h x (by simp [hx])
      clear h h1
      induction t with
      | nil => simp [Lib.joinTail]
      | cons b t ih =>
        have e : Lib.joinTail [32] (b :: t) = ([32] ++ b) ++ Lib.joinTail [32] t := rfl
        have := ih (fun x hx => h3 x (by simp [hx]))
        have h4 := h3 b (by simp)
        rw [e, List.length_append, List.length_append, List.length_cons (a := b), Nat.mul_add]
        simp only [List.length_cons, List.length_nil]
        omega
    rw [List.length_append, List.length_cons, Nat.mul_add]
    omega
theorem join_le' (l : List (List UInt8)) (m : Nat) (h : ∀ x ∈ l, x.length ≤ m) : (joinW l).length ≤ (m + 1) * l.length + 1 := by
  unfold joinW
  split
  · simp
  · exact Nat.le_trans (join_le l m h) (Nat.le_succ _)
theorem digits_le (k : Nat) (h : k < 14) : (Lib.decDigits k).length ≤ 2 := by
  unfold Lib.decDigits
  split
  · simp
  · rw [Lib.decDigits, dif_pos (by omega)]; simp
theorem wait_len (ws : List Bool) : ∀ k, k ≤ 14 → (waitTo ws k).length ≤ k ∧ ∀ x ∈ waitTo ws k, x.length ≤ 2
  | 0, _ => ⟨Nat.le_refl _, fun x hx => by simp [waitTo] at hx⟩
  | k + 1, hk => by
    obtain ⟨h1, h2⟩ := wait_len ws k (by omega)
    have h3 := digits_le k (by omega)
    unfold waitTo
    split
    · refine ⟨by simp; omega, fun x hx => ?_⟩
      rcases List.mem_append.1 hx with h | h
      · exact h2 x h
      · rw [List.mem_singleton.1 h]; exact h3
    · rw [List.append_nil]
      exact ⟨by omega, h2⟩
theorem put_len (os : List Bool) : ∀ k, (putTo os k).length ≤ k ∧ ∀ x ∈ putTo os k, x.length ≤ 4
  | 0 => ⟨Nat.le_refl _, fun x hx => by simp [putTo] at hx⟩
  | k + 1 => by
    obtain ⟨h1, h2⟩ := put_len os k
    unfold putTo
    split
    · refine ⟨by simp; omega, fun x hx => ?_⟩
      rcases List.mem_append.1 hx with h | h
      · exact h2 x h
      · rw [List.mem_singleton.1 h]; simp [letter]
    · rw [List.append_nil]
      exact ⟨by omega, h2⟩
theorem tick_len (p : List NodeD) (r : RestD) (x : Nat) : (tickW p r x).length ≤ 4 ∧ ∀ y ∈ tickW p r x, y.length ≤ 4 := by
  obtain ⟨h1, h2⟩ := put_len (walkR p r (x : Int)).outs 3
  unfold tickW
  split
  · refine ⟨by simp; omega, fun y hy => ?_⟩
    rcases List.mem_append.1 hy with h | h
    · exact h2 y h
    · rw [List.mem_singleton.1 h]; simp [dOver]
  · rw [List.append_nil]
    exact ⟨by omega, h2⟩
theorem give_len {p : List NodeD} (hp : p.length ≤ 14) {s : List UInt8} (hs : s.length ≤ 4096) (r : RestD) (l : List UInt8) : (giveT p s r l).length ≤ 4096 := by
  unfold giveT
  split
  · obtain ⟨h1, h2⟩ := wait_len r.waits p.length hp
    have := join_le' _ 2 h2
    omega
  split
  · exact hs
  split
  · decide
  split
  · rename_i x _
    obtain ⟨h1, h2⟩ := tick_len p r x
    have := join_le' _ 4 h2
    omega
  · decide
theorem run_len {p : List NodeD} (hp : p.length ≤ 14) {s : List UInt8} (hs : s.length ≤ 4096) : ∀ (t ln : List UInt8) (r : RestD), (runD p s t ln r).length ≤ 4097 * t.count 10
  | [], ln, r => by simp [runD]
  | c :: cs, ln, r => by
    unfold runD
    split
    · rename_i h
      subst h
      have h1 := give_len hp hs r ln
      have h2 := run_len hp hs cs [] (giveR p r ln)
      rw [List.length_append, List.length_append, List.count_cons_self]
      simp only [List.length_cons, List.length_nil]
      omega
    · rename_i h
      have h2 := run_len hp hs cs (ln ++ [c]) r
      rw [List.count_cons_of_ne (fun e => h e)]
      exact h2
theorem run_cut (p : List NodeD) (s : List UInt8) : ∀ (a b ln : List UInt8) (r : RestD), (10 : UInt8) ∉ a → runD p s (a ++ 10 :: b) ln r = giveT p s r (ln ++ a) ++ [10] ++ runD p s b [] (giveR p r (ln ++ a))
  | [], b, ln, r, _ => by rw [List.append_nil]; show runD p s (10 :: b) ln r = _; rw [runD, if_pos rfl]
  | c :: a, b, ln, r, h => by
    have hc : c ≠ 10 := fun e => h (by rw [e]; simp)
    have ha : (10 : UInt8) ∉ a := fun e => h (by simp [e])
    show runD p s (c :: (a ++ 10 :: b)) ln r = _
    rw [runD, if_neg hc, run_cut p s a b (ln ++ [c]) r ha]
    simp
theorem index_at : ∀ (a b : List UInt8), (10 : UInt8) ∉ a → Lib.indexByte (a ++ 10 :: b) 10 = (a.length : Int)
  | [], b, _ => by simp [Lib.indexByte]
  | c :: a, b, h => by
    have hc : c ≠ 10 := fun e => h (by rw [e]; simp)
    have ih := index_at a b (fun e => h (by simp [e]))
    show Lib.indexByte (c :: (a ++ 10 :: b)) 10 = _
    unfold Lib.indexByte
    rw [ih]
    have h1 : (c == 10) = false := beq_eq_false_iff_ne.2 hc
    have h2 : ((a.length : Int) == -1) = false := beq_eq_false_iff_ne.2 (by omega)
    simp [h1, h2]
theorem first_ten : ∀ (t : List UInt8), (10 : UInt8) ∈ t → ∃ a b, t = a ++ 10 :: b ∧ (10 : UInt8) ∉ a
  | [], h => by simp at h
  | c :: t, h => by
    by_cases hc : c = 10
    · exact ⟨[], t, by rw [hc]; rfl, by simp⟩
    · have h' : (10 : UInt8) ∈ t := by
        rcases List.mem_cons.1 h with e | e
        · exact absurd e.symm hc
        · exact e
      obtain ⟨a, b, e, ha⟩ := first_ten t h'
      refine ⟨c :: a, b, by rw [e]; rfl, fun e2 => ?_⟩
      rcases List.mem_cons.1 e2 with e3 | e3
      · exact hc e3.symm
      · exact ha e3
/-- Nothing, or it ends with a line feed. -/
def EndsW (t : List UInt8) : Prop := t = [] ∨ t.getLast? = some 10
theorem ends_mem {t : List UInt8} (h : EndsW t) (h0 : t ≠ []) : (10 : UInt8) ∈ t := by
  rcases h with h | h
  · exact absurd h h0
  · exact List.mem_of_getLast? h
theorem ends_on {a b : List UInt8} (h : EndsW (a ++ 10 :: b)) : EndsW b := by
  cases b with
  | nil => exact Or.inl rfl
  | cons c b =>
    rcases h with h | h
    · simp at h
    · right
      rw [← h]
      simp [List.getLast?_append, List.getLast?_cons]
theorem suffix_is (t : List UInt8) (h : t ≠ []) : Lib.hasSuffix t [10] = decide (t.getLast? = some 10) := by
  obtain ⟨a, c, rfl⟩ : ∃ a c, t = a ++ [c] := ⟨t.dropLast, t.getLast h, (List.dropLast_concat_getLast h).symm⟩
  have e : Lib.hasSuffix (a ++ [c]) [10] = decide (c = 10) := by
    rw [Bool.eq_iff_iff]
    unfold Lib.hasSuffix
    rw [List.isSuffixOf_iff_suffix, decide_eq_true_iff]
    constructor
    · rintro ⟨z, hz⟩
      have := congrArg List.getLast? hz
      simp at this
      exact this.symm
    · rintro rfl
      exact ⟨a, rfl⟩
  rw [e]
  simp

theorem Tryz.infoStr : (Tryz.prog.info? 9).map (fun i => (i.zero, i.size, i.bytes)) = some (some (.string .empty), 1, 16) := by kernel_rfl
def strV (l : List (List UInt8)) : List Value := l.map (fun s => .string ⟨s.toArray⟩)
theorem strV_len (l : List (List UInt8)) : (strV l).length = l.length := by simp [strV]
theorem strV_snoc (l : List (List UInt8)) (x : List UInt8) : strV (l ++ [x]) = strV l ++ [.string ⟨x.toArray⟩] := by simp [strV]
/-- A row of texts. -/
def Strs (w : World) (a : Option Addr) (n : Nat) (l : List (List UInt8)) : Prop := n = l.length ∧ ((l = [] ∧ True) ∨ ∃ b, a = some ⟨b, 0, none⟩ ∧ b < w.heap.size ∧ ∀ j (h : j < l.length), w.cell? ⟨b, j, none⟩ = some (.string ⟨l[j].toArray⟩))
theorem Strs.below {w w' : World} {a : Option Addr} {n : Nat} {l : List (List UInt8)} (h : Strs w a n l) (hb : Below w.heap.size w w') : Strs w' a n l := by
  obtain ⟨h1, h2⟩ := h
  refine ⟨h1, ?_⟩
  rcases h2 with h2 | ⟨b, ha, hlt, hc⟩
  · exact Or.inl h2
  · exact Or.inr ⟨b, ha, Nat.lt_of_lt_of_le hlt hb.size, fun j hj => (hb.cell (p := ⟨b, j, none⟩) hlt).trans (hc j hj)⟩
theorem own_strs {w : World} {base : Nat} {v : Value} {n : Nat} {l : List (List UInt8)} (h : w.ownsRow base 9 1 v n (strV l)) : ∃ a cap, v = .slice a n cap ∧ Strs w a n l ∧ n ≤ cap := by
  have hn : n = l.length := by have := h.1; rw [strV_len] at this; omega
  rcases h.2 with ⟨h1, h2⟩ | ⟨g, cap, cur, hv, hg, hh, h4, r⟩
  · subst h2
    exact ⟨_, _, h1, ⟨hn, Or.inl ⟨List.eq_nil_of_length_eq_zero hn.symm, trivial⟩⟩, Nat.le_refl _⟩
  · refine ⟨_, cap, hv, ⟨hn, Or.inr ⟨g, rfl, (Array.getElem?_eq_some_iff.1 hh).1, fun j hj => ?_⟩⟩, h4⟩
    rw [hv] at h
    rw [h.cellAt j (by omega)]
    simp [strV, hj]
theorem Strs.cell {w : World} {a : Option Addr} {n : Nat} {l : List (List UInt8)} (h : Strs w a n l) (h0 : l ≠ []) : ∃ b, a = some ⟨b, 0, none⟩ ∧ b < w.heap.size ∧ ∀ j (h : j < l.length), w.cell? ⟨b, j, none⟩ = some (.string ⟨l[j].toArray⟩) := by
  rcases h.2 with ⟨h2, _⟩ | h2
  · exact absurd h2 h0
  · exact h2

theorem dig_one (n : Nat) (hn : n < 10) : Lib.decDigits n = [UInt8.ofNat (48 + n)] := by unfold Lib.decDigits; rw [dif_pos (by omega)]
theorem join_snoc {l : List (List UInt8)} (h : l ≠ []) (x : List UInt8) : Lib.join (l ++ [x]) [32] = (Lib.join l [32] ++ [32]) ++ x := by
  cases l with
  | nil => exact absurd rfl h
  | cons a t =>
    show Lib.join (a :: (t ++ [x])) [32] = _
    rw [Lib.join_cons, Lib.join_cons]
    simp [Lib.joinTail]
end Go.Proofs.YtongajonecgdpagGreatDoor
