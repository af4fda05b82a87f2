/- Programs as text (plain). -/
import Derived.Test.YtongajonecgdpagGreatDoorProgM
namespace Go.Proofs.YtongajonecgdpagGreatDoor
open Go.RowKit

def tNothing : List UInt8 := [110, 111, 116, 104, 105, 110, 103]
def tPause : List UInt8 := [112, 97, 117, 115, 101]
def tHalt : List UInt8 := [104, 97, 108, 116]
def tEmit : List UInt8 := [101, 109, 105, 116, 32]
def tAwait : List UInt8 := [97, 119, 97, 105, 116, 32]
def tIf : List UInt8 := [105, 102, 32]
def tWas : List UInt8 := [119, 97, 115, 32]
def tThen : List UInt8 := [32, 116, 104, 101, 110, 32]
def tElse : List UInt8 := [32, 101, 108, 115, 101, 32]
def tEnd : List UInt8 := [32, 101, 110, 100]
def sigN (p : List NodeD) (k : Nat) : Nat := ((p.getD k ⟨0, 0⟩).sig).toNat
/-- A signal's letter. -/
def letter (from' : Nat) (n : Nat) : List UInt8 := [UInt8.ofNat (from' + n)]
def textL (p : List NodeD) : Nat → Nat → List UInt8
  | 0, _ => []
  | m + 1, k =>
    if kindAt p k = 0 then tNothing
    else if kindAt p k = 1 then tPause
    else if kindAt p k = 2 then tHalt
    else if kindAt p k = 3 then tEmit ++ letter 65 (sigN p k)
    else if kindAt p k = 4 then tAwait ++ letter 120 (sigN p k)
    else if kindAt p k = 5 then ((([40] ++ textL p m (k + 1)) ++ [59, 32]) ++ textL p m (endP p (k + 1))) ++ [41]
    else if kindAt p k = 6 then ((([40] ++ textL p m (k + 1)) ++ [32, 124, 32]) ++ textL p m (endP p (k + 1))) ++ [41]
    else if kindAt p k = 7 then (((((tIf ++ letter 120 (sigN p k)) ++ tThen) ++ textL p m (k + 1)) ++ tElse) ++ textL p m (endP p (k + 1))) ++ tEnd
    else (((((tWas ++ letter 65 (sigN p k)) ++ tThen) ++ textL p m (k + 1)) ++ tElse) ++ textL p m (endP p (k + 1))) ++ tEnd
theorem text_len {p : List NodeD} (hok : POk p) : ∀ (m k : Nat), k < p.length → (textL p m k).length ≤ 28 * (endP p k - k)
  | 0, k, _ => by simp [textL]
  | m + 1, k, hk => by
    have ih := text_len hok m
    have hgt := end_gt hk
    have hkd := hok.kinds p[k] (List.getElem_mem hk)
    have hkk : kindAt p k = p[k].kind := by simp [kindAt, List.getD_eq_getElem?_getD, hk]
    have hbig : hasP p[k].kind = true → (textL p m (k + 1)).length + (textL p m (endP p (k + 1))).length + 28 ≤ 28 * (endP p k - k) := fun hp => by
      obtain ⟨t1, t2⟩ := end_two hok.form hk hp
      have hn := end_node hk hp
      have g1 := end_gt t1
      have g2 := end_gt t2
      have i1 := ih _ t1
      have i2 := ih _ t2
      omega
    have hp5 : p[k].kind = 5 → hasP p[k].kind = true := fun e => by rw [e]; rfl
    have hp6 : p[k].kind = 6 → hasP p[k].kind = true := fun e => by rw [e]; rfl
    have hp7 : p[k].kind = 7 → hasP p[k].kind = true := fun e => by rw [e]; rfl
    have hp8 : p[k].kind = 8 → hasP p[k].kind = true := fun e => by rw [e]; rfl
    unfold textL
    rw [hkk]
    split
    · simp [tNothing]; omega
    split
    · simp [tPause]; omega
    split
    · simp [tHalt]; omega
    split
    · simp [tEmit, letter]; omega
    split
    · simp [tAwait, letter]; omega
    split
    · rename_i h; have := hbig (hp5 h); simp; omega
    split
    · rename_i h; have := hbig (hp6 h); simp; omega
    split
    · rename_i h; have := hbig (hp7 h); simp [tIf, tThen, tElse, tEnd, letter]; omega
    · have := hbig (hp8 (by omega)); simp [tWas, tThen, tElse, tEnd, letter]; omega
theorem text_le {p : List NodeD} (hok : POk p) (m : Nat) {k : Nat} (hk : k < p.length) : (textL p m k).length ≤ 400 := by
  have h1 := text_len hok m k hk
  have h2 := end_le hok.form hk
  have h3 := hok.few
  omega
end Go.Proofs.YtongajonecgdpagGreatDoor
