/- The document's texts: sign, NodeText. -/
import Derived.Test.YtongajonecgdpagGreatDoorTextM
import Derived.Laws.Concat
import Derived.Laws.IdiomStrings
import Derived.Deep.DeepCutAuto
import Derived.Deep.CutBlock
namespace Go.Proofs.YtongajonecgdpagGreatDoor
open Go.RowKit

theorem three' {k : Nat} (h : k ≤ 2) : k = 0 ∨ k = 1 ∨ k = 2 := by omega
theorem one_byte (w : World) (b : UInt8) (x : Int) (hx : x = (b.toNat : Int)) : (convert 86 9 (.slice (some ⟨w.heap.size, 0, none⟩) 1 1)).run Tryz.prog (w.alloc (.cells #[.int .u8 x] 5)) = .ok (.string ⟨[b].toArray⟩) (w.alloc (.cells #[.int .u8 x] 5)) := by
  subst hx
  exact run_convert_bytes_back (P := Tryz.prog) _ 86 9 5 ⟨w.heap.size, 0, none⟩ 1 [b] Tryz.underlying86 Tryz.underlying5 Tryz.underlying9 (fun j hj => by
    have : j = 0 := by simpa using hj
    subst this
    simp [Addr.add])
set_option maxHeartbeats 1000000 in
theorem sign_any (f n : Nat) (hf : f = 65 ∨ f = 120) (hn : n ≤ 2) (w : World) :
    Calls Tryz.prog 25 #[.int .u8 (f : Int), .int .i64 (n : Int)] w fun e w' => e = .returned (.string ⟨(letter f n).toArray⟩) ∧ Below w.heap.size w w' := by
  have hb := fun x => (Below.refl _ w).alloc (Nat.le_refl _) (.cells #[.int .u8 x] 5)
  rcases hf with rfl | rfl <;> rcases three' hn with rfl | rfl | rfl
  · have h1 := one_byte w 65 65 rfl
    go_enter Tryz.func25, Tryz.ntmps25
    go_wp2_with fail
    go_ret
    exact ⟨rfl, hb _⟩
  · have h1 := one_byte w 66 66 rfl
    go_enter Tryz.func25, Tryz.ntmps25
    go_wp2_with fail
    go_ret
    exact ⟨rfl, hb _⟩
  · have h1 := one_byte w 67 67 rfl
    go_enter Tryz.func25, Tryz.ntmps25
    go_wp2_with fail
    go_ret
    exact ⟨rfl, hb _⟩
  · have h1 := one_byte w 120 120 rfl
    go_enter Tryz.func25, Tryz.ntmps25
    go_wp2_with fail
    go_ret
    exact ⟨rfl, hb _⟩
  · have h1 := one_byte w 121 121 rfl
    go_enter Tryz.func25, Tryz.ntmps25
    go_wp2_with fail
    go_ret
    exact ⟨rfl, hb _⟩
  · have h1 := one_byte w 122 122 rfl
    go_enter Tryz.func25, Tryz.ntmps25
    go_wp2_with fail
    go_ret
    exact ⟨rfl, hb _⟩
theorem nineT {x : Int} (h : 0 ≤ x ∧ x ≤ 8) : x = 0 ∨ x = 1 ∨ x = 2 ∨ x = 3 ∨ x = 4 ∨ x = 5 ∨ x = 6 ∨ x = 7 ∨ x = 8 := by omega
theorem pairT (w : World) (u v : Value) (T : TypeId) : (w.alloc (.cells #[u, v] T)).cell? ⟨w.heap.size, 0, none⟩ = some u ∧ (w.alloc (.cells #[u, v] T)).cell? ⟨w.heap.size, 1, none⟩ = some v ∧ w.heap.size < (w.alloc (.cells #[u, v] T)).heap.size := ⟨by simp, by simp, by simp⟩
theorem sigN_of {p : List NodeD} {k x : Nat} (hk : k < p.length) (h : p[k].sig = (x : Int)) : sigN p k = x := by simp [sigN, List.getD_eq_getElem?_getD, hk, h]
theorem str_app (a b : List UInt8) : (⟨a.toArray⟩ : ByteArray) ++ ⟨b.toArray⟩ = ⟨(a ++ b).toArray⟩ := by rw [ByteArray.mk_append_mk]
theorem ret_str {a b : ByteArray} (h : a = b) : Ending.returned (.string a) = .returned (.string b) := by rw [h]
set_option maxRecDepth 100000 in
set_option maxHeartbeats 4000000 in
theorem NodeText_any (p : List NodeD) (a : Option Addr) (n c : Nat) (hok : POk p) (hn : n ≤ 14) : ∀ (m k : Nat) (w : World), p.length - k ≤ m → k < p.length → Nodes w a n p →
    Calls Tryz.prog 47 #[.slice a n c, .int .i64 (k : Int)] w fun e w' => e = .returned (.string ⟨(textL p m k).toArray⟩) ∧ Below w.heap.size w w'
  | 0, k, w, hm, hk, _ => by omega
  | m + 1, k, w, hm, hk, hN => by
    have HN := hide hN.1
    have hki : (k : Int) < (n : Int) := by have := unhide HN; omega
    obtain ⟨b, off, rfl, hbb, c1, c2⟩ := hN.at hk
    have hkd := hok.kinds p[k] (List.getElem_mem hk)
    have hsg := hok.sigs p[k] (List.getElem_mem hk)
    obtain ⟨z, hz⟩ := Int.eq_ofNat_of_zero_le hsg.1
    have HKA := hide (show kindAt p k = p[k].kind by simp [kindAt, List.getD_eq_getElem?_getD, hk])
    have HSA := hide (sigN_of hk hz)
    have hz2 : z ≤ 2 := by
      have h1 := hsg.2
      rw [hz] at h1
      unfold mostS at h1
      split at h1 <;> omega
    rw [hz] at c2
    have hb0 : Below w.heap.size w (w.alloc (.cells #[.int .i64 p[k].kind, .int .i64 (z : Int)] 93)) := (Below.refl _ _).alloc (Nat.le_refl _) _
    obtain ⟨y1, y2, y0⟩ := pairT w (.int .i64 p[k].kind) (.int .i64 (z : Int)) 93
    have hN1 := hN.below hb0
    have HP := hide (show hasP p[k].kind = true → k + 1 < p.length ∧ endP p (k + 1) < p.length from fun e => end_two hok.form hk e)
    clear hsg hz hN
    generalize hkg : p[k].kind = kd at *
    clear hkg
    go_enter Tryz.func47, Tryz.ntmps47
    go_upto_region 2 with fail
    generalize hw1 : w.alloc (.cells #[.int .i64 kd, .int .i64 (z : Int)] 93) = w1 at *
    clear hw1 c1 c2
    rcases nineT hkd with rfl | rfl | rfl | rfl | rfl | rfl | rfl | rfl | rfl
    · have R := hide (show textL p (m + 1) k = tNothing by unfold textL; rw [unhide HKA]; rfl)
      go_wp2_with fail
      go_ret
      exact ⟨ret_str (by rw [unhide R]; rfl), hb0⟩
    · have R := hide (show textL p (m + 1) k = tPause by unfold textL; rw [unhide HKA]; rfl)
      go_wp2_with fail
      go_ret
      exact ⟨ret_str (by rw [unhide R]; rfl), hb0⟩
    · have R := hide (show textL p (m + 1) k = tHalt by unfold textL; rw [unhide HKA]; rfl)
      go_wp2_with fail
      go_ret
      exact ⟨ret_str (by rw [unhide R]; rfl), hb0⟩
    · have R := hide (show textL p (m + 1) k = tEmit ++ letter 65 z by unfold textL; rw [unhide HKA, unhide HSA]; rfl)
      go_wp2_with fail
      refine (sign_any 65 z (Or.inl rfl) hz2 _).mono ?_
      rintro e w2 ⟨rfl, hb2⟩
      go_wp2_with fail
      go_ret
      exact ⟨ret_str (by rw [unhide R]; exact str_app tEmit (letter 65 z)), bstep hb0 hb2⟩
    · have R := hide (show textL p (m + 1) k = tAwait ++ letter 120 z by unfold textL; rw [unhide HKA, unhide HSA]; rfl)
      go_wp2_with fail
      refine (sign_any 120 z (Or.inr rfl) hz2 _).mono ?_
      rintro e w2 ⟨rfl, hb2⟩
      go_wp2_with fail
      go_ret
      exact ⟨ret_str (by rw [unhide R]; exact str_app tAwait (letter 120 z)), bstep hb0 hb2⟩
    all_goals
      obtain ⟨h1, h2⟩ := unhide HP rfl
      have h3 := end_gt h1
      have T1 : ∀ W : World, Nodes W (some ⟨b, off, none⟩) n p → Calls Tryz.prog 47 #[.slice (some ⟨b, off, none⟩) n c, .int .i64 ((k : Int) + 1)] W fun e w' => e = .returned (.string ⟨(textL p m (k + 1)).toArray⟩) ∧ Below W.heap.size W w' := fun W hW => by
        have := NodeText_any p (some ⟨b, off, none⟩) n c hok hn m (k + 1) W (by omega) h1 hW
        rwa [show ((k + 1 : Nat) : Int) = (k : Int) + 1 by omega] at this
      have TE : ∀ W : World, Nodes W (some ⟨b, off, none⟩) n p → Calls Tryz.prog 83 #[.slice (some ⟨b, off, none⟩) n c, .int .i64 ((k : Int) + 1)] W fun e w' => e = .returned (.int .i64 (endP p (k + 1) : Nat)) ∧ w' = W := fun W hW => by
        have := end_any p _ n c W hW hok.form hn p.length (k + 1) (by omega) h1
        rwa [show ((k + 1 : Nat) : Int) = (k : Int) + 1 by omega] at this
      have T2 : ∀ W : World, Nodes W (some ⟨b, off, none⟩) n p → Calls Tryz.prog 47 #[.slice (some ⟨b, off, none⟩) n c, .int .i64 (endP p (k + 1) : Nat)] W fun e w' => e = .returned (.string ⟨(textL p m (endP p (k + 1))).toArray⟩) ∧ Below W.heap.size W w' := fun W hW => NodeText_any p (some ⟨b, off, none⟩) n c hok hn m (endP p (k + 1)) W (by omega) h2 hW
      have q1 := text_le hok m h1
      have q2 := text_le hok m h2
      have HT := hide (And.intro T1 (And.intro TE T2))
      obtain ⟨l1, hl1⟩ : ∃ l, textL p m (k + 1) = l := ⟨_, rfl⟩
      obtain ⟨l2, hl2⟩ : ∃ l, textL p m (endP p (k + 1)) = l := ⟨_, rfl⟩
      rw [hl1, hl2] at HT
      rw [hl1] at q1
      rw [hl2] at q2
      have HL := hide (And.intro hl1 hl2)
      clear T1 TE T2 hl1 hl2
      go_wp2_with fail
      refine ((unhide HT).1 _ hN1).mono ?_
      rintro e w2 ⟨rfl, hb2⟩
      have hN2 := hN1.below hb2
      have B2 := bstep hb0 hb2
      have y12 := (hb2.cell (p := ⟨w.heap.size, 0, none⟩) y0).trans y1
      have y22 := (hb2.cell (p := ⟨w.heap.size, 1, none⟩) y0).trans y2
      have y02 := Nat.lt_of_lt_of_le y0 hb2.size
      clear hb0 hb2 y0 y1 y2 hN1
      go_wp2_with fail
      refine ((unhide HT).2.1 _ hN2).mono ?_
      rintro e w' ⟨rfl, rfl⟩
      rename World => w2
      go_wp2_with fail
      refine ((unhide HT).2.2 _ hN2).mono ?_
      rintro e w3 ⟨rfl, hb3⟩
      have B3 := bstep B2 hb3
      have y13 := (hb3.cell (p := ⟨w.heap.size, 0, none⟩) y02).trans y12
      have y23 := (hb3.cell (p := ⟨w.heap.size, 1, none⟩) y02).trans y22
      have y03 := Nat.lt_of_lt_of_le y02 hb3.size
      clear hb3 y02 y12 y22 B2 hN2
    · have R := hide (show textL p (m + 1) k = ((([40] ++ l1) ++ [59, 32]) ++ l2) ++ [41] by unfold textL; rw [unhide HKA, (unhide HL).1, (unhide HL).2]; rfl)
      go_wp2_with fail
      go_ret
      exact ⟨ret_str (by rw [unhide R, ← str_app, ← str_app, ← str_app, ← str_app]), B3⟩
    · have R := hide (show textL p (m + 1) k = ((([40] ++ l1) ++ [32, 124, 32]) ++ l2) ++ [41] by unfold textL; rw [unhide HKA, (unhide HL).1, (unhide HL).2]; rfl)
      go_wp2_with fail
      go_ret
      exact ⟨ret_str (by rw [unhide R, ← str_app, ← str_app, ← str_app, ← str_app]), B3⟩
    · have R := hide (show textL p (m + 1) k = (((((tIf ++ letter 120 z) ++ tThen) ++ l1) ++ tElse) ++ l2) ++ tEnd by unfold textL; rw [unhide HKA, unhide HSA, (unhide HL).1, (unhide HL).2]; rfl)
      go_wp2_with fail
      refine (sign_any 120 z (Or.inr rfl) hz2 _).mono ?_
      rintro e w4 ⟨rfl, hb4⟩
      have hlt : (letter 120 z).length = 1 := rfl
      go_wp2_with fail
      go_ret
      exact ⟨ret_str (by rw [unhide R, ← str_app, ← str_app, ← str_app, ← str_app, ← str_app, ← str_app]; rfl), bstep B3 hb4⟩
    · have R := hide (show textL p (m + 1) k = (((((tWas ++ letter 65 z) ++ tThen) ++ l1) ++ tElse) ++ l2) ++ tEnd by unfold textL; rw [unhide HKA, unhide HSA, (unhide HL).1, (unhide HL).2]; rfl)
      go_wp2_with fail
      refine (sign_any 65 z (Or.inl rfl) hz2 _).mono ?_
      rintro e w4 ⟨rfl, hb4⟩
      have hlt : (letter 65 z).length = 1 := rfl
      go_wp2_with fail
      go_ret
      exact ⟨ret_str (by rw [unhide R, ← str_app, ← str_app, ← str_app, ← str_app, ← str_app, ← str_app]; rfl), bstep B3 hb4⟩
end Go.Proofs.YtongajonecgdpagGreatDoor
