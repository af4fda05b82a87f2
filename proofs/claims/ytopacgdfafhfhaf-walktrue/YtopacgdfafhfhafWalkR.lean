/- The program's walker: goOn. -/
import Derived.Test.YtopacgdfafhfhafWalkQ
namespace Go.Proofs.Ytopacgdfafhfhaf
open Go.RowKit

theorem on_seq2 {p : List NodeD} {ws wo : List Bool} {ins : List Int} {m k : Nat} {s : NextD} (h : kindAt p k = 5) : onF p ws wo ins (m + 1) k s = (if someP p ws (k + 1) then (if (onF p ws wo ins m (k + 1) s).2 then beginF p wo ins m (endP p (k + 1)) (onF p ws wo ins m (k + 1) s).1 else ((onF p ws wo ins m (k + 1) s).1, false)) else onF p ws wo ins m (endP p (k + 1)) s) := by
  conv => lhs; unfold onF
  rw [h]; rfl
theorem set_no {l : List Bool} {k : Nat} (h : l.getD k false = false) : l.set k false = l := by
  by_cases hk : k < l.length
  · have h1 : l[k] = false := by simpa [List.getD_eq_getElem?_getD, hk] using h
    conv => lhs; rw [← h1]
    exact List.set_getElem_self hk
  · exact List.set_eq_of_length_le (by omega)
theorem hasIn_no {x : Int} (h0 : 0 ≤ x) (h7 : x ≤ 7) {k : Nat} (hk : k ≤ 2) : ((bitsV x 3).getD k 0 == 0) = !hasIn x k := by
  rcases three hk with rfl | rfl | rfl <;> rcases eight h0 h7 with rfl | rfl | rfl | rfl | rfl | rfl | rfl | rfl <;> decide +kernel
def goOne (p : List NodeD) (ws wo : List Bool) (ins : List Int) (m k : Nat) (s : NextD × Bool) : NextD × Bool := if someP p ws k then ((onF p ws wo ins m k s.1).1, s.2 && (onF p ws wo ins m k s.1).2) else s
theorem goOne_went (p : List NodeD) (ws wo : List Bool) (ins : List Int) (m k : Nat) (s : NextD × Bool) : Went4 p s.1 (goOne p ws wo ins m k s).1 := by
  unfold goOne
  split
  · exact on_went _ _ _ _ _ _ _
  · exact Went4.refl _ _
theorem on_both {p : List NodeD} {ws wo : List Bool} {ins : List Int} {m k : Nat} {s : NextD} (h : kindAt p k = 6 ∨ kindAt p k = 7 ∨ kindAt p k = 8) : onF p ws wo ins (m + 1) k s = goOne p ws wo ins m (endP p (k + 1)) (goOne p ws wo ins m (k + 1) (s, true)) := by
  have e1 : goOne p ws wo ins m (k + 1) (s, true) = (if someP p ws (k + 1) then onF p ws wo ins m (k + 1) s else (s, true)) := by
    unfold goOne
    split
    · simp
    · rfl
  rw [e1]
  unfold goOne
  conv => lhs; unfold onF
  rcases h with h | h | h <;> (rw [h]; rfl)
/-- What goOn is asked to do of node k. -/
def GoOn (sb gW gO : Nat) (p : List NodeD) (r : RestD) (x : Int) (a : Option Addr) (n c : Nat) (f : Bool) (wa : Option Addr) (wn wc : Nat) (oa : Option Addr) (on oc : Nat) (m k : Nat) (kv : Int) : Prop :=
  ∀ (s : NextD) (w : World), someP p r.waits k = true → (∀ i, k ≤ i → s.1.getD i false = false) → Kp [gW, gO] w (WkQ sb gW gO p r x a n c f wa wn wc oa on oc) → BoolRow w gW s.1 → BoolRow w gO s.2 → s.1.length = p.length → s.2.length = 3 →
    Calls Try.prog 29 #[.pointer (some ⟨sb, 0, none⟩), .int .i64 kv] w fun e w' => NextAt gW gO w w' (onF p r.waits r.outs (bitsV x 3) m k s) e

def Pair2 (g : Nat) (k1 k2 : Int) (W : World) : Prop := g < W.heap.size ∧ W.cell? ⟨g, 0, none⟩ = some (.int .i64 k1) ∧ W.cell? ⟨g, 1, none⟩ = some (.int .i64 k2)
set_option maxRecDepth 100000 in
set_option maxHeartbeats 4000000 in
theorem allGoOn_of (sb gW gO : Nat) (p : List NodeD) (r : RestD) (x : Int) (a : Option Addr) (n c : Nat) (f : Bool) (wa : Option Addr) (wn wc : Nat) (oa : Option Addr) (on oc : Nat) (ho : WkO p r x n c wn wc on gW gO) (m k1 k2 g : Nat) (hk1 : k1 < p.length) (hk2 : k2 < p.length) (hle : endP p k1 ≤ k2)
    (G1 : GoOn sb gW gO p r x a n c f wa wn wc oa on oc m k1 (k1 : Int)) (G2 : GoOn sb gW gO p r x a n c f wa wn wc oa on oc m k2 (k2 : Int))
    (s : NextD) (w : World) (hz : ∀ i, k1 ≤ i → s.1.getD i false = false) (hK : Kp [gW, gO] w (WkQ sb gW gO p r x a n c f wa wn wc oa on oc)) (hP : Kp [gW, gO] w (Pair2 g (k1 : Int) (k2 : Int))) (hW : BoolRow w gW s.1) (hO : BoolRow w gO s.2) (hl1 : s.1.length = p.length) (hl2 : s.2.length = 3) :
    Calls Try.prog 40 #[.pointer (some ⟨sb, 0, none⟩), .slice (some ⟨g, 0, none⟩) 2 2] w fun e w' => NextAt gW gO w w' (goOne p r.waits r.outs (bitsV x 3) m k2 (goOne p r.waits r.outs (bitsV x 3) m k1 (s, true))) e := by
  have hgt := end_gt hk1
  have hw1 := goOne_went p r.waits r.outs (bitsV x 3) m k1 (s, true)
  have hz2 : ∀ i, k2 ≤ i → (goOne p r.waits r.outs (bitsV x 3) m k1 (s, true)).1.1.getD i false = false := fun i hi => by
    have h0 := hz i (by omega)
    unfold goOne
    split
    · rename_i hs
      exact (on_above ho.ok _ _ _ ho.may m k1 s hk1 hs i (by omega)).trans h0
    · exact h0
  have HZ := hide (And.intro hz hz2)
  have HL := hide (And.intro (And.intro hl1 hl2) (And.intro (hw1.len.trans hl1) (hw1.outs.trans hl2)))
  clear hz hz2 hl1 hl2 hw1
  have HG := hide (And.intro G1 G2)
  clear G1 G2
  obtain ⟨s1, hs1⟩ : ∃ t, goOne p r.waits r.outs (bitsV x 3) m k1 (s, true) = t := ⟨_, rfl⟩
  have HS1 := hide hs1
  rw [hs1] at HZ HL ⊢
  clear hs1
  obtain ⟨s2, hs2⟩ : ∃ t, goOne p r.waits r.outs (bitsV x 3) m k2 s1 = t := ⟨_, rfl⟩
  have HS2 := hide hs2
  rw [hs2]
  clear hs2
  obtain ⟨⟨n1, o1⟩, b1⟩ := s1
  obtain ⟨⟨n2, o2⟩, b2⟩ := s2
  go_enter Try.func40, Try.ntmps40
  go_wp2_with fail
  go_loopw [5, 10] (fun ov iv wr => KeptS [gW, gO] w wr ∧ ((iv = .int .i64 0 ∧ ov = .bool true ∧ wr = w) ∨ (iv = .int .i64 1 ∧ ov = .bool b1 ∧ BoolRow wr gW n1 ∧ BoolRow wr gO o1) ∨ (iv = .int .i64 2 ∧ ov = .bool b2 ∧ BoolRow wr gW n2 ∧ BoolRow wr gO o2))) (fun _ iv _ => 2 - (intOf iv).toNat)
  case atStart => exact ⟨⟨KeptG.refl _ _, rfl, rfl, rfl⟩, Or.inl ⟨rfl, rfl, rfl⟩⟩
  case round =>
    obtain ⟨hk, h3⟩ := hrel
    have hKr := hK.step hk.1 (fun _ hg => Or.inl hg)
    obtain ⟨lg, p0, p1⟩ := (hP.step hk.1 (fun _ hg => Or.inl hg)).now
    rcases h3 with ⟨rfl, rfl, rfl⟩ | ⟨rfl, rfl, hW1, hO1⟩ | ⟨rfl, rfl, hW1, hO1⟩
    · go_wp2_with fail
      refine (someWait_any hKr.now ho k1 hk1).mono ?_
      rintro e w1 ⟨rfl, hb⟩
      cases hs : someP p r.waits k1
      · have R := hide (show ((s, true) : NextD × Bool) = ((n1, o1), b1) by rw [← unhide HS1]; unfold goOne; rw [hs]; rfl)
        have R2 := hide (Prod.mk.inj (unhide R))
        have hW2 := hW.on hb
        have hO2 := hO.on hb
        have hk2' := hk.trans (KeptS.of hb)
        go_wp2_with fail
        exact ⟨⟨hk2', Or.inr (Or.inl ⟨by go_num, by rw [(unhide R2).2], by rw [(unhide R2).1] at hW2; exact hW2, by rw [(unhide R2).1] at hO2; exact hO2⟩)⟩, by simp [intOf]⟩
      · have R := hide (show ((onF p r.waits r.outs (bitsV x 3) m k1 s).1, (onF p r.waits r.outs (bitsV x 3) m k1 s).2) = ((n1, o1), b1) by rw [← unhide HS1]; unfold goOne; rw [hs]; simp)
        go_wp2_with fail
        refine ((unhide HG).1 s _ hs (unhide HZ).1 (hKr.on hb) (hW.on hb) (hO.on hb) (unhide HL).1.1 (unhide HL).1.2).mono ?_
        rintro e w2 ⟨rfl, hW2, hO2, hk2'⟩
        have hk3 := (hk.trans (KeptS.of hb)).trans hk2'
        rw [(Prod.mk.inj (unhide R)).1] at hW2 hO2
        rw [(Prod.mk.inj (unhide R)).2]
        clear hk2' hb
        cases b1
        all_goals
          go_wp2_with fail
          exact ⟨⟨hk3, Or.inr (Or.inl ⟨by go_num, rfl, hW2, hO2⟩)⟩, by simp [intOf]⟩
    · go_wp2_with fail
      refine (someWait_any hKr.now ho k2 hk2).mono ?_
      rintro e w1 ⟨rfl, hb⟩
      cases hs : someP p r.waits k2
      · have R := hide (show (((n1, o1), b1) : NextD × Bool) = ((n2, o2), b2) by rw [← unhide HS2]; unfold goOne; rw [hs]; rfl)
        have hW2 := hW1.on hb
        have hO2 := hO1.on hb
        have hk2' := hk.trans (KeptS.of hb)
        go_wp2_with fail
        exact ⟨⟨hk2', Or.inr (Or.inr ⟨by go_num, by rw [(Prod.mk.inj (unhide R)).2], by rw [(Prod.mk.inj (Prod.mk.inj (unhide R)).1).1] at hW2; exact hW2, by rw [(Prod.mk.inj (Prod.mk.inj (unhide R)).1).2] at hO2; exact hO2⟩)⟩, by simp [intOf]⟩
      · have R := hide (show ((onF p r.waits r.outs (bitsV x 3) m k2 (n1, o1)).1, b1 && (onF p r.waits r.outs (bitsV x 3) m k2 (n1, o1)).2) = ((n2, o2), b2) by rw [← unhide HS2]; unfold goOne; rw [hs]; rfl)
        go_wp2_with fail
        refine ((unhide HG).2 (n1, o1) _ hs (unhide HZ).2 (hKr.on hb) (hW1.on hb) (hO1.on hb) (unhide HL).2.1 (unhide HL).2.2).mono ?_
        rintro e w2 ⟨rfl, hW2, hO2, hk2'⟩
        have hk3 := (hk.trans (KeptS.of hb)).trans hk2'
        rw [(Prod.mk.inj (unhide R)).1] at hW2 hO2
        have R2 := hide (Prod.mk.inj (unhide R)).2
        obtain ⟨bo, hbo⟩ : ∃ bo, (onF p r.waits r.outs (bitsV x 3) m k2 (n1, o1)).2 = bo := ⟨_, rfl⟩
        rw [hbo] at R2 ⊢
        clear hk2' hb hbo R
        cases bo
        · have R3 := hide (show b2 = false by rw [← unhide R2]; simp)
          go_wp2_with fail
          exact ⟨⟨hk3, Or.inr (Or.inr ⟨by go_num, by rw [unhide R3], hW2, hO2⟩)⟩, by simp [intOf]⟩
        · have R3 := hide (show b2 = b1 by rw [← unhide R2]; simp)
          go_wp2_with fail
          exact ⟨⟨hk3, Or.inr (Or.inr ⟨by go_num, by rw [unhide R3], hW2, hO2⟩)⟩, by simp [intOf]⟩
    · go_wp2_with fail
      go_ret
      exact ⟨rfl, hW1, hO1, hk⟩
end Go.Proofs.Ytopacgdfafhfhaf
