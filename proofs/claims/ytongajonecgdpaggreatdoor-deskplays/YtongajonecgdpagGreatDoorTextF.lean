/- The document's nodeFrom: a node, read from a text. -/
import Derived.Test.YtongajonecgdpagGreatDoorTextE
import Derived.Deep.Upon
import Derived.Deep.DeepCutAuto
import Derived.Deep.CutBlock
import Derived.Deep.RegionHeld3
import Derived.Deep.LoopGhost
namespace Go.Proofs.YtongajonecgdpagGreatDoor
open Go.RowKit

def plainW (k : Nat) : List UInt8 := if k = 0 then tNothing else if k = 1 then tPause else tHalt
def wordW (k : Nat) : List UInt8 := if k = 0 then tEmit else if k = 1 then tAwait else if k = 2 then tIf else tWas
def kindW (k : Nat) : Int := if k = 0 then 3 else if k = 1 then 4 else if k = 2 then 7 else 8
def firstW (k : Nat) : Nat := if k = 0 then 65 else if k = 1 then 120 else if k = 2 then 120 else 65
def fromP (f : List UInt8 → Int → Option (List NodeD × List UInt8)) (s : List UInt8) (left : Int) : Option (List NodeD × List UInt8) :=
  if (afterL s [40]).2 then ((twoF f ⟨5, 0⟩ (afterL s [40]).1 [] [59, 32] [41] left).orElse fun _ => twoF f ⟨6, 0⟩ (afterL s [40]).1 [] [32, 124, 32] [41] left) else none
def fromB (f : List UInt8 → Int → Option (List NodeD × List UInt8)) (s : List UInt8) (left : Int) : Option (List NodeD × List UInt8) :=
  if (afterL s tEmit).2 then (letF 65 (afterL s tEmit).1).map (fun q => ([⟨3, (q.1 : Int)⟩], q.2))
  else if (afterL s tAwait).2 then (letF 120 (afterL s tAwait).1).map (fun q => ([⟨4, (q.1 : Int)⟩], q.2))
  else if (afterL s tIf).2 then (letF 120 (afterL s tIf).1).bind (fun q => twoF f ⟨7, (q.1 : Int)⟩ q.2 tThen tElse tEnd left)
  else if (afterL s tWas).2 then (letF 65 (afterL s tWas).1).bind (fun q => twoF f ⟨8, (q.1 : Int)⟩ q.2 tThen tElse tEnd left)
  else fromP f s left
/-- Behind one of the four words, and its letter. -/
def wordF (f : List UInt8 → Int → Option (List NodeD × List UInt8)) (k z : Nat) (cs : List UInt8) (left : Int) : Option (List NodeD × List UInt8) :=
  if k < 2 then some ([⟨kindW k, (z : Int)⟩], cs) else twoF f ⟨kindW k, (z : Int)⟩ cs tThen tElse tEnd left
theorem four {k : Nat} (h : k < 4) : k = 0 ∨ k = 1 ∨ k = 2 ∨ k = 3 := by omega
theorem plain_hit {m k : Nat} {s : List UInt8} {left : Int} (h0 : ¬ left ≤ 0) (hk : k < 3) (hno : ∀ i, i < k → (afterL s (plainW i)).2 = false) (hit : (afterL s (plainW k)).2 = true) : fromF (m + 1) s left = some ([⟨(k : Int), 0⟩], (afterL s (plainW k)).1) := by
  unfold fromF
  rw [if_neg h0]
  have e0 := hno 0
  have e1 := hno 1
  rcases (show k = 0 ∨ k = 1 ∨ k = 2 by omega) with rfl | rfl | rfl
  · have hit : (afterL s tNothing).2 = true := hit
    rw [if_pos hit]; rfl
  · have e0 : (afterL s tNothing).2 = false := e0 (by omega)
    have hit : (afterL s tPause).2 = true := hit
    rw [if_neg (by rw [e0]; simp), if_pos hit]; rfl
  · have e0 : (afterL s tNothing).2 = false := e0 (by omega)
    have e1 : (afterL s tPause).2 = false := e1 (by omega)
    have hit : (afterL s tHalt).2 = true := hit
    rw [if_neg (by rw [e0]; simp), if_neg (by rw [e1]; simp), if_pos hit]; rfl
theorem plain_none {m : Nat} {s : List UInt8} {left : Int} (h0 : ¬ left ≤ 0) (hno : ∀ i, i < 3 → (afterL s (plainW i)).2 = false) : fromF (m + 1) s left = fromB (fromF m) s left := by
  have e0 : (afterL s tNothing).2 = false := hno 0 (by omega)
  have e1 : (afterL s tPause).2 = false := hno 1 (by omega)
  have e2 : (afterL s tHalt).2 = false := hno 2 (by omega)
  conv => lhs; unfold fromF
  rw [if_neg h0, if_neg (by rw [e0]; simp), if_neg (by rw [e1]; simp), if_neg (by rw [e2]; simp)]
  rfl
theorem word_hit {f : List UInt8 → Int → Option (List NodeD × List UInt8)} {k : Nat} {s : List UInt8} {left : Int} (hk : k < 4) (hno : ∀ i, i < k → (afterL s (wordW i)).2 = false) (hit : (afterL s (wordW k)).2 = true) : fromB f s left = (letF (firstW k) (afterL s (wordW k)).1).bind (fun q => wordF f k q.1 q.2 left) := by
  have e0 := hno 0
  have e1 := hno 1
  have e2 := hno 2
  unfold fromB
  rcases four hk with rfl | rfl | rfl | rfl
  · have hit : (afterL s tEmit).2 = true := hit
    rw [if_pos hit]
    show _ = (letF 65 (afterL s tEmit).1).bind _
    cases letF 65 (afterL s tEmit).1 <;> rfl
  · have e0 : (afterL s tEmit).2 = false := e0 (by omega)
    have hit : (afterL s tAwait).2 = true := hit
    rw [if_neg (by rw [e0]; simp), if_pos hit]
    show _ = (letF 120 (afterL s tAwait).1).bind _
    cases letF 120 (afterL s tAwait).1 <;> rfl
  · have e0 : (afterL s tEmit).2 = false := e0 (by omega)
    have e1 : (afterL s tAwait).2 = false := e1 (by omega)
    have hit : (afterL s tIf).2 = true := hit
    rw [if_neg (by rw [e0]; simp), if_neg (by rw [e1]; simp), if_pos hit]; rfl
  · have e0 : (afterL s tEmit).2 = false := e0 (by omega)
    have e1 : (afterL s tAwait).2 = false := e1 (by omega)
    have e2 : (afterL s tIf).2 = false := e2 (by omega)
    have hit : (afterL s tWas).2 = true := hit
    rw [if_neg (by rw [e0]; simp), if_neg (by rw [e1]; simp), if_neg (by rw [e2]; simp), if_pos hit]; rfl
theorem word_none {f : List UInt8 → Int → Option (List NodeD × List UInt8)} {s : List UInt8} {left : Int} (hno : ∀ i, i < 4 → (afterL s (wordW i)).2 = false) : fromB f s left = fromP f s left := by
  have e0 : (afterL s tEmit).2 = false := hno 0 (by omega)
  have e1 : (afterL s tAwait).2 = false := hno 1 (by omega)
  have e2 : (afterL s tIf).2 = false := hno 2 (by omega)
  have e3 : (afterL s tWas).2 = false := hno 3 (by omega)
  unfold fromB
  rw [if_neg (by rw [e0]; simp), if_neg (by rw [e1]; simp), if_neg (by rw [e2]; simp), if_neg (by rw [e3]; simp)]
theorem nodes_new (w : World) (x : NodeD) : Nodes (w.alloc (.cells #[.int .i64 x.kind, .int .i64 x.sig] 93)) (some ⟨w.heap.size, 0, none⟩) 1 [x] := by
  obtain ⟨y1, y2, y0⟩ := pairT w (.int .i64 x.kind) (.int .i64 x.sig) 93
  refine ⟨rfl, by unfold maxLen; simp, Or.inr ⟨w.heap.size, 0, rfl, y0, fun i hi => ?_⟩⟩
  have hi0 : i = 0 := by simpa using hi
  subst hi0
  exact ⟨y1, y2⟩
theorem more_no2 {P : Nat → Bool} {n : Nat} (h : ∀ i, i < n → P i = false) (hn : P n = false) : ∀ i, i < n + 1 → P i = false := fun i hi => by
  rcases Nat.lt_or_ge i n with h1 | h1
  · exact h i h1
  · rw [show i = n by omega]; exact hn

theorem index_first (c : UInt8) (cs : List UInt8) (W : World) : (Instr.index 9 (.string ⟨(c :: cs).toArray⟩) (.int .i64 0)).run Tryz.prog W = .ok (.int .u8 c.toNat) W := by
  have hi : (0 : Int) < ((c :: cs).length : Int) := by simp
  go_simp
  rfl
theorem str_first (c : UInt8) (cs : List UInt8) : (⟨(c :: cs).toArray⟩ : ByteArray).extract 1 (c :: cs).length = ⟨cs.toArray⟩ := by
  rw [str_drop]; rfl
def strsW : List Value := [.string ⟨#[101, 109, 105, 116, 32]⟩, .string ⟨#[97, 119, 97, 105, 116, 32]⟩, .string ⟨#[105, 102, 32]⟩, .string ⟨#[119, 97, 115, 32]⟩]
def kindsW : List Value := [.int .i64 3, .int .i64 4, .int .i64 7, .int .i64 8]
def firstsW : List Value := [.int .u8 65, .int .u8 120, .int .u8 120, .int .u8 65]
theorem at_words {w : World} {g k : Nat} (h : Cells w g strsW 9) (hk : k < 4) : w.cell? ⟨g, k, none⟩ = some (.string ⟨(wordW k).toArray⟩) := by
  rw [h.cell k]; rcases four hk with rfl | rfl | rfl | rfl <;> rfl
theorem at_kinds {w : World} {g k : Nat} (h : Cells w g kindsW 3) (hk : k < 4) : w.cell? ⟨g, k, none⟩ = some (.int .i64 (kindW k)) := by
  rw [h.cell k]; rcases four hk with rfl | rfl | rfl | rfl <;> rfl
theorem at_firsts {w : World} {g k : Nat} (h : Cells w g firstsW 5) (hk : k < 4) : w.cell? ⟨g, k, none⟩ = some (.int .u8 (firstW k : Nat)) := by
  rw [h.cell k]; rcases four hk with rfl | rfl | rfl | rfl <;> rfl
theorem cells_on {w w' : World} {g : Nat} {vs : List Value} {T : TypeId} (h : Cells w g vs T) (hb : Below w.heap.size w w') : Cells w' g vs T := (hb.block g h.lt).trans h
theorem first_in {k : Nat} (hk : k < 4) : 65 ≤ firstW k ∧ firstW k ≤ 120 := by
  rcases four hk with rfl | rfl | rfl | rfl <;> decide
theorem let_some {F : Nat} {c : UInt8} {cs : List UInt8} (h1 : F ≤ c.toNat) (h2 : c.toNat ≤ F + 2) : letF F (c :: cs) = some (c.toNat - F, cs) := by
  unfold letF; exact if_pos ⟨h1, h2⟩
theorem let_none {F : Nat} {c : UInt8} {cs : List UInt8} (h : ¬ (F ≤ c.toNat ∧ c.toNat ≤ F + 2)) : letF F (c :: cs) = none := by
  unfold letF; exact if_neg h

set_option maxRecDepth 100000 in
set_option maxHeartbeats 8000000 in
theorem from_step (m : Nat) (IH : FromC m) : FromC (m + 1) := by
  intro s left w h1 h2 h3
  by_cases h0 : left ≤ 0
  · have HN := hide (show fromF (m + 1) s left = none by unfold fromF; rw [if_pos h0])
    go_enter Tryz.func45, Tryz.ntmps45
    go_wp2_with fail
    go_ret3
    exact from_no (unhide HN) rfl (Below.refl _ _)
  have HPH := hide (fun k hk hno hit => plain_hit (m := m) (s := s) (k := k) h0 hk hno hit)
  have HPN := hide (fun hno => plain_none (m := m) (s := s) h0 hno)
  have hpos : 0 < left := by omega
  have hb1 : Below w.heap.size w (w.alloc (.cells #[.string ⟨#[110, 111, 116, 104, 105, 110, 103]⟩, .string ⟨#[112, 97, 117, 115, 101]⟩, .string ⟨#[104, 97, 108, 116]⟩] 9)) := (Below.refl _ _).alloc (Nat.le_refl _) _
  have hcP := Cells.new w [.string ⟨#[110, 111, 116, 104, 105, 110, 103]⟩, .string ⟨#[112, 97, 117, 115, 101]⟩, .string ⟨#[104, 97, 108, 116]⟩] 9
  clear h0
  go_enter Tryz.func45, Tryz.ntmps45
  go_wp2_with fail
  generalize w.alloc (.cells #[.string ⟨#[110, 111, 116, 104, 105, 110, 103]⟩, .string ⟨#[112, 97, 117, 115, 101]⟩, .string ⟨#[104, 97, 108, 116]⟩] 9) = w1 at *
  go_loopw [8] (fun iv wr => ∃ k : Nat, k ≤ 3 ∧ iv = .int .i64 k ∧ (∀ i, i < k → (afterL s (plainW i)).2 = false) ∧ wr = w1) (fun iv _ => 3 - (intOf iv).toNat)
  case atStart => exact ⟨0, by omega, rfl, fun i hi => by omega, rfl⟩
  case round =>
    obtain ⟨k, hk, rfl, hno, rfl⟩ := hrel
    rename World => w1
    have HNO := hide hno
    clear hno
    by_cases hlt : k < 3
    · have hki : (k : Int) < 3 := by omega
      have hck : w1.cell? ⟨w.heap.size, k, none⟩ = some (.string ⟨(plainW k).toArray⟩) := by
        rw [hcP.cell k]
        rcases (show k = 0 ∨ k = 1 ∨ k = 2 by omega) with rfl | rfl | rfl <;> rfl
      go_wp2_with fail
      refine (after_any s (plainW k) _).mono ?_
      rintro e w' ⟨rfl, rfl⟩
      rename World => w1
      obtain ⟨q, hq⟩ : ∃ q, (afterL s (plainW k)).2 = q := ⟨_, rfl⟩
      rw [hq]
      cases q
      · have HN := hide hq
        clear hq hck
        go_wp2_with fail
        exact ⟨⟨k + 1, by omega, by go_num, more_no2 (unhide HNO) (unhide HN), (by first | rfl | trivial)⟩, by simp [intOf]; omega⟩
      · have HR := hide (unhide HPH k hlt (unhide HNO) hq)
        have hb2 := bstep hb1 ((Below.refl w1.heap.size w1).alloc (Nat.le_refl _) (.cells #[.int .i64 (k : Int), .int .i64 0] 93))
        have hNn := nodes_new w1 ⟨(k : Int), 0⟩
        clear hq hck
        go_wp2_with fail
        go_ret3
        exact from_yes (unhide HR) rfl hNn (Nat.le_refl _) hb2
    · have hk3 : k = 3 := by omega
      subst hk3
      have HB := hide (unhide HPN (unhide HNO))
      clear hcP HPH HPN HNO
      have hb2 := bstep hb1 ((Below.refl w1.heap.size w1).alloc (Nat.le_refl _) (.cells #[.string ⟨#[101, 109, 105, 116, 32]⟩, .string ⟨#[97, 119, 97, 105, 116, 32]⟩, .string ⟨#[105, 102, 32]⟩, .string ⟨#[119, 97, 115, 32]⟩] 9))
      have cA : Cells (w1.alloc (.cells #[.string ⟨#[101, 109, 105, 116, 32]⟩, .string ⟨#[97, 119, 97, 105, 116, 32]⟩, .string ⟨#[105, 102, 32]⟩, .string ⟨#[119, 97, 115, 32]⟩] 9)) w1.heap.size strsW 9 := Cells.new w1 strsW 9
      go_upto_region 11 with fail
      generalize w1.alloc (.cells #[.string ⟨#[101, 109, 105, 116, 32]⟩, .string ⟨#[97, 119, 97, 105, 116, 32]⟩, .string ⟨#[105, 102, 32]⟩, .string ⟨#[119, 97, 115, 32]⟩] 9) = wA at *
      have hbB := (Below.refl wA.heap.size wA).alloc (Nat.le_refl _) (.cells #[.int .i64 3, .int .i64 4, .int .i64 7, .int .i64 8] 3)
      have hb3 := bstep hb2 hbB
      have cA2 := cells_on cA hbB
      have cB : Cells (wA.alloc (.cells #[.int .i64 3, .int .i64 4, .int .i64 7, .int .i64 8] 3)) wA.heap.size kindsW 3 := Cells.new wA kindsW 3
      clear hbB hb2 cA
      go_upto_region 12 with fail
      generalize wA.alloc (.cells #[.int .i64 3, .int .i64 4, .int .i64 7, .int .i64 8] 3) = wB at *
      have hbC := (Below.refl wB.heap.size wB).alloc (Nat.le_refl _) (.cells #[.int .u8 65, .int .u8 120, .int .u8 120, .int .u8 65] 5)
      have hb4 := bstep hb3 hbC
      have cA := cells_on cA2 hbC
      have cK := cells_on cB hbC
      have cF : Cells (wB.alloc (.cells #[.int .u8 65, .int .u8 120, .int .u8 120, .int .u8 65] 5)) wB.heap.size firstsW 5 := Cells.new wB firstsW 5
      clear hbC hb3 cA2 cB
      go_upto_region 13 with fail
      generalize wB.alloc (.cells #[.int .u8 65, .int .u8 120, .int .u8 120, .int .u8 65] 5) = wC at *
      generalize w1.heap.size = gA at *
      generalize wA.heap.size = gK at *
      generalize wB.heap.size = gF at *
      clear hb1 hk hlt
      go_wp2_with fail
      go_loopg [14] 4 (fun fu iv wr => ∃ k : Nat, 4 - k ≤ fu ∧ k ≤ 4 ∧ iv = .int .i64 k ∧ (∀ i, i < k → (afterL s (wordW i)).2 = false) ∧ wr = wC)
      case atStart => exact ⟨0, by omega, by omega, rfl, fun i hi => by omega, rfl⟩
      case round =>
        obtain ⟨k, hfu, hk, rfl, hno, rfl⟩ := hrel
        have HFU := hide hfu
        clear hfu
        rename World => wC
        have HNO := hide hno
        clear hno
        by_cases hlt : k < 4
        · have hki : (k : Int) < 4 := by omega
          have hck := at_words cA hlt
          go_wp2_with fail
          refine (after_any s (wordW k) _).mono ?_
          rintro e w' ⟨rfl, rfl⟩
          rename World => wC
          obtain ⟨q, hq⟩ : ∃ q, (afterL s (wordW k)).2 = q := ⟨_, rfl⟩
          rw [hq]
          cases q
          · have HN := hide hq
            clear hq hck
            go_wp2_with fail
            go_roundg (4 - (k + 1))
            case measure => have := unhide HFU; omega
            case rel => exact ⟨k + 1, Nat.le_refl _, by omega, by go_num, more_no2 (unhide HNO) (unhide HN), rfl⟩
          · have HW := hide ((unhide HB).trans (word_hit (f := fromF m) (left := left) hlt (unhide HNO) hq))
            have hfk := at_firsts cF hlt
            have hkk := at_kinds cK hlt
            obtain ⟨f1, f2⟩ := first_in hlt
            generalize hF : firstW k = F at *
            generalize hK : kindW k = K0 at *
            have HFF := hide hF
            have HKK := hide hK
            generalize (afterL s (wordW k)).1 = rs at *
            clear hq hck HB HNO hF hK cA
            cases rs with
            | nil =>
              have HN := hide ((unhide HW).trans (show _ = none by rfl))
              clear HW hkk
              go_upto_region 18 with fail
              go_quiet (fail)
              go_wp2_with fail
              go_ret3
              exact from_no (unhide HN) rfl (below_drewN hb4 _)
            | cons c cs =>
              have hix := index_first c cs
              have hne : ((c :: cs) == []) = false := rfl
              have hc256 : c.toNat < 256 := c.toNat_lt
              by_cases hlo : (c.toNat : Int) < (F : Int)
              · have HN := hide ((unhide HW).trans (show _ = none by rw [let_none (by omega)]; rfl))
                clear HW hkk
                go_upto_region 18 with fail
                go_quiet (fail)
                go_wp2_with fail
                go_ret3
                exact from_no (unhide HN) rfl (below_drewN hb4 _)
              have hld : decide ((c.toNat : Int) < (F : Int)) = false := by simpa using hlo
              have hld2 : decide (c.toNat < F) = false := by simpa using hlo
              by_cases hhi : (F : Int) + 2 < (c.toNat : Int)
              · have HN := hide ((unhide HW).trans (show _ = none by rw [let_none (by omega)]; rfl))
                clear HW hkk
                go_upto_region 18 with fail
                go_quiet (fail)
                go_wp2_with fail
                go_ret3
                exact from_no (unhide HN) rfl (below_drewN hb4 _)
              have hhd : decide ((F : Int) + 2 < (c.toNat : Int)) = false := by simpa using hhi
              have hhd2 : decide (F + 2 < c.toNat) = false := by simp; omega
              have HW2 := hide ((unhide HW).trans (show _ = wordF (fromF m) k (c.toNat - F) cs left by rw [let_some (by omega) (by omega)]; rfl))
              clear HW
              go_upto_region 18 with fail
              go_quiet (fail)
              have hb5 := below_drewN hb4 nq
              have cK5 := cells_on cK (below_drewN (Below.refl _ _) nq)
              have cF5 := cells_on cF (below_drewN (Below.refl _ _) nq)
              obtain ⟨z, hz⟩ : ∃ z : Nat, c.toNat - F = z := ⟨_, rfl⟩
              have hz1 : (c.toNat : Int) - (F : Int) = (z : Int) := by omega
              have hz2 : (z : Int) ≤ 2 := by omega
              have hz3 : (0 : Int) ≤ (z : Int) := by omega
              have hwz1 : IntKind.u8.wrap (z : Int) = (z : Int) := wraps_u8 _ hz3 (by omega)
              have hwz2 : IntKind.i64.wrap (z : Int) = (z : Int) := by rw [IntKind.wrap_i64]; omega
              rw [hz] at HW2
              clear hz
              clear hb4 cK cF hhi hlo hld hld2 hhd hhd2 hne
              generalize wC.drewN nq = wD at *
              go_upto_region 20 with fail
              have hkk := at_kinds cK5 hlt
              have hfk := at_firsts cF5 hlt
              rw [unhide HKK] at hkk
              rw [unhide HFF] at hfk
              clear HFF
              have HS : ∀ W, Below wD.heap.size wD W → W.cell? ⟨gK, k, none⟩ = some (.int .i64 K0) ∧ W.cell? ⟨gF, k, none⟩ = some (.int .u8 (F : Int)) := fun W hW => ⟨(hW.cell (p := ⟨gK, k, none⟩) cK5.lt).trans hkk, (hW.cell (p := ⟨gF, k, none⟩) cF5.lt).trans hfk⟩
              have hbd : Below wD.heap.size wD wD.drew := (Below.refl _ _).drew
              refine wp_region_held_drew (S := fun W => W.cell? ⟨gK, k, none⟩ = some (.int .i64 K0) ∧ W.cell? ⟨gF, k, none⟩ = some (.int .u8 (F : Int))) (by kernel_rfl) ?_ (fun hHeld => ?_)
              · exact HS _ hbd
              refine wpAnyH_take (i := 0) (oi := { dst := some 89, op := Go.Op.move (Go.Operand.tmp 12), type := 28, pos := "prog.go:312", after := #[], guard := none }) (v := ?_) rfl (by kernel_rfl) (by kernel_rfl) (by kernel_rfl) (fun _ _ _ h => h) (Or.inl ⟨by rfl, ?_⟩) (by assumption) ?_
              rotate_left
              · intro w hSw; (try dsimp only at hSw); go_simp; (try (with_reducible rfl))
              try simp only [Act.put, List.setIfInBounds_toArray, List.set_cons_zero, List.set_cons_succ]
              refine wpAnyH_take (i := 1) (oi := { dst := some 90, op := Go.Op.move (Go.Operand.tmp 14), type := 3, pos := "prog.go:312", after := #[], guard := none }) (v := ?_) rfl (by kernel_rfl) (by kernel_rfl) (by kernel_rfl) (fun _ _ _ h => h) (Or.inl ⟨by rfl, ?_⟩) (by assumption) ?_
              rotate_left
              · intro w hSw; (try dsimp only at hSw); go_simp; (try (with_reducible rfl))
              try simp only [Act.put, List.setIfInBounds_toArray, List.set_cons_zero, List.set_cons_succ]
              refine wpAnyH_take (i := 2) (oi := { dst := some 91, op := Go.Op.indexAddr 28 (Go.Operand.tmp 89) (Go.Operand.tmp 90), type := 0, pos := "prog.go:312", after := #[{ on := 0, ground := Go.Ground.data }, { on := 1, ground := Go.Ground.data }], guard := none }) (v := ?_) rfl (by kernel_rfl) (by kernel_rfl) (by kernel_rfl) (fun _ _ _ h => h) (Or.inl ⟨by rfl, ?_⟩) (by assumption) ?_
              rotate_left
              · intro w hSw; (try dsimp only at hSw); go_simp; (try (with_reducible rfl))
              try simp only [Act.put, List.setIfInBounds_toArray, List.set_cons_zero, List.set_cons_succ]
              refine wpAnyH_take (i := 3) (oi := { dst := some 92, op := Go.Op.load 3 (Go.Operand.tmp 91), type := 3, pos := "prog.go:312", after := #[{ on := 2, ground := Go.Ground.data }], guard := none }) (v := ?_) rfl (by kernel_rfl) (by kernel_rfl) (by kernel_rfl) (fun _ _ _ h => h) (Or.inl ⟨by rfl, ?_⟩) (by assumption) ?_
              rotate_left
              · intro w hSw; (try dsimp only at hSw); go_simp; (try (with_reducible rfl))
              try simp only [Act.put, List.setIfInBounds_toArray, List.set_cons_zero, List.set_cons_succ]
              refine wpAnyH_take (i := 4) (oi := { dst := some 93, op := Go.Op.move (Go.Operand.tmp 15), type := 9, pos := "prog.go:312", after := #[], guard := none }) (v := ?_) rfl (by kernel_rfl) (by kernel_rfl) (by kernel_rfl) (fun _ _ _ h => h) (Or.inl ⟨by rfl, ?_⟩) (by assumption) ?_
              rotate_left
              · intro w hSw; (try dsimp only at hSw); go_simp; (try (with_reducible rfl))
              try simp only [Act.put, List.setIfInBounds_toArray, List.set_cons_zero, List.set_cons_succ]
              refine wpAnyH_take (i := 5) (oi := { dst := some 94, op := Go.Op.index 9 (Go.Operand.tmp 93) (Go.Operand.const (Go.Value.int Go.IntKind.i64 0)), type := 5, pos := "prog.go:312", after := #[{ on := 4, ground := Go.Ground.data }], guard := none }) (v := ?_) rfl (by kernel_rfl) (by kernel_rfl) (by kernel_rfl) (fun _ _ _ h => h) (Or.inl ⟨by rfl, ?_⟩) (by assumption) ?_
              rotate_left
              · intro w hSw; (try dsimp only at hSw); go_simp; (try (with_reducible rfl))
              try simp only [Act.put, List.setIfInBounds_toArray, List.set_cons_zero, List.set_cons_succ]
              refine wpAnyH_take (i := 6) (oi := { dst := some 95, op := Go.Op.move (Go.Operand.tmp 13), type := 86, pos := "prog.go:312", after := #[], guard := none }) (v := ?_) rfl (by kernel_rfl) (by kernel_rfl) (by kernel_rfl) (fun _ _ _ h => h) (Or.inl ⟨by rfl, ?_⟩) (by assumption) ?_
              rotate_left
              · intro w hSw; (try dsimp only at hSw); go_simp; (try (with_reducible rfl))
              try simp only [Act.put, List.setIfInBounds_toArray, List.set_cons_zero, List.set_cons_succ]
              refine wpAnyH_take (i := 7) (oi := { dst := some 96, op := Go.Op.move (Go.Operand.tmp 14), type := 3, pos := "prog.go:312", after := #[], guard := none }) (v := ?_) rfl (by kernel_rfl) (by kernel_rfl) (by kernel_rfl) (fun _ _ _ h => h) (Or.inl ⟨by rfl, ?_⟩) (by assumption) ?_
              rotate_left
              · intro w hSw; (try dsimp only at hSw); go_simp; (try (with_reducible rfl))
              try simp only [Act.put, List.setIfInBounds_toArray, List.set_cons_zero, List.set_cons_succ]
              refine wpAnyH_take (i := 8) (oi := { dst := some 97, op := Go.Op.indexAddr 86 (Go.Operand.tmp 95) (Go.Operand.tmp 96), type := 0, pos := "prog.go:312", after := #[{ on := 6, ground := Go.Ground.data }, { on := 7, ground := Go.Ground.data }], guard := none }) (v := ?_) rfl (by kernel_rfl) (by kernel_rfl) (by kernel_rfl) (fun _ _ _ h => h) (Or.inl ⟨by rfl, ?_⟩) (by assumption) ?_
              rotate_left
              · intro w hSw; (try dsimp only at hSw); go_simp; (try (with_reducible rfl))
              try simp only [Act.put, List.setIfInBounds_toArray, List.set_cons_zero, List.set_cons_succ]
              refine wpAnyH_take (i := 9) (oi := { dst := some 98, op := Go.Op.load 5 (Go.Operand.tmp 97), type := 5, pos := "prog.go:312", after := #[{ on := 8, ground := Go.Ground.data }], guard := none }) (v := ?_) rfl (by kernel_rfl) (by kernel_rfl) (by kernel_rfl) (fun _ _ _ h => h) (Or.inl ⟨by rfl, ?_⟩) (by assumption) ?_
              rotate_left
              · intro w hSw; (try dsimp only at hSw); go_simp; (try (with_reducible rfl))
              try simp only [Act.put, List.setIfInBounds_toArray, List.set_cons_zero, List.set_cons_succ]
              refine wpAnyH_take (i := 10) (oi := { dst := some 99, op := Go.Op.binOp Go.BinOp.sub 5 (Go.Operand.tmp 94) (Go.Operand.tmp 98) 5, type := 5, pos := "prog.go:312", after := #[{ on := 5, ground := Go.Ground.data }, { on := 9, ground := Go.Ground.data }], guard := none }) (v := ?_) rfl (by kernel_rfl) (by kernel_rfl) (by kernel_rfl) (fun _ _ _ h => h) (Or.inl ⟨by rfl, ?_⟩) (by assumption) ?_
              rotate_left
              · intro w hSw; (try dsimp only at hSw); go_simp; (try (with_reducible rfl))
              try simp only [Act.put, List.setIfInBounds_toArray, List.set_cons_zero, List.set_cons_succ]
              refine wpAnyH_take (i := 11) (oi := { dst := some 100, op := Go.Op.convert 5 3 (Go.Operand.tmp 99), type := 3, pos := "prog.go:312", after := #[{ on := 10, ground := Go.Ground.data }], guard := none }) (v := ?_) rfl (by kernel_rfl) (by kernel_rfl) (by kernel_rfl) (fun _ _ _ h => h) (Or.inl ⟨by rfl, ?_⟩) (by assumption) ?_
              rotate_left
              · intro w hSw; (try dsimp only at hSw); go_simp; (try (with_reducible rfl))
              try simp only [Act.put, List.setIfInBounds_toArray, List.set_cons_zero, List.set_cons_succ]
              refine wpAnyH_take (i := 12) (oi := { dst := some 101, op := Go.Op.build 93 #[(0, Go.Operand.tmp 92), (1, Go.Operand.tmp 100)], type := 93, pos := "prog.go:312", after := #[{ on := 3, ground := Go.Ground.data }, { on := 11, ground := Go.Ground.data }], guard := none }) (v := ?_) rfl (by kernel_rfl) (by kernel_rfl) (by kernel_rfl) (fun _ _ _ h => h) (Or.inl ⟨by rfl, ?_⟩) (by assumption) ?_
              rotate_left
              · intro w hSw; (try dsimp only at hSw); go_simp; (try (with_reducible rfl))
              try simp only [Act.put, List.setIfInBounds_toArray, List.set_cons_zero, List.set_cons_succ]
              refine wpAnyH_ready (rs := [13]) (by kernel_rfl) (by simp) ?_
              refine AllReadyH.cons (o := { dst := some 17, op := Go.Op.alloc 93, type := 0, pos := "prog.go:312", after := #[], guard := none }) rfl (fun K hK => ?_) ?_
              · have hbA := hbd.alloc hbd.size (.cells #[.int .i64 0, .int .i64 0] 93)
                go_simp
                refine hK.out _ _ ?_ (fun hHeld => ?_)
                · (try dsimp only)
                  (first | exact HS _ hbA | exact HS _ hbS)
                clear hK K
                try simp only [Act.put, List.setIfInBounds_toArray, List.set_cons_zero, List.set_cons_succ]
                refine wpAnyH_ready (rs := [14]) (by kernel_rfl) (by simp) ?_
                refine AllReadyH.cons (o := { dst := none, op := Go.Op.store 93 (Go.Operand.tmp 17) (Go.Operand.tmp 101), type := 0, pos := "prog.go:312", after := #[{ on := 13, ground := Go.Ground.data }, { on := 12, ground := Go.Ground.data }, { on := 0, ground := Go.Ground.phase }, { on := 1, ground := Go.Ground.phase }, { on := 2, ground := Go.Ground.phase }, { on := 3, ground := Go.Ground.phase }, { on := 4, ground := Go.Ground.phase }, { on := 5, ground := Go.Ground.phase }, { on := 6, ground := Go.Ground.phase }, { on := 7, ground := Go.Ground.phase }, { on := 8, ground := Go.Ground.phase }, { on := 9, ground := Go.Ground.phase }, { on := 10, ground := Go.Ground.phase }, { on := 11, ground := Go.Ground.phase }, { on := 12, ground := Go.Ground.phase }, { on := 13, ground := Go.Ground.phase }], guard := none }) rfl (fun K hK => ?_) ?_
                · have hbS := ((Below.refl wD.heap.size wD).alloc (Nat.le_refl _) (.cells #[.int .i64 K0, .int .i64 (z : Int)] 93)).drew
                  have cX0 : Cells (wD.alloc (.cells #[.int .i64 K0, .int .i64 (z : Int)] 93)) wD.heap.size [.int .i64 K0, .int .i64 (z : Int)] 93 := Cells.new wD [.int .i64 K0, .int .i64 (z : Int)] 93
                  go_simp
                  refine hK.out _ _ ?_ (fun hHeld => ?_)
                  · (try dsimp only)
                    (first | exact HS _ hbA | exact HS _ hbS)
                  clear hK K
                  try simp only [Act.put]
                  refine wpAnyH_done (by kernel_rfl) ?_ _
                  have hb6 := bstep hb5 hbS
                  have cX : Cells (wD.alloc (.cells #[.int .i64 K0, .int .i64 (z : Int)] 93)).drew wD.heap.size [.int .i64 K0, .int .i64 (z : Int)] 93 := cX0
                  have x1 := cX.cell 0
                  have x2 := cX.cell 1
                  clear hbA hbS hbd HS hHeld cX0 hkk hfk cK5 cF5 hb5 hwz1 hwz2 hz1 hix hc256 f1 f2
                  generalize (wD.alloc (.cells #[.int .i64 K0, .int .i64 (z : Int)] 93)).drew = wE at *
                  generalize wD.heap.size = gX at *
                  have hd : (⟨(c :: cs).toArray⟩ : ByteArray).extract 1 (cs.length + 1) = ⟨cs.toArray⟩ := str_first c cs
                  have hl1 : (1 : Int) ≤ ((c :: cs).length : Int) := by simp; omega
                  by_cases hk2 : k < 2
                  · have hk2i : (k : Int) < 2 := by omega
                    have HR := hide ((unhide HW2).trans (show wordF (fromF m) k z cs left = some ([⟨K0, (z : Int)⟩], cs) by unfold wordF; rw [if_pos hk2, unhide HKK]))
                    have hb7 := bstep hb6 ((Below.refl wE.heap.size wE).alloc (Nat.le_refl _) (.cells #[.int .i64 K0, .int .i64 (z : Int)] 93))
                    have hNn := nodes_new wE ⟨K0, (z : Int)⟩
                    clear hb6 HW2 HKK
                    go_wp2_with fail
                    go_ret3
                    exact from_yes (unhide HR) rfl hNn (Nat.le_refl _) hb7
                  · have hk2i : ¬ (k : Int) < 2 := by omega
                    have HR := hide ((unhide HW2).trans (show wordF (fromF m) k z cs left = twoF (fromF m) ⟨K0, (z : Int)⟩ cs tThen tElse tEnd left by unfold wordF; rw [if_neg hk2, unhide HKK]))
                    clear HW2 HKK
                    go_wp2_with fail
                    refine (two_any m IH ⟨K0, (z : Int)⟩ cs tThen tElse tEnd left _ (by omega) h2 hpos).mono ?_
                    intro e w2 hret
                    obtain ⟨r, hr⟩ : ∃ r, twoF (fromF m) ⟨K0, (z : Int)⟩ cs tThen tElse tEnd left = r := ⟨_, rfl⟩
                    rw [hr] at hret HR
                    cases r with
                    | some v =>
                      obtain ⟨l, rest⟩ := v
                      obtain ⟨a, cp, rfl, hN, hcp, hb⟩ := hret
                      have hb7 := bstep hb6 hb
                      have HNo := hide hN
                      have HC := hide hcp
                      clear hr hb hb6 hN hcp x1 x2 cX
                      go_wp2_with fail
                      go_ret3
                      exact from_yes (unhide HR) rfl (unhide HNo) (unhide HC) hb7
                    | none =>
                      obtain ⟨a, n, cp, rest, rfl, hb⟩ := hret
                      have hb7 := bstep hb6 hb
                      clear hr hb hb6 x1 x2 cX
                      go_wp2_with fail
                      go_ret3
                      exact from_no (unhide HR) rfl hb7
                exact AllReadyH.nil
              exact AllReadyH.nil
        · have hk4 : k = 4 := by omega
          subst hk4
          have HP := hide ((unhide HB).trans (word_none (f := fromF m) (left := left) (unhide HNO)))
          clear HB HNO cA cK cF hlt hk
          go_wp2_with fail
          refine (after_any s [40] _).mono ?_
          rintro e w' ⟨rfl, rfl⟩
          rename World => wC
          obtain ⟨q, hq⟩ : ∃ q, (afterL s [40]).2 = q := ⟨_, rfl⟩
          rw [hq]
          cases q
          · have HN := hide ((unhide HP).trans (show fromP (fromF m) s left = none by unfold fromP; rw [hq]; rfl))
            clear hq HP
            go_wp2_with fail
            go_ret3
            exact from_no (unhide HN) rfl hb4
          · have HN := hide ((unhide HP).trans (show fromP (fromF m) s left = (twoF (fromF m) ⟨5, 0⟩ (afterL s [40]).1 [] [59, 32] [41] left).orElse fun _ => twoF (fromF m) ⟨6, 0⟩ (afterL s [40]).1 [] [32, 124, 32] [41] left by unfold fromP; rw [hq]; rfl))
            clear hq HP
            generalize (afterL s [40]).1 = rs at *
            go_wp2_with fail
            refine (two_any m IH ⟨5, 0⟩ rs [] [59, 32] [41] left _ (by omega) h2 hpos).mono ?_
            intro e w2 hret
            obtain ⟨r, hr⟩ : ∃ r, twoF (fromF m) ⟨5, 0⟩ rs [] [59, 32] [41] left = r := ⟨_, rfl⟩
            rw [hr] at hret
            cases r with
            | some v =>
              obtain ⟨l, rest⟩ := v
              obtain ⟨a, c, rfl, hN, hc, hb⟩ := hret
              have HS := hide ((unhide HN).trans (show _ = some (l, rest) by rw [hr]; rfl))
              have hb5 := bstep hb4 hb
              have HNo := hide hN
              have HC := hide hc
              clear hr HN hb hb4 hN hc
              go_wp2_with fail
              go_ret3
              exact from_yes (unhide HS) rfl (unhide HNo) (unhide HC) hb5
            | none =>
              obtain ⟨a, n, c, rest, rfl, hb⟩ := hret
              have HS := hide ((unhide HN).trans (show _ = twoF (fromF m) ⟨6, 0⟩ rs [] [32, 124, 32] [41] left by rw [hr]; rfl))
              have hb5 := bstep hb4 hb
              clear hr HN hb hb4
              go_wp2_with fail
              refine (two_any m IH ⟨6, 0⟩ rs [] [32, 124, 32] [41] left _ (by omega) h2 hpos).mono ?_
              intro e w3 hret
              obtain ⟨r, hr⟩ : ∃ r, twoF (fromF m) ⟨6, 0⟩ rs [] [32, 124, 32] [41] left = r := ⟨_, rfl⟩
              rw [hr] at hret HS
              cases r with
              | some v =>
                obtain ⟨l, rest⟩ := v
                obtain ⟨a, c, rfl, hN, hc, hb⟩ := hret
                have hb6 := bstep hb5 hb
                have HNo := hide hN
                have HC := hide hc
                clear hr hb hb5 hN hc
                go_wp2_with fail
                go_ret3
                exact from_yes (unhide HS) rfl (unhide HNo) (unhide HC) hb6
              | none =>
                obtain ⟨a, n, c, rest, rfl, hb⟩ := hret
                have hb6 := bstep hb5 hb
                clear hr hb hb5
                go_wp2_with fail
                go_ret3
                exact from_no (unhide HS) rfl hb6
set_option maxRecDepth 100000 in
set_option maxHeartbeats 4000000 in
theorem from_zero : FromC 0 := by
  intro s left w h1 h2 h3
  have h0 : left ≤ 0 := h1
  have HN := hide (show fromF 0 s left = none by rfl)
  go_enter Tryz.func45, Tryz.ntmps45
  go_wp2_with fail
  go_ret3
  exact from_no (unhide HN) rfl (Below.refl _ _)
theorem from_all : ∀ m, FromC m
  | 0 => from_zero
  | m + 1 => from_step m (from_all m)
end Go.Proofs.YtongajonecgdpagGreatDoor
