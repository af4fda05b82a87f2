/- The smith's nodes: each of them. -/
import Derived.Test.YtongajonecgdpagGreatDoorSmithA
import Derived.Test.YtongajonecgdpagGreatDoorProgM
import Derived.Test.YtongajonecgdpagGreatDoorForgeM
import Derived.Test.YtongajonecgdpagGreatDoorTickP
namespace Go.Proofs.YtongajonecgdpagGreatDoor
open Go.RowKit

open Go.Maps
theorem hp_keep {W W' : World} {gb : Nat} {u0 u1 : Value} (hs : W.heap.size ≤ W'.heap.size) (hk : gb < W.heap.size → W'.heap[gb]? = W.heap[gb]?) (h : gb < W.heap.size ∧ W.cell? ⟨gb, 0, none⟩ = some u0 ∧ W.cell? ⟨gb, 1, none⟩ = some u1) :
    gb < W'.heap.size ∧ W'.cell? ⟨gb, 0, none⟩ = some u0 ∧ W'.cell? ⟨gb, 1, none⟩ = some u1 := by
  have hk' := hk h.1
  exact ⟨Nat.lt_of_lt_of_le h.1 hs, (World.cell?_of_block (a := ⟨gb, 0, none⟩) hk').trans h.2.1, (World.cell?_of_block (a := ⟨gb, 1, none⟩) hk').trans h.2.2⟩
theorem hp_on {W W' : World} {gb : Nat} {u0 u1 : Value} (hb : Below W.heap.size W W') (h : gb < W.heap.size ∧ W.cell? ⟨gb, 0, none⟩ = some u0 ∧ W.cell? ⟨gb, 1, none⟩ = some u1) : gb < W'.heap.size ∧ W'.cell? ⟨gb, 0, none⟩ = some u0 ∧ W'.cell? ⟨gb, 1, none⟩ = some u1 := hp_keep hb.size (fun h1 => hb.block _ h1) h
theorem hp_alloc {W : World} {gb : Nat} {u0 u1 : Value} {o : Obj} (h : gb < W.heap.size ∧ W.cell? ⟨gb, 0, none⟩ = some u0 ∧ W.cell? ⟨gb, 1, none⟩ = some u1) : gb < (W.alloc o).heap.size ∧ (W.alloc o).cell? ⟨gb, 0, none⟩ = some u0 ∧ (W.alloc o).cell? ⟨gb, 1, none⟩ = some u1 := hp_on ((Below.refl W.heap.size W).alloc (Nat.le_refl _) o) h
theorem hp_set {W : World} {gb g k : Nat} {u0 u1 v : Value} (hne : gb ≠ g) (h : gb < W.heap.size ∧ W.cell? ⟨gb, 0, none⟩ = some u0 ∧ W.cell? ⟨gb, 1, none⟩ = some u1) : gb < (W.setCell ⟨g, k, none⟩ v).heap.size ∧ (W.setCell ⟨g, k, none⟩ v).cell? ⟨gb, 0, none⟩ = some u0 ∧ (W.setCell ⟨g, k, none⟩ v).cell? ⟨gb, 1, none⟩ = some u1 := hp_keep (Nat.le_of_eq (by simp)) (fun _ => set_other hne) h
theorem hp_drew {W : World} {gb : Nat} {u0 u1 : Value} (h : gb < W.heap.size ∧ W.cell? ⟨gb, 0, none⟩ = some u0 ∧ W.cell? ⟨gb, 1, none⟩ = some u1) : gb < W.drew.heap.size ∧ W.drew.cell? ⟨gb, 0, none⟩ = some u0 ∧ W.drew.cell? ⟨gb, 1, none⟩ = some u1 := hp_on (Below.refl W.heap.size W).drew h
theorem hp_new (w : World) (u v : Value) (T : TypeId) : w.heap.size < (w.alloc (.cells #[u, v] T)).heap.size ∧ (w.alloc (.cells #[u, v] T)).cell? ⟨w.heap.size, 0, none⟩ = some u ∧ (w.alloc (.cells #[u, v] T)).cell? ⟨w.heap.size, 1, none⟩ = some v := ⟨by simp, by simp, by simp⟩
theorem box_pv (k : KK) (r : Rw) {c : Nat} (hc : c < 3) : (boxV k r)[9 + c]? = some (r.pv c) := by
  have : c = 0 ∨ c = 1 ∨ c = 2 := by omega
  rcases this with rfl | rfl | rfl <;> rfl
theorem kinds9' {x : Int} (h : 0 ≤ x ∧ x ≤ 8) : x = 0 ∨ x = 1 ∨ x = 2 ∨ x = 3 ∨ x = 4 ∨ x = 5 ∨ x = 6 ∨ x = 7 ∨ x = 8 := by omega

theorem ints_cell {w : World} {a : Option Addr} {n : Nat} {xs : List Int} (h : Ints w a n xs) {b off : Nat} (ha : a = some ⟨b, off, none⟩) {k : Nat} (hk : k < xs.length) : w.cell? ⟨b, off + k, none⟩ = some (.int .i64 xs[k]) := by
  obtain ⟨b', off', ha', _, hc⟩ := h.at hk
  rw [ha] at ha'
  injection ha' with ha'
  injection ha' with e1 e2 _
  subst e1; subst e2
  exact hc
set_option maxRecDepth 100000 in
set_option maxHeartbeats 16000000 in
theorem node_any {p : List NodeD} (hok : POk p) : ∀ m, SNodeC p m
  | 0 => fun B b P G X s os w k bg gg hc h ho hk hm hb hg hbd hbt hos => by have := end_gt hk; omega
  | m + 1 => fun B b P G X s os w k bg gg hc h ho hk hm hb hg hbd hbt hos => by
    have ih := node_any hok m
    have hfew := hok.few
    have hgt := end_gt hk
    have hkk := kindAt_get hk
    have hsg := hok.sigs p[k] (List.getElem_mem hk)
    have hkd := hok.kinds p[k] (List.getElem_mem hk)
    rw [← hkk] at hkd
    obtain ⟨z, hz⟩ := Int.eq_ofNat_of_zero_le hsg.1
    have hsig : sigI p k = (z : Int) := by simp [sigI, sigAt, List.getD_eq_getElem?_getD, hk, hz]
    have hsigN : sigAt p k = z := by unfold sigI at hsig; omega
    have hz2 : z ≤ 2 := by
      have h1 := hsg.2
      rw [hz] at h1
      unfold mostS at h1
      split at h1 <;> omega
    have hz3n : z < 3 := by omega
    have hz3 : (z : Int) < 3 := by omega
    have HP := hide (show ∀ x, kindAt p k = x → hasP x = true → k + 1 < p.length ∧ endP p (k + 1) < p.length ∧ endP p (k + 1) - (k + 1) ≤ m ∧ endP p (endP p (k + 1)) - endP p (k + 1) ≤ m ∧ endP p k - k = 1 + ((endP p (k + 1) - (k + 1)) + (endP p (endP p (k + 1)) - endP p (k + 1))) ∧ partA p (k : Int) = ((k + 1 : Nat) : Int) ∧ partB p (k : Int) = (endP p (k + 1) : Nat) from fun x e hx => by
      have hp : hasP p[k].kind = true := by rw [← hkk, e]; exact hx
      obtain ⟨t1, t2⟩ := end_two hok.form hk hp
      have hn := end_node hk hp
      have g1 := end_gt t1
      have g2 := end_gt t2
      have hpe : partsE p (k : Int) = 0 := by unfold partsE; rw [if_pos (of_pok hok), if_pos ⟨by omega, by omega⟩]
      refine ⟨t1, t2, by omega, by omega, by omega, ?_, ?_⟩
      · unfold partA; rw [if_pos hpe, if_pos (by rw [show ((k : Int)).toNat = k by omega, hkk]; exact hp)]; omega
      · unfold partB; rw [if_pos hpe, if_pos (by rw [show ((k : Int)).toNat = k by omega, hkk]; exact hp)]; rfl)
    obtain ⟨gx, hgx⟩ : ∃ gx, 7 + mayN p k = gx := ⟨_, rfl⟩
    have HGX := hide hgx
    have HSI := hide (And.intro hsig hsigN)
    have HO := hide (And.intro ho (And.intro hb hg))
    have HLOW := hide (And.intro (ho.lowIn (x := (z : Int)) (by omega) (by omega)) (ho.lowIn (x := 4 + (z : Int)) (by omega) (by omega)))
    have HOS := hide hos
    have HPUT := hide (show (s.puts.getD z []).length ≤ 500 by have := total_get ho.puts z; omega)
    clear hsig hsigN hgx hb hg ho hos
    go_enter Tryz.func94, Tryz.ntmps94
    go_wp2_with fail
    refine (sparts_any h hc k).mono ?_
    rintro e w1 ⟨rfl, hb1⟩
    have h1 := h.on hb1
    obtain ⟨pa, hpa⟩ : ∃ pa, partA p (k : Int) = pa := ⟨_, rfl⟩
    obtain ⟨pb, hpb⟩ : ∃ pb, partB p (k : Int) = pb := ⟨_, rfl⟩
    obtain ⟨pc, hpc⟩ : ∃ pc, partC p (k : Int) = pc := ⟨_, rfl⟩
    rw [hpa, hpb, hpc]
    have HPP := hide (And.intro hpa hpb)
    obtain ⟨hbl1, c4, _, _, _, _⟩ := h1.cells
    have c4' : w1.cell? ⟨b, 4, none⟩ = some (.slice P.na P.nn P.nc) := c4
    have HNL := hide h1.q.1.1
    have hkn : (k : Int) < (P.nn : Int) := by have := unhide HNL; omega
    obtain ⟨nb, noff, hna, hnlt, d0, d1⟩ := h1.q.1.at hk
    rw [hz] at d1
    rw [← hkk] at d0
    rw [hna] at c4'
    clear hpa hpb hpc c4 hsg hz
    have HKK := hide (show kindAt p k = p[k].kind from hkk)
    generalize hkind : kindAt p k = kd at *
    have HKD := hide hkind
    have hb12 : Below w1.heap.size w1 (w1.alloc (.cells #[.int .i64 kd, .int .i64 (z : Int)] 93)) := (Below.refl _ _).alloc (Nat.le_refl _) _
    have hyy := hp_new w1 (.int .i64 kd) (.int .i64 (z : Int)) 93
    have hA2 := h1.on hb12
    have hb2 := bstep hb1 hb12
    clear hkind hkk
    go_upto_region 3 with fail
    generalize hw2 : w1.alloc (.cells #[.int .i64 kd, .int .i64 (z : Int)] 93) = w2 at *
    have HGL := hide h1.lt
    clear hw2 d0 d1 hnlt c4' h1 hb12
    have HA2 := hide hA2
    obtain ⟨y0, y1, y2⟩ := hyy
    have hneb : w1.heap.size ≠ b := by omega
    rcases kinds9' hkd with rfl | rfl | rfl | rfl | rfl | rfl | rfl | rfl | rfl
    · -- nothing
      have HN := hide (show nodeF p (m + 1) k bg gg s = (s, bg) by unfold nodeF; simp [unhide HKD])
      go_wp2_with fail
      go_ret
      rw [unhide HN]
      exact ⟨rfl, SmRet.self h hb2⟩
    · -- pause
      have hw : waitK (kindAt p k) = true := by rw [unhide HKD]; rfl
      have HN := hide (show nodeF p (m + 1) k bg gg s = (storeG s (waitG p k) bg, gg) by unfold nodeF; simp [unhide HKD])
      obtain ⟨q1, q2⟩ := hA2.held hk hfew hw (unhide HGX)
      have HW := hide hw
      clear hw
      go_wp2_with fail
      refine (sstore_any hA2 (unhide HO).1 hk (unhide HW) (unhide HGX) bg).mono ?_
      rintro e w3 ⟨rfl, hR⟩
      have R := hide (SmRet.early h hb2 hR)
      clear hR
      go_wp2_with fail
      go_ret
      rw [unhide HN]
      exact ⟨rfl, unhide R⟩
    · -- halt
      have hw : waitK (kindAt p k) = true := by rw [unhide HKD]; rfl
      have HN := hide (show nodeF p (m + 1) k bg gg s = haltF p k bg gg s by unfold nodeF; simp [unhide HKD])
      have HW := hide hw
      have H3 := hide ((unhide HO).1.add 5 [bg, gg] (fun x hx => by rcases List.mem_cons.1 hx with rfl | hx; exact (unhide HO).2.1; (have : x = gg := by simpa using hx); rw [this]; exact (unhide HO).2.2) (Or.inl ⟨by omega, by omega, by simp⟩))
      have hd2 := (Below.refl w2.heap.size w2).drew
      have HH2 := (hA2.on hd2).held hk hfew hw (unhide HGX)
      have HH2a := ((hA2.on hd2).on ((Below.refl w2.drew.heap.size w2.drew).alloc (Nat.le_refl _) (.cells #[.int .i64 bg, .int .i64 gg] 3))).held hk hfew hw (unhide HGX)
      clear hw
      go_wp2_with fail
      go_region_held3 (fun W => W.cell? ⟨b, 8, none⟩ = some (.map (some P.m)) ∧ (Instr.lookup 106 (.map (some P.m)) (.int .i64 (k : Int)) false).run Tryz.prog W = .ok (.int .i64 (gx : Int)) W)
        ((first | exact HH2 | exact HH2a | exact HH3 | exact HH4))
        ((first
          | (go_at_call 93; refine (gate2_any (hA2.on hd2) 5 bg gg (by omega)).mono ?_; rintro e w3 ⟨rfl, hR⟩; obtain ⟨G3, hS3, hk3', hG3, hB3⟩ := SmRet.early h hb2 (SmRet.early hA2 hd2 hR); have HH3 := hS3.held hk hfew (unhide HW) (unhide HGX))
          | (go_at_call 92; refine (sstore_any hS3 (unhide H3) hk (unhide HW) (unhide HGX) _).mono ?_; rintro e w4 ⟨rfl, hR⟩; obtain ⟨G4, hS4, hk4', hG4, hB4⟩ := SmRet.trans hS3 hk3' hG3 hB3 hR; have HH4 := hS4.held hk hfew (unhide HW) (unhide HGX))))
      all_goals
        clear HH2 HH2a HH3 HH4
        go_wp2_with fail
        refine (gate0_any hS4 0 (by show (addG s 5 [bg, gg]).gates.length ≤ 1000; simp only [add_len]; omega)).mono ?_
        rintro e w5 ⟨rfl, hR⟩
        have R := hide (SmRet.trans hS4 hk4' hG4 hB4 hR)
        clear hR hS4 hk4' hG4 hB4
        go_wp2_with fail
        go_ret
        rw [unhide HN]
        exact ⟨rfl, unhide R⟩
    · -- emit
      have HN := hide (show nodeF p (m + 1) k bg gg s = (putG s z bg, bg) by unfold nodeF; simp [unhide HKD, (unhide HSI).2])
      have HPL := hide (unhide HO).1.puts
      obtain ⟨ls, hls⟩ : ∃ ls, s.puts.getD z [] = ls := ⟨_, rfl⟩
      have hptl : ls.length ≤ 500 := by rw [← hls]; exact unhide HPUT
      have HLS := hide hls
      obtain ⟨r, cs, h0, hGr⟩ := hA2
      subst hGr
      obtain ⟨i0, hi, hz0, hz1, hz2'⟩ := info_parts Tryz.infoInt
      have hVd := h0.on (Below.refl w2.heap.size w2).drew
      have hpr := hVd.puts z hz3n
      rw [hls] at hpr
      have d1 : w2.cell? ⟨b, 9 + z, none⟩ = some (r.pv z) := (h0.box.cell (9 + z)).trans (box_pv _ _ hz3n)
      have hbl := h0.box.lt
      have hnA := Nat.ne_of_gt hbl
      have hnA2 := Nat.ne_of_lt hbl
      have hBw1 : B ≤ w2.heap.size := by have := h0.hb; omega
      have hNO : (r.pv z).ownBlock ≠ some w1.heap.size := fun e => by
        have := (unhide HGL _ (rowsL_mem.2 (Or.inr (Or.inr (Or.inr (Or.inr ⟨z, hz3n, e⟩)))))).2
        omega
      have hSS := hp_drew (And.intro y0 (And.intro y1 y2))
      clear h0 hls
      go_wp2_with fail
      refine wp_region_held_drew (S := fun W => w1.heap.size < W.heap.size ∧ W.cell? ⟨w1.heap.size, 0, none⟩ = some (.int .i64 3) ∧ W.cell? ⟨w1.heap.size, 1, none⟩ = some (.int .i64 (z : Int))) (by kernel_rfl) ?_ (fun hHeld => ?_)
      · exact hSS
      refine wpAnyH_take (i := 0) (oi := { dst := some 67, op := Go.Op.move (Go.Operand.tmp 0), type := 104, pos := "smith.go:68", after := #[], guard := none }) (v := ?_) rfl (by kernel_rfl) (by kernel_rfl) (by kernel_rfl) (fun _ _ _ h => h) (Or.inl ⟨by rfl, ?_⟩) (by assumption) ?_
      rotate_left
      · intro w hSw; (try dsimp only at hSw); go_simp; (try (with_reducible rfl))
      try simp only [Act.put, List.setIfInBounds_toArray, List.set_cons_zero, List.set_cons_succ]
      refine wpAnyH_take (i := 1) (oi := { dst := some 68, op := Go.Op.fieldAddr 93 (Go.Operand.tmp 12) 1, type := 0, pos := "smith.go:68", after := #[], guard := none }) (v := ?_) rfl (by kernel_rfl) (by kernel_rfl) (by kernel_rfl) (fun _ _ _ h => h) (Or.inl ⟨by rfl, ?_⟩) (by assumption) ?_
      rotate_left
      · intro w hSw; (try dsimp only at hSw); go_simp; (try (with_reducible rfl))
      try simp only [Act.put, List.setIfInBounds_toArray, List.set_cons_zero, List.set_cons_succ]
      refine wpAnyH_take (i := 2) (oi := { dst := some 69, op := Go.Op.load 3 (Go.Operand.tmp 68), type := 3, pos := "smith.go:68", after := #[{ on := 1, ground := Go.Ground.data }], guard := none }) (v := ?_) rfl (by kernel_rfl) (by kernel_rfl) (by kernel_rfl) (fun _ _ _ h => h) (Or.inl ⟨by rfl, ?_⟩) (by assumption) ?_
      rotate_left
      · intro w hSw; (try dsimp only at hSw); go_simp; (try (with_reducible rfl))
      try simp only [Act.put, List.setIfInBounds_toArray, List.set_cons_zero, List.set_cons_succ]
      refine wpAnyH_take (i := 3) (oi := { dst := some 70, op := Go.Op.move (Go.Operand.tmp 0), type := 104, pos := "smith.go:68", after := #[], guard := none }) (v := ?_) rfl (by kernel_rfl) (by kernel_rfl) (by kernel_rfl) (fun _ _ _ h => h) (Or.inl ⟨by rfl, ?_⟩) (by assumption) ?_
      rotate_left
      · intro w hSw; (try dsimp only at hSw); go_simp; (try (with_reducible rfl))
      try simp only [Act.put, List.setIfInBounds_toArray, List.set_cons_zero, List.set_cons_succ]
      refine wpAnyH_take (i := 4) (oi := { dst := some 71, op := Go.Op.fieldAddr 93 (Go.Operand.tmp 12) 1, type := 0, pos := "smith.go:68", after := #[], guard := none }) (v := ?_) rfl (by kernel_rfl) (by kernel_rfl) (by kernel_rfl) (fun _ _ _ h => h) (Or.inl ⟨by rfl, ?_⟩) (by assumption) ?_
      rotate_left
      · intro w hSw; (try dsimp only at hSw); go_simp; (try (with_reducible rfl))
      try simp only [Act.put, List.setIfInBounds_toArray, List.set_cons_zero, List.set_cons_succ]
      refine wpAnyH_take (i := 5) (oi := { dst := some 72, op := Go.Op.load 3 (Go.Operand.tmp 71), type := 3, pos := "smith.go:68", after := #[{ on := 4, ground := Go.Ground.data }], guard := none }) (v := ?_) rfl (by kernel_rfl) (by kernel_rfl) (by kernel_rfl) (fun _ _ _ h => h) (Or.inl ⟨by rfl, ?_⟩) (by assumption) ?_
      rotate_left
      · intro w hSw; (try dsimp only at hSw); go_simp; (try (with_reducible rfl))
      try simp only [Act.put, List.setIfInBounds_toArray, List.set_cons_zero, List.set_cons_succ]
      refine wpAnyH_take (i := 6) (oi := { dst := some 73, op := Go.Op.nilCheck (Go.Operand.tmp 70), type := 0, pos := "smith.go:68", after := #[{ on := 3, ground := Go.Ground.data }], guard := none }) (v := ?_) rfl (by kernel_rfl) (by kernel_rfl) (by kernel_rfl) (fun _ _ _ h => h) (Or.inl ⟨by rfl, ?_⟩) (by assumption) ?_
      rotate_left
      · intro w hSw; (try dsimp only at hSw); go_simp; (try (with_reducible rfl))
      try simp only [Act.put, List.setIfInBounds_toArray, List.set_cons_zero, List.set_cons_succ]
      refine wpAnyH_take (i := 7) (oi := { dst := some 74, op := Go.Op.fieldAddr 109 (Go.Operand.tmp 73) 6, type := 0, pos := "smith.go:68", after := #[{ on := 6, ground := Go.Ground.data }], guard := none }) (v := ?_) rfl (by kernel_rfl) (by kernel_rfl) (by kernel_rfl) (fun _ _ _ h => h) (Or.inl ⟨by rfl, ?_⟩) (by assumption) ?_
      rotate_left
      · intro w hSw; (try dsimp only at hSw); go_simp; (try (with_reducible rfl))
      try simp only [Act.put, List.setIfInBounds_toArray, List.set_cons_zero, List.set_cons_succ]
      refine wpAnyH_take (i := 8) (oi := { dst := some 75, op := Go.Op.indexAddr 107 (Go.Operand.tmp 74) (Go.Operand.tmp 72), type := 0, pos := "smith.go:68", after := #[{ on := 7, ground := Go.Ground.data }, { on := 5, ground := Go.Ground.data }], guard := none }) (v := ?_) rfl (by kernel_rfl) (by kernel_rfl) (by kernel_rfl) (fun _ _ _ h => h) (Or.inl ⟨by rfl, ?_⟩) (by assumption) ?_
      rotate_left
      · intro w hSw; (try dsimp only at hSw); go_simp; (try (with_reducible rfl))
      try simp only [Act.put, List.setIfInBounds_toArray, List.set_cons_zero, List.set_cons_succ]
      refine wpAnyH_take (i := 10) (oi := { dst := some 77, op := Go.Op.move (Go.Operand.tmp 2), type := 3, pos := "smith.go:68", after := #[], guard := none }) (v := ?_) rfl (by kernel_rfl) (by kernel_rfl) (by kernel_rfl) (fun _ _ _ h => h) (Or.inl ⟨by rfl, ?_⟩) (by assumption) ?_
      rotate_left
      · intro w hSw; (try dsimp only at hSw); go_simp; (try (with_reducible rfl))
      try simp only [Act.put, List.setIfInBounds_toArray, List.set_cons_zero, List.set_cons_succ]
      refine wpAnyH_take (i := 13) (oi := { dst := some 80, op := Go.Op.nilCheck (Go.Operand.tmp 67), type := 0, pos := "smith.go:68", after := #[{ on := 0, ground := Go.Ground.data }], guard := none }) (v := ?_) rfl (by kernel_rfl) (by kernel_rfl) (by kernel_rfl) (fun _ _ _ h => h) (Or.inl ⟨by rfl, ?_⟩) (by assumption) ?_
      rotate_left
      · intro w hSw; (try dsimp only at hSw); go_simp; (try (with_reducible rfl))
      try simp only [Act.put, List.setIfInBounds_toArray, List.set_cons_zero, List.set_cons_succ]
      refine wpAnyH_take (i := 14) (oi := { dst := some 81, op := Go.Op.fieldAddr 109 (Go.Operand.tmp 80) 6, type := 0, pos := "smith.go:68", after := #[{ on := 13, ground := Go.Ground.data }], guard := none }) (v := ?_) rfl (by kernel_rfl) (by kernel_rfl) (by kernel_rfl) (fun _ _ _ h => h) (Or.inl ⟨by rfl, ?_⟩) (by assumption) ?_
      rotate_left
      · intro w hSw; (try dsimp only at hSw); go_simp; (try (with_reducible rfl))
      try simp only [Act.put, List.setIfInBounds_toArray, List.set_cons_zero, List.set_cons_succ]
      refine wpAnyH_ready (rs := [9, 11]) (by kernel_rfl) (by simp) ?_
      refine AllReadyH.cons (o := { dst := some 76, op := Go.Op.load 28 (Go.Operand.tmp 75), type := 28, pos := "smith.go:68", after := #[{ on := 8, ground := Go.Ground.data }], guard := none }) rfl (fun K hK => ?_) ?_
      · go_simp
        refine hK.out _ _ ?_ (fun hHeld => ?_)
        · (try dsimp only)
          (first | exact hSS | exact hS9 | exact hS8 | exact hp_alloc hSS | assumption)
        clear hK K
        try simp only [Act.put, List.setIfInBounds_toArray, List.set_cons_zero, List.set_cons_succ]
        refine wpAnyH_ready (rs := [11]) (by kernel_rfl) (by simp) ?_
        refine AllReadyH.cons (o := { dst := some 78, op := Go.Op.buildSlice 28 1 #[(0, Go.Operand.tmp 77)], type := 28, pos := "smith.go:68", after := #[{ on := 10, ground := Go.Ground.data }], guard := none }) rfl (fun K hK => ?_) ?_
        · go_simp
          refine hK.out _ _ ?_ (fun hHeld => ?_)
          · (try dsimp only)
            (first | exact hSS | exact hS9 | exact hS8 | exact hp_alloc hSS | assumption)
          clear hK K
          try simp only [Act.put, List.setIfInBounds_toArray, List.set_cons_zero, List.set_cons_succ]
          refine wpAnyH_ready (rs := [12]) (by kernel_rfl) (by simp) ?_
          refine AllReadyH.cons (o := { dst := some 79, op := Go.Op.call { callee := Go.Callee.builtin Go.Builtin.append, args := #[Go.Operand.tmp 76, Go.Operand.tmp 78], argTypes := #[28, 28] }, type := 28, pos := "smith.go:68", after := #[{ on := 9, ground := Go.Ground.data }, { on := 11, ground := Go.Ground.data }], guard := none }) rfl (fun K hK => ?_) ?_
          · refine step_append_lies _ rfl _ _ 28 rfl B 3 i0 (.int .i64 0) 1 8 Tryz.underlying28 hi hz0 hz1 hz2' rfl (by decide) (r.pv z) ls.length (intsV ls) rfl (hpr.alloc _) ⟨w2.heap.size, 0, none⟩ 1 1 [.int .i64 bg] rfl rfl (World.news_of_block (cs := #[.int .i64 bg]) (MapKept.heap_alloc w2.drew _).1) (by intro u hu; simp at hu; subst hu; rfl) (by decide) (by unfold maxLen; omega) (by omega) (by simp; omega) _ rfl ?_
            intro g8 cap8 w8 hown8 hgr8 hat8 hlt8
            have hV8 := hVd.on ((Below.refl w2.drew.heap.size w2.drew).alloc (Nat.le_refl _) (.cells #[.int .i64 bg] 3))
            have hS8 := hp_keep hgr8.size (fun h1 => hgr8.block _ h1 (Ne.symm hNO)) (hp_alloc (o := .cells #[.int .i64 bg] 3) hSS)
            obtain ⟨hc8, _⟩ := rows_turn (j := 1) (u := .bool true) hV8 (fun y hy => rowsL_mem.2 (Or.inr (Or.inr (Or.inr (Or.inr ⟨z, hz3n, hy⟩))))) hgr8 (row_ne (hV8.puts z hz3n) hV8.box (by decide))
            have d8 : w8.cell? ⟨b, 9 + z, none⟩ = some (r.pv z) := (hc8.cell (9 + z)).trans (box_pv _ _ hz3n)
            have f8 := hc8.frozen (9 + z)
            have hS9 := hp_set (k := 9 + z) (v := .slice (some ⟨g8, 0, none⟩) (ls.length + 1) cap8) hneb hS8
            refine hK.out _ _ ?_ (fun hHeld => ?_)
            · (try dsimp only)
              (first | exact hSS | exact hS9 | exact hS8 | exact hp_alloc hSS | assumption)
            clear hK K
            try simp only [Act.put, List.setIfInBounds_toArray, List.set_cons_zero, List.set_cons_succ]
            refine wpAnyH_take (i := 15) (oi := { dst := some 82, op := Go.Op.indexAddr 107 (Go.Operand.tmp 81) (Go.Operand.tmp 69), type := 0, pos := "smith.go:68", after := #[{ on := 14, ground := Go.Ground.data }, { on := 2, ground := Go.Ground.data }, { on := 0, ground := Go.Ground.phase }, { on := 1, ground := Go.Ground.phase }, { on := 2, ground := Go.Ground.phase }, { on := 3, ground := Go.Ground.phase }, { on := 4, ground := Go.Ground.phase }, { on := 5, ground := Go.Ground.phase }, { on := 6, ground := Go.Ground.phase }, { on := 7, ground := Go.Ground.phase }, { on := 8, ground := Go.Ground.phase }, { on := 9, ground := Go.Ground.phase }, { on := 10, ground := Go.Ground.phase }, { on := 11, ground := Go.Ground.phase }, { on := 12, ground := Go.Ground.phase }], guard := none }) (v := ?_) rfl (by kernel_rfl) (by kernel_rfl) (by kernel_rfl) (fun _ _ _ h => h) (Or.inl ⟨by rfl, ?_⟩) (by assumption) ?_
            rotate_left
            · intro w hSw; (try dsimp only at hSw); go_simp; (try (with_reducible rfl))
            try simp only [Act.put, List.setIfInBounds_toArray, List.set_cons_zero, List.set_cons_succ]
            refine wpAnyH_ready (rs := [16]) (by kernel_rfl) (by simp) ?_
            refine AllReadyH.cons (o := { dst := none, op := Go.Op.store 28 (Go.Operand.tmp 82) (Go.Operand.tmp 79), type := 0, pos := "smith.go:68", after := #[{ on := 15, ground := Go.Ground.data }, { on := 12, ground := Go.Ground.data }, { on := 12, ground := Go.Ground.chain }, { on := 0, ground := Go.Ground.phase }, { on := 1, ground := Go.Ground.phase }, { on := 2, ground := Go.Ground.phase }, { on := 3, ground := Go.Ground.phase }, { on := 4, ground := Go.Ground.phase }, { on := 5, ground := Go.Ground.phase }, { on := 6, ground := Go.Ground.phase }, { on := 7, ground := Go.Ground.phase }, { on := 8, ground := Go.Ground.phase }, { on := 9, ground := Go.Ground.phase }, { on := 10, ground := Go.Ground.phase }, { on := 11, ground := Go.Ground.phase }, { on := 12, ground := Go.Ground.phase }], guard := none }) rfl (fun K hK => ?_) ?_
            · go_simp
              refine hK.out _ _ ?_ (fun hHeld => ?_)
              · (try dsimp only)
                (first | exact hSS | exact hS9 | exact hS8 | exact hp_alloc hSS | assumption)
              clear hK K
              try simp only [Act.put]
              refine wpAnyH_done (by kernel_rfl) ?_ _
              have R := hide (hV8.moreP (unhide HPL) (unhide HOS) z hz3n bg (by rw [unhide HLS]; exact hown8) hgr8 (hat8.elim (fun e => Or.inl (show Value.ownBlock (.slice (some ⟨g8, 0, none⟩) (ls.length + 1) cap8) = (r.pv z).ownBlock from e.symm)) (fun e => Or.inr (by rw [e]; rfl))))
              clear hV8 hown8 hgr8 hat8 hlt8 hc8 d8 f8 hS8 hS9
              generalize hw9 : w8.setCell ⟨b, 9 + z, none⟩ (.slice (some ⟨g8, 0, none⟩) (ls.length + 1) cap8) = w9 at *
              clear hw9
              go_wp2_with fail
              go_ret
              rw [unhide HN]
              exact ⟨rfl, SmRet.early (unhide HA2) ((Below.refl _ w2).drew.alloc (Nat.le_refl _) _) (unhide R) |> SmRet.early h hb2⟩
            exact AllReadyH.nil
          exact AllReadyH.nil
        exact AllReadyH.nil
      refine AllReadyH.cons (o := { dst := some 78, op := Go.Op.buildSlice 28 1 #[(0, Go.Operand.tmp 77)], type := 28, pos := "smith.go:68", after := #[{ on := 10, ground := Go.Ground.data }], guard := none }) rfl (fun K hK => ?_) ?_
      · go_simp
        refine hK.out _ _ ?_ (fun hHeld => ?_)
        · (try dsimp only)
          (first | exact hSS | exact hS9 | exact hS8 | exact hp_alloc hSS | assumption)
        clear hK K
        try simp only [Act.put, List.setIfInBounds_toArray, List.set_cons_zero, List.set_cons_succ]
        refine wpAnyH_ready (rs := [9]) (by kernel_rfl) (by simp) ?_
        refine AllReadyH.cons (o := { dst := some 76, op := Go.Op.load 28 (Go.Operand.tmp 75), type := 28, pos := "smith.go:68", after := #[{ on := 8, ground := Go.Ground.data }], guard := none }) rfl (fun K hK => ?_) ?_
        · go_simp
          refine hK.out _ _ ?_ (fun hHeld => ?_)
          · (try dsimp only)
            (first | exact hSS | exact hS9 | exact hS8 | exact hp_alloc hSS | assumption)
          clear hK K
          try simp only [Act.put, List.setIfInBounds_toArray, List.set_cons_zero, List.set_cons_succ]
          refine wpAnyH_ready (rs := [12]) (by kernel_rfl) (by simp) ?_
          refine AllReadyH.cons (o := { dst := some 79, op := Go.Op.call { callee := Go.Callee.builtin Go.Builtin.append, args := #[Go.Operand.tmp 76, Go.Operand.tmp 78], argTypes := #[28, 28] }, type := 28, pos := "smith.go:68", after := #[{ on := 9, ground := Go.Ground.data }, { on := 11, ground := Go.Ground.data }], guard := none }) rfl (fun K hK => ?_) ?_
          · refine step_append_lies _ rfl _ _ 28 rfl B 3 i0 (.int .i64 0) 1 8 Tryz.underlying28 hi hz0 hz1 hz2' rfl (by decide) (r.pv z) ls.length (intsV ls) rfl (hpr.alloc _) ⟨w2.heap.size, 0, none⟩ 1 1 [.int .i64 bg] rfl rfl (World.news_of_block (cs := #[.int .i64 bg]) (MapKept.heap_alloc w2.drew _).1) (by intro u hu; simp at hu; subst hu; rfl) (by decide) (by unfold maxLen; omega) (by omega) (by simp; omega) _ rfl ?_
            intro g8 cap8 w8 hown8 hgr8 hat8 hlt8
            have hV8 := hVd.on ((Below.refl w2.drew.heap.size w2.drew).alloc (Nat.le_refl _) (.cells #[.int .i64 bg] 3))
            have hS8 := hp_keep hgr8.size (fun h1 => hgr8.block _ h1 (Ne.symm hNO)) (hp_alloc (o := .cells #[.int .i64 bg] 3) hSS)
            obtain ⟨hc8, _⟩ := rows_turn (j := 1) (u := .bool true) hV8 (fun y hy => rowsL_mem.2 (Or.inr (Or.inr (Or.inr (Or.inr ⟨z, hz3n, hy⟩))))) hgr8 (row_ne (hV8.puts z hz3n) hV8.box (by decide))
            have d8 : w8.cell? ⟨b, 9 + z, none⟩ = some (r.pv z) := (hc8.cell (9 + z)).trans (box_pv _ _ hz3n)
            have f8 := hc8.frozen (9 + z)
            have hS9 := hp_set (k := 9 + z) (v := .slice (some ⟨g8, 0, none⟩) (ls.length + 1) cap8) hneb hS8
            refine hK.out _ _ ?_ (fun hHeld => ?_)
            · (try dsimp only)
              (first | exact hSS | exact hS9 | exact hS8 | exact hp_alloc hSS | assumption)
            clear hK K
            try simp only [Act.put, List.setIfInBounds_toArray, List.set_cons_zero, List.set_cons_succ]
            refine wpAnyH_take (i := 15) (oi := { dst := some 82, op := Go.Op.indexAddr 107 (Go.Operand.tmp 81) (Go.Operand.tmp 69), type := 0, pos := "smith.go:68", after := #[{ on := 14, ground := Go.Ground.data }, { on := 2, ground := Go.Ground.data }, { on := 0, ground := Go.Ground.phase }, { on := 1, ground := Go.Ground.phase }, { on := 2, ground := Go.Ground.phase }, { on := 3, ground := Go.Ground.phase }, { on := 4, ground := Go.Ground.phase }, { on := 5, ground := Go.Ground.phase }, { on := 6, ground := Go.Ground.phase }, { on := 7, ground := Go.Ground.phase }, { on := 8, ground := Go.Ground.phase }, { on := 9, ground := Go.Ground.phase }, { on := 10, ground := Go.Ground.phase }, { on := 11, ground := Go.Ground.phase }, { on := 12, ground := Go.Ground.phase }], guard := none }) (v := ?_) rfl (by kernel_rfl) (by kernel_rfl) (by kernel_rfl) (fun _ _ _ h => h) (Or.inl ⟨by rfl, ?_⟩) (by assumption) ?_
            rotate_left
            · intro w hSw; (try dsimp only at hSw); go_simp; (try (with_reducible rfl))
            try simp only [Act.put, List.setIfInBounds_toArray, List.set_cons_zero, List.set_cons_succ]
            refine wpAnyH_ready (rs := [16]) (by kernel_rfl) (by simp) ?_
            refine AllReadyH.cons (o := { dst := none, op := Go.Op.store 28 (Go.Operand.tmp 82) (Go.Operand.tmp 79), type := 0, pos := "smith.go:68", after := #[{ on := 15, ground := Go.Ground.data }, { on := 12, ground := Go.Ground.data }, { on := 12, ground := Go.Ground.chain }, { on := 0, ground := Go.Ground.phase }, { on := 1, ground := Go.Ground.phase }, { on := 2, ground := Go.Ground.phase }, { on := 3, ground := Go.Ground.phase }, { on := 4, ground := Go.Ground.phase }, { on := 5, ground := Go.Ground.phase }, { on := 6, ground := Go.Ground.phase }, { on := 7, ground := Go.Ground.phase }, { on := 8, ground := Go.Ground.phase }, { on := 9, ground := Go.Ground.phase }, { on := 10, ground := Go.Ground.phase }, { on := 11, ground := Go.Ground.phase }, { on := 12, ground := Go.Ground.phase }], guard := none }) rfl (fun K hK => ?_) ?_
            · go_simp
              refine hK.out _ _ ?_ (fun hHeld => ?_)
              · (try dsimp only)
                (first | exact hSS | exact hS9 | exact hS8 | exact hp_alloc hSS | assumption)
              clear hK K
              try simp only [Act.put]
              refine wpAnyH_done (by kernel_rfl) ?_ _
              have R := hide (hV8.moreP (unhide HPL) (unhide HOS) z hz3n bg (by rw [unhide HLS]; exact hown8) hgr8 (hat8.elim (fun e => Or.inl (show Value.ownBlock (.slice (some ⟨g8, 0, none⟩) (ls.length + 1) cap8) = (r.pv z).ownBlock from e.symm)) (fun e => Or.inr (by rw [e]; rfl))))
              clear hV8 hown8 hgr8 hat8 hlt8 hc8 d8 f8 hS8 hS9
              generalize hw9 : w8.setCell ⟨b, 9 + z, none⟩ (.slice (some ⟨g8, 0, none⟩) (ls.length + 1) cap8) = w9 at *
              clear hw9
              go_wp2_with fail
              go_ret
              rw [unhide HN]
              exact ⟨rfl, SmRet.early (unhide HA2) ((Below.refl _ w2).drew.alloc (Nat.le_refl _) _) (unhide R) |> SmRet.early h hb2⟩
            exact AllReadyH.nil
          exact AllReadyH.nil
        exact AllReadyH.nil
      exact AllReadyH.nil
    · -- await
      have HN := hide (show nodeF p (m + 1) k bg gg s = awaitF p k bg gg s by unfold nodeF; simp [unhide HKD])
      go_wp2_with fail
      refine (await_any hok hA2 (unhide HO).1 hk (unhide HKD) (unhide HO).2.1 (unhide HO).2.2 (by omega)).mono ?_
      rintro e w3 ⟨rfl, hR⟩
      have R := hide (SmRet.early h hb2 hR)
      clear hR
      go_wp2_with fail
      go_ret
      rw [unhide HN]
      exact ⟨rfl, unhide R⟩
    · -- one behind the other
      have HN := hide (show nodeF p (m + 1) k bg gg s = behindF (nodeF p m) p (k + 1) (endP p (k + 1)) bg gg s by unfold nodeF; simp [unhide HKD])
      obtain ⟨t1, t2, t3, t4, t5, t6, t7⟩ := unhide HP _ rfl rfl
      obtain rfl := (unhide HPP).1.symm.trans t6
      obtain rfl := (unhide HPP).2.symm.trans t7
      obtain ⟨ka, hka⟩ : ∃ ka, k + 1 = ka := ⟨_, rfl⟩
      obtain ⟨kb, hkb⟩ : ∃ kb, endP p (k + 1) = kb := ⟨_, rfl⟩
      have HKA := hide (And.intro hka hkb)
      rw [hkb] at t2 t3 t4 t5 ⊢
      rw [hka] at t1 t3 t5 ⊢
      have HT := hide (And.intro t1 (And.intro t2 (And.intro t3 (And.intro t4 (And.intro (show endP p ka = kb by rw [← hka]; exact hkb) t5)))))
      clear t1 t2 t3 t4 t5 t6 t7 hka hkb
      go_wp2_with fail
      obtain ⟨t1, t2, t3, t4, t8, t5⟩ := unhide HT
      refine (behind_any hok ih hc hA2 (unhide HO).1 t1 t2 (by rw [t8]; exact t3) t4 (unhide HO).2.1 (unhide HO).2.2 (by rw [t8]; omega) (by rw [t8]; omega) (unhide HOS)).mono ?_
      clear t1 t2 t3 t4 t5 t8
      rintro e w3 ⟨rfl, hR⟩
      have R := hide (SmRet.early h hb2 hR)
      clear hR
      go_wp2_with fail
      go_ret
      rw [unhide HN, (unhide HKA).2, (unhide HKA).1]
      exact ⟨rfl, unhide R⟩
    · -- both at once
      have HN := hide (show nodeF p (m + 1) k bg gg s = atOnceF (nodeF p m) p gg (k + 1) bg (endP p (k + 1)) bg s by unfold nodeF; simp [unhide HKD])
      obtain ⟨t1, t2, t3, t4, t5, t6, t7⟩ := unhide HP _ rfl rfl
      obtain rfl := (unhide HPP).1.symm.trans t6
      obtain rfl := (unhide HPP).2.symm.trans t7
      obtain ⟨ka, hka⟩ : ∃ ka, k + 1 = ka := ⟨_, rfl⟩
      obtain ⟨kb, hkb⟩ : ∃ kb, endP p (k + 1) = kb := ⟨_, rfl⟩
      have HKA := hide (And.intro hka hkb)
      rw [hkb] at t2 t3 t4 t5 ⊢
      rw [hka] at t1 t3 t5 ⊢
      have HT := hide (And.intro t1 (And.intro t2 (And.intro t3 (And.intro t4 (And.intro (show endP p ka = kb by rw [← hka]; exact hkb) t5)))))
      clear t1 t2 t3 t4 t5 t6 t7 hka hkb
      go_wp2_with fail
      obtain ⟨t1, t2, t3, t4, t8, t5⟩ := unhide HT
      have hal := (Below.refl w2.heap.size w2).alloc (Nat.le_refl _) (.cells #[.int .i64 (ka : Int), .int .i64 bg, .int .i64 (kb : Int), .int .i64 bg] 155)
      have hlt2 := hA2.lt
      refine (atOnce_any hok ih hc (hA2.on hal) (unhide HO).1 (k1 := ka) (k2 := kb) (b1 := bg) (b2 := bg) t1 t2 (by rw [t8]; exact t3) t4 (unhide HO).2.1 (unhide HO).2.1 (unhide HO).2.2 (by rw [t8]; omega) (by rw [t8]; omega) (unhide HOS) (Cells.new w2 [.int .i64 (ka : Int), .int .i64 bg, .int .i64 (kb : Int), .int .i64 bg] 155) (fun hm => by have := (hlt2 _ hm).2; omega)).mono ?_
      clear t1 t2 t3 t4 t5 t8
      rintro e w3 ⟨rfl, hR⟩
      have R := hide (SmRet.early h hb2 (SmRet.early hA2 hal hR))
      clear hR hal hlt2
      go_wp2_with fail
      go_ret
      rw [unhide HN, (unhide HKA).2, (unhide HKA).1]
      exact ⟨rfl, unhide R⟩
    · -- if
      have HN := hide (show nodeF p (m + 1) k bg gg s = choiceF (nodeF p m) p (z : Int) (k + 1) (endP p (k + 1)) bg gg s by unfold nodeF; simp [unhide HKD, (unhide HSI).1])
      obtain ⟨t1, t2, t3, t4, t5, t6, t7⟩ := unhide HP _ rfl rfl
      obtain rfl := (unhide HPP).1.symm.trans t6
      obtain rfl := (unhide HPP).2.symm.trans t7
      obtain ⟨ka, hka⟩ : ∃ ka, k + 1 = ka := ⟨_, rfl⟩
      obtain ⟨kb, hkb⟩ : ∃ kb, endP p (k + 1) = kb := ⟨_, rfl⟩
      have HKA := hide (And.intro hka hkb)
      rw [hkb] at t2 t3 t4 t5 ⊢
      rw [hka] at t1 t3 t5 ⊢
      have HT := hide (And.intro t1 (And.intro t2 (And.intro t3 (And.intro t4 (And.intro (show endP p ka = kb by rw [← hka]; exact hkb) t5)))))
      clear t1 t2 t3 t4 t5 t6 t7 hka hkb
      have c5 : w2.cell? ⟨b, 5, none⟩ = some (.slice P.ia 3 P.ic) := hA2.cells.2.2.1
      have hiz : z < [(0 : Int), 1, 2].length := by simp; omega
      obtain ⟨ib, ioff, hia, hilt, e0⟩ := hA2.q.2.1.at hiz
      have hiz3 : ([(0 : Int), 1, 2])[z] = (z : Int) := by
        have : z = 0 ∨ z = 1 ∨ z = 2 := by omega
        rcases this with rfl | rfl | rfl <;> rfl
      rw [hiz3] at e0
      rw [hia] at c5
      obtain ⟨is, his⟩ : ∃ is : Int, (z : Int) = is := ⟨_, rfl⟩
      rw [his] at e0
      have HIS := hide his
      have HIA : Hid (P.ia = some ⟨ib, ioff, none⟩ ∧ ∀ V : World, Ints V P.ia 3 [(0 : Int), 1, 2] → V.cell? ⟨ib, ioff + z, none⟩ = some (.int .i64 is)) := hide ⟨hia, fun V hV => by rw [← his, ← hiz3]; exact ints_cell hV hia hiz⟩
      clear hiz hiz3 hia his
      have hd2 := (Below.refl w2.heap.size w2).drew
      go_wp2_with fail
      go_region_held3 (fun W => W.cell? ⟨b, 5, none⟩ = some (.slice (some ⟨ib, ioff, none⟩) 3 P.ic) ∧ W.cell? ⟨w1.heap.size, 1, none⟩ = some (.int .i64 (z : Int)) ∧ W.cell? ⟨ib, ioff + z, none⟩ = some (.int .i64 is))
        ((first | exact ⟨c5, y2, e0⟩ | exact ⟨c5', y2', e0'⟩))
        ((go_at_call 124; obtain ⟨t1, t2, t3, t4, t8, t5⟩ := unhide HT; refine (schoice_any hok ih hc (hA2.on hd2) (unhide HO).1 (is := is) t1 t2 (by rw [t8]; exact t3) t4 (by rw [← unhide HIS]; exact (unhide HLOW).1) (unhide HO).2.1 (unhide HO).2.2 (by rw [t8]; omega) (by rw [t8]; omega) (unhide HOS)).mono ?_; clear t1 t2 t3 t4 t5 t8; rintro e w3 ⟨rfl, hR⟩; have R := hide (SmRet.early h hb2 (SmRet.early hA2 hd2 hR)); obtain ⟨G3, hS3, hk3, _, _⟩ := hR; have c5' : w3.cell? ⟨b, 5, none⟩ = some (.slice (some ⟨ib, ioff, none⟩) 3 P.ic) := by {rw [← (unhide HIA).1]; exact hS3.cells.2.2.1}; have y2' : w3.cell? ⟨w1.heap.size, 1, none⟩ = some (.int .i64 (z : Int)) := (World.cell?_of_block (hk3.2 w1.heap.size y0 (fun hm => by have := (unhide HGL _ hm).2; omega))).trans y2; have e0' : w3.cell? ⟨ib, ioff + z, none⟩ = some (.int .i64 is) := (unhide HIA).2 _ hS3.q.2.1))
      all_goals
        go_wp2_with fail
        go_ret
        rw [unhide HN, (unhide HKA).2, (unhide HKA).1, unhide HIS]
        exact ⟨rfl, unhide R⟩
    · -- was
      have HN := hide (show nodeF p (m + 1) k bg gg s = choiceF (nodeF p m) p (4 + (z : Int)) (k + 1) (endP p (k + 1)) bg gg s by unfold nodeF; simp [unhide HKD, (unhide HSI).1])
      obtain ⟨t1, t2, t3, t4, t5, t6, t7⟩ := unhide HP _ rfl rfl
      obtain rfl := (unhide HPP).1.symm.trans t6
      obtain rfl := (unhide HPP).2.symm.trans t7
      obtain ⟨ka, hka⟩ : ∃ ka, k + 1 = ka := ⟨_, rfl⟩
      obtain ⟨kb, hkb⟩ : ∃ kb, endP p (k + 1) = kb := ⟨_, rfl⟩
      have HKA := hide (And.intro hka hkb)
      rw [hkb] at t2 t3 t4 t5 ⊢
      rw [hka] at t1 t3 t5 ⊢
      have HT := hide (And.intro t1 (And.intro t2 (And.intro t3 (And.intro t4 (And.intro (show endP p ka = kb by rw [← hka]; exact hkb) t5)))))
      clear t1 t2 t3 t4 t5 t6 t7 hka hkb
      have c5 : w2.cell? ⟨b, 7, none⟩ = some (.slice P.wa 3 P.wc) := hA2.cells.2.2.2.2.1
      have hiz : z < [(4 : Int), 5, 6].length := by simp; omega
      obtain ⟨ib, ioff, hia, hilt, e0⟩ := hA2.q.2.2.1.at hiz
      have hiz3 : ([(4 : Int), 5, 6])[z] = 4 + (z : Int) := by
        have : z = 0 ∨ z = 1 ∨ z = 2 := by omega
        rcases this with rfl | rfl | rfl <;> rfl
      rw [hiz3] at e0
      rw [hia] at c5
      obtain ⟨is, his⟩ : ∃ is : Int, 4 + (z : Int) = is := ⟨_, rfl⟩
      rw [his] at e0
      have HIS := hide his
      have HIA : Hid (P.wa = some ⟨ib, ioff, none⟩ ∧ ∀ V : World, Ints V P.wa 3 [(4 : Int), 5, 6] → V.cell? ⟨ib, ioff + z, none⟩ = some (.int .i64 is)) := hide ⟨hia, fun V hV => by rw [← his, ← hiz3]; exact ints_cell hV hia hiz⟩
      clear hiz hiz3 hia his
      have hd2 := (Below.refl w2.heap.size w2).drew
      go_wp2_with fail
      go_region_held3 (fun W => W.cell? ⟨b, 7, none⟩ = some (.slice (some ⟨ib, ioff, none⟩) 3 P.wc) ∧ W.cell? ⟨w1.heap.size, 1, none⟩ = some (.int .i64 (z : Int)) ∧ W.cell? ⟨ib, ioff + z, none⟩ = some (.int .i64 is))
        ((first | exact ⟨c5, y2, e0⟩ | exact ⟨c5', y2', e0'⟩))
        ((go_at_call 124; obtain ⟨t1, t2, t3, t4, t8, t5⟩ := unhide HT; refine (schoice_any hok ih hc (hA2.on hd2) (unhide HO).1 (is := is) t1 t2 (by rw [t8]; exact t3) t4 (by rw [← unhide HIS]; exact (unhide HLOW).2) (unhide HO).2.1 (unhide HO).2.2 (by rw [t8]; omega) (by rw [t8]; omega) (unhide HOS)).mono ?_; clear t1 t2 t3 t4 t5 t8; rintro e w3 ⟨rfl, hR⟩; have R := hide (SmRet.early h hb2 (SmRet.early hA2 hd2 hR)); obtain ⟨G3, hS3, hk3, _, _⟩ := hR; have c5' : w3.cell? ⟨b, 7, none⟩ = some (.slice (some ⟨ib, ioff, none⟩) 3 P.wc) := by {rw [← (unhide HIA).1]; exact hS3.cells.2.2.2.2.1}; have y2' : w3.cell? ⟨w1.heap.size, 1, none⟩ = some (.int .i64 (z : Int)) := (World.cell?_of_block (hk3.2 w1.heap.size y0 (fun hm => by have := (unhide HGL _ hm).2; omega))).trans y2; have e0' : w3.cell? ⟨ib, ioff + z, none⟩ = some (.int .i64 is) := (unhide HIA).2 _ hS3.q.2.2.1))
      all_goals
        go_wp2_with fail
        go_ret
        rw [unhide HN, (unhide HKA).2, (unhide HKA).1, unhide HIS]
        exact ⟨rfl, unhide R⟩

open Go.Maps
theorem low_reg {p : List NodeD} {s : SmD} (ho : SmOk p s) {c : Nat} (hc : c ≤ 3) : ∃ hg : 3 + c < s.gates.length, (s.gates[3 + c]).n = (c : Int) ∧ c < s.regs.length := by
  have h1 := ho.many
  have h2 := ho.regs
  refine ⟨by omega, ?_, by omega⟩
  have h3 : (gates0 p)[3 + c]? = some ⟨3, (c : Int), []⟩ := by
    have : c = 0 ∨ c = 1 ∨ c = 2 ∨ c = 3 := by omega
    rcases this with rfl | rfl | rfl | rfl <;> rfl
  obtain ⟨t, ht⟩ := ho.base
  have h4 : s.gates[3 + c]? = some ⟨3, (c : Int), []⟩ := by
    rw [← ht, List.getElem?_append_left (by rw [gates0_len]; omega)]; exact h3
  rw [(List.getElem?_eq_some_iff.1 h4).2]
theorem lowstore_any {B b : Nat} {P : SP} {G X : List Nat} {p : List NodeD} {s : SmD} {os : OS} {w : World} (h : SmP B w b P G X p s os) (ho : SmOk p s) {c : Nat} (hc : c ≤ 3) {g : Int} (hg : ((3 + c : Nat) : Int) = g) (x : Int) :
    Calls Tryz.prog 92 #[.pointer (some ⟨b, 0, none⟩), .int .i64 g, .int .i64 x] w fun e w' => e = .returned (.tuple #[]) ∧ SmQ B b P G X p w w' (storeG s g x) os := by
  obtain ⟨h1, h2, h3⟩ := low_reg ho hc
  subst hg
  have e : storeG s ((3 + c : Nat) : Int) x = { s with regs := s.regs.set c ((s.regs.getD c (false, 0)).1, x) } := by
    unfold storeG
    rw [show (((3 + c : Nat) : Int) - 3).toNat = c by omega]
  rw [e]
  exact store_any h h1 h2 h3 x
def oF (s : SmD) : Nat → SmD × List Int
  | 0 => (s, [])
  | k + 1 => ((outF (oF s k).1 k).1, (oF s k).2 ++ [(outF (oF s k).1 k).2])
theorem forge_oF (p : List NodeD) : forgeF p = oF (mid p).1 3 := rfl
theorem oF_puts (s : SmD) : ∀ k, (oF s k).1.puts = s.puts
  | 0 => rfl
  | k + 1 => oF_puts s k
theorem oF_made {p : List NodeD} {s : SmD} (h : SmOk p s) (ht : total s ≤ 14) : ∀ k, SmOk p (oF s k).1 ∧ (oF s k).1.gates.length = s.gates.length + k ∧ total (oF s k).1 ≤ 14 ∧ (oF s k).2.length = k
  | 0 => ⟨h, rfl, ht, rfl⟩
  | k + 1 => by
    obtain ⟨h1, h2, h3, h4⟩ := oF_made h ht k
    obtain ⟨a1, a2, a3, a4, a5⟩ := out_made h1 h3 k
    exact ⟨a1, by show (outF (oF s k).1 k).1.gates.length = _; omega, by show total (outF (oF s k).1 k).1 ≤ 14; unfold total at h3 ⊢; rw [a5]; exact h3, by show ((oF s k).2 ++ [_]).length = _; simp [h4]⟩
theorem SmAt.pcells {B : Nat} {W : World} {b : Nat} {k : KK} {G X : List Nat} {Q : World → Prop} {s : SmD} {os : List Int} {pv : Nat → Value} (h : SmAt B W b k G X Q s (os, some pv)) : W.cell? ⟨b, 9, none⟩ = some (pv 0) ∧ W.cell? ⟨b, 10, none⟩ = some (pv 1) ∧ W.cell? ⟨b, 11, none⟩ = some (pv 2) ∧ ∀ c, c < 3 → W.ownsRow B 3 1 (pv c) (s.puts.getD c []).length (intsV (s.puts.getD c [])) := by
  obtain ⟨r, cs, h1, _⟩ := h
  have e := h1.pvs pv rfl
  subst e
  exact ⟨h1.box.cell 9, h1.box.cell 10, h1.box.cell 11, h1.puts⟩
/-- An output more. -/
theorem SmAt.moreO {B : Nat} {W w8 : World} {b : Nat} {k : KK} {G X : List Nat} {Q : World → Prop} {s : SmD} {os : OS} {ov : Value} (h : SmAt B W b k G X Q s os) (hov : W.cell? ⟨b, 3, none⟩ = some ov) (x : Int) {v' : Value}
    (hown : w8.ownsRow B 3 1 v' (os.1.length + 1) (intsV os.1 ++ [.int .i64 x])) (hgr : W.grownBy w8 ov.ownBlock) (hat : v'.ownBlock = ov.ownBlock ∨ v'.ownBlock = some W.heap.size) :
    SmRet B b k G X Q W (w8.setCell ⟨b, 3, none⟩ v') s (os.1 ++ [x], os.2) ∧ w8.cell? ⟨b, 3, none⟩ = some ov ∧ w8.frozen? ⟨b, 3, none⟩ = false ∧ b < w8.heap.size := by
  obtain ⟨r, cs, h1, rfl⟩ := h
  have e : r.ov = ov := by
    have := h1.box.cell 3
    rw [hov] at this
    injection this with this
    exact this.symm
  subst e
  obtain ⟨hbx, _⟩ := rows_turn (j := 3) (u := v') h1 (fun y hy => rowsL_mem.2 (Or.inr (Or.inr (Or.inr (Or.inl hy))))) hgr (row_ne h1.outs h1.box (by decide))
  exact ⟨h1.moreO x hown hgr hat, hbx.cell 3, hbx.frozen 3, hbx.lt⟩
theorem SmAt.ov {B : Nat} {W : World} {b : Nat} {k : KK} {G X : List Nat} {Q : World → Prop} {s : SmD} {os : OS} (h : SmAt B W b k G X Q s os) : ∃ ov, W.cell? ⟨b, 3, none⟩ = some ov ∧ W.ownsRow B 3 1 ov os.1.length (intsV os.1) := by
  obtain ⟨r, cs, h1, _⟩ := h
  exact ⟨r.ov, h1.box.cell 3, h1.outs⟩

theorem index_three (x y z : Value) (w : World) : (Instr.index 107 (.agg #[x, y, z]) (.int .i64 0)).run Tryz.prog w = .ok x w ∧ (Instr.index 107 (.agg #[x, y, z]) (.int .i64 1)).run Tryz.prog w = .ok y w ∧ (Instr.index 107 (.agg #[x, y, z]) (.int .i64 2)).run Tryz.prog w = .ok z w := by
  refine ⟨?_, ?_, ?_⟩ <;> kernel_rfl
theorem put_in {p : List NodeD} {s : SmD} (h : SmOk p s) {c : Nat} {x : Int} (hx : x ∈ s.puts.getD c []) : inG s x := by
  by_cases hc : c < s.puts.length
  · rw [List.getD_eq_getElem?_getD, List.getElem?_eq_getElem hc] at hx
    exact h.putIn _ (List.getElem_mem hc) x hx
  · rw [List.getD_eq_getElem?_getD, List.getElem?_eq_none (by omega)] at hx
    simp at hx
set_option maxRecDepth 100000 in
set_option maxHeartbeats 16000000 in
theorem forge_any {B b : Nat} {P : SP} {G X : List Nat} {p : List NodeD} {w : World} (hok : POk p) (hc : P.nn ≤ P.nc) (h : SmP B w b P G X p (smith0 p) ([], none)) :
    Calls Tryz.prog 66 #[.pointer (some ⟨b, 0, none⟩)] w fun e w' => e = .returned (.tuple #[]) ∧ ∃ pv, SmQ B b P G X p w w' (forgeF p).1 ((forgeF p).2, some pv) := by
  have hpos : 0 < p.length := ok_some (o := 0) hok.form
  have hfew := hok.few
  have hnw : numW p ≤ p.length := may_le _
  have hg0 : (smith0 p).gates.length = 7 + numW p := gates0_len p
  have h0 := smith0_ok p
  have h1 := h0.add 0 [] (fun x hx => by simp at hx) (Or.inr (Or.inr ⟨rfl, rfl⟩))
  have h2 := h1.store 3 (here (smith0 p)) (inG.new _ _ _)
  have hsf := some_few hok hpos
  have h3 := h2.add 5 (someArgs p 0) (some_in hok h2 hpos) (Or.inl ⟨by omega, by omega, by omega⟩)
  have HQ := hide (And.intro h1 (And.intro h3 (And.intro (h3.lowIn (x := 3) (by omega) (by omega)) (inG.new (storeG (addG (smith0 p) 0 []) 3 (here (smith0 p))) 5 (someArgs p 0)))))
  have HM := hide (mid_made hok)
  have hend := end_all hok
  have HG0 := hide hg0
  have HE := hide hend
  clear h0 h1 h2 h3 hsf hg0 hend
  have hd0 := (Below.refl w.heap.size w).drew
  have c6 : w.cell? ⟨b, 6, none⟩ = some (.int .i64 3) := h.cells.2.2.2.1
  go_enter Tryz.func66, Tryz.ntmps66
  go_wp2_with fail
  go_region_held3 (fun W => W.cell? ⟨b, 6, none⟩ = some (.int .i64 3))
    ((first | exact c6 | exact c61 | exact c62))
    ((first
      | (go_at_call 93; refine (gate0_any (h.on hd0) 0 (by have := unhide HG0; omega)).mono ?_; rintro e w1 ⟨rfl, hR⟩; obtain ⟨G1, hS1, hk1, hG1, hB1⟩ := SmRet.early h hd0 hR; have c61 : w1.cell? ⟨b, 6, none⟩ = some (.int .i64 3) := hS1.cells.2.2.2.1)
      | (go_at_call 92; refine (lowstore_any hS1 (unhide HQ).1 (c := 0) (by omega) (g := 3) rfl _).mono ?_; rintro e w2 ⟨rfl, hR⟩; obtain ⟨G2, hS2, hk2, hG2, hB2⟩ := SmRet.trans hS1 hk1 hG1 hB1 hR; have c62 : w2.cell? ⟨b, 6, none⟩ = some (.int .i64 3) := hS2.cells.2.2.2.1)))
  all_goals
    clear c61 hS1 hk1 hG1 hB1 c6
    have hd2 := (Below.refl w2.heap.size w2).drew
    go_wp2_with fail
    go_region_held3 (fun W => W.cell? ⟨b, 6, none⟩ = some (.int .i64 3))
      ((first | exact c62 | exact c63 | exact c64))
      ((first
        | (go_at_call 95; refine (someWait_any hok (hS2.on hd2) hc (k := 0) hpos (by show (addG (smith0 p) 0 []).gates.length ≤ 1000; rw [add_len]; have := unhide HG0; omega)).mono ?_; rintro e w3 ⟨rfl, hR⟩; obtain ⟨G3, hS3, hk3, hG3, hB3⟩ := SmRet.trans hS2 hk2 hG2 hB2 (SmRet.early hS2 hd2 hR); have c63 : w3.cell? ⟨b, 6, none⟩ = some (.int .i64 3) := hS3.cells.2.2.2.1)
        | (go_at_call 94; refine (node_any hok p.length B b P G3 X _ ([], none) w3 0 3 _ hc hS3 (unhide HQ).2.1 hpos (by rw [unhide HE]; omega) (unhide HQ).2.2.1 (unhide HQ).2.2.2 (by rw [unhide HE]; show 2 * (addG (addG (smith0 p) 0 []) 5 (someArgs p 0)).gates.length + _ ≤ 1490; rw [add_len, add_len]; have := unhide HG0; omega) (by rw [unhide HE]; show 0 + (p.length - 0) ≤ 500; omega) rfl).mono ?_; rintro e w4 ⟨rfl, hR⟩; obtain ⟨G4, hS4, hk4, hG4, hB4⟩ := SmRet.trans hS3 hk3 hG3 hB3 hR; have c64 : w4.cell? ⟨b, 6, none⟩ = some (.int .i64 3) := hS4.cells.2.2.2.1)))
    all_goals
      clear c63 hS3 hk3 hG3 hB3 c62 c64
      change SmP B w4 b P G4 X p (mid p).1 ([], none) at hS4
      obtain ⟨pv, hS5⟩ := hS4.see
      obtain ⟨p0, p1, p2, p3⟩ := hS5.pcells
      have hbl := hS5.cells.1
      obtain ⟨m1, m2, m3, m4⟩ := unhide HM
      obtain ⟨q0, hq0⟩ : ∃ q0, (mid p).1.puts.getD 0 [] = q0 := ⟨_, rfl⟩
      obtain ⟨q1, hq1⟩ : ∃ q1, (mid p).1.puts.getD 1 [] = q1 := ⟨_, rfl⟩
      obtain ⟨q2, hq2⟩ : ∃ q2, (mid p).1.puts.getD 2 [] = q2 := ⟨_, rfl⟩
      have l0 : q0.length ≤ 14 := by rw [← hq0]; exact Nat.le_trans (total_get m1.puts 0) m3
      have l1 : q1.length ≤ 14 := by rw [← hq1]; exact Nat.le_trans (total_get m1.puts 1) m3
      have l2 : q2.length ≤ 14 := by rw [← hq2]; exact Nat.le_trans (total_get m1.puts 2) m3
      obtain ⟨a0, e0, h0⟩ := row_slice (p3 0 (by decide))
      obtain ⟨a1, e1, h1⟩ := row_slice (p3 1 (by decide))
      obtain ⟨a2, e2, h2⟩ := row_slice (p3 2 (by decide))
      rw [hq0] at h0
      rw [hq1] at h1
      rw [hq2] at h2
      rw [h0] at p0
      rw [h1] at p1
      rw [h2] at p2
      have HH := hide (And.intro (And.intro hq0 h0) (And.intro (And.intro hq1 h1) (And.intro hq2 h2)))
      clear p3 h0 h1 h2 hq0 hq1 hq2 m1 m2 m3 m4
      obtain ⟨i0, hi, hz0, hz1, hz2⟩ := info_parts Tryz.infoInt
      go_wp2_with fail
      go_loopw [25] (fun iv wr => ∃ i : Nat, i ≤ 3 ∧ iv = .int .i64 i ∧ ∃ G', SmP B wr b P G' X p (oF (mid p).1 i).1 ((oF (mid p).1 i).2, some pv) ∧ KeptG G w wr ∧ (∀ g ∈ G', g ∈ G ∨ w.heap.size ≤ g) ∧ Below B w wr) (fun iv _ => 3 - (intOf iv).toNat)
      case atStart => exact ⟨0, by omega, rfl, G4, hS5, hk4, hG4, hB4⟩
      case round =>
        clear hS4 hS5 hk4 hG4 hB4 p0 p1 p2 hbl
        obtain ⟨i, hi3, rfl, G6, hS6, hk6, hG6, hB6⟩ := hrel
        obtain ⟨⟨hq0, h0⟩, ⟨hq1, h1⟩, hq2, h2⟩ := unhide HH
        obtain ⟨m1, m2, m3, m4⟩ := unhide HM
        by_cases hlt : i < 3
        · obtain ⟨o1, o2, o3, o4⟩ := oF_made m1 m3 i
          clear m1 m3 m4
          have hi4 : i = 0 ∨ i = 1 ∨ i = 2 := by omega
          rcases hi4 with rfl | rfl | rfl
          · have hpp := hS6.pcells.2.2.2 0 (by omega)
            rw [oF_puts, hq0, h0] at hpp
            have hnl := row_nil hpp
            have hI := row_ints hpp (by unfold maxLen; omega)
            have HI := hide hI
            have HEQ := hide (show (oF (mid p).1 1) = (storeG (addG (oF (mid p).1 0).1 5 q0) 4 (here (oF (mid p).1 0).1), (oF (mid p).1 0).2 ++ [here (oF (mid p).1 0).1]) by
              show ((outF (oF (mid p).1 0).1 0).1, (oF (mid p).1 0).2 ++ [(outF (oF (mid p).1 0).1 0).2]) = _
              unfold outF
              simp only []
              rw [oF_puts, hq0]
              rfl)
            have ho7 := hide (o1.add 5 q0 (by rw [← hq0, ← oF_puts (mid p).1 0]; exact fun x hx => put_in o1 hx) (Or.inl ⟨by omega, by omega, by omega⟩))
            obtain ⟨s6, hs6⟩ : ∃ s6, oF (mid p).1 0 = s6 := ⟨_, rfl⟩
            rw [hs6] at hS6 HEQ ho7 o2 o4
            obtain ⟨sd, so⟩ := s6
            simp only at hS6 HEQ ho7 o2 o4
            have hob : sd.gates.length ≤ 190 := by omega
            clear hpp hI o1 o2 o3 hs6
            have hix := (index_three (.slice a0 q0.length e0) (.slice a1 q1.length e1) (.slice a2 q2.length e2) wr).1
            go_wp2_with fail
            refine (gate_any hS6 5 q0 (unhide HI) hnl (by omega) (by omega)).mono ?_
            rintro e w7 ⟨rfl, hR⟩
            obtain ⟨G7, hS7, hk7, hG7, hB7⟩ := SmRet.trans hS6 hk6 hG6 hB6 hR
            clear hR hS6 hk6 hG6 hB6
            have c7 : w7.cell? ⟨b, 7, none⟩ = some (.slice P.wa 3 P.wc) := hS7.cells.2.2.2.2.1
            obtain ⟨wb, woff, hwa, hwlt, ew⟩ := hS7.q.2.2.1.at (k := 0) (by decide)
            rw [hwa] at c7
            have ew' : w7.cell? ⟨wb, woff, none⟩ = some (.int .i64 4) := ew
            have hbl7 := hS7.cells.1
            clear ew hwa
            go_wp2_with fail
            refine (lowstore_any hS7 (unhide ho7) (c := 1) (by omega) (g := 4) rfl _).mono ?_
            rintro e w8 ⟨rfl, hR⟩
            obtain ⟨G8, hS8, hk8, hG8, hB8⟩ := SmRet.trans hS7 hk7 hG7 hB7 hR
            clear hR hS7 hk7 hG7 hB7 c7 ew' hwlt hbl7
            obtain ⟨ov, hov, hown8⟩ := hS8.ov
            have hbl8 := hS8.cells.1
            have hBw8 := hS8.base
            obtain ⟨gq, hgq⟩ : ∃ gq, here sd = gq := ⟨_, rfl⟩
            have hgq' : ((sd.gates.length : Nat) : Int) = gq := hgq
            have HGQ := hide hgq
            rw [hgq']
            simp only at hown8
            rw [o4] at hown8
            clear hgq hgq'
            go_wp2_with (at_builtin; refine wpList_append_own_at _ rfl _ _ 28 rfl B 3 i0 (.int .i64 0) 1 8 Tryz.underlying28 hi hz0 hz1 hz2 rfl (by decide) _ _ _ rfl (hown8.alloc _) ⟨w8.heap.size, 0, none⟩ 1 1 [.int .i64 gq] rfl rfl ?c1 ?c2 ?c3 ?c4 ?c5 ?_)
            case c1 =>
              intro j u hj
              match j, hj with
              | 0, hj => simp at hj; subst hj; simp [Addr.add]
            case c2 => intro u hu; simp at hu; subst hu; rfl
            case c3 => unfold maxLen; omega
            case c4 => omega
            case c5 => simp; omega
            intro v9 w9 hown9 hgr9 _ hat9
            obtain ⟨va, vc, hv9⟩ := row_slice hown9
            have hb8 : Below w8.heap.size w8 (w8.alloc (.cells #[.int .i64 gq] 3)) := (Below.refl _ _).alloc (Nat.le_refl _) _
            obtain ⟨hR9, d9, f9, hbl9⟩ := (hS8.on hb8).moreO (hb8.cell (p := ⟨b, 3, none⟩) hbl8 |>.trans hov) gq (by rw [o4]; exact hown9) hgr9 (hat9.imp_right (fun e => e.trans (by simp)))
            have R := hide (show ∃ G', SmP B (w9.setCell ⟨b, 3, none⟩ v9) b P G' X p (oF (mid p).1 1).1 ((oF (mid p).1 1).2, some pv) ∧ KeptG G w (w9.setCell ⟨b, 3, none⟩ v9) ∧ (∀ g ∈ G', g ∈ G ∨ w.heap.size ≤ g) ∧ Below B w (w9.setCell ⟨b, 3, none⟩ v9) by
              have h9 := SmRet.trans hS8 hk8 hG8 hB8 (SmRet.early hS8 hb8 hR9)
              rw [unhide HEQ]
              rw [← unhide HGQ] at h9
              exact h9)
            subst hv9
            clear hR9 hown9 hgr9 hat9 hS8 hk8 hG8 hB8 hb8 hown8 hov
            go_wp2_with fail
            exact ⟨⟨1, by omega, by go_num, unhide R⟩, by simp [intOf]⟩
          · have hpp := hS6.pcells.2.2.2 1 (by omega)
            rw [oF_puts, hq1, h1] at hpp
            have hnl := row_nil hpp
            have hI := row_ints hpp (by unfold maxLen; omega)
            have HI := hide hI
            have HEQ := hide (show (oF (mid p).1 2) = (storeG (addG (oF (mid p).1 1).1 5 q1) 5 (here (oF (mid p).1 1).1), (oF (mid p).1 1).2 ++ [here (oF (mid p).1 1).1]) by
              show ((outF (oF (mid p).1 1).1 1).1, (oF (mid p).1 1).2 ++ [(outF (oF (mid p).1 1).1 1).2]) = _
              unfold outF
              simp only []
              rw [oF_puts, hq1]
              rfl)
            have ho7 := hide (o1.add 5 q1 (by rw [← hq1, ← oF_puts (mid p).1 1]; exact fun x hx => put_in o1 hx) (Or.inl ⟨by omega, by omega, by omega⟩))
            obtain ⟨s6, hs6⟩ : ∃ s6, oF (mid p).1 1 = s6 := ⟨_, rfl⟩
            rw [hs6] at hS6 HEQ ho7 o2 o4
            obtain ⟨sd, so⟩ := s6
            simp only at hS6 HEQ ho7 o2 o4
            have hob : sd.gates.length ≤ 190 := by omega
            clear hpp hI o1 o2 o3 hs6
            have hix := (index_three (.slice a0 q0.length e0) (.slice a1 q1.length e1) (.slice a2 q2.length e2) wr).2.1
            go_wp2_with fail
            refine (gate_any hS6 5 q1 (unhide HI) hnl (by omega) (by omega)).mono ?_
            rintro e w7 ⟨rfl, hR⟩
            obtain ⟨G7, hS7, hk7, hG7, hB7⟩ := SmRet.trans hS6 hk6 hG6 hB6 hR
            clear hR hS6 hk6 hG6 hB6
            have c7 : w7.cell? ⟨b, 7, none⟩ = some (.slice P.wa 3 P.wc) := hS7.cells.2.2.2.2.1
            obtain ⟨wb, woff, hwa, hwlt, ew⟩ := hS7.q.2.2.1.at (k := 1) (by decide)
            rw [hwa] at c7
            have ew' : w7.cell? ⟨wb, woff + 1, none⟩ = some (.int .i64 5) := ew
            have hbl7 := hS7.cells.1
            clear ew hwa
            go_wp2_with fail
            refine (lowstore_any hS7 (unhide ho7) (c := 2) (by omega) (g := 5) rfl _).mono ?_
            rintro e w8 ⟨rfl, hR⟩
            obtain ⟨G8, hS8, hk8, hG8, hB8⟩ := SmRet.trans hS7 hk7 hG7 hB7 hR
            clear hR hS7 hk7 hG7 hB7 c7 ew' hwlt hbl7
            obtain ⟨ov, hov, hown8⟩ := hS8.ov
            have hbl8 := hS8.cells.1
            have hBw8 := hS8.base
            obtain ⟨gq, hgq⟩ : ∃ gq, here sd = gq := ⟨_, rfl⟩
            have hgq' : ((sd.gates.length : Nat) : Int) = gq := hgq
            have HGQ := hide hgq
            rw [hgq']
            simp only at hown8
            rw [o4] at hown8
            clear hgq hgq'
            go_wp2_with (at_builtin; refine wpList_append_own_at _ rfl _ _ 28 rfl B 3 i0 (.int .i64 0) 1 8 Tryz.underlying28 hi hz0 hz1 hz2 rfl (by decide) _ _ _ rfl (hown8.alloc _) ⟨w8.heap.size, 0, none⟩ 1 1 [.int .i64 gq] rfl rfl ?c1 ?c2 ?c3 ?c4 ?c5 ?_)
            case c1 =>
              intro j u hj
              match j, hj with
              | 0, hj => simp at hj; subst hj; simp [Addr.add]
            case c2 => intro u hu; simp at hu; subst hu; rfl
            case c3 => unfold maxLen; omega
            case c4 => omega
            case c5 => simp; omega
            intro v9 w9 hown9 hgr9 _ hat9
            obtain ⟨va, vc, hv9⟩ := row_slice hown9
            have hb8 : Below w8.heap.size w8 (w8.alloc (.cells #[.int .i64 gq] 3)) := (Below.refl _ _).alloc (Nat.le_refl _) _
            obtain ⟨hR9, d9, f9, hbl9⟩ := (hS8.on hb8).moreO (hb8.cell (p := ⟨b, 3, none⟩) hbl8 |>.trans hov) gq (by rw [o4]; exact hown9) hgr9 (hat9.imp_right (fun e => e.trans (by simp)))
            have R := hide (show ∃ G', SmP B (w9.setCell ⟨b, 3, none⟩ v9) b P G' X p (oF (mid p).1 2).1 ((oF (mid p).1 2).2, some pv) ∧ KeptG G w (w9.setCell ⟨b, 3, none⟩ v9) ∧ (∀ g ∈ G', g ∈ G ∨ w.heap.size ≤ g) ∧ Below B w (w9.setCell ⟨b, 3, none⟩ v9) by
              have h9 := SmRet.trans hS8 hk8 hG8 hB8 (SmRet.early hS8 hb8 hR9)
              rw [unhide HEQ]
              rw [← unhide HGQ] at h9
              exact h9)
            subst hv9
            clear hR9 hown9 hgr9 hat9 hS8 hk8 hG8 hB8 hb8 hown8 hov
            go_wp2_with fail
            exact ⟨⟨2, by omega, by go_num, unhide R⟩, by simp [intOf]⟩
          · have hpp := hS6.pcells.2.2.2 2 (by omega)
            rw [oF_puts, hq2, h2] at hpp
            have hnl := row_nil hpp
            have hI := row_ints hpp (by unfold maxLen; omega)
            have HI := hide hI
            have HEQ := hide (show (oF (mid p).1 3) = (storeG (addG (oF (mid p).1 2).1 5 q2) 6 (here (oF (mid p).1 2).1), (oF (mid p).1 2).2 ++ [here (oF (mid p).1 2).1]) by
              show ((outF (oF (mid p).1 2).1 2).1, (oF (mid p).1 2).2 ++ [(outF (oF (mid p).1 2).1 2).2]) = _
              unfold outF
              simp only []
              rw [oF_puts, hq2]
              rfl)
            have ho7 := hide (o1.add 5 q2 (by rw [← hq2, ← oF_puts (mid p).1 2]; exact fun x hx => put_in o1 hx) (Or.inl ⟨by omega, by omega, by omega⟩))
            obtain ⟨s6, hs6⟩ : ∃ s6, oF (mid p).1 2 = s6 := ⟨_, rfl⟩
            rw [hs6] at hS6 HEQ ho7 o2 o4
            obtain ⟨sd, so⟩ := s6
            simp only at hS6 HEQ ho7 o2 o4
            have hob : sd.gates.length ≤ 190 := by omega
            clear hpp hI o1 o2 o3 hs6
            have hix := (index_three (.slice a0 q0.length e0) (.slice a1 q1.length e1) (.slice a2 q2.length e2) wr).2.2
            go_wp2_with fail
            refine (gate_any hS6 5 q2 (unhide HI) hnl (by omega) (by omega)).mono ?_
            rintro e w7 ⟨rfl, hR⟩
            obtain ⟨G7, hS7, hk7, hG7, hB7⟩ := SmRet.trans hS6 hk6 hG6 hB6 hR
            clear hR hS6 hk6 hG6 hB6
            have c7 : w7.cell? ⟨b, 7, none⟩ = some (.slice P.wa 3 P.wc) := hS7.cells.2.2.2.2.1
            obtain ⟨wb, woff, hwa, hwlt, ew⟩ := hS7.q.2.2.1.at (k := 2) (by decide)
            rw [hwa] at c7
            have ew' : w7.cell? ⟨wb, woff + 2, none⟩ = some (.int .i64 6) := ew
            have hbl7 := hS7.cells.1
            clear ew hwa
            go_wp2_with fail
            refine (lowstore_any hS7 (unhide ho7) (c := 3) (by omega) (g := 6) rfl _).mono ?_
            rintro e w8 ⟨rfl, hR⟩
            obtain ⟨G8, hS8, hk8, hG8, hB8⟩ := SmRet.trans hS7 hk7 hG7 hB7 hR
            clear hR hS7 hk7 hG7 hB7 c7 ew' hwlt hbl7
            obtain ⟨ov, hov, hown8⟩ := hS8.ov
            have hbl8 := hS8.cells.1
            have hBw8 := hS8.base
            obtain ⟨gq, hgq⟩ : ∃ gq, here sd = gq := ⟨_, rfl⟩
            have hgq' : ((sd.gates.length : Nat) : Int) = gq := hgq
            have HGQ := hide hgq
            rw [hgq']
            simp only at hown8
            rw [o4] at hown8
            clear hgq hgq'
            go_wp2_with (at_builtin; refine wpList_append_own_at _ rfl _ _ 28 rfl B 3 i0 (.int .i64 0) 1 8 Tryz.underlying28 hi hz0 hz1 hz2 rfl (by decide) _ _ _ rfl (hown8.alloc _) ⟨w8.heap.size, 0, none⟩ 1 1 [.int .i64 gq] rfl rfl ?c1 ?c2 ?c3 ?c4 ?c5 ?_)
            case c1 =>
              intro j u hj
              match j, hj with
              | 0, hj => simp at hj; subst hj; simp [Addr.add]
            case c2 => intro u hu; simp at hu; subst hu; rfl
            case c3 => unfold maxLen; omega
            case c4 => omega
            case c5 => simp; omega
            intro v9 w9 hown9 hgr9 _ hat9
            obtain ⟨va, vc, hv9⟩ := row_slice hown9
            have hb8 : Below w8.heap.size w8 (w8.alloc (.cells #[.int .i64 gq] 3)) := (Below.refl _ _).alloc (Nat.le_refl _) _
            obtain ⟨hR9, d9, f9, hbl9⟩ := (hS8.on hb8).moreO (hb8.cell (p := ⟨b, 3, none⟩) hbl8 |>.trans hov) gq (by rw [o4]; exact hown9) hgr9 (hat9.imp_right (fun e => e.trans (by simp)))
            have R := hide (show ∃ G', SmP B (w9.setCell ⟨b, 3, none⟩ v9) b P G' X p (oF (mid p).1 3).1 ((oF (mid p).1 3).2, some pv) ∧ KeptG G w (w9.setCell ⟨b, 3, none⟩ v9) ∧ (∀ g ∈ G', g ∈ G ∨ w.heap.size ≤ g) ∧ Below B w (w9.setCell ⟨b, 3, none⟩ v9) by
              have h9 := SmRet.trans hS8 hk8 hG8 hB8 (SmRet.early hS8 hb8 hR9)
              rw [unhide HEQ]
              rw [← unhide HGQ] at h9
              exact h9)
            subst hv9
            clear hR9 hown9 hgr9 hat9 hS8 hk8 hG8 hB8 hb8 hown8 hov
            go_wp2_with fail
            exact ⟨⟨3, by omega, by go_num, unhide R⟩, by simp [intOf]⟩
        · have hi4 : i = 3 := by omega
          subst hi4
          have R := hide (show SmQ B b P G X p w wr (forgeF p).1 ((forgeF p).2, some pv) by rw [forge_oF]; exact ⟨G6, hS6, hk6, hG6, hB6⟩)
          clear hS6 hk6 hG6 hB6 m1 m2 m3 m4
          go_wp2_with fail
          go_end0
          exact ⟨rfl, pv, unhide R⟩

open Go.Maps
theorem SmAt.cell {B : Nat} {W : World} {b : Nat} {k k' : KK} {G X : List Nat} {Q : World → Prop} {s : SmD} {os : OS} (h : SmAt B W b k G X Q s os) (j : Nat) (v : Value) (hk : ∀ r, boxV k' r = (boxV k r).set j v) : SmAt B (W.setCell ⟨b, j, none⟩ v) b k' G X Q s os := by
  obtain ⟨r, cs, h1, rfl⟩ := h
  have hkp : KeptG (rowsL b r) W (W.setCell ⟨b, j, none⟩ v) := KeptG.set v (rowsL_mem.2 (Or.inl rfl))
  have hsub : ∀ g ∈ rowsL b r, g ∈ rowsL b r ∨ W.heap.size ≤ g := fun _ hg => Or.inl hg
  refine ⟨r, cs, ⟨h1.hb, ?_, row_set h1.gates (row_ne h1.gates h1.box (by decide)), row_set h1.regs (row_ne h1.regs h1.box (by decide)), row_set h1.outs (row_ne h1.outs h1.box (by decide)), fun c hc => row_set (h1.puts c hc) (row_ne (h1.puts c hc) h1.box (by decide)), h1.apo, h1.app, h1.keep.step hkp.left (sub_left hsub), h1.rest.step hkp.left (sub_left hsub), fun x hx => ⟨Nat.lt_of_lt_of_le (h1.xs x hx).1 hkp.1, (h1.xs x hx).2⟩, h1.pvs⟩, rfl⟩
  rw [hk r]
  exact h1.box.set j v
theorem SmAt.own {B : Nat} {W : World} {b : Nat} {k : KK} {G X X0 : List Nat} {Q Q' : World → Prop} {s : SmD} {os : OS} (h : SmAt B W b k G X Q s os) (hs : ∀ x ∈ X0, x ∈ X) (hQ : Kp (G ++ X0) W Q') : SmAt B W b k G X0 Q' s os := by
  obtain ⟨r, cs, h1, rfl⟩ := h
  exact ⟨r, cs, ⟨h1.hb, h1.box, h1.gates, h1.regs, h1.outs, h1.puts, h1.apo, h1.app, h1.keep.step (KeptG.refl _ _) (fun g hg => Or.inl (by
    rcases List.mem_append.1 hg with h9 | h9
    · exact List.mem_append_left _ h9
    · exact List.mem_append_right _ (hs g h9))), hQ, fun x hx => h1.xs x (hs x hx), h1.pvs⟩, rfl⟩

/-- A smith begun, his lists not yet all there. -/
def kkN (pa : Option Addr) (pn pc : Nat) (iv : Value) (fr : Int) (wv : Value) (m : Nat) : KK := ⟨.slice pa pn pc, iv, .int .i64 fr, wv, .map (some m)⟩
structure NewG (X0 : List Nat) (B b m : Nat) (pa : Option Addr) (pn pc : Nat) (p : List NodeD) (k : Nat) (fr : Int) (w : World) (s : SmD) (iv wv : Value) (xs ys : List Int) (G : List Nat) (W : World) : Prop where
  at' : SmAt B W b (kkN pa pn pc iv fr wv m) G (ownB iv ++ (ownB wv ++ (m :: X0))) (fun V => Nodes V pa pn p) s ([], none)
  ins : W.ownsRow B 3 1 iv xs.length (intsV xs)
  was : W.ownsRow B 3 1 wv ys.length (intsV ys)
  ne : ∀ x, iv.ownBlock = some x → wv.ownBlock ≠ some x
  map : WaitAt W m p k
  bel : Below B w W
def NewAt (X0 : List Nat) (B b m : Nat) (pa : Option Addr) (pn pc : Nat) (p : List NodeD) (k : Nat) (fr : Int) (w : World) (s : SmD) (iv wv : Value) (xs ys : List Int) (W : World) : Prop := ∃ G, NewG X0 B b m pa pn pc p k fr w s iv wv xs ys G W
section
variable {X0 : List Nat} {B b m : Nat} {pa : Option Addr} {pn pc : Nat} {p : List NodeD} {k : Nat} {fr : Int} {w : World} {s : SmD} {iv wv : Value} {xs ys : List Int} {G : List Nat} {W W' : World}
theorem NewG.on (h : NewG X0 B b m pa pn pc p k fr w s iv wv xs ys G W) (hb : Below W.heap.size W W') : NewG X0 B b m pa pn pc p k fr w s iv wv xs ys G W' :=
  ⟨h.at'.on hb, own_below h.ins hb, own_below h.was hb, h.ne, h.map.keep (hb.block m h.map.lt), h.bel.trans (hb.mono h.at'.base)⟩
theorem NewG.ret (h : NewG X0 B b m pa pn pc p k fr w s iv wv xs ys G W) {s' : SmD} (hR : SmRet B b (kkN pa pn pc iv fr wv m) G (ownB iv ++ (ownB wv ++ (m :: X0))) (fun V => Nodes V pa pn p) W W' s' ([], none)) : NewAt X0 B b m pa pn pc p k fr w s' iv wv xs ys W' := by
  obtain ⟨G', a1, a2, a3, a4⟩ := hR
  have hx := h.at'.xlt
  exact ⟨G', a1, row_kept h.ins a2 (fun y hy => (hx y (List.mem_append_left _ (ownB_mem.2 hy))).2), row_kept h.was a2 (fun y hy => (hx y (List.mem_append_right _ (List.mem_append_left _ (ownB_mem.2 hy)))).2), h.ne, h.map.keep (a2.2 m h.map.lt (hx m (by simp)).2), h.bel.trans a4⟩
theorem NewG.fresh (h : NewG X0 B b m pa pn pc p k fr w s iv wv xs ys G W) (fr' : Int) : NewG X0 B b m pa pn pc p k fr' w s iv wv xs ys G (W.setCell ⟨b, 6, none⟩ (.int .i64 fr')) := by
  have hx := h.at'.xlt
  have hbG : b ∈ G := by obtain ⟨r, cs, h1, h2⟩ := h.at'; rw [h2]; exact rowsL_mem.2 (Or.inl rfl)
  have hbB : B ≤ b := (h.at'.lt b hbG).1
  have hne : ∀ y, y ∈ ownB iv ++ (ownB wv ++ (m :: X0)) → y ≠ b := fun y hy e => (hx y hy).2 (by rw [e]; exact hbG)
  exact ⟨h.at'.cell 6 _ (fun r => rfl), row_set h.ins (fun e => hne b (List.mem_append_left _ (ownB_mem.2 e)) rfl), row_set h.was (fun e => hne b (List.mem_append_right _ (List.mem_append_left _ (ownB_mem.2 e))) rfl), h.ne, h.map.keep (set_other (hne m (by simp))), h.bel.setCell hbB _⟩
theorem NewG.wait (h : NewG X0 B b m pa pn pc p k fr w s iv wv xs ys G W) {k' : Nat} (hm : WaitAt W' m p k') (hgr : W.grownBy W' (some m)) (hB : B ≤ m) : NewG X0 B b m pa pn pc p k' fr w s iv wv xs ys G W' := by
  have hx := h.at'.xlt
  have hk : KeptG (ownB iv ++ (ownB wv ++ (m :: X0))) W W' := KeptG.grown hgr (fun y hy => by injection hy with hy; subst hy; simp)
  have hmi : ∀ {v : Value} {n : Nat} {zs : List Value}, W.ownsRow B 3 1 v n zs → v.ownBlock ≠ some m := fun {v n zs} hv e => by
    obtain ⟨D, ⟨es, clock, h1, _⟩, _⟩ := h.map
    rcases hv.2 with ⟨h3, _⟩ | ⟨g, cap, cur, h3, _, h4, _⟩
    · rw [h3] at e; simp [Value.ownBlock] at e
    · rw [h3] at e; simp only [Value.ownBlock, Option.some.injEq] at e
      rw [e] at h4; rw [h4] at h1; simp at h1
  have hrow : ∀ {v : Value} {n : Nat} {zs : List Value}, W.ownsRow B 3 1 v n zs → W'.ownsRow B 3 1 v n zs := fun {v n zs} hv => hv.kept hgr (by
    cases e : v.ownBlock with
    | none => exact Or.inl rfl
    | some y => exact Or.inr (fun h9 => hmi hv (by rw [e, h9])))
  exact ⟨h.at'.turnX hk (fun x hx => Or.inl hx) (fun x hx' => Nat.lt_of_lt_of_le (hx x hx').1 hgr.size), hrow h.ins, hrow h.was, h.ne, hm, h.bel.trans ((Below.refl B W).grown hgr h.at'.base (fun j hj => by injection hj with hj; omega))⟩
/-- A list of the smith's own grows, and is stored. -/
theorem NewG.moreI (h : NewG X0 B b m pa pn pc p k fr w s iv wv xs ys G W) {x : Int} {w8 : World} {g8 cap8 : Nat} (hown : w8.ownsRow B 3 1 (.slice (some ⟨g8, 0, none⟩) (xs.length + 1) cap8) (xs.length + 1) (intsV xs ++ [.int .i64 x])) (hgr : W.grownBy w8 iv.ownBlock) (hat : iv.ownBlock = some g8 ∨ g8 = W.heap.size) :
    (w8.cell? ⟨b, 5, none⟩ = some iv ∧ w8.frozen? ⟨b, 5, none⟩ = false) ∧ NewG X0 B b m pa pn pc p k fr w s (.slice (some ⟨g8, 0, none⟩) (xs.length + 1) cap8) wv (xs ++ [x]) ys G (w8.setCell ⟨b, 5, none⟩ (.slice (some ⟨g8, 0, none⟩) (xs.length + 1) cap8)) := by
  have hx := h.at'.xlt
  have hbG : b ∈ G := by obtain ⟨r, cs, h1, h2⟩ := h.at'; rw [h2]; exact rowsL_mem.2 (Or.inl rfl)
  have hbB : B ≤ b := (h.at'.lt b hbG).1
  have hX8 : ∀ y ∈ ownB (.slice (some ⟨g8, 0, none⟩) (xs.length + 1) cap8) ++ (ownB wv ++ (m :: X0)), y ∈ ownB iv ++ (ownB wv ++ (m :: X0)) ∨ W.heap.size ≤ y := fun y hy => by
    rcases List.mem_append.1 hy with h9 | h9
    · have h10 : g8 = y := by have h12 := ownB_mem.1 h9; simpa [Value.ownBlock] using h12
      subst h10
      rcases hat with h11 | h11
      · exact Or.inl (List.mem_append_left _ (ownB_mem.2 h11))
      · exact Or.inr (by omega)
    · exact Or.inl (List.mem_append_right _ h9)
  have hS8 := h.at'.turnX (KeptG.grown hgr (fun y hy => List.mem_append_left _ (ownB_mem.2 hy))) hX8 (fun y hy => by
    rcases List.mem_append.1 hy with h9 | h9
    · exact (hown.lt y (ownB_mem.1 h9)).2
    · exact Nat.lt_of_lt_of_le (hx y (List.mem_append_right _ h9)).1 hgr.size)
  have hne8 : ∀ y, y ∈ ownB (.slice (some ⟨g8, 0, none⟩) (xs.length + 1) cap8) ++ (ownB wv ++ (m :: X0)) → y ≠ b := fun y hy e => (hS8.xlt y hy).2 (by rw [e]; exact hbG)
  have hwas : w8.ownsRow B 3 1 wv ys.length (intsV ys) := h.was.kept hgr (by
    cases e : wv.ownBlock with
    | none => exact Or.inl rfl
    | some y => exact Or.inr (fun h9 => h.ne y h9.symm e))
  have hmm : w8.heap[m]? = W.heap[m]? := by
    refine hgr.block m h.map.lt (fun e => ?_)
    obtain ⟨D, ⟨es, clock, h1, _⟩, _⟩ := h.map
    rcases h.ins.2 with ⟨h3, _⟩ | ⟨g, cap, cur, h3, _, h4, _⟩
    · rw [h3] at e; simp [Value.ownBlock] at e
    · rw [h3] at e; simp only [Value.ownBlock, Option.some.injEq] at e
      rw [← e] at h4; rw [h4] at h1; simp at h1
  have hb8 : Below B W w8 := (Below.refl B W).grown hgr h.at'.base (fun j hj => (h.ins.lt j hj).1)
  refine ⟨?_, hS8.cell 5 _ (fun r => rfl), ?_, row_set hwas (fun e => hne8 b (List.mem_append_right _ (List.mem_append_left _ (ownB_mem.2 e))) rfl), ?_, (h.map.keep hmm).keep (set_other (hne8 m (by simp))), (h.bel.trans hb8).setCell hbB _⟩
  · obtain ⟨r, cs, h1, h2⟩ := hS8
    exact ⟨h1.box.cell 5, h1.box.frozen 5⟩
  · have := row_set (k := 5) (u := .slice (some ⟨g8, 0, none⟩) (xs.length + 1) cap8) hown (fun e => hne8 b (List.mem_append_left _ (ownB_mem.2 e)) rfl)
    simpa [intsV] using this
  · intro y hy h9
    have h10 : g8 = y := by simpa [Value.ownBlock] using hy
    subst h10
    rcases hat with h11 | h11
    · exact h.ne _ h11 h9
    · have := (h.was.lt _ h9).2; omega
theorem NewG.moreW (h : NewG X0 B b m pa pn pc p k fr w s iv wv xs ys G W) {x : Int} {w8 : World} {g8 cap8 : Nat} (hown : w8.ownsRow B 3 1 (.slice (some ⟨g8, 0, none⟩) (ys.length + 1) cap8) (ys.length + 1) (intsV ys ++ [.int .i64 x])) (hgr : W.grownBy w8 wv.ownBlock) (hat : wv.ownBlock = some g8 ∨ g8 = W.heap.size) :
    (w8.cell? ⟨b, 7, none⟩ = some wv ∧ w8.frozen? ⟨b, 7, none⟩ = false) ∧ NewG X0 B b m pa pn pc p k fr w s iv (.slice (some ⟨g8, 0, none⟩) (ys.length + 1) cap8) xs (ys ++ [x]) G (w8.setCell ⟨b, 7, none⟩ (.slice (some ⟨g8, 0, none⟩) (ys.length + 1) cap8)) := by
  have hx := h.at'.xlt
  have hbG : b ∈ G := by obtain ⟨r, cs, h1, h2⟩ := h.at'; rw [h2]; exact rowsL_mem.2 (Or.inl rfl)
  have hbB : B ≤ b := (h.at'.lt b hbG).1
  have hX8 : ∀ y ∈ ownB iv ++ (ownB (.slice (some ⟨g8, 0, none⟩) (ys.length + 1) cap8) ++ (m :: X0)), y ∈ ownB iv ++ (ownB wv ++ (m :: X0)) ∨ W.heap.size ≤ y := fun y hy => by
    rcases List.mem_append.1 hy with h9 | h9
    · exact Or.inl (List.mem_append_left _ h9)
    · rcases List.mem_append.1 h9 with h9 | h9
      · have h10 : g8 = y := by have h12 := ownB_mem.1 h9; simpa [Value.ownBlock] using h12
        subst h10
        rcases hat with h11 | h11
        · exact Or.inl (List.mem_append_right _ (List.mem_append_left _ (ownB_mem.2 h11)))
        · exact Or.inr (by omega)
      · exact Or.inl (List.mem_append_right _ (List.mem_append_right _ h9))
  have hS8 := h.at'.turnX (KeptG.grown hgr (fun y hy => List.mem_append_right _ (List.mem_append_left _ (ownB_mem.2 hy)))) hX8 (fun y hy => by
    rcases List.mem_append.1 hy with h9 | h9
    · exact Nat.lt_of_lt_of_le (hx y (List.mem_append_left _ h9)).1 hgr.size
    · rcases List.mem_append.1 h9 with h9 | h9
      · exact (hown.lt y (ownB_mem.1 h9)).2
      · exact Nat.lt_of_lt_of_le (hx y (List.mem_append_right _ (List.mem_append_right _ h9))).1 hgr.size)
  have hne8 : ∀ y, y ∈ ownB iv ++ (ownB (.slice (some ⟨g8, 0, none⟩) (ys.length + 1) cap8) ++ (m :: X0)) → y ≠ b := fun y hy e => (hS8.xlt y hy).2 (by rw [e]; exact hbG)
  have hins : w8.ownsRow B 3 1 iv xs.length (intsV xs) := h.ins.kept hgr (by
    cases e : iv.ownBlock with
    | none => exact Or.inl rfl
    | some y => exact Or.inr (fun h9 => h.ne y e h9.symm))
  have hmm : w8.heap[m]? = W.heap[m]? := by
    refine hgr.block m h.map.lt (fun e => ?_)
    obtain ⟨D, ⟨es, clock, h1, _⟩, _⟩ := h.map
    rcases h.was.2 with ⟨h3, _⟩ | ⟨g, cap, cur, h3, _, h4, _⟩
    · rw [h3] at e; simp [Value.ownBlock] at e
    · rw [h3] at e; simp only [Value.ownBlock, Option.some.injEq] at e
      rw [← e] at h4; rw [h4] at h1; simp at h1
  have hb8 : Below B W w8 := (Below.refl B W).grown hgr h.at'.base (fun j hj => (h.was.lt j hj).1)
  refine ⟨?_, hS8.cell 7 _ (fun r => rfl), row_set hins (fun e => hne8 b (List.mem_append_left _ (ownB_mem.2 e)) rfl), ?_, ?_, (h.map.keep hmm).keep (set_other (hne8 m (by simp))), (h.bel.trans hb8).setCell hbB _⟩
  · obtain ⟨r, cs, h1, h2⟩ := hS8
    exact ⟨h1.box.cell 7, h1.box.frozen 7⟩
  · have := row_set (k := 7) (u := .slice (some ⟨g8, 0, none⟩) (ys.length + 1) cap8) hown (fun e => hne8 b (List.mem_append_right _ (List.mem_append_left _ (ownB_mem.2 e))) rfl)
    simpa [intsV] using this
  · intro y hy h9
    have h10 : g8 = y := by simpa [Value.ownBlock] using h9
    subst h10
    rcases hat with h11 | h11
    · exact h.ne _ hy h11
    · have := (h.ins.lt _ hy).2; omega
end

def insG (i : Nat) : List GateD := (List.range i).map (fun (j : Nat) => (⟨2, (j : Int), []⟩ : GateD))
def st1 (i : Nat) : SmD := ⟨insG i, [], [[], [], []]⟩
def upTo (z i : Nat) : List Int := (List.range i).map (fun (j : Nat) => ((z + j : Nat) : Int))
theorem upTo_succ (z i : Nat) : upTo z (i + 1) = upTo z i ++ [((z + i : Nat) : Int)] := by unfold upTo; rw [List.range_succ, List.map_append]; rfl
theorem upTo_len (z i : Nat) : (upTo z i).length = i := by simp [upTo]
theorem st1_len (i : Nat) : (st1 i).gates.length = i := by simp [st1, insG]
theorem st1_succ (i : Nat) : addGate (st1 i) ⟨2, (i : Int), []⟩ = st1 (i + 1) := by
  unfold addGate st1 insG
  rw [List.range_succ, List.map_append]
  rfl
def regG (s : SmD) (bg : Bool) : SmD := addGate (addReg s bg) ⟨3, (s.regs.length : Nat), []⟩
def st2 : Nat → SmD
  | 0 => regG (st1 3) true
  | i + 1 => regG (st2 i) false
theorem st2_len : ∀ i, (st2 i).gates.length = 4 + i ∧ (st2 i).regs.length = 1 + i
  | 0 => ⟨by simp [st2, regG, addGate, addReg, st1_len], rfl⟩
  | i + 1 => by
    obtain ⟨h1, h2⟩ := st2_len i
    constructor
    · show ((st2 i).gates ++ [_]).length = _
      simp [h1]; omega
    · show ((st2 i).regs ++ [_]).length = _
      simp [h2]; omega
def st3 (p : List NodeD) : Nat → SmD
  | 0 => st2 3
  | k + 1 => if waitK (kindAt p k) then regG (st3 p k) false else st3 p k
theorem st3_is (p : List NodeD) : ∀ k, st3 p k = ⟨[⟨2, 0, []⟩, ⟨2, 1, []⟩, ⟨2, 2, []⟩, ⟨3, 0, []⟩, ⟨3, 1, []⟩, ⟨3, 2, []⟩, ⟨3, 3, []⟩] ++ (List.range (mayN p k)).map (fun i => ⟨3, ((4 + i : Nat) : Int), []⟩), [(true, 0), (false, 0), (false, 0), (false, 0)] ++ (List.range (mayN p k)).map (fun _ => (false, 0)), [[], [], []]⟩
  | 0 => by
    have : mayN p 0 = 0 := rfl
    rw [this]
    rfl
  | k + 1 => by
    have ih := st3_is p k
    show (if waitK (kindAt p k) then regG (st3 p k) false else st3 p k) = _
    rw [may_succ]
    cases e : waitK (kindAt p k)
    · simpa using ih
    · simp only [if_true]
      rw [ih, List.range_succ, List.map_append, List.map_append]
      unfold regG addGate addReg
      simp only [List.length_append, List.length_map, List.length_range, List.length_cons, List.length_nil, List.map_cons, List.map_nil, List.append_assoc]
theorem st3_len (p : List NodeD) (k : Nat) : (st3 p k).gates.length = 7 + mayN p k ∧ (st3 p k).regs.length = 4 + mayN p k := by
  rw [st3_is]
  constructor <;> simp <;> omega
theorem st3_all (p : List NodeD) : st3 p p.length = smith0 p := by rw [st3_is]; rfl

open Go.Maps
theorem Nodes.early {w V : World} {a : Option Addr} {n : Nat} {p : List NodeD} (h : Nodes w a n p) (hs : w.heap.size ≤ V.heap.size) (hk : ∀ k, k < w.heap.size → V.heap[k]? = w.heap[k]?) : Nodes V a n p := by
  obtain ⟨h1, h2, h3⟩ := h
  refine ⟨h1, h2, ?_⟩
  rcases h3 with h3 | ⟨b, off, ha, hlt, hc⟩
  · exact Or.inl h3
  · exact Or.inr ⟨b, off, ha, Nat.lt_of_lt_of_le hlt hs, fun i hi => ⟨(World.cell?_of_block (hk b hlt)).trans (hc i hi).1, (World.cell?_of_block (hk b hlt)).trans (hc i hi).2⟩⟩
theorem new_start (X0 : List Nat) (p : List NodeD) (pa : Option Addr) (pn pc : Nat) (w : World) (hN : Kp X0 w (fun V => Nodes V pa pn p)) (hX0 : ∀ x ∈ X0, x < w.heap.size) :
    NewAt X0 w.heap.size (w.heap.size + 1) w.heap.size pa pn pc p 0 0 w ⟨[], [], [[], [], []]⟩ (.slice none 0 0) (.slice none 0 0) [] []
      ((w.alloc (.map #[] 0)).alloc (.cells #[.int .i64 3, .slice none 0 0, .slice none 0 0, .slice none 0 0, .slice pa pn pc, .slice none 0 0, .int .i64 0, .slice none 0 0, .map (some w.heap.size), .slice none 0 0, .slice none 0 0, .slice none 0 0] 109)) := by
  have hs1 : (w.alloc (.map #[] 0)).heap.size = w.heap.size + 1 := by simp
  have hm0 := World.ownsMap_made (H := Unit) w Tryz.prog 3 (plainElem (H := Unit) Tryz.prog 3)
  have hb1 : Below w.heap.size w (w.alloc (.map #[] 0)) := (Below.refl _ _).alloc (Nat.le_refl _) _
  have hb2 := (Below.refl _ (w.alloc (.map #[] 0))).alloc (Nat.le_refl _) (.cells #[.int .i64 3, .slice none 0 0, .slice none 0 0, .slice none 0 0, .slice pa pn pc, .slice none 0 0, .int .i64 0, .slice none 0 0, .map (some w.heap.size), .slice none 0 0, .slice none 0 0, .slice none 0 0] 109)
  have hcell := Cells.new (w.alloc (.map #[] 0)) [.int .i64 3, .slice none 0 0, .slice none 0 0, .slice none 0 0, .slice pa pn pc, .slice none 0 0, .int .i64 0, .slice none 0 0, .map (some w.heap.size), .slice none 0 0, .slice none 0 0, .slice none 0 0] 109
  rw [hs1] at hcell
  have hB := bstep hb1 hb2
  generalize hw2 : (w.alloc (.map #[] 0)).alloc (.cells #[.int .i64 3, .slice none 0 0, .slice none 0 0, .slice none 0 0, .slice pa pn pc, .slice none 0 0, .int .i64 0, .slice none 0 0, .map (some w.heap.size), .slice none 0 0, .slice none 0 0, .slice none 0 0] 109) = w2 at *
  have hrl : rowsL (w.heap.size + 1) ⟨.slice none 0 0, .slice none 0 0, .slice none 0 0, fun _ => .slice none 0 0⟩ = [w.heap.size + 1] := by simp [rowsL, ownB, Value.ownBlock]
  have hX : ownB (.slice none 0 0) ++ (ownB (.slice none 0 0) ++ (w.heap.size :: X0)) = w.heap.size :: X0 := by simp [ownB, Value.ownBlock]
  refine ⟨[w.heap.size + 1], ⟨⟨⟨.slice none 0 0, .slice none 0 0, .slice none 0 0, fun _ => .slice none 0 0⟩, [], ⟨by omega, hcell, World.ownsRow_nil _ _ _ _, World.ownsRow_nil _ _ _ _, World.ownsRow_nil _ _ _ _, ?_, ?_, ?_, GRk.nil _ _, ?_, ?_, fun pv e => by simp at e⟩, hrl.symm⟩, World.ownsRow_nil _ _ _ _, World.ownsRow_nil _ _ _ _, by simp [Value.ownBlock], ⟨_, ?_, WaitD.nil p⟩, hB⟩⟩
  · intro c hc
    have : ([[], [], []] : List (List Int)).getD c [] = [] := by
      have : c = 0 ∨ c = 1 ∨ c = 2 := by omega
      rcases this with rfl | rfl | rfl <;> rfl
    show w2.ownsRow _ _ _ _ (([[], [], []] : List (List Int)).getD c []).length (intsV (([[], [], []] : List (List Int)).getD c []))
    rw [this]
    exact World.ownsRow_nil _ _ _ _
  · intro c _ x hx; simp [Value.ownBlock] at hx
  · intro c d _ _ _ x hx; simp [Value.ownBlock] at hx
  · rw [hrl, hX]
    refine hN.step (KeptG.of hB) (fun g hg => ?_)
    simp at hg
    rcases hg with h9 | h9 | h9
    · exact Or.inr (by omega)
    · exact Or.inr (by omega)
    · exact Or.inl h9
  · intro x hx
    rw [hX] at hx
    rw [hrl]
    rcases List.mem_cons.1 hx with hx' | hx'
    · subst hx'
      exact ⟨by have := hcell.lt; omega, by simp⟩
    · have := hX0 x hx'
      exact ⟨by have := hcell.lt; omega, by simp; omega⟩
  · obtain ⟨es, clock, h1, h2⟩ := hm0
    exact ⟨es, clock, (hb2.block w.heap.size (by rw [hs1]; omega)).trans h1, h2⟩
theorem st1_call {X0 : List Nat} {B b m : Nat} {pa : Option Addr} {pn pc : Nat} {p : List NodeD} {k : Nat} {fr : Int} {w : World} {iv wv : Value} {xs ys : List Int} {G : List Nat} {W : World} {i : Nat} (h : NewG X0 B b m pa pn pc p k fr w (st1 i) iv wv xs ys G W) (hi : i ≤ 100) :
    Calls Tryz.prog 90 #[.pointer (some ⟨b, 0, none⟩), .agg #[.int .i64 2, .int .i64 (i : Int), .slice none 0 0]] W fun e w' => e = .returned (.int .i64 (i : Int)) ∧ SmRet B b (kkN pa pn pc iv fr wv m) G (ownB iv ++ (ownB wv ++ (m :: X0))) (fun V => Nodes V pa pn p) W w' (st1 (i + 1)) ([], none) := by
  have := add_any h.at' ⟨2, (i : Int), []⟩ (aa := none) (an := 0) (ac := 0) (fun V _ => Ints.none V) (by rw [st1_len]; omega)
  rw [st1_len, st1_succ] at this
  exact this
theorem regG_call {X0 : List Nat} {B b m : Nat} {pa : Option Addr} {pn pc : Nat} {p : List NodeD} {k : Nat} {fr : Int} {w : World} {iv wv : Value} {xs ys : List Int} {G : List Nat} {W : World} {s s' : SmD} {bg : Bool} {x : Int} (h : NewG X0 B b m pa pn pc p k fr w s iv wv xs ys G W) (hs : regG s bg = s') (hx : ((s.gates.length : Nat) : Int) = x) (h1 : s.gates.length ≤ 1000) (h2 : s.regs.length ≤ 1000) :
    Calls Tryz.prog 91 #[.pointer (some ⟨b, 0, none⟩), .bool bg] W fun e w' => e = .returned (.int .i64 x) ∧ SmRet B b (kkN pa pn pc iv fr wv m) G (ownB iv ++ (ownB wv ++ (m :: X0))) (fun V => Nodes V pa pn p) W w' s' ([], none) := by
  have := register_any h.at' bg h1 h2
  rw [hx, show addGate (addReg s bg) ⟨3, (s.regs.length : Nat), []⟩ = s' from hs] at this
  exact this

set_option maxRecDepth 100000 in
set_option maxHeartbeats 16000000 in
theorem newSmith_any (X0 : List Nat) (p : List NodeD) (hok : POk p) (pa ma : Option Addr) (pn pc mn mc : Nat) (w : World) (hN : Kp X0 w (fun V => Nodes V pa pn p)) (hX0 : ∀ x ∈ X0, x < w.heap.size) (hM : Bools w ma mn (waitsV p)) :
    Calls Tryz.prog 65 #[.slice pa pn pc, .slice ma mn mc] w fun e w' => ∃ b G P, e = .returned (.pointer (some ⟨b, 0, none⟩)) ∧ P.na = pa ∧ P.nn = pn ∧ P.nc = pc ∧ SmP w.heap.size w' b P G X0 p (smith0 p) ([], none) ∧ Below w.heap.size w w' := by
  have hst := new_start X0 p pa pn pc w hN hX0
  have hfew := hok.few
  obtain ⟨i0, hi, hz0, hz1, hz2⟩ := info_parts Tryz.infoInt
  have hmm := @run_makeMap Tryz.prog
  go_enter Tryz.func65, Tryz.ntmps65
  go_upto_region 2 with fail
  generalize hbe : w.heap.size + 1 = b at *
  generalize hw2 : (w.alloc (.map #[] 0)).alloc (.cells #[.int .i64 3, .slice none 0 0, .slice none 0 0, .slice none 0 0, .slice pa pn pc, .slice none 0 0, .int .i64 0, .slice none 0 0, .map (some w.heap.size), .slice none 0 0, .slice none 0 0, .slice none 0 0] 109) = w2 at *
  clear hw2 hmm
  have hc0 : w2.cell? ⟨b, 0, none⟩ = some (.int .i64 3) := by
    obtain ⟨G, hG⟩ := hst
    obtain ⟨r, cs, h1, _⟩ := hG.at'
    exact h1.box.cell 0
  have hstl : b < w2.heap.size := by
    obtain ⟨G, hG⟩ := hst
    exact hG.at'.cells.1
  go_wp2_with fail
  go_loopw [19] (fun iv wr => ∃ i : Nat, i ≤ 3 ∧ iv = .int .i64 i ∧ ∃ av, NewAt X0 w.heap.size b w.heap.size pa pn pc p 0 0 w (st1 i) av (.slice none 0 0) (upTo 0 i) [] wr) (fun iv _ => 3 - (intOf iv).toNat)
  case atStart => exact ⟨0, by omega, rfl, _, hst⟩
  case round =>
    clear hst hc0 hstl
    obtain ⟨i, hi3, rfl, av, G0, hN0⟩ := hrel
    by_cases hlt : i < 3
    · have hki : (i : Int) < 3 := by omega
      have hNd := hN0.on (Below.refl wr.heap.size wr).drew
      have hcall := st1_call hNd (by omega)
      have c5 : wr.cell? ⟨b, 5, none⟩ = some av := hN0.at'.cells.2.2.1
      have hbl := hN0.at'.cells.1
      have hu : upTo 0 i ++ [(i : Int)] = upTo 0 (i + 1) := by rw [upTo_succ, Nat.zero_add]
      clear hN0
      go_wp2_with fail
      refine wp_region_held_drew (S := fun _ => True) (by kernel_rfl) trivial (fun hHeld => ?_)
      refine wpAnyH_take (i := 0) (oi := { dst := some 22, op := Go.Op.move (Go.Operand.tmp 5), type := 104, pos := "smith.go:29", after := #[], guard := none }) (v := ?_) rfl (by kernel_rfl) (by kernel_rfl) (by kernel_rfl) (fun _ _ _ h => h) (Or.inl ⟨by rfl, ?_⟩) (by assumption) ?_
      rotate_left
      · intro w hSw; (try dsimp only at hSw); go_simp; (try (with_reducible rfl))
      try simp only [Act.put, List.setIfInBounds_toArray, List.set_cons_zero, List.set_cons_succ]
      refine wpAnyH_take (i := 1) (oi := { dst := some 23, op := Go.Op.move (Go.Operand.tmp 5), type := 104, pos := "smith.go:29", after := #[], guard := none }) (v := ?_) rfl (by kernel_rfl) (by kernel_rfl) (by kernel_rfl) (fun _ _ _ h => h) (Or.inl ⟨by rfl, ?_⟩) (by assumption) ?_
      rotate_left
      · intro w hSw; (try dsimp only at hSw); go_simp; (try (with_reducible rfl))
      try simp only [Act.put, List.setIfInBounds_toArray, List.set_cons_zero, List.set_cons_succ]
      refine wpAnyH_take (i := 2) (oi := { dst := some 24, op := Go.Op.nilCheck (Go.Operand.tmp 23), type := 0, pos := "smith.go:29", after := #[{ on := 1, ground := Go.Ground.data }], guard := none }) (v := ?_) rfl (by kernel_rfl) (by kernel_rfl) (by kernel_rfl) (fun _ _ _ h => h) (Or.inl ⟨by rfl, ?_⟩) (by assumption) ?_
      rotate_left
      · intro w hSw; (try dsimp only at hSw); go_simp; (try (with_reducible rfl))
      try simp only [Act.put, List.setIfInBounds_toArray, List.set_cons_zero, List.set_cons_succ]
      refine wpAnyH_take (i := 3) (oi := { dst := some 25, op := Go.Op.fieldAddr 109 (Go.Operand.tmp 24) 2, type := 0, pos := "smith.go:29", after := #[{ on := 2, ground := Go.Ground.data }], guard := none }) (v := ?_) rfl (by kernel_rfl) (by kernel_rfl) (by kernel_rfl) (fun _ _ _ h => h) (Or.inl ⟨by rfl, ?_⟩) (by assumption) ?_
      rotate_left
      · intro w hSw; (try dsimp only at hSw); go_simp; (try (with_reducible rfl))
      try simp only [Act.put, List.setIfInBounds_toArray, List.set_cons_zero, List.set_cons_succ]
      refine wpAnyH_take (i := 5) (oi := { dst := some 27, op := Go.Op.move (Go.Operand.tmp 5), type := 104, pos := "smith.go:29", after := #[], guard := none }) (v := ?_) rfl (by kernel_rfl) (by kernel_rfl) (by kernel_rfl) (fun _ _ _ h => h) (Or.inl ⟨by rfl, ?_⟩) (by assumption) ?_
      rotate_left
      · intro w hSw; (try dsimp only at hSw); go_simp; (try (with_reducible rfl))
      try simp only [Act.put, List.setIfInBounds_toArray, List.set_cons_zero, List.set_cons_succ]
      refine wpAnyH_take (i := 6) (oi := { dst := some 28, op := Go.Op.move (Go.Operand.tmp 6), type := 3, pos := "smith.go:29", after := #[], guard := none }) (v := ?_) rfl (by kernel_rfl) (by kernel_rfl) (by kernel_rfl) (fun _ _ _ h => h) (Or.inl ⟨by rfl, ?_⟩) (by assumption) ?_
      rotate_left
      · intro w hSw; (try dsimp only at hSw); go_simp; (try (with_reducible rfl))
      try simp only [Act.put, List.setIfInBounds_toArray, List.set_cons_zero, List.set_cons_succ]
      refine wpAnyH_take (i := 7) (oi := { dst := some 29, op := Go.Op.build 126 #[(0, Go.Operand.const (Go.Value.int Go.IntKind.i64 2)), (1, Go.Operand.tmp 28)], type := 126, pos := "smith.go:29", after := #[{ on := 6, ground := Go.Ground.data }], guard := none }) (v := ?_) rfl (by kernel_rfl) (by kernel_rfl) (by kernel_rfl) (fun _ _ _ h => h) (Or.inl ⟨by rfl, ?_⟩) (by assumption) ?_
      rotate_left
      · intro w hSw; (try dsimp only at hSw); go_simp; (try (with_reducible rfl))
      try simp only [Act.put, List.setIfInBounds_toArray, List.set_cons_zero, List.set_cons_succ]
      refine wpAnyH_ready (rs := [4, 8]) (by kernel_rfl) (by simp) ?_
      refine AllReadyH.cons (o := { dst := some 26, op := Go.Op.load 28 (Go.Operand.tmp 25), type := 28, pos := "smith.go:29", after := #[{ on := 3, ground := Go.Ground.data }], guard := none }) rfl (fun K hK => ?_) ?_
      · go_simp
        refine hK.out _ _ ?_ (fun hHeld => ?_)
        · (try dsimp only)
          (try exact trivial)
        clear hK K
        try simp only [Act.put, List.setIfInBounds_toArray, List.set_cons_zero, List.set_cons_succ]
        refine wpAnyH_ready (rs := [8]) (by kernel_rfl) (by simp) ?_
        refine AllReadyH.cons (o := { dst := some 30, op := Go.Op.call { callee := Go.Callee.value (Go.Operand.func 90), args := #[Go.Operand.tmp 27, Go.Operand.tmp 29], argTypes := #[104, 126] }, type := 3, pos := "smith.go:29", after := #[{ on := 5, ground := Go.Ground.data }, { on := 7, ground := Go.Ground.data }], guard := none }) rfl (fun K hK => ?_) ?_
        · go_simp
          refine hcall.mono ?_
          rintro e wA ⟨rfl, hR⟩
          obtain ⟨GA, hNA⟩ := hNd.ret hR
          have hrA := hNA.ins
          rw [upTo_len] at hrA
          have cA : wA.cell? ⟨b, 5, none⟩ = some av := hNA.at'.cells.2.2.1
          have hblA := hNA.at'.cells.1
          have hnA := Nat.ne_of_gt hblA
          have hnA2 := Nat.ne_of_lt hblA
          try go_wp2_with fail
          refine hK.out _ _ ?_ (fun hHeld => ?_)
          · (try dsimp only)
            (try exact trivial)
          clear hK K
          try simp only [Act.put, List.setIfInBounds_toArray, List.set_cons_zero, List.set_cons_succ]
          refine wpAnyH_ready (rs := [9]) (by kernel_rfl) (by simp) ?_
          refine AllReadyH.cons (o := { dst := some 31, op := Go.Op.buildSlice 28 1 #[(0, Go.Operand.tmp 30)], type := 28, pos := "smith.go:29", after := #[{ on := 8, ground := Go.Ground.data }], guard := none }) rfl (fun K hK => ?_) ?_
          · go_simp
            refine hK.out _ _ ?_ (fun hHeld => ?_)
            · (try dsimp only)
              (try exact trivial)
            clear hK K
            try simp only [Act.put, List.setIfInBounds_toArray, List.set_cons_zero, List.set_cons_succ]
            refine wpAnyH_ready (rs := [10]) (by kernel_rfl) (by simp) ?_
            refine AllReadyH.cons (o := { dst := some 32, op := Go.Op.call { callee := Go.Callee.builtin Go.Builtin.append, args := #[Go.Operand.tmp 26, Go.Operand.tmp 31], argTypes := #[28, 28] }, type := 28, pos := "smith.go:29", after := #[{ on := 4, ground := Go.Ground.data }, { on := 9, ground := Go.Ground.data }, { on := 8, ground := Go.Ground.chain }], guard := none }) rfl (fun K hK => ?_) ?_
            · refine step_append_lies _ rfl _ _ 28 rfl w.heap.size 3 i0 (.int .i64 0) 1 8 Tryz.underlying28 hi hz0 hz1 hz2 rfl (by decide) av i _ rfl (hrA.alloc _) ⟨wA.heap.size, 0, none⟩ 1 1 [.int .i64 ((i : Int))] rfl rfl (World.news_of_block (cs := #[.int .i64 ((i : Int))]) (MapKept.heap_alloc wA _).1) (by intro u hu; simp at hu; subst hu; rfl) (by decide) (by unfold maxLen; omega) (by omega) (by have := hNA.at'.base; simp; omega) _ rfl ?_
              intro g8 cap8 w8 hown8 hgr8 hat8 hlt8
              have hN8 := (hNA.on ((Below.refl wA.heap.size wA).alloc (Nat.le_refl _) (.cells #[.int .i64 ((i : Int))] 3))).moreI (x := (i : Int)) (by rw [upTo_len]; exact hown8) hgr8 hat8
              rw [upTo_len, hu] at hN8
              obtain ⟨⟨d8, f8⟩, hN9⟩ := hN8
              refine hK.out _ _ ?_ (fun hHeld => ?_)
              · (try dsimp only)
                (try exact trivial)
              clear hK K
              try simp only [Act.put, List.setIfInBounds_toArray, List.set_cons_zero, List.set_cons_succ]
              refine wpAnyH_take (i := 11) (oi := { dst := some 33, op := Go.Op.nilCheck (Go.Operand.tmp 22), type := 0, pos := "smith.go:29", after := #[{ on := 0, ground := Go.Ground.data }, { on := 0, ground := Go.Ground.phase }, { on := 1, ground := Go.Ground.phase }, { on := 2, ground := Go.Ground.phase }, { on := 3, ground := Go.Ground.phase }, { on := 4, ground := Go.Ground.phase }, { on := 5, ground := Go.Ground.phase }, { on := 6, ground := Go.Ground.phase }, { on := 7, ground := Go.Ground.phase }, { on := 8, ground := Go.Ground.phase }, { on := 9, ground := Go.Ground.phase }, { on := 10, ground := Go.Ground.phase }], guard := none }) (v := ?_) rfl (by kernel_rfl) (by kernel_rfl) (by kernel_rfl) (fun _ _ _ h => h) (Or.inl ⟨by rfl, ?_⟩) (by assumption) ?_
              rotate_left
              · intro w hSw; (try dsimp only at hSw); go_simp; (try (with_reducible rfl))
              try simp only [Act.put, List.setIfInBounds_toArray, List.set_cons_zero, List.set_cons_succ]
              refine wpAnyH_take (i := 12) (oi := { dst := some 34, op := Go.Op.fieldAddr 109 (Go.Operand.tmp 33) 2, type := 0, pos := "smith.go:29", after := #[{ on := 11, ground := Go.Ground.data }, { on := 0, ground := Go.Ground.phase }, { on := 1, ground := Go.Ground.phase }, { on := 2, ground := Go.Ground.phase }, { on := 3, ground := Go.Ground.phase }, { on := 4, ground := Go.Ground.phase }, { on := 5, ground := Go.Ground.phase }, { on := 6, ground := Go.Ground.phase }, { on := 7, ground := Go.Ground.phase }, { on := 8, ground := Go.Ground.phase }, { on := 9, ground := Go.Ground.phase }, { on := 10, ground := Go.Ground.phase }], guard := none }) (v := ?_) rfl (by kernel_rfl) (by kernel_rfl) (by kernel_rfl) (fun _ _ _ h => h) (Or.inl ⟨by rfl, ?_⟩) (by assumption) ?_
              rotate_left
              · intro w hSw; (try dsimp only at hSw); go_simp; (try (with_reducible rfl))
              try simp only [Act.put, List.setIfInBounds_toArray, List.set_cons_zero, List.set_cons_succ]
              refine wpAnyH_ready (rs := [13]) (by kernel_rfl) (by simp) ?_
              refine AllReadyH.cons (o := { dst := none, op := Go.Op.store 28 (Go.Operand.tmp 34) (Go.Operand.tmp 32), type := 0, pos := "smith.go:29", after := #[{ on := 12, ground := Go.Ground.data }, { on := 10, ground := Go.Ground.data }, { on := 10, ground := Go.Ground.chain }, { on := 0, ground := Go.Ground.phase }, { on := 1, ground := Go.Ground.phase }, { on := 2, ground := Go.Ground.phase }, { on := 3, ground := Go.Ground.phase }, { on := 4, ground := Go.Ground.phase }, { on := 5, ground := Go.Ground.phase }, { on := 6, ground := Go.Ground.phase }, { on := 7, ground := Go.Ground.phase }, { on := 8, ground := Go.Ground.phase }, { on := 9, ground := Go.Ground.phase }, { on := 10, ground := Go.Ground.phase }], guard := none }) rfl (fun K hK => ?_) ?_
              · go_simp
                refine hK.out _ _ ?_ (fun hHeld => ?_)
                · (try dsimp only)
                  (try exact trivial)
                clear hK K
                try simp only [Act.put]
                refine wpAnyH_done (by kernel_rfl) ?_ _
                have d9 := hN9.at'.cells
                have R := hide hN9
                clear hown8 hgr8 hat8 hlt8 d8 f8 hNA hrA cA hblA hnA hnA2 hN9 hR
                generalize hw9 : w8.setCell ⟨b, 5, none⟩ (.slice (some ⟨g8, 0, none⟩) (i + 1) cap8) = w9 at *
                clear hw9 d9
                go_wp2_with fail
                exact ⟨⟨i + 1, by omega, by go_num, _, _, unhide R⟩, by simp [intOf]; omega⟩
              exact AllReadyH.nil
            exact AllReadyH.nil
          exact AllReadyH.nil
        exact AllReadyH.nil
      refine AllReadyH.cons (o := { dst := some 30, op := Go.Op.call { callee := Go.Callee.value (Go.Operand.func 90), args := #[Go.Operand.tmp 27, Go.Operand.tmp 29], argTypes := #[104, 126] }, type := 3, pos := "smith.go:29", after := #[{ on := 5, ground := Go.Ground.data }, { on := 7, ground := Go.Ground.data }], guard := none }) rfl (fun K hK => ?_) ?_
      · go_simp
        refine hcall.mono ?_
        rintro e wA ⟨rfl, hR⟩
        obtain ⟨GA, hNA⟩ := hNd.ret hR
        have hrA := hNA.ins
        rw [upTo_len] at hrA
        have cA : wA.cell? ⟨b, 5, none⟩ = some av := hNA.at'.cells.2.2.1
        have hblA := hNA.at'.cells.1
        have hnA := Nat.ne_of_gt hblA
        have hnA2 := Nat.ne_of_lt hblA
        try go_wp2_with fail
        refine hK.out _ _ ?_ (fun hHeld => ?_)
        · (try dsimp only)
          (try exact trivial)
        clear hK K
        try simp only [Act.put, List.setIfInBounds_toArray, List.set_cons_zero, List.set_cons_succ]
        refine wpAnyH_ready (rs := [4, 9]) (by kernel_rfl) (by simp) ?_
        refine AllReadyH.cons (o := { dst := some 26, op := Go.Op.load 28 (Go.Operand.tmp 25), type := 28, pos := "smith.go:29", after := #[{ on := 3, ground := Go.Ground.data }], guard := none }) rfl (fun K hK => ?_) ?_
        · go_simp
          refine hK.out _ _ ?_ (fun hHeld => ?_)
          · (try dsimp only)
            (try exact trivial)
          clear hK K
          try simp only [Act.put, List.setIfInBounds_toArray, List.set_cons_zero, List.set_cons_succ]
          refine wpAnyH_ready (rs := [9]) (by kernel_rfl) (by simp) ?_
          refine AllReadyH.cons (o := { dst := some 31, op := Go.Op.buildSlice 28 1 #[(0, Go.Operand.tmp 30)], type := 28, pos := "smith.go:29", after := #[{ on := 8, ground := Go.Ground.data }], guard := none }) rfl (fun K hK => ?_) ?_
          · go_simp
            refine hK.out _ _ ?_ (fun hHeld => ?_)
            · (try dsimp only)
              (try exact trivial)
            clear hK K
            try simp only [Act.put, List.setIfInBounds_toArray, List.set_cons_zero, List.set_cons_succ]
            refine wpAnyH_ready (rs := [10]) (by kernel_rfl) (by simp) ?_
            refine AllReadyH.cons (o := { dst := some 32, op := Go.Op.call { callee := Go.Callee.builtin Go.Builtin.append, args := #[Go.Operand.tmp 26, Go.Operand.tmp 31], argTypes := #[28, 28] }, type := 28, pos := "smith.go:29", after := #[{ on := 4, ground := Go.Ground.data }, { on := 9, ground := Go.Ground.data }, { on := 8, ground := Go.Ground.chain }], guard := none }) rfl (fun K hK => ?_) ?_
            · refine step_append_lies _ rfl _ _ 28 rfl w.heap.size 3 i0 (.int .i64 0) 1 8 Tryz.underlying28 hi hz0 hz1 hz2 rfl (by decide) av i _ rfl (hrA.alloc _) ⟨wA.heap.size, 0, none⟩ 1 1 [.int .i64 ((i : Int))] rfl rfl (World.news_of_block (cs := #[.int .i64 ((i : Int))]) (MapKept.heap_alloc wA _).1) (by intro u hu; simp at hu; subst hu; rfl) (by decide) (by unfold maxLen; omega) (by omega) (by have := hNA.at'.base; simp; omega) _ rfl ?_
              intro g8 cap8 w8 hown8 hgr8 hat8 hlt8
              have hN8 := (hNA.on ((Below.refl wA.heap.size wA).alloc (Nat.le_refl _) (.cells #[.int .i64 ((i : Int))] 3))).moreI (x := (i : Int)) (by rw [upTo_len]; exact hown8) hgr8 hat8
              rw [upTo_len, hu] at hN8
              obtain ⟨⟨d8, f8⟩, hN9⟩ := hN8
              refine hK.out _ _ ?_ (fun hHeld => ?_)
              · (try dsimp only)
                (try exact trivial)
              clear hK K
              try simp only [Act.put, List.setIfInBounds_toArray, List.set_cons_zero, List.set_cons_succ]
              refine wpAnyH_take (i := 11) (oi := { dst := some 33, op := Go.Op.nilCheck (Go.Operand.tmp 22), type := 0, pos := "smith.go:29", after := #[{ on := 0, ground := Go.Ground.data }, { on := 0, ground := Go.Ground.phase }, { on := 1, ground := Go.Ground.phase }, { on := 2, ground := Go.Ground.phase }, { on := 3, ground := Go.Ground.phase }, { on := 4, ground := Go.Ground.phase }, { on := 5, ground := Go.Ground.phase }, { on := 6, ground := Go.Ground.phase }, { on := 7, ground := Go.Ground.phase }, { on := 8, ground := Go.Ground.phase }, { on := 9, ground := Go.Ground.phase }, { on := 10, ground := Go.Ground.phase }], guard := none }) (v := ?_) rfl (by kernel_rfl) (by kernel_rfl) (by kernel_rfl) (fun _ _ _ h => h) (Or.inl ⟨by rfl, ?_⟩) (by assumption) ?_
              rotate_left
              · intro w hSw; (try dsimp only at hSw); go_simp; (try (with_reducible rfl))
              try simp only [Act.put, List.setIfInBounds_toArray, List.set_cons_zero, List.set_cons_succ]
              refine wpAnyH_take (i := 12) (oi := { dst := some 34, op := Go.Op.fieldAddr 109 (Go.Operand.tmp 33) 2, type := 0, pos := "smith.go:29", after := #[{ on := 11, ground := Go.Ground.data }, { on := 0, ground := Go.Ground.phase }, { on := 1, ground := Go.Ground.phase }, { on := 2, ground := Go.Ground.phase }, { on := 3, ground := Go.Ground.phase }, { on := 4, ground := Go.Ground.phase }, { on := 5, ground := Go.Ground.phase }, { on := 6, ground := Go.Ground.phase }, { on := 7, ground := Go.Ground.phase }, { on := 8, ground := Go.Ground.phase }, { on := 9, ground := Go.Ground.phase }, { on := 10, ground := Go.Ground.phase }], guard := none }) (v := ?_) rfl (by kernel_rfl) (by kernel_rfl) (by kernel_rfl) (fun _ _ _ h => h) (Or.inl ⟨by rfl, ?_⟩) (by assumption) ?_
              rotate_left
              · intro w hSw; (try dsimp only at hSw); go_simp; (try (with_reducible rfl))
              try simp only [Act.put, List.setIfInBounds_toArray, List.set_cons_zero, List.set_cons_succ]
              refine wpAnyH_ready (rs := [13]) (by kernel_rfl) (by simp) ?_
              refine AllReadyH.cons (o := { dst := none, op := Go.Op.store 28 (Go.Operand.tmp 34) (Go.Operand.tmp 32), type := 0, pos := "smith.go:29", after := #[{ on := 12, ground := Go.Ground.data }, { on := 10, ground := Go.Ground.data }, { on := 10, ground := Go.Ground.chain }, { on := 0, ground := Go.Ground.phase }, { on := 1, ground := Go.Ground.phase }, { on := 2, ground := Go.Ground.phase }, { on := 3, ground := Go.Ground.phase }, { on := 4, ground := Go.Ground.phase }, { on := 5, ground := Go.Ground.phase }, { on := 6, ground := Go.Ground.phase }, { on := 7, ground := Go.Ground.phase }, { on := 8, ground := Go.Ground.phase }, { on := 9, ground := Go.Ground.phase }, { on := 10, ground := Go.Ground.phase }], guard := none }) rfl (fun K hK => ?_) ?_
              · go_simp
                refine hK.out _ _ ?_ (fun hHeld => ?_)
                · (try dsimp only)
                  (try exact trivial)
                clear hK K
                try simp only [Act.put]
                refine wpAnyH_done (by kernel_rfl) ?_ _
                have d9 := hN9.at'.cells
                have R := hide hN9
                clear hown8 hgr8 hat8 hlt8 d8 f8 hNA hrA cA hblA hnA hnA2 hN9 hR
                generalize hw9 : w8.setCell ⟨b, 5, none⟩ (.slice (some ⟨g8, 0, none⟩) (i + 1) cap8) = w9 at *
                clear hw9 d9
                go_wp2_with fail
                exact ⟨⟨i + 1, by omega, by go_num, _, _, unhide R⟩, by simp [intOf]; omega⟩
              exact AllReadyH.nil
            exact AllReadyH.nil
          exact AllReadyH.nil
        refine AllReadyH.cons (o := { dst := some 31, op := Go.Op.buildSlice 28 1 #[(0, Go.Operand.tmp 30)], type := 28, pos := "smith.go:29", after := #[{ on := 8, ground := Go.Ground.data }], guard := none }) rfl (fun K hK => ?_) ?_
        · go_simp
          refine hK.out _ _ ?_ (fun hHeld => ?_)
          · (try dsimp only)
            (try exact trivial)
          clear hK K
          try simp only [Act.put, List.setIfInBounds_toArray, List.set_cons_zero, List.set_cons_succ]
          refine wpAnyH_ready (rs := [4]) (by kernel_rfl) (by simp) ?_
          refine AllReadyH.cons (o := { dst := some 26, op := Go.Op.load 28 (Go.Operand.tmp 25), type := 28, pos := "smith.go:29", after := #[{ on := 3, ground := Go.Ground.data }], guard := none }) rfl (fun K hK => ?_) ?_
          · go_simp
            refine hK.out _ _ ?_ (fun hHeld => ?_)
            · (try dsimp only)
              (try exact trivial)
            clear hK K
            try simp only [Act.put, List.setIfInBounds_toArray, List.set_cons_zero, List.set_cons_succ]
            refine wpAnyH_ready (rs := [10]) (by kernel_rfl) (by simp) ?_
            refine AllReadyH.cons (o := { dst := some 32, op := Go.Op.call { callee := Go.Callee.builtin Go.Builtin.append, args := #[Go.Operand.tmp 26, Go.Operand.tmp 31], argTypes := #[28, 28] }, type := 28, pos := "smith.go:29", after := #[{ on := 4, ground := Go.Ground.data }, { on := 9, ground := Go.Ground.data }, { on := 8, ground := Go.Ground.chain }], guard := none }) rfl (fun K hK => ?_) ?_
            · refine step_append_lies _ rfl _ _ 28 rfl w.heap.size 3 i0 (.int .i64 0) 1 8 Tryz.underlying28 hi hz0 hz1 hz2 rfl (by decide) av i _ rfl (hrA.alloc _) ⟨wA.heap.size, 0, none⟩ 1 1 [.int .i64 ((i : Int))] rfl rfl (World.news_of_block (cs := #[.int .i64 ((i : Int))]) (MapKept.heap_alloc wA _).1) (by intro u hu; simp at hu; subst hu; rfl) (by decide) (by unfold maxLen; omega) (by omega) (by have := hNA.at'.base; simp; omega) _ rfl ?_
              intro g8 cap8 w8 hown8 hgr8 hat8 hlt8
              have hN8 := (hNA.on ((Below.refl wA.heap.size wA).alloc (Nat.le_refl _) (.cells #[.int .i64 ((i : Int))] 3))).moreI (x := (i : Int)) (by rw [upTo_len]; exact hown8) hgr8 hat8
              rw [upTo_len, hu] at hN8
              obtain ⟨⟨d8, f8⟩, hN9⟩ := hN8
              refine hK.out _ _ ?_ (fun hHeld => ?_)
              · (try dsimp only)
                (try exact trivial)
              clear hK K
              try simp only [Act.put, List.setIfInBounds_toArray, List.set_cons_zero, List.set_cons_succ]
              refine wpAnyH_take (i := 11) (oi := { dst := some 33, op := Go.Op.nilCheck (Go.Operand.tmp 22), type := 0, pos := "smith.go:29", after := #[{ on := 0, ground := Go.Ground.data }, { on := 0, ground := Go.Ground.phase }, { on := 1, ground := Go.Ground.phase }, { on := 2, ground := Go.Ground.phase }, { on := 3, ground := Go.Ground.phase }, { on := 4, ground := Go.Ground.phase }, { on := 5, ground := Go.Ground.phase }, { on := 6, ground := Go.Ground.phase }, { on := 7, ground := Go.Ground.phase }, { on := 8, ground := Go.Ground.phase }, { on := 9, ground := Go.Ground.phase }, { on := 10, ground := Go.Ground.phase }], guard := none }) (v := ?_) rfl (by kernel_rfl) (by kernel_rfl) (by kernel_rfl) (fun _ _ _ h => h) (Or.inl ⟨by rfl, ?_⟩) (by assumption) ?_
              rotate_left
              · intro w hSw; (try dsimp only at hSw); go_simp; (try (with_reducible rfl))
              try simp only [Act.put, List.setIfInBounds_toArray, List.set_cons_zero, List.set_cons_succ]
              refine wpAnyH_take (i := 12) (oi := { dst := some 34, op := Go.Op.fieldAddr 109 (Go.Operand.tmp 33) 2, type := 0, pos := "smith.go:29", after := #[{ on := 11, ground := Go.Ground.data }, { on := 0, ground := Go.Ground.phase }, { on := 1, ground := Go.Ground.phase }, { on := 2, ground := Go.Ground.phase }, { on := 3, ground := Go.Ground.phase }, { on := 4, ground := Go.Ground.phase }, { on := 5, ground := Go.Ground.phase }, { on := 6, ground := Go.Ground.phase }, { on := 7, ground := Go.Ground.phase }, { on := 8, ground := Go.Ground.phase }, { on := 9, ground := Go.Ground.phase }, { on := 10, ground := Go.Ground.phase }], guard := none }) (v := ?_) rfl (by kernel_rfl) (by kernel_rfl) (by kernel_rfl) (fun _ _ _ h => h) (Or.inl ⟨by rfl, ?_⟩) (by assumption) ?_
              rotate_left
              · intro w hSw; (try dsimp only at hSw); go_simp; (try (with_reducible rfl))
              try simp only [Act.put, List.setIfInBounds_toArray, List.set_cons_zero, List.set_cons_succ]
              refine wpAnyH_ready (rs := [13]) (by kernel_rfl) (by simp) ?_
              refine AllReadyH.cons (o := { dst := none, op := Go.Op.store 28 (Go.Operand.tmp 34) (Go.Operand.tmp 32), type := 0, pos := "smith.go:29", after := #[{ on := 12, ground := Go.Ground.data }, { on := 10, ground := Go.Ground.data }, { on := 10, ground := Go.Ground.chain }, { on := 0, ground := Go.Ground.phase }, { on := 1, ground := Go.Ground.phase }, { on := 2, ground := Go.Ground.phase }, { on := 3, ground := Go.Ground.phase }, { on := 4, ground := Go.Ground.phase }, { on := 5, ground := Go.Ground.phase }, { on := 6, ground := Go.Ground.phase }, { on := 7, ground := Go.Ground.phase }, { on := 8, ground := Go.Ground.phase }, { on := 9, ground := Go.Ground.phase }, { on := 10, ground := Go.Ground.phase }], guard := none }) rfl (fun K hK => ?_) ?_
              · go_simp
                refine hK.out _ _ ?_ (fun hHeld => ?_)
                · (try dsimp only)
                  (try exact trivial)
                clear hK K
                try simp only [Act.put]
                refine wpAnyH_done (by kernel_rfl) ?_ _
                have d9 := hN9.at'.cells
                have R := hide hN9
                clear hown8 hgr8 hat8 hlt8 d8 f8 hNA hrA cA hblA hnA hnA2 hN9 hR
                generalize hw9 : w8.setCell ⟨b, 5, none⟩ (.slice (some ⟨g8, 0, none⟩) (i + 1) cap8) = w9 at *
                clear hw9 d9
                go_wp2_with fail
                exact ⟨⟨i + 1, by omega, by go_num, _, _, unhide R⟩, by simp [intOf]; omega⟩
              exact AllReadyH.nil
            exact AllReadyH.nil
          exact AllReadyH.nil
        exact AllReadyH.nil
      exact AllReadyH.nil
    · have hi' : i = 3 := by omega
      subst hi'
      have hcall := regG_call (bg := true) (s' := st2 0) (x := 3) hN0 rfl (by rw [st1_len]; rfl) (by rw [st1_len]; omega) (by simp [st1])
      go_wp2_with fail
      refine hcall.mono ?_
      rintro e wA ⟨rfl, hR⟩
      obtain ⟨GA, hNA⟩ := hN0.ret hR
      have c6 : wA.cell? ⟨b, 6, none⟩ = some (.int .i64 0) := hNA.at'.cells.2.2.2.1
      have hblA := hNA.at'.cells.1
      have f6 : wA.frozen? ⟨b, 6, none⟩ = false := by
        obtain ⟨r, cs, h1, _⟩ := hNA.at'
        exact h1.box.frozen 6
      have hN1 := hNA.fresh 3
      have HU := hide hN1
      clear hN0 hcall hR hNA
      generalize hw3 : wA.setCell ⟨b, 6, none⟩ (.int .i64 3) = w3 at *
      go_wp2_with fail
      clear hw3 c6 hblA f6
      go_loopw [41] (fun iv wr => ∃ i : Nat, i ≤ 3 ∧ iv = .int .i64 i ∧ ∃ vv, NewAt X0 w.heap.size b w.heap.size pa pn pc p 0 3 w (st2 i) av vv (upTo 0 3) (upTo 4 i) wr) (fun iv _ => 3 - (intOf iv).toNat)
      case atStart => exact ⟨0, by omega, rfl, _, _, unhide HU⟩
      case round =>
        clear hN1 HU
        obtain ⟨i, hi3, rfl, vv, G0, hN0⟩ := hrel
        obtain ⟨hsl1, hsl2⟩ := st2_len i
        by_cases hlt : i < 3
        · have hki : (i : Int) < 3 := by omega
          have hNd := hN0.on (Below.refl wr.heap.size wr).drew
          have hcall := regG_call (bg := false) (s' := st2 (i + 1)) (x := ((4 + i : Nat) : Int)) hNd rfl (by rw [hsl1]) (by omega) (by omega)
          obtain ⟨q, hq⟩ : ∃ q : Int, ((4 + i : Nat) : Int) = q := ⟨_, rfl⟩
          rw [hq] at hcall
          have c7 : wr.cell? ⟨b, 7, none⟩ = some vv := hN0.at'.cells.2.2.2.2.1
          have hbl := hN0.at'.cells.1
          have hu : upTo 4 i ++ [q] = upTo 4 (i + 1) := by rw [upTo_succ, hq]
          clear hN0 hsl1 hsl2 hq
          go_wp2_with fail
          refine wp_region_held_drew (S := fun _ => True) (by kernel_rfl) trivial (fun hHeld => ?_)
          refine wpAnyH_take (i := 0) (oi := { dst := some 43, op := Go.Op.move (Go.Operand.tmp 5), type := 104, pos := "smith.go:33", after := #[], guard := none }) (v := ?_) rfl (by kernel_rfl) (by kernel_rfl) (by kernel_rfl) (fun _ _ _ h => h) (Or.inl ⟨by rfl, ?_⟩) (by assumption) ?_
          rotate_left
          · intro w hSw; (try dsimp only at hSw); go_simp; (try (with_reducible rfl))
          try simp only [Act.put, List.setIfInBounds_toArray, List.set_cons_zero, List.set_cons_succ]
          refine wpAnyH_take (i := 1) (oi := { dst := some 44, op := Go.Op.move (Go.Operand.tmp 5), type := 104, pos := "smith.go:33", after := #[], guard := none }) (v := ?_) rfl (by kernel_rfl) (by kernel_rfl) (by kernel_rfl) (fun _ _ _ h => h) (Or.inl ⟨by rfl, ?_⟩) (by assumption) ?_
          rotate_left
          · intro w hSw; (try dsimp only at hSw); go_simp; (try (with_reducible rfl))
          try simp only [Act.put, List.setIfInBounds_toArray, List.set_cons_zero, List.set_cons_succ]
          refine wpAnyH_take (i := 2) (oi := { dst := some 45, op := Go.Op.nilCheck (Go.Operand.tmp 44), type := 0, pos := "smith.go:33", after := #[{ on := 1, ground := Go.Ground.data }], guard := none }) (v := ?_) rfl (by kernel_rfl) (by kernel_rfl) (by kernel_rfl) (fun _ _ _ h => h) (Or.inl ⟨by rfl, ?_⟩) (by assumption) ?_
          rotate_left
          · intro w hSw; (try dsimp only at hSw); go_simp; (try (with_reducible rfl))
          try simp only [Act.put, List.setIfInBounds_toArray, List.set_cons_zero, List.set_cons_succ]
          refine wpAnyH_take (i := 3) (oi := { dst := some 46, op := Go.Op.fieldAddr 109 (Go.Operand.tmp 45) 4, type := 0, pos := "smith.go:33", after := #[{ on := 2, ground := Go.Ground.data }], guard := none }) (v := ?_) rfl (by kernel_rfl) (by kernel_rfl) (by kernel_rfl) (fun _ _ _ h => h) (Or.inl ⟨by rfl, ?_⟩) (by assumption) ?_
          rotate_left
          · intro w hSw; (try dsimp only at hSw); go_simp; (try (with_reducible rfl))
          try simp only [Act.put, List.setIfInBounds_toArray, List.set_cons_zero, List.set_cons_succ]
          refine wpAnyH_take (i := 5) (oi := { dst := some 48, op := Go.Op.move (Go.Operand.tmp 5), type := 104, pos := "smith.go:33", after := #[], guard := none }) (v := ?_) rfl (by kernel_rfl) (by kernel_rfl) (by kernel_rfl) (fun _ _ _ h => h) (Or.inl ⟨by rfl, ?_⟩) (by assumption) ?_
          rotate_left
          · intro w hSw; (try dsimp only at hSw); go_simp; (try (with_reducible rfl))
          try simp only [Act.put, List.setIfInBounds_toArray, List.set_cons_zero, List.set_cons_succ]
          refine wpAnyH_ready (rs := [4, 6]) (by kernel_rfl) (by simp) ?_
          refine AllReadyH.cons (o := { dst := some 47, op := Go.Op.load 28 (Go.Operand.tmp 46), type := 28, pos := "smith.go:33", after := #[{ on := 3, ground := Go.Ground.data }], guard := none }) rfl (fun K hK => ?_) ?_
          · go_simp
            refine hK.out _ _ ?_ (fun hHeld => ?_)
            · (try dsimp only)
              (try exact trivial)
            clear hK K
            try simp only [Act.put, List.setIfInBounds_toArray, List.set_cons_zero, List.set_cons_succ]
            refine wpAnyH_ready (rs := [6]) (by kernel_rfl) (by simp) ?_
            refine AllReadyH.cons (o := { dst := some 49, op := Go.Op.call { callee := Go.Callee.value (Go.Operand.func 91), args := #[Go.Operand.tmp 48, Go.Operand.const (Go.Value.bool false)], argTypes := #[104, 4] }, type := 3, pos := "smith.go:33", after := #[{ on := 5, ground := Go.Ground.data }], guard := none }) rfl (fun K hK => ?_) ?_
            · go_simp
              refine hcall.mono ?_
              rintro e wA ⟨rfl, hR⟩
              obtain ⟨GA, hNA⟩ := hNd.ret hR
              have hrA := hNA.was
              rw [upTo_len] at hrA
              have cA : wA.cell? ⟨b, 7, none⟩ = some vv := hNA.at'.cells.2.2.2.2.1
              have hblA := hNA.at'.cells.1
              have hnA := Nat.ne_of_gt hblA
              have hnA2 := Nat.ne_of_lt hblA
              try go_wp2_with fail
              refine hK.out _ _ ?_ (fun hHeld => ?_)
              · (try dsimp only)
                (try exact trivial)
              clear hK K
              try simp only [Act.put, List.setIfInBounds_toArray, List.set_cons_zero, List.set_cons_succ]
              refine wpAnyH_ready (rs := [7]) (by kernel_rfl) (by simp) ?_
              refine AllReadyH.cons (o := { dst := some 50, op := Go.Op.buildSlice 28 1 #[(0, Go.Operand.tmp 49)], type := 28, pos := "smith.go:33", after := #[{ on := 6, ground := Go.Ground.data }], guard := none }) rfl (fun K hK => ?_) ?_
              · go_simp
                refine hK.out _ _ ?_ (fun hHeld => ?_)
                · (try dsimp only)
                  (try exact trivial)
                clear hK K
                try simp only [Act.put, List.setIfInBounds_toArray, List.set_cons_zero, List.set_cons_succ]
                refine wpAnyH_ready (rs := [8]) (by kernel_rfl) (by simp) ?_
                refine AllReadyH.cons (o := { dst := some 51, op := Go.Op.call { callee := Go.Callee.builtin Go.Builtin.append, args := #[Go.Operand.tmp 47, Go.Operand.tmp 50], argTypes := #[28, 28] }, type := 28, pos := "smith.go:33", after := #[{ on := 4, ground := Go.Ground.data }, { on := 7, ground := Go.Ground.data }, { on := 6, ground := Go.Ground.chain }], guard := none }) rfl (fun K hK => ?_) ?_
                · refine step_append_lies _ rfl _ _ 28 rfl w.heap.size 3 i0 (.int .i64 0) 1 8 Tryz.underlying28 hi hz0 hz1 hz2 rfl (by decide) vv i _ rfl (hrA.alloc _) ⟨wA.heap.size, 0, none⟩ 1 1 [.int .i64 (q)] rfl rfl (World.news_of_block (cs := #[.int .i64 (q)]) (MapKept.heap_alloc wA _).1) (by intro u hu; simp at hu; subst hu; rfl) (by decide) (by unfold maxLen; omega) (by omega) (by have := hNA.at'.base; simp; omega) _ rfl ?_
                  intro g8 cap8 w8 hown8 hgr8 hat8 hlt8
                  have hN8 := (hNA.on ((Below.refl wA.heap.size wA).alloc (Nat.le_refl _) (.cells #[.int .i64 (q)] 3))).moreW (x := q) (by rw [upTo_len]; exact hown8) hgr8 hat8
                  rw [upTo_len, hu] at hN8
                  obtain ⟨⟨d8, f8⟩, hN9⟩ := hN8
                  refine hK.out _ _ ?_ (fun hHeld => ?_)
                  · (try dsimp only)
                    (try exact trivial)
                  clear hK K
                  try simp only [Act.put, List.setIfInBounds_toArray, List.set_cons_zero, List.set_cons_succ]
                  refine wpAnyH_take (i := 9) (oi := { dst := some 52, op := Go.Op.nilCheck (Go.Operand.tmp 43), type := 0, pos := "smith.go:33", after := #[{ on := 0, ground := Go.Ground.data }, { on := 0, ground := Go.Ground.phase }, { on := 1, ground := Go.Ground.phase }, { on := 2, ground := Go.Ground.phase }, { on := 3, ground := Go.Ground.phase }, { on := 4, ground := Go.Ground.phase }, { on := 5, ground := Go.Ground.phase }, { on := 6, ground := Go.Ground.phase }, { on := 7, ground := Go.Ground.phase }, { on := 8, ground := Go.Ground.phase }], guard := none }) (v := ?_) rfl (by kernel_rfl) (by kernel_rfl) (by kernel_rfl) (fun _ _ _ h => h) (Or.inl ⟨by rfl, ?_⟩) (by assumption) ?_
                  rotate_left
                  · intro w hSw; (try dsimp only at hSw); go_simp; (try (with_reducible rfl))
                  try simp only [Act.put, List.setIfInBounds_toArray, List.set_cons_zero, List.set_cons_succ]
                  refine wpAnyH_take (i := 10) (oi := { dst := some 53, op := Go.Op.fieldAddr 109 (Go.Operand.tmp 52) 4, type := 0, pos := "smith.go:33", after := #[{ on := 9, ground := Go.Ground.data }, { on := 0, ground := Go.Ground.phase }, { on := 1, ground := Go.Ground.phase }, { on := 2, ground := Go.Ground.phase }, { on := 3, ground := Go.Ground.phase }, { on := 4, ground := Go.Ground.phase }, { on := 5, ground := Go.Ground.phase }, { on := 6, ground := Go.Ground.phase }, { on := 7, ground := Go.Ground.phase }, { on := 8, ground := Go.Ground.phase }], guard := none }) (v := ?_) rfl (by kernel_rfl) (by kernel_rfl) (by kernel_rfl) (fun _ _ _ h => h) (Or.inl ⟨by rfl, ?_⟩) (by assumption) ?_
                  rotate_left
                  · intro w hSw; (try dsimp only at hSw); go_simp; (try (with_reducible rfl))
                  try simp only [Act.put, List.setIfInBounds_toArray, List.set_cons_zero, List.set_cons_succ]
                  refine wpAnyH_ready (rs := [11]) (by kernel_rfl) (by simp) ?_
                  refine AllReadyH.cons (o := { dst := none, op := Go.Op.store 28 (Go.Operand.tmp 53) (Go.Operand.tmp 51), type := 0, pos := "smith.go:33", after := #[{ on := 10, ground := Go.Ground.data }, { on := 8, ground := Go.Ground.data }, { on := 8, ground := Go.Ground.chain }, { on := 0, ground := Go.Ground.phase }, { on := 1, ground := Go.Ground.phase }, { on := 2, ground := Go.Ground.phase }, { on := 3, ground := Go.Ground.phase }, { on := 4, ground := Go.Ground.phase }, { on := 5, ground := Go.Ground.phase }, { on := 6, ground := Go.Ground.phase }, { on := 7, ground := Go.Ground.phase }, { on := 8, ground := Go.Ground.phase }], guard := none }) rfl (fun K hK => ?_) ?_
                  · go_simp
                    refine hK.out _ _ ?_ (fun hHeld => ?_)
                    · (try dsimp only)
                      (try exact trivial)
                    clear hK K
                    try simp only [Act.put]
                    refine wpAnyH_done (by kernel_rfl) ?_ _
                    have d9 := hN9.at'.cells
                    have R := hide hN9
                    clear hown8 hgr8 hat8 hlt8 d8 f8 hNA hrA cA hblA hnA hnA2 hN9 hR
                    generalize hw9 : w8.setCell ⟨b, 7, none⟩ (.slice (some ⟨g8, 0, none⟩) (i + 1) cap8) = w9 at *
                    clear hw9 d9
                    go_wp2_with fail
                    exact ⟨⟨i + 1, by omega, by go_num, _, _, unhide R⟩, by simp [intOf]; omega⟩
                  exact AllReadyH.nil
                exact AllReadyH.nil
              exact AllReadyH.nil
            exact AllReadyH.nil
          refine AllReadyH.cons (o := { dst := some 49, op := Go.Op.call { callee := Go.Callee.value (Go.Operand.func 91), args := #[Go.Operand.tmp 48, Go.Operand.const (Go.Value.bool false)], argTypes := #[104, 4] }, type := 3, pos := "smith.go:33", after := #[{ on := 5, ground := Go.Ground.data }], guard := none }) rfl (fun K hK => ?_) ?_
          · go_simp
            refine hcall.mono ?_
            rintro e wA ⟨rfl, hR⟩
            obtain ⟨GA, hNA⟩ := hNd.ret hR
            have hrA := hNA.was
            rw [upTo_len] at hrA
            have cA : wA.cell? ⟨b, 7, none⟩ = some vv := hNA.at'.cells.2.2.2.2.1
            have hblA := hNA.at'.cells.1
            have hnA := Nat.ne_of_gt hblA
            have hnA2 := Nat.ne_of_lt hblA
            try go_wp2_with fail
            refine hK.out _ _ ?_ (fun hHeld => ?_)
            · (try dsimp only)
              (try exact trivial)
            clear hK K
            try simp only [Act.put, List.setIfInBounds_toArray, List.set_cons_zero, List.set_cons_succ]
            refine wpAnyH_ready (rs := [4, 7]) (by kernel_rfl) (by simp) ?_
            refine AllReadyH.cons (o := { dst := some 47, op := Go.Op.load 28 (Go.Operand.tmp 46), type := 28, pos := "smith.go:33", after := #[{ on := 3, ground := Go.Ground.data }], guard := none }) rfl (fun K hK => ?_) ?_
            · go_simp
              refine hK.out _ _ ?_ (fun hHeld => ?_)
              · (try dsimp only)
                (try exact trivial)
              clear hK K
              try simp only [Act.put, List.setIfInBounds_toArray, List.set_cons_zero, List.set_cons_succ]
              refine wpAnyH_ready (rs := [7]) (by kernel_rfl) (by simp) ?_
              refine AllReadyH.cons (o := { dst := some 50, op := Go.Op.buildSlice 28 1 #[(0, Go.Operand.tmp 49)], type := 28, pos := "smith.go:33", after := #[{ on := 6, ground := Go.Ground.data }], guard := none }) rfl (fun K hK => ?_) ?_
              · go_simp
                refine hK.out _ _ ?_ (fun hHeld => ?_)
                · (try dsimp only)
                  (try exact trivial)
                clear hK K
                try simp only [Act.put, List.setIfInBounds_toArray, List.set_cons_zero, List.set_cons_succ]
                refine wpAnyH_ready (rs := [8]) (by kernel_rfl) (by simp) ?_
                refine AllReadyH.cons (o := { dst := some 51, op := Go.Op.call { callee := Go.Callee.builtin Go.Builtin.append, args := #[Go.Operand.tmp 47, Go.Operand.tmp 50], argTypes := #[28, 28] }, type := 28, pos := "smith.go:33", after := #[{ on := 4, ground := Go.Ground.data }, { on := 7, ground := Go.Ground.data }, { on := 6, ground := Go.Ground.chain }], guard := none }) rfl (fun K hK => ?_) ?_
                · refine step_append_lies _ rfl _ _ 28 rfl w.heap.size 3 i0 (.int .i64 0) 1 8 Tryz.underlying28 hi hz0 hz1 hz2 rfl (by decide) vv i _ rfl (hrA.alloc _) ⟨wA.heap.size, 0, none⟩ 1 1 [.int .i64 (q)] rfl rfl (World.news_of_block (cs := #[.int .i64 (q)]) (MapKept.heap_alloc wA _).1) (by intro u hu; simp at hu; subst hu; rfl) (by decide) (by unfold maxLen; omega) (by omega) (by have := hNA.at'.base; simp; omega) _ rfl ?_
                  intro g8 cap8 w8 hown8 hgr8 hat8 hlt8
                  have hN8 := (hNA.on ((Below.refl wA.heap.size wA).alloc (Nat.le_refl _) (.cells #[.int .i64 (q)] 3))).moreW (x := q) (by rw [upTo_len]; exact hown8) hgr8 hat8
                  rw [upTo_len, hu] at hN8
                  obtain ⟨⟨d8, f8⟩, hN9⟩ := hN8
                  refine hK.out _ _ ?_ (fun hHeld => ?_)
                  · (try dsimp only)
                    (try exact trivial)
                  clear hK K
                  try simp only [Act.put, List.setIfInBounds_toArray, List.set_cons_zero, List.set_cons_succ]
                  refine wpAnyH_take (i := 9) (oi := { dst := some 52, op := Go.Op.nilCheck (Go.Operand.tmp 43), type := 0, pos := "smith.go:33", after := #[{ on := 0, ground := Go.Ground.data }, { on := 0, ground := Go.Ground.phase }, { on := 1, ground := Go.Ground.phase }, { on := 2, ground := Go.Ground.phase }, { on := 3, ground := Go.Ground.phase }, { on := 4, ground := Go.Ground.phase }, { on := 5, ground := Go.Ground.phase }, { on := 6, ground := Go.Ground.phase }, { on := 7, ground := Go.Ground.phase }, { on := 8, ground := Go.Ground.phase }], guard := none }) (v := ?_) rfl (by kernel_rfl) (by kernel_rfl) (by kernel_rfl) (fun _ _ _ h => h) (Or.inl ⟨by rfl, ?_⟩) (by assumption) ?_
                  rotate_left
                  · intro w hSw; (try dsimp only at hSw); go_simp; (try (with_reducible rfl))
                  try simp only [Act.put, List.setIfInBounds_toArray, List.set_cons_zero, List.set_cons_succ]
                  refine wpAnyH_take (i := 10) (oi := { dst := some 53, op := Go.Op.fieldAddr 109 (Go.Operand.tmp 52) 4, type := 0, pos := "smith.go:33", after := #[{ on := 9, ground := Go.Ground.data }, { on := 0, ground := Go.Ground.phase }, { on := 1, ground := Go.Ground.phase }, { on := 2, ground := Go.Ground.phase }, { on := 3, ground := Go.Ground.phase }, { on := 4, ground := Go.Ground.phase }, { on := 5, ground := Go.Ground.phase }, { on := 6, ground := Go.Ground.phase }, { on := 7, ground := Go.Ground.phase }, { on := 8, ground := Go.Ground.phase }], guard := none }) (v := ?_) rfl (by kernel_rfl) (by kernel_rfl) (by kernel_rfl) (fun _ _ _ h => h) (Or.inl ⟨by rfl, ?_⟩) (by assumption) ?_
                  rotate_left
                  · intro w hSw; (try dsimp only at hSw); go_simp; (try (with_reducible rfl))
                  try simp only [Act.put, List.setIfInBounds_toArray, List.set_cons_zero, List.set_cons_succ]
                  refine wpAnyH_ready (rs := [11]) (by kernel_rfl) (by simp) ?_
                  refine AllReadyH.cons (o := { dst := none, op := Go.Op.store 28 (Go.Operand.tmp 53) (Go.Operand.tmp 51), type := 0, pos := "smith.go:33", after := #[{ on := 10, ground := Go.Ground.data }, { on := 8, ground := Go.Ground.data }, { on := 8, ground := Go.Ground.chain }, { on := 0, ground := Go.Ground.phase }, { on := 1, ground := Go.Ground.phase }, { on := 2, ground := Go.Ground.phase }, { on := 3, ground := Go.Ground.phase }, { on := 4, ground := Go.Ground.phase }, { on := 5, ground := Go.Ground.phase }, { on := 6, ground := Go.Ground.phase }, { on := 7, ground := Go.Ground.phase }, { on := 8, ground := Go.Ground.phase }], guard := none }) rfl (fun K hK => ?_) ?_
                  · go_simp
                    refine hK.out _ _ ?_ (fun hHeld => ?_)
                    · (try dsimp only)
                      (try exact trivial)
                    clear hK K
                    try simp only [Act.put]
                    refine wpAnyH_done (by kernel_rfl) ?_ _
                    have d9 := hN9.at'.cells
                    have R := hide hN9
                    clear hown8 hgr8 hat8 hlt8 d8 f8 hNA hrA cA hblA hnA hnA2 hN9 hR
                    generalize hw9 : w8.setCell ⟨b, 7, none⟩ (.slice (some ⟨g8, 0, none⟩) (i + 1) cap8) = w9 at *
                    clear hw9 d9
                    go_wp2_with fail
                    exact ⟨⟨i + 1, by omega, by go_num, _, _, unhide R⟩, by simp [intOf]; omega⟩
                  exact AllReadyH.nil
                exact AllReadyH.nil
              exact AllReadyH.nil
            refine AllReadyH.cons (o := { dst := some 50, op := Go.Op.buildSlice 28 1 #[(0, Go.Operand.tmp 49)], type := 28, pos := "smith.go:33", after := #[{ on := 6, ground := Go.Ground.data }], guard := none }) rfl (fun K hK => ?_) ?_
            · go_simp
              refine hK.out _ _ ?_ (fun hHeld => ?_)
              · (try dsimp only)
                (try exact trivial)
              clear hK K
              try simp only [Act.put, List.setIfInBounds_toArray, List.set_cons_zero, List.set_cons_succ]
              refine wpAnyH_ready (rs := [4]) (by kernel_rfl) (by simp) ?_
              refine AllReadyH.cons (o := { dst := some 47, op := Go.Op.load 28 (Go.Operand.tmp 46), type := 28, pos := "smith.go:33", after := #[{ on := 3, ground := Go.Ground.data }], guard := none }) rfl (fun K hK => ?_) ?_
              · go_simp
                refine hK.out _ _ ?_ (fun hHeld => ?_)
                · (try dsimp only)
                  (try exact trivial)
                clear hK K
                try simp only [Act.put, List.setIfInBounds_toArray, List.set_cons_zero, List.set_cons_succ]
                refine wpAnyH_ready (rs := [8]) (by kernel_rfl) (by simp) ?_
                refine AllReadyH.cons (o := { dst := some 51, op := Go.Op.call { callee := Go.Callee.builtin Go.Builtin.append, args := #[Go.Operand.tmp 47, Go.Operand.tmp 50], argTypes := #[28, 28] }, type := 28, pos := "smith.go:33", after := #[{ on := 4, ground := Go.Ground.data }, { on := 7, ground := Go.Ground.data }, { on := 6, ground := Go.Ground.chain }], guard := none }) rfl (fun K hK => ?_) ?_
                · refine step_append_lies _ rfl _ _ 28 rfl w.heap.size 3 i0 (.int .i64 0) 1 8 Tryz.underlying28 hi hz0 hz1 hz2 rfl (by decide) vv i _ rfl (hrA.alloc _) ⟨wA.heap.size, 0, none⟩ 1 1 [.int .i64 (q)] rfl rfl (World.news_of_block (cs := #[.int .i64 (q)]) (MapKept.heap_alloc wA _).1) (by intro u hu; simp at hu; subst hu; rfl) (by decide) (by unfold maxLen; omega) (by omega) (by have := hNA.at'.base; simp; omega) _ rfl ?_
                  intro g8 cap8 w8 hown8 hgr8 hat8 hlt8
                  have hN8 := (hNA.on ((Below.refl wA.heap.size wA).alloc (Nat.le_refl _) (.cells #[.int .i64 (q)] 3))).moreW (x := q) (by rw [upTo_len]; exact hown8) hgr8 hat8
                  rw [upTo_len, hu] at hN8
                  obtain ⟨⟨d8, f8⟩, hN9⟩ := hN8
                  refine hK.out _ _ ?_ (fun hHeld => ?_)
                  · (try dsimp only)
                    (try exact trivial)
                  clear hK K
                  try simp only [Act.put, List.setIfInBounds_toArray, List.set_cons_zero, List.set_cons_succ]
                  refine wpAnyH_take (i := 9) (oi := { dst := some 52, op := Go.Op.nilCheck (Go.Operand.tmp 43), type := 0, pos := "smith.go:33", after := #[{ on := 0, ground := Go.Ground.data }, { on := 0, ground := Go.Ground.phase }, { on := 1, ground := Go.Ground.phase }, { on := 2, ground := Go.Ground.phase }, { on := 3, ground := Go.Ground.phase }, { on := 4, ground := Go.Ground.phase }, { on := 5, ground := Go.Ground.phase }, { on := 6, ground := Go.Ground.phase }, { on := 7, ground := Go.Ground.phase }, { on := 8, ground := Go.Ground.phase }], guard := none }) (v := ?_) rfl (by kernel_rfl) (by kernel_rfl) (by kernel_rfl) (fun _ _ _ h => h) (Or.inl ⟨by rfl, ?_⟩) (by assumption) ?_
                  rotate_left
                  · intro w hSw; (try dsimp only at hSw); go_simp; (try (with_reducible rfl))
                  try simp only [Act.put, List.setIfInBounds_toArray, List.set_cons_zero, List.set_cons_succ]
                  refine wpAnyH_take (i := 10) (oi := { dst := some 53, op := Go.Op.fieldAddr 109 (Go.Operand.tmp 52) 4, type := 0, pos := "smith.go:33", after := #[{ on := 9, ground := Go.Ground.data }, { on := 0, ground := Go.Ground.phase }, { on := 1, ground := Go.Ground.phase }, { on := 2, ground := Go.Ground.phase }, { on := 3, ground := Go.Ground.phase }, { on := 4, ground := Go.Ground.phase }, { on := 5, ground := Go.Ground.phase }, { on := 6, ground := Go.Ground.phase }, { on := 7, ground := Go.Ground.phase }, { on := 8, ground := Go.Ground.phase }], guard := none }) (v := ?_) rfl (by kernel_rfl) (by kernel_rfl) (by kernel_rfl) (fun _ _ _ h => h) (Or.inl ⟨by rfl, ?_⟩) (by assumption) ?_
                  rotate_left
                  · intro w hSw; (try dsimp only at hSw); go_simp; (try (with_reducible rfl))
                  try simp only [Act.put, List.setIfInBounds_toArray, List.set_cons_zero, List.set_cons_succ]
                  refine wpAnyH_ready (rs := [11]) (by kernel_rfl) (by simp) ?_
                  refine AllReadyH.cons (o := { dst := none, op := Go.Op.store 28 (Go.Operand.tmp 53) (Go.Operand.tmp 51), type := 0, pos := "smith.go:33", after := #[{ on := 10, ground := Go.Ground.data }, { on := 8, ground := Go.Ground.data }, { on := 8, ground := Go.Ground.chain }, { on := 0, ground := Go.Ground.phase }, { on := 1, ground := Go.Ground.phase }, { on := 2, ground := Go.Ground.phase }, { on := 3, ground := Go.Ground.phase }, { on := 4, ground := Go.Ground.phase }, { on := 5, ground := Go.Ground.phase }, { on := 6, ground := Go.Ground.phase }, { on := 7, ground := Go.Ground.phase }, { on := 8, ground := Go.Ground.phase }], guard := none }) rfl (fun K hK => ?_) ?_
                  · go_simp
                    refine hK.out _ _ ?_ (fun hHeld => ?_)
                    · (try dsimp only)
                      (try exact trivial)
                    clear hK K
                    try simp only [Act.put]
                    refine wpAnyH_done (by kernel_rfl) ?_ _
                    have d9 := hN9.at'.cells
                    have R := hide hN9
                    clear hown8 hgr8 hat8 hlt8 d8 f8 hNA hrA cA hblA hnA hnA2 hN9 hR
                    generalize hw9 : w8.setCell ⟨b, 7, none⟩ (.slice (some ⟨g8, 0, none⟩) (i + 1) cap8) = w9 at *
                    clear hw9 d9
                    go_wp2_with fail
                    exact ⟨⟨i + 1, by omega, by go_num, _, _, unhide R⟩, by simp [intOf]; omega⟩
                  exact AllReadyH.nil
                exact AllReadyH.nil
              exact AllReadyH.nil
            exact AllReadyH.nil
          exact AllReadyH.nil
        · have hi' : i = 3 := by omega
          subst hi'
          have hN1 : NewAt X0 w.heap.size b w.heap.size pa pn pc p 0 3 w (st3 p 0) av vv (upTo 0 3) (upTo 4 3) wr := ⟨_, hN0⟩
          rw [show ((3 : Nat) : Int) = 3 from rfl]
          have HU := hide hN1
          have hml : (waitsV p).length = mn := hM.1.symm
          have hpl : (waitsV p).length = p.length := by simp [waitsV]
          have hm14 : mn ≤ 14 := by omega
          clear hN0 hsl1 hsl2 hN1
          go_wp2_with fail
          go_loopw [57] (fun iv wr => ∃ k : Nat, k ≤ mn ∧ iv = .int .i64 k ∧ NewAt X0 w.heap.size b w.heap.size pa pn pc p k 3 w (st3 p k) av vv (upTo 0 3) (upTo 4 3) wr) (fun iv _ => mn - (intOf iv).toNat)
          case atStart => exact ⟨0, by omega, rfl, unhide HU⟩
          case round =>
            clear HU
            obtain ⟨k, hk, rfl, G0, hN0⟩ := hrel
            obtain ⟨hsl1, hsl2⟩ := st3_len p k
            have hmy := may_le (p := p) k
            by_cases hlt : k < mn
            · have hki : (k : Int) < (mn : Int) := by omega
              have hkl : k < (waitsV p).length := by omega
              obtain ⟨mb, off, hma, hbb, c1⟩ := (hM.below hN0.bel).at hkl
              have hwk : (waitsV p)[k] = waitK (kindAt p k) := by simp [waitsV, kindAt, List.getD_eq_getElem?_getD, show k < p.length by omega]
              subst hma
              rw [hwk] at c1
              cases ew : waitK (kindAt p k)
              · rw [ew] at c1
                have R := hide (show NewAt X0 w.heap.size b w.heap.size pa pn pc p (k + 1) 3 w (st3 p (k + 1)) av vv (upTo 0 3) (upTo 4 3) wr by
                  have e : st3 p (k + 1) = st3 p k := by show (if waitK (kindAt p k) then _ else _) = _; rw [ew]; rfl
                  rw [e]
                  obtain ⟨D, h1, h2⟩ := hN0.map
                  exact ⟨G0, hN0.at', hN0.ins, hN0.was, hN0.ne, ⟨D, h1.mono (Nat.le_succ _), h2.skip ew⟩, hN0.bel⟩)
                clear hN0 hsl1 hsl2 hwk ew
                go_wp2_with fail
                exact ⟨⟨k + 1, by omega, by go_num, unhide R⟩, by simp [intOf]; omega⟩
              · rw [ew] at c1
                have hNd := hN0.on (Below.refl wr.heap.size wr).drew
                obtain ⟨gq, hgq⟩ : ∃ gq, waitG p k = gq := ⟨_, rfl⟩
                have hcall := regG_call (bg := false) (s' := st3 p (k + 1)) (x := gq) hNd (by show _ = (if waitK (kindAt p k) then _ else _); rw [ew]; rfl) (by rw [← hgq, hsl1]; rfl) (by omega) (by omega)
                have HEW := hide (And.intro ew (And.intro hgq (waitG_small p k (by omega))))
                have c8 : wr.cell? ⟨b, 8, none⟩ = some (.map (some w.heap.size)) := hN0.at'.cells.2.2.2.2.2
                have hbl := hN0.at'.cells.1
                clear hN0 hsl1 hsl2 hwk ew hgq hml hpl hmy
                go_wp2_with fail
                go_region_held3 (fun W => W.cell? ⟨b, 8, none⟩ = some (.map (some w.heap.size)))
                  ((first | exact c8 | exact cA | exact c4))
                  ((go_at_call 91; refine hcall.mono ?_; rintro e wA ⟨rfl, hR⟩; obtain ⟨GA, hNA⟩ := hNd.ret hR; obtain ⟨D, h1, h2⟩ := hNA.map; obtain ⟨w4, hupd, map4, gr4⟩ := h1.update smith_keyed Tryz.underlying106 (by unfold maxLen; omega) (smith_key (x := (k : Int)) (by omega) (by omega)) (plainElem_int Tryz.underlying3 (smith_wf (x := gq) (by rw [← (unhide HEW).2.1]; exact (unhide HEW).2.2.1) (by rw [← (unhide HEW).2.1]; exact (unhide HEW).2.2.2))); have hN4 := hNA.wait (k' := k + 1) ⟨_, map4, by rw [← (unhide HEW).2.1]; exact h2.put (unhide HEW).1⟩ gr4 (Nat.le_refl _); have cA : wA.cell? ⟨b, 8, none⟩ = some (.map (some w.heap.size)) := hNA.at'.cells.2.2.2.2.2; have c4 : w4.cell? ⟨b, 8, none⟩ = some (.map (some w.heap.size)) := hN4.at'.cells.2.2.2.2.2; have R := hide hN4; clear hN4 map4 gr4 h1 h2 hNA hR))
                all_goals
                  go_wp2_with fail
                  exact ⟨⟨k + 1, by omega, by go_num, _, unhide R⟩, by simp [intOf]; omega⟩
            · have hkn : k = p.length := by omega
              subst hkn
              rw [st3_all] at hN0
              obtain ⟨ia, ic, hia⟩ := row_slice hN0.ins
              obtain ⟨wa, wc, hwa⟩ := row_slice hN0.was
              subst hia
              subst hwa
              have hx := hN0.at'.xlt
              have hQ : Kp (G0 ++ X0) wr (SP.q ⟨pa, pn, pc, ia, ic, wa, wc, w.heap.size⟩ p) := fun V hV => by
                have hi1 := row_kept hN0.ins hV (fun y hy hm => by
                  rcases List.mem_append.1 hm with h9 | h9
                  · exact (hx y (List.mem_append_left _ (ownB_mem.2 hy))).2 h9
                  · have := (hN0.ins.lt y hy).1; have := hX0 y h9; omega)
                have hi2 := row_kept hN0.was hV (fun y hy hm => by
                  rcases List.mem_append.1 hm with h9 | h9
                  · exact (hx y (List.mem_append_right _ (List.mem_append_left _ (ownB_mem.2 hy)))).2 h9
                  · have := (hN0.was.lt y hy).1; have := hX0 y h9; omega)
                refine ⟨hN0.at'.restK V (hV.mono (fun y hb => by
                  rcases List.mem_append.1 hb with h9 | h9
                  · exact List.mem_append_left _ h9
                  · exact List.mem_append_right _ (List.mem_append_right _ (List.mem_append_right _ (List.mem_cons_of_mem _ h9))))), ?_, ?_, hN0.map.keep (hV.2 _ hN0.map.lt (fun hm => by
                  rcases List.mem_append.1 hm with h9 | h9
                  · exact (hx _ (by simp)).2 h9
                  · have := hX0 _ h9; omega))⟩
                · obtain ⟨a2, c2, e, hI⟩ := own_ints hi1 (by unfold maxLen; simp [upTo_len])
                  injection e with e1 _ _
                  subst e1
                  exact hI
                · obtain ⟨a2, c2, e, hI⟩ := own_ints hi2 (by unfold maxLen; simp [upTo_len])
                  injection e with e1 _ _
                  subst e1
                  exact hI
              have R := hide (And.intro (hN0.at'.own (fun x hx' => List.mem_append_right _ (List.mem_append_right _ (List.mem_cons_of_mem _ hx'))) hQ) hN0.bel)
              clear hN0 hx hQ hsl1 hsl2
              go_wp2_with fail
              go_ret
              exact ⟨b, G0, ⟨pa, pn, pc, ia, ic, wa, wc, w.heap.size⟩, rfl, rfl, rfl, rfl, (unhide R).1, (unhide R).2⟩

open Go.Maps
/-- The net that lies there stays, whatever the others' blocks come to hold. -/
theorem SmAt.net {B : Nat} {W : World} {b : Nat} {k : KK} {G X : List Nat} {Q : World → Prop} {s : SmD} {os : OS} (h : SmAt B W b k G X Q s os) (hg : s.gates.length ≤ 1000) (hr : s.regs.length ≤ 1000) (ho : os.1.length ≤ 1000) :
    ∃ ga gc ra rc oa oc, b < W.heap.size ∧ W.cell? ⟨b, 0, none⟩ = some (.int .i64 3) ∧ W.cell? ⟨b, 1, none⟩ = some (.slice ga s.gates.length gc) ∧ W.cell? ⟨b, 2, none⟩ = some (.slice ra s.regs.length rc) ∧ W.cell? ⟨b, 3, none⟩ = some (.slice oa os.1.length oc) ∧
      Kp X W (fun V => Gates V ga s.gates.length s.gates ∧ Regs V ra s.regs.length s.regs ∧ Ints V oa os.1.length os.1) := by
  obtain ⟨r, cs, h1, rfl⟩ := h
  obtain ⟨ga, gc, hgv⟩ := row_slice h1.gates
  obtain ⟨ra, rc, hrv⟩ := row_slice h1.regs
  obtain ⟨oa, oc, hov⟩ := row_slice h1.outs
  have c1 : W.cell? ⟨b, 1, none⟩ = some r.gv := h1.box.cell 1
  have c2 : W.cell? ⟨b, 2, none⟩ = some r.rv := h1.box.cell 2
  have c3 : W.cell? ⟨b, 3, none⟩ = some r.ov := h1.box.cell 3
  rw [hgv] at c1
  rw [hrv] at c2
  rw [hov] at c3
  refine ⟨ga, gc, ra, rc, oa, oc, h1.box.lt, h1.box.cell 0, c1, c2, c3, fun V hV => ?_⟩
  have hno : ∀ x, x ∈ rowsL b r → x ∉ X := fun x hx hm => (h1.xs x hm).2 hx
  have hgo := row_kept h1.gates hV (fun y hy => hno y (rowsL_mem.2 (Or.inr (Or.inl hy))))
  have hro := row_kept h1.regs hV (fun y hy => hno y (rowsL_mem.2 (Or.inr (Or.inr (Or.inl hy)))))
  have hoo := row_kept h1.outs hV (fun y hy => hno y (rowsL_mem.2 (Or.inr (Or.inr (Or.inr (Or.inl hy))))))
  have hkp := h1.keep.step hV.right (fun g hg => Or.inl hg)
  rw [hgv] at hgo
  rw [hrv] at hro
  rw [hov] at hoo
  exact ⟨own_gatesR hgo hkp rfl (by unfold maxLen; omega), own_regsR hro rfl (by unfold maxLen; omega), row_ints hoo (by unfold maxLen; omega)⟩

def FNetRet (p : List NodeD) (w w' : World) (e : Ending) : Prop := ∃ i ga gn gc ra rn rc oa on oc, e = .returned (.tuple #[.agg #[.int .i64 i, .slice ga gn gc, .slice ra rn rc, .slice oa on oc], .int .i64 (checkP p)]) ∧ (checkP p = 0 → NetAt w' (forgeD p) i ga gn ra rn oa on) ∧ Below w.heap.size w w'

set_option maxRecDepth 100000 in
set_option maxHeartbeats 8000000 in
theorem FNet_any (p : List NodeD) (pa : Option Addr) (pn pc : Nat) (w : World) (hN : Nodes w pa pn p) (hc : pn ≤ pc) :
    Calls Tryz.prog 30 #[.slice pa pn pc] w fun e w' => FNetRet p w w' e := by
  have hb0 : Below w.heap.size w (w.alloc (.cells #[.int .i64 0, .slice none 0 0, .slice none 0 0, .slice none 0 0] 70)) := (Below.refl _ _).alloc (Nat.le_refl _) _
  have hc0 := Cells.new w [.int .i64 0, .slice none 0 0, .slice none 0 0, .slice none 0 0] 70
  have hs0 : (w.alloc (.cells #[.int .i64 0, .slice none 0 0, .slice none 0 0, .slice none 0 0] 70)).heap.size = w.heap.size + 1 := by simp
  have hN0 := hN.below hb0
  go_enter Tryz.func30, Tryz.ntmps30
  go_upto_region 1 with fail
  generalize hw0 : w.alloc (.cells #[.int .i64 0, .slice none 0 0, .slice none 0 0, .slice none 0 0] 70) = w0 at *
  clear hw0
  go_wp2_with fail
  refine (PWaits_any p _ _ _ _ hN0).mono ?_
  rintro e w1 ⟨a, n, c, rfl, hB1, hb1⟩
  have hb01 := bstep hb0 hb1
  have hcz1 : Cells w1 w.heap.size [.int .i64 0, .slice none 0 0, .slice none 0 0, .slice none 0 0] 70 := hc0.below hb1 hc0.lt
  have hs1 : w.heap.size + 1 ≤ w1.heap.size := by have := hb1.size; omega
  by_cases he : checkP p = 0
  · have hok := pok_of he
    rw [if_pos he] at hB1
    have HE := hide he
    rw [he]
    have hNK : Kp [w.heap.size] w1 (fun V => Nodes V pa pn p) := fun V hV => hN.early (by have := hV.1; omega) (fun j hj => (hV.2 j (by omega) (by simp; omega)).trans (hb01.block j hj))
    clear he hN0 hc0 hs0 hb0 hb1
    go_wp2_with fail
    refine (newSmith_any [w.heap.size] p hok pa a pn pc n c w1 hNK (fun x hx => by have : x = w.heap.size := by simpa using hx
                                                                                   omega) hB1).mono ?_
    rintro e w2 ⟨b, G, P, rfl, hP1, hP2, hP3, hS, hb2⟩
    have hcz2 := hcz1.below hb2 (by omega)
    have hb02 := bstep hb01 hb2
    go_wp2_with fail
    refine (forge_any hok (by rw [hP2, hP3]; exact hc) hS).mono ?_
    rintro e w3 ⟨rfl, pv, hR⟩
    have hGlt := hS.lt
    obtain ⟨G3, hS3, hk3, hG3, hb3⟩ := hR
    have hb03 : Below w.heap.size w w3 := hb02.trans (hb3.mono (by omega))
    have hcz3 : Cells w3 w.heap.size [.int .i64 0, .slice none 0 0, .slice none 0 0, .slice none 0 0] 70 := (hk3.2 _ hcz2.lt (fun hm => by have := (hGlt _ hm).1; omega)).trans hcz2
    obtain ⟨f1, f2, f3, f4⟩ := forge_made hok
    have hfr := f1.regs
    have hfew := hok.few
    have hnw : numW p ≤ p.length := may_le _
    obtain ⟨ga, gc, ra, rc, oa, oc, hbl, c0, c1, c2, c3, hKN⟩ := hS3.net (by omega) (by omega) (by show (forgeF p).2.length ≤ 1000; show [_, _, _].length ≤ 1000; simp)
    have hneb : b ≠ w.heap.size := fun e => (hS3.xlt w.heap.size (by simp)).2 (by
      obtain ⟨r, cs, h1, h2⟩ := hS3
      rw [h2, ← e]; exact rowsL_mem.2 (Or.inl rfl))
    clear hS hS3 hk3 hG3 hb3 hcz2 hcz1 hB1 hNK hGlt f1 f2 f3 f4 hP1 hP2 hP3 hb2 hb02 hb01
    obtain ⟨gn, hgn⟩ : ∃ gn, (forgeF p).1.gates.length = gn := ⟨_, rfl⟩
    obtain ⟨rn, hrn⟩ : ∃ rn, (forgeF p).1.regs.length = rn := ⟨_, rfl⟩
    obtain ⟨on, hon⟩ : ∃ on, (forgeF p).2.length = on := ⟨_, rfl⟩
    simp only at c3 hKN
    rw [hgn] at c1 hKN
    rw [hrn] at c2 hKN
    rw [hon] at c3 hKN
    have z0 : w3.cell? ⟨w.heap.size, 0, none⟩ = some (.int .i64 0) := hcz3.cell 0
    have z1 : w3.cell? ⟨w.heap.size, 1, none⟩ = some (.slice none 0 0) := hcz3.cell 1
    have z2 : w3.cell? ⟨w.heap.size, 2, none⟩ = some (.slice none 0 0) := hcz3.cell 2
    have z3 : w3.cell? ⟨w.heap.size, 3, none⟩ = some (.slice none 0 0) := hcz3.cell 3
    have y0 := hcz3.frozen 0
    have y1 := hcz3.frozen 1
    have y2 := hcz3.frozen 2
    have y3 := hcz3.frozen 3
    have hcF := (((hcz3.set 0 (.int .i64 3)).set 1 (.slice ga gn gc)).set 2 (.slice ra rn rc)).set 3 (.slice oa on oc)
    have hzl := hcz3.lt
    have hkF : KeptG [w.heap.size] w3 ((((w3.setCell ⟨w.heap.size, 0, none⟩ (.int .i64 3)).setCell ⟨w.heap.size, 1, none⟩ (.slice ga gn gc)).setCell ⟨w.heap.size, 2, none⟩ (.slice ra rn rc)).setCell ⟨w.heap.size, 3, none⟩ (.slice oa on oc)) := (((KeptG.set (.int .i64 3) (by simp)).trans (KeptG.set (.slice ga gn gc) (by simp))).trans (KeptG.set (.slice ra rn rc) (by simp))).trans (KeptG.set (.slice oa on oc) (by simp))
    have hbF : Below w.heap.size w ((((w3.setCell ⟨w.heap.size, 0, none⟩ (.int .i64 3)).setCell ⟨w.heap.size, 1, none⟩ (.slice ga gn gc)).setCell ⟨w.heap.size, 2, none⟩ (.slice ra rn rc)).setCell ⟨w.heap.size, 3, none⟩ (.slice oa on oc)) := (((hb03.setCell (p := ⟨w.heap.size, 0, none⟩) (Nat.le_refl _) _).setCell (p := ⟨w.heap.size, 1, none⟩) (Nat.le_refl _) _).setCell (p := ⟨w.heap.size, 2, none⟩) (Nat.le_refl _) _).setCell (p := ⟨w.heap.size, 3, none⟩) (Nat.le_refl _) _
    obtain ⟨k1, k2, k3⟩ := hKN _ hkF
    have q0 := hcF.cell 0
    have q1 := hcF.cell 1
    have q2 := hcF.cell 2
    have q3 := hcF.cell 3
    have HR := hide (And.intro (show NetAt ((((w3.setCell ⟨w.heap.size, 0, none⟩ (.int .i64 3)).setCell ⟨w.heap.size, 1, none⟩ (.slice ga gn gc)).setCell ⟨w.heap.size, 2, none⟩ (.slice ra rn rc)).setCell ⟨w.heap.size, 3, none⟩ (.slice oa on oc)) (forgeD p) 3 ga gn ra rn oa on from ⟨rfl, k1, k2, k3⟩) hbF)
    clear k1 k2 k3 hcF hkF hbF hKN hcz3 hgn hrn hon
    go_wp2_with fail
    exact bodyPost_ret (v := .tuple #[.agg #[.int .i64 3, .slice ga gn gc, .slice ra rn rc, .slice oa on oc], .int .i64 0]) (by simp [results, Tryz.results30, go_sem, q0, q1, q2, q3]) rfl ⟨3, ga, gn, gc, ra, rn, rc, oa, on, oc, by rw [unhide HE], fun _ => (unhide HR).1, (unhide HR).2⟩
  · have HE := hide he
    obtain ⟨er, her⟩ : ∃ er, checkP p = er := ⟨_, rfl⟩
    rw [her] at he ⊢
    have HER := hide her
    have hq : (er == 0) = false := by simpa using he
    have z0 : w1.cell? ⟨w.heap.size, 0, none⟩ = some (.int .i64 0) := hcz1.cell 0
    have z1 : w1.cell? ⟨w.heap.size, 1, none⟩ = some (.slice none 0 0) := hcz1.cell 1
    have z2 : w1.cell? ⟨w.heap.size, 2, none⟩ = some (.slice none 0 0) := hcz1.cell 2
    have z3 : w1.cell? ⟨w.heap.size, 3, none⟩ = some (.slice none 0 0) := hcz1.cell 3
    have y0 := hcz1.frozen 0
    have y1 := hcz1.frozen 1
    have y2 := hcz1.frozen 2
    have y3 := hcz1.frozen 3
    have hcF := (((hcz1.set 0 (.int .i64 0)).set 1 (.slice none 0 0)).set 2 (.slice none 0 0)).set 3 (.slice none 0 0)
    have hzl := hcz1.lt
    have hbF : Below w.heap.size w ((((w1.setCell ⟨w.heap.size, 0, none⟩ (.int .i64 0)).setCell ⟨w.heap.size, 1, none⟩ (.slice none 0 0)).setCell ⟨w.heap.size, 2, none⟩ (.slice none 0 0)).setCell ⟨w.heap.size, 3, none⟩ (.slice none 0 0)) := (((hb01.setCell (p := ⟨w.heap.size, 0, none⟩) (Nat.le_refl _) _).setCell (p := ⟨w.heap.size, 1, none⟩) (Nat.le_refl _) _).setCell (p := ⟨w.heap.size, 2, none⟩) (Nat.le_refl _) _).setCell (p := ⟨w.heap.size, 3, none⟩) (Nat.le_refl _) _
    have q0 := hcF.cell 0
    have q1 := hcF.cell 1
    have q2 := hcF.cell 2
    have q3 := hcF.cell 3
    have HBF := hide hbF
    clear hB1 hN0 hc0 hs0 hb0 hb1 hb01 hcz1 her hcF hbF
    go_wp2_with fail
    exact bodyPost_ret (v := .tuple #[.agg #[.int .i64 0, .slice none 0 0, .slice none 0 0, .slice none 0 0], .int .i64 er]) (by simp [results, Tryz.results30, go_sem, q0, q1, q2, q3]) rfl ⟨0, none, 0, 0, none, 0, 0, none, 0, 0, by rw [unhide HER], fun h9 => absurd h9 (unhide HE), unhide HBF⟩

def FRunRet (p : List NodeD) (l : List Int) (w w' : World) (e : Ending) : Prop := ∃ a n c, e = .returned (.tuple #[.slice a n c, .int .i64 (playE p l)]) ∧ Rows w' a n (playRows p l) ∧ Below w.heap.size w w'
set_option maxRecDepth 100000 in
set_option maxHeartbeats 4000000 in
theorem FRun_any (p : List NodeD) (pa : Option Addr) (pn pc : Nat) (l : List Int) (la : Option Addr) (ln lc : Nat) (w : World) (hN : Nodes w pa pn p) (hc : pn ≤ pc) (hl : Ints w la ln l) :
    Calls Tryz.prog 9 #[.slice pa pn pc, .slice la ln lc] w fun e w' => FRunRet p l w w' e := by
  go_enter Tryz.func9, Tryz.ntmps9
  go_wp2_with fail
  refine (FNet_any p pa pn pc w hN hc).mono ?_
  rintro e w1 ⟨i, ga, gn, gc, ra, rn, rc, oa, on, oc, rfl, hA, hb1⟩
  by_cases he : checkP p = 0
  · have hok := pok_of he
    have hA1 := hA he
    obtain ⟨hE, hR⟩ := forge_run hok l
    have HE := hide hE
    have HR := hide hR
    have hb2 := (Below.refl w1.heap.size w1).alloc (Nat.le_refl _) (.cells #[.int .i64 i, .slice ga gn gc, .slice ra rn rc, .slice oa on oc] 70)
    have hA2 := hA1.below hb2
    have hl2 := (hl.below hb1).below hb2
    rw [he]
    clear hA hA1 hN hl he hE hR
    go_wp2_with fail
    refine (Run_any (forgeD p) _ _ _ _ _ _ _ _ _ _ _ hA2 l _ _ _ hl2).mono ?_
    rintro e w2 ⟨a, n, c, b', m', k', rfl, hro, _, _, hb3⟩
    rw [unhide HE]
    have R := hide (show Rows w2 a n (playRows p l) ∧ Below w.heap.size w w2 by rw [← unhide HR]; exact ⟨hro, bstep (bstep hb1 hb2) hb3⟩)
    obtain ⟨er, her⟩ : ∃ er, playE p l = er := ⟨_, rfl⟩
    rw [her]
    have HER := hide (show Ending.returned (.tuple #[.slice a n c, .int .i64 er]) = .returned (.tuple #[.slice a n c, .int .i64 (playE p l)]) by rw [her])
    clear hro hb3 her
    go_wp2_with fail
    go_ret2
    exact ⟨a, n, c, unhide HER, (unhide R).1, (unhide R).2⟩
  · have hE : playE p l = checkP p := by unfold playE; rw [if_neg he]
    have hR : playRows p l = [] := by unfold playRows; rw [hE, if_neg he]
    have HE := hide hE
    have HR := hide hR
    obtain ⟨er, her⟩ : ∃ er, checkP p = er := ⟨_, rfl⟩
    rw [her] at he ⊢
    have HER := hide her
    have hq : (er == 0) = false := by simpa using he
    have hb2 := (Below.refl w1.heap.size w1).alloc (Nat.le_refl _) (.cells #[.int .i64 i, .slice ga gn gc, .slice ra rn rc, .slice oa on oc] 70)
    have R := hide (show Ending.returned (.tuple #[.slice none 0 0, .int .i64 er]) = .returned (.tuple #[.slice none 0 0, .int .i64 (playE p l)]) by rw [unhide HE, unhide HER])
    clear hA hN hl hE hR her
    go_wp2_with fail
    go_ret2
    exact ⟨none, 0, 0, unhide R, by rw [unhide HR]; exact Rows.nil0 _, bstep hb1 hb2⟩
end Go.Proofs.YtongajonecgdpagGreatDoor
