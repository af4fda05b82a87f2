/- The program's sweep.places and sweep.movedAll. -/
import Derived.Test.YtongajonecgdpadSweepT
import Derived.Test.YtongajonecgdpadDropM
import Derived.Test.YtongajonecgdpadNetN
import Derived.Maps.OwnSet
namespace Go.Proofs.Ytongajonecgdpad
open Go.RowKit Go.Maps

theorem keyed_int : Keyed Try.prog 3 := int_keyed Try.underlying3
theorem zero_of_int (w : World) : (zeroValue 3).run Try.prog w = .ok (.int .i64 0) w := by kernel_rfl
theorem small_wf {x : Int} (h0 : 0 ≤ x) (h1 : x ≤ 1000000) : (Lit.int .i64 x).wf = true := by
  have h := wrap64_wf x
  rwa [show wrap64 x = x by unfold wrap64; omega] at h
theorem small_key {x : Int} (h0 : 0 ≤ x) (h1 : x ≤ 1000000) : keyOf Try.prog 3 (.int .i64 x) = some (.int .i64 x) := keyOf_int_mk Try.underlying3 (small_wf h0 h1)

/-- The map says where each of the first k gates goes that stays. -/
def PMap (bs : List Bool) (k : Nat) (D : DataW Unit) : Prop :=
  Tidy D ∧ Maps.size D = atN bs k ∧ ∀ j : Nat, Maps.has D (.int .i64 (j : Int)) = (decide (j < k) && bs.getD j false) ∧ (j < k → bs.getD j false = true → D.atKey (.int .i64 (j : Int)) (.lit (.int .i64 0)) = .lit (.int .i64 (atN bs j)))
theorem PMap.nil (bs : List Bool) : PMap bs 0 (.map []) := ⟨tidy_empty, rfl, fun j => ⟨by simp [has_eq], fun h => by omega⟩⟩
theorem PMap.skip {bs : List Bool} {k : Nat} {D : DataW Unit} (h : PMap bs k D) (hk : bs.getD k false = false) : PMap bs (k + 1) D := by
  refine ⟨h.1, by rw [atN_succ, hk]; simpa using h.2.1, fun j => ?_⟩
  obtain ⟨h1, h2⟩ := h.2.2 j
  by_cases e : j = k
  · subst e; exact ⟨by rw [h1, hk]; simp, fun _ h9 => by rw [hk] at h9; simp at h9⟩
  · have : (decide (j < k + 1)) = decide (j < k) := by rw [decide_eq_decide]; omega
    exact ⟨by rw [h1, this], fun h9 h10 => h2 (by omega) h10⟩
theorem key_lit (x : Int) : WideAt.IsKeyLit (.int .i64 x) := by first | trivial | rfl | (simp [WideAt.IsKeyLit])
theorem key_ne {j k : Nat} (h : j ≠ k) : (Lit.int .i64 (j : Int)) ≠ .int .i64 (k : Int) := fun e => h (by injection e with _ e; omega)
theorem PMap.put {bs : List Bool} {k : Nat} {D : DataW Unit} (h : PMap bs k D) (hk : bs.getD k false = true) : PMap bs (k + 1) (D.put (.int .i64 (k : Int)) (.lit (.int .i64 (atN bs k)))) := by
  have hno : Maps.has D (.int .i64 (k : Int)) = false := by rw [(h.2.2 k).1]; simp
  refine ⟨h.1.put (key_lit _) _, ?_, fun j => ?_⟩
  · rw [size_put h.1, hno, atN_succ, hk]; simp; exact h.2.1
  · obtain ⟨h1, h2⟩ := h.2.2 j
    by_cases e : j = k
    · subst e
      exact ⟨by rw [has_put_same h.1.isMap (key_lit _), hk]; simp, fun _ _ => atKey_put_same h.1.isMap (key_lit _) _ _⟩
    · have : (decide (j < k + 1)) = decide (j < k) := by rw [decide_eq_decide]; omega
      exact ⟨by rw [has_put_other (key_ne e), h1, this], fun h9 h10 => by rw [atKey_put_other (key_ne e)]; exact h2 (by omega) h10⟩
def MapAt (w : World) (m : Nat) (bs : List Bool) (k : Nat) : Prop := ∃ D, w.ownsMap Try.prog 3 (plainElem (H := Unit) Try.prog 3) m k D ∧ PMap bs k D
theorem MapAt.lt {w : World} {m k : Nat} {bs : List Bool} (h : MapAt w m bs k) : m < w.heap.size := by obtain ⟨D, h1, _⟩ := h; exact h1.lt
theorem MapAt.keep {w w' : World} {m k : Nat} {bs : List Bool} (h : MapAt w m bs k) (hb : w'.heap[m]? = w.heap[m]?) : MapAt w' m bs k := by
  obtain ⟨D, ⟨es, clock, h1, h2⟩, h3⟩ := h
  exact ⟨D, ⟨es, clock, hb.trans h1, h2⟩, h3⟩
theorem MapAt.below {w w' : World} {m k : Nat} {bs : List Bool} (h : MapAt w m bs k) (hb : Below w.heap.size w w') : MapAt w' m bs k := h.keep (hb.block m h.lt)
set_option maxRecDepth 100000 in
theorem MapAt.look {w : World} {m k : Nat} {bs : List Bool} (h : MapAt w m bs k) {j : Nat} (hj : j < k) (hb : bs.getD j false = true) (hs : j ≤ 1000000) : (Instr.lookup 66 (.map (some m)) (.int .i64 (j : Int)) false).run Try.prog w = .ok (.int .i64 (atN bs j)) w := by
  obtain ⟨D, h1, h2⟩ := h
  obtain ⟨c, h3, h4, _⟩ := h1.lookup_int keyed_int Try.underlying66 Try.underlying3 (zero_of_int w) (small_key (x := (j : Int)) (by omega) (by omega))
  have h5 := (h2.2.2 j).2 hj hb
  have hc : c = (atN bs j : Int) := by
    have h6 := h4.symm.trans h5
    injection h6 with h6
    injection h6
  rw [h3, hc]
theorem MapAt.ok {w : World} {m k : Nat} {bs : List Bool} (h : MapAt w m bs k) {j : Nat} (hj : j < k) (hs : j ≤ 1000000) : ∃ c, (Instr.lookup 66 (.map (some m)) (.int .i64 (j : Int)) true).run Try.prog w = .ok (.tuple #[.int .i64 c, .bool (bs.getD j false)]) w := by
  obtain ⟨D, h1, h2⟩ := h
  have hw0 : (Lit.int .i64 0).wf = true := by decide
  obtain ⟨v, ps, h3, h4⟩ := h1.look_ok keyed_int Try.underlying66 (zero_of_int w) (plainElem_int Try.underlying3 hw0) (small_key (x := (j : Int)) (by omega) (by omega))
  obtain ⟨c, rfl, _, _⟩ := plainElem_int_inv Try.underlying3 h4
  rw [(h2.2.2 j).1, show decide (j < k) = true from decide_eq_true hj, Bool.true_and] at h3
  exact ⟨c, h3⟩

set_option maxRecDepth 100000 in
set_option maxHeartbeats 1000000 in
theorem places_any (bs : List Bool) (a : Option Addr) (n c : Nat) (w : World) (h : Bools w a n bs) (hn : n ≤ 200) :
    Calls Try.prog 38 #[.slice a n c] w fun e w' => ∃ m, e = .returned (.map (some m)) ∧ w.heap.size ≤ m ∧ MapAt w' m bs n ∧ Below w.heap.size w w' := by
  have HLL : Hid (bs.length = n) := h.1.symm
  have hm0 := World.ownsMap_made (H := Unit) w Try.prog 3 (plainElem (H := Unit) Try.prog 3)
  have hb0 := (Below.refl _ w).alloc (Nat.le_refl _) (.map #[] 0)
  have hmm := @run_makeMap Try.prog
  go_enter Try.func38, Try.ntmps38
  go_wp2_with fail
  clear hmm
  go_loopw [9] (fun i wr => ∃ k : Nat, k ≤ n ∧ i = .int .i64 k ∧ MapAt wr w.heap.size bs k ∧ Below w.heap.size w wr) (fun i _ => n - (intOf i).toNat)
  case atStart => exact ⟨0, Nat.zero_le _, rfl, ⟨_, hm0, PMap.nil bs⟩, hb0⟩
  case round =>
    clear hm0 hb0
    obtain ⟨k, hk, rfl, hmap, hbel⟩ := hrel
    by_cases hlt : k < n
    · have hki : (k : Int) < (n : Int) := by omega
      have hkl : k < bs.length := by have := HLL.out; omega
      obtain ⟨b, off, rfl, hbb, c1⟩ := (h.below hbel).at hkl
      cases eb : bs[k]
      · have hget : bs.getD k false = false := by simp [List.getD_eq_getElem?_getD, hkl, eb]
        rw [eb] at c1
        have R := hide (show MapAt wr w.heap.size bs (k + 1) by obtain ⟨D, h1, h2⟩ := hmap; exact ⟨D, h1.mono (Nat.le_succ _), h2.skip hget⟩)
        clear eb hget hmap
        go_wp2_with fail
        exact ⟨⟨k + 1, by omega, by go_num, unhide R, hbel⟩, by simp [intOf]; omega⟩
      · have hget : bs.getD k false = true := by simp [List.getD_eq_getElem?_getD, hkl, eb]
        rw [eb] at c1
        obtain ⟨D, h1, h2⟩ := hmap
        have hlen := h1.len Try.underlying66 3
        rw [h2.2.1] at hlen
        have hat : atN bs k ≤ k := by
          have := List.length_filter_le (fun j => bs.getD j false) (List.range k)
          unfold atN; simpa using this
        obtain ⟨w4, hupd, map4, gr4⟩ := h1.update keyed_int Try.underlying66 (by unfold maxLen; omega) (small_key (x := (k : Int)) (by omega) (by omega)) (plainElem_int Try.underlying3 (small_wf (x := ((atN bs k : Nat) : Int)) (by omega) (by omega)))
        have R1 : MapAt w4 w.heap.size bs (k + 1) := ⟨_, map4, h2.put hget⟩
        have R2 : Below w.heap.size w w4 := hbel.grown gr4 (by have := hbel.size; omega) (fun j hj => by injection hj with hj; omega)
        have R := hide (And.intro R1 R2)
        clear eb hget h1 h2 map4 gr4 R1 R2 hbel
        go_wp2_with fail
        exact ⟨⟨k + 1, by omega, by go_num, (unhide R).1, (unhide R).2⟩, by simp [intOf]; omega⟩
    · have R := hide (show MapAt wr w.heap.size bs n by rw [show n = k by omega]; exact hmap)
      clear hmap
      go_wp2_with fail
      go_ret
      exact ⟨_, rfl, Nat.le_refl _, unhide R, hbel⟩

def movedV (bs : List Bool) (l : List Int) : List Int := l.map (fun x => toV bs x.toNat)
theorem movedV_len (bs : List Bool) (l : List Int) : (movedV bs l).length = l.length := by simp [movedV]
set_option maxHeartbeats 1000000 in
theorem movedAll_any (bs : List Bool) (l : List Int) (la : Option Addr) (n c m gn : Nat) (w : World) (hl : Ints w la n l) (hmap : MapAt w m bs gn) (hn : n ≤ 200) (hgn : gn ≤ 200) (hin : ∀ x ∈ l, 0 ≤ x ∧ x.toNat < gn ∧ bs.getD x.toNat false = true) :
    Calls Try.prog 62 #[.slice la n c, .map (some m)] w fun e w' => ∃ a c', e = .returned (.slice a n c') ∧ Ints w' a n (movedV bs l) ∧ Fresh w.heap.size a n ∧ Hid (a ≠ none) ∧ Below w.heap.size w w' := by
  have HLL : Hid (l.length = n) := hl.1.symm
  have HML : Hid ((movedV bs l).length = n) := by unfold Hid; rw [movedV_len]; exact HLL.out
  have HIN := hide hin
  clear hin
  obtain ⟨i0, hi, hz0, hz1, hz2⟩ := info_parts Try.infoInt
  go_enter Try.func62, Try.ntmps62
  go_wp2_with (at_make; refine wpList_make_full _ rfl _ _ 24 rfl w.heap.size 3 i0 (.int .i64 0) 1 Try.underlying24 hi hz0 hz1 .i64 .i64 (n : Int) (n : Int) n rfl rfl rfl rfl ?c1 ?c2 ?c3 ?_)
  case c1 => rw [hz2]; omega
  case c2 => unfold maxLen; omega
  case c3 => exact Nat.le_refl _
  intro w2 hown hgrow
  have hb2 : Below w.heap.size w w2 := (Below.refl _ _).grown hgrow (Nat.le_refl _) (fun k hk => by simp at hk)
  have hrow0 := made_introw hown
  clear hown hgrow hi hz0 hz1 hz2
  go_wp2_with fail
  go_loopw [13] (fun i wr => ∃ k : Nat, k ≤ n ∧ i = .int .i64 k ∧ IntRow wr w.heap.size (partTo 0 (movedV bs l) k) ∧ Below w.heap.size w wr) (fun i _ => n - (intOf i).toNat)
  case atStart => exact ⟨0, Nat.zero_le _, rfl, by rw [partTo_zero, HML.out]; exact hrow0, hb2⟩
  case round =>
    clear hrow0 hb2
    obtain ⟨k, hk, rfl, hrow, hbel⟩ := hrel
    by_cases hlt : k < n
    · have hltl : k < l.length := by have := HLL.out; omega
      have hki : (k : Int) < (n : Int) := by omega
      obtain ⟨b, off, rfl, hbb, c1⟩ := (hl.below hbel).at hltl
      obtain ⟨hp, hq, hbt⟩ := (unhide HIN) l[k] (List.getElem_mem hltl)
      obtain ⟨x, hx⟩ := Int.eq_ofNat_of_zero_le hp
      have hxg : x < gn := by rw [hx] at hq; simpa using hq
      rw [hx, Int.toNat_natCast] at hbt
      have hlook := (hmap.below hbel).look hxg hbt (by omega)
      have hpk : k < (movedV bs l).length := by rw [HML.out]; exact hlt
      have hpl : k < (partTo 0 (movedV bs l) k).length := by rw [partTo_len _ _ _ (by omega)]; exact hpk
      obtain ⟨z, d1⟩ : ∃ z, wr.cell? ⟨w.heap.size, k, none⟩ = some (.int .i64 z) := ⟨_, hrow.cell k hpl⟩
      have d2 := hrow.frozen k
      have hrow2 := hrow.set k (atN bs x : Int)
      have hset := partTo_set 0 (movedV bs l) k hpk
      have hval : (movedV bs l)[k] = (atN bs x : Int) := by
        have : (movedV bs l)[k] = toV bs l[k].toNat := by simp [movedV]
        rw [this, hx, Int.toNat_natCast, toV_of hbt]
      rw [hval] at hset
      rw [hset] at hrow2
      have hbel2 : Below w.heap.size w (wr.setCell ⟨w.heap.size, k, none⟩ (.int .i64 (atN bs x : Int))) := hbel.setCell (Nat.le_refl _) _
      rw [hx] at c1
      have R := hide (And.intro hrow2 hbel2)
      clear hset hpl hpk hrow hval hp hq hx hbt hrow2 hbel2 hbel
      go_wp2_with fail
      exact ⟨⟨k + 1, by omega, by go_num, (unhide R).1, (unhide R).2⟩, by simp [intOf]; omega⟩
    · have hkn : k = (movedV bs l).length := by rw [HML.out]; omega
      rw [hkn, partTo_full] at hrow
      have hI : Ints _ (some ⟨w.heap.size, 0, none⟩) n (movedV bs l) := hrow.ints n HML.out.symm (by rw [HML.out]; unfold maxLen; omega)
      have hF := hrow.fresh (n := n) (Nat.le_refl _)
      clear hkn hrow
      go_wp2_with fail
      go_ret
      exact ⟨_, _, rfl, hI, hF, by show ¬ _; simp, hbel⟩
end Go.Proofs.Ytongajonecgdpad
