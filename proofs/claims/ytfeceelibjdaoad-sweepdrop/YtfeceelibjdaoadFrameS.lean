
/- How a net that came in is met, with its reach and its lists that are nil. -/
import Derived.Test.YtfeceelibjdaoadFrameNet
import Derived.SizedLaws
namespace Go.Proofs.Ytfeceelibjdaoad
open Go.ChangeShapes Go.WideShapes Go.ChangeAt Go.RowKit Go.Joins

set_option maxRecDepth 100000 in
theorem ints_trod2 {H : Type} {enc : TypeId × Value → H} {W : World} {fuel : Nat} {a : Option Addr} {len cap : Nat} {x : DataW H × List MemPlace}
    (h : DataW.trod enc Try.prog W 0 (fun _ => true) true fuel 24 [.slice a len cap] = some x) (hz : ∀ n ∈ x.1.weights Try.prog 24, n ≤ reachBytes) : (a = none → cap = 0) ∧ len * 8 ≤ 140737488351232 := by
  rcases open_ints Try.underlying24 Try.underlying3 (by kernel_rfl) h with ⟨hcs, _⟩ | ⟨y, l, c, zs, hcs, _, hl, hm, hzl, hx, _, _⟩
  · simp at hcs
    obtain ⟨rfl, rfl, rfl⟩ := hcs
    exact ⟨fun _ => rfl, by omega⟩
  · simp at hcs
    obtain ⟨rfl, rfl, rfl⟩ := hcs
    refine ⟨fun e => by simp at e, ?_⟩
    have hz' : zs.length = cap := by simpa using hzl
    have h1 := hz _ (by rw [hx]; simp only [DataW.weights, Try.underlying24]; exact List.mem_cons_self)
    rw [Try.bytesInt] at h1
    simp [lits, reachBytes] at h1
    omega
theorem Try.bytesStore : Try.prog.bytesOf 53 = 16 := by kernel_rfl
set_option maxRecDepth 100000 in
theorem regs_trod2 {H : Type} {enc : TypeId × Value → H} {W : World} {fuel : Nat} {a : Option Addr} {len cap : Nat} {x : DataW H × List MemPlace}
    (h : DataW.trod enc Try.prog W 0 (fun _ => true) true fuel 23 [.slice a len cap] = some x) (hz : ∀ n ∈ x.1.weights Try.prog 23, n ≤ reachBytes) : (a = none → cap = 0) ∧ len * 16 ≤ 140737488351232 := by
  rcases Go.Deep.open_slice Try.underlying23 h with ⟨hcs, _⟩ | ⟨y, l, c, m, n, D, Pl, hcs, _, hl, hm, hmm, hx, _⟩
  · simp at hcs
    obtain ⟨rfl, rfl, rfl⟩ := hcs
    exact ⟨fun _ => rfl, by omega⟩
  · simp at hcs
    obtain ⟨rfl, rfl, rfl⟩ := hcs
    refine ⟨fun e => by simp at e, ?_⟩
    have h1 := hz _ (by rw [hx]; simp only [DataW.weights, Try.underlying23]; exact List.mem_cons_self)
    rw [Try.bytesStore] at h1
    simp [reachBytes] at h1
    omega
set_option maxRecDepth 100000 in
theorem net_sized {H : Type} {enc : TypeId × Value → H} {W : World} {b0 : Nat} {ins : Int} {ga ra oa : Option Addr} {gn gc rn rc on oc : Nat} {dd : DataW H} {p : List MemPlace} (hv : Value.okWide Try.prog W .any b0 26 (.agg #[.int .i64 ins, .slice ga gn gc, .slice ra rn rc, .slice oa on oc]))
    (h : DataW.Trod enc Try.prog W 0 (fun _ => true) true 26 (.agg #[.int .i64 ins, .slice ga gn gc, .slice ra rn rc, .slice oa on oc]) dd p) (hz : ∀ n ∈ dd.weights Try.prog 26, n ≤ reachBytes) :
    (oa = none → oc = 0) ∧ (ra = none → rc = 0) ∧ (on + rn) * 8 ≤ 281474976710656 := by
  obtain ⟨v0, v1, v2, v3, y0, y1, y2, y3, n, hv4, hd, _, t0, t1, t2, t3⟩ := open_agg4 Try.underlying26 (by kernel_rfl) (by kernel_rfl) hv h
  simp at hv4
  obtain ⟨rfl, rfl, rfl, rfl⟩ := hv4
  subst hd
  have hw : ∀ (j : Nat) (t : TypeId) (y : DataW H), [3, 22, 23, 24][j]? = some t → [y0.1, y1.1, y2.1, y3.1][j]? = some y → ∀ n ∈ y.weights Try.prog t, n ≤ reachBytes := by
    intro j t y ht hy n hn
    have := DataW.weights_mem_each (P := Try.prog) ht hy n hn
    exact hz n (by simpa [DataW.weights, Try.underlying26] using this)
  obtain ⟨h3, h4⟩ := ints_trod2 t3 (hw 3 _ y3.1 rfl rfl)
  obtain ⟨h5, h6⟩ := regs_trod2 t2 (hw 2 _ y2.1 rfl rfl)
  exact ⟨h3, h5, by omega⟩
theorem sized_at {H : Type} {P : Program} {ts : List TypeId} {ds : List (DataW H)} (h : (DataW.weightsEach P ts ds).all (· ≤ reachBytes) = true) {j : Nat} {t : TypeId} {d : DataW H} (ht : ts[j]? = some t) (hd : ds[j]? = some d) : ∀ n ∈ d.weights P t, n ≤ reachBytes := fun n hn => by
  have := List.all_eq_true.1 h n (DataW.weights_mem_each ht hd n hn)
  simpa using this
end Go.Proofs.Ytfeceelibjdaoad
