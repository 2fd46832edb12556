/-
  What a reading of an argument gives a walk: a slice of the laws' own deeds, a deed, a desk. No conditions.
-/
import Derived.Test.YtgdifenicjgfjaaOpen
import Derived.Test.YtgdifenicjgfjaaDeeds
import Derived.Test.YtgdifenicjgfjaaDeskM
import Derived.Deep.Slices
import Derived.Deep.Strs
import Derived.Deep.SlicePairs
import Derived.Lib.SmallJoins
import Derived.ProofKit
import Derived.ChangeSame
namespace Go.Proofs.Ytgdifenicjgfjaa
open Go.ChangeShapes Go.WideShapes Go.ChangeAt Go.RowKit Go.Deep

section
variable {H : Type} {enc : TypeId × Value → H}
set_option maxRecDepth 100000 in
theorem open_lspots_cs {W : World} {fuel : Nat} {v : Value} {y : DataW H × List MemPlace} (hf : DataW.trod enc Try.prog W 0 (fun _ => true) true fuel 39 [v] = some y) (hlt : ∀ x ∈ y.2, x.block < W.heap.size) : ∃ ps, Reads W W.heap.size v ps := by
  rcases open_slice_pairs Try.underlying39 Try.underlying63 cellsLSpot rfl rfl cellsInt cellsInt hf with ⟨hcs, _⟩ | ⟨a, len, cap, m, n, V0, V1, D0, D1, P0, P1, hcs, _, hl, hm, hmm, hx, hi⟩
  · injection hcs with hcs _
    subst hcs
    exact ⟨[], none, 0, rfl, by simp, by simp [maxLen], fun _ => rfl, fun h => by omega⟩
  · injection hcs with hcs _
    subst hcs
    simp only [if_true] at hmm
    subst hmm
    rw [hx] at hlt
    have each : ∀ i, i < m → ∃ xy : Sp, W.cell? (a.add (i * 2)) = some (.int .i64 xy.1) ∧ W.cell? (a.add (i * 2 + 1)) = some (.int .i64 xy.2) := by
      intro i him
      obtain ⟨c0, c1, t0, t1⟩ := hi i him
      obtain ⟨x, e0, _, _⟩ := DataW.trod_int Try.underlying3 t0
      obtain ⟨y, e1, _, _⟩ := DataW.trod_int Try.underlying3 t1
      simp at e0 e1
      rw [e0] at c0; rw [e1] at c1
      exact ⟨(x, y), c0, c1⟩
    obtain ⟨f, hf'⟩ := choose_lt each
    refine ⟨(List.range len).map f, some a, m, by simp, by simpa using hl, hm, fun h => (by cases h), fun hm0 => ?_⟩
    obtain ⟨b, off, spot⟩ := a
    have hspot : spot = none := by simpa [Addr.add] using World.cell?_spot (hf' 0 hm0).1
    subst hspot
    refine ⟨b, off, rfl, hlt (.cell b off) (List.mem_append_left _ (MemPlace.mem_row.2 ⟨0, by omega, by simp⟩)), fun k x y hk => ?_⟩
    have hk' : k < len := by have := (List.getElem?_eq_some_iff.1 hk).1; simpa using this
    have e : f k = (x, y) := by
      rw [List.getElem?_map, List.getElem?_range hk'] at hk
      simpa using hk
    have := hf' k (by omega)
    rw [e, Addr.add_lit, Addr.add_lit, ← Nat.add_assoc] at this
    exact this
theorem cellsLSpots : Try.prog.cellsOf 39 = 1 := by kernel_rfl
set_option maxRecDepth 100000 in
/-- pictures that came in -/
theorem open_lparts_cs {W : World} {fuel : Nat} {v : Value} {y : DataW H × List MemPlace} (hf : DataW.trod enc Try.prog W 0 (fun _ => true) true fuel 40 [v] = some y) (hlt : ∀ x ∈ y.2, x.block < W.heap.size) : ∃ ls, PReads W W.heap.size v ls := by
  rcases open_slice Try.underlying40 hf with ⟨hcs, _⟩ | ⟨a, len, cap, m, n, D, Pl, hcs, _, hl, hm, hmm, hx, hi⟩
  · injection hcs with hcs _
    subst hcs
    exact ⟨[], none, 0, [], rfl, by simp, by simp [maxLen], rfl, fun h => absurd h (by simp), fun k p h => by cases h⟩
  · injection hcs with hcs _
    subst hcs
    simp only [if_true] at hmm
    subst hmm
    rw [hx] at hlt
    have each : ∀ i, i < m → ∃ q : Value × List Sp, W.cell? (a.add i) = some q.1 ∧ Reads W W.heap.size q.1 q.2 := by
      intro i him
      obtain ⟨cs', h1, h2⟩ := hi i him
      rw [cellsLSpots] at h1
      obtain ⟨_, hlen, hcell⟩ := World.cells?_some h1
      match cs', hlen with
      | [u], _ =>
        obtain ⟨l, hr⟩ := open_lspots_cs h2 (fun x hx => hlt x (List.mem_append_right _ (List.mem_flatMap.2 ⟨i, List.mem_range.2 him, hx⟩)))
        have c0 := hcell 0 (by omega)
        rw [add_add] at c0
        exact ⟨(u, l), by simpa using c0, hr⟩
    obtain ⟨f, hf'⟩ := choose_lt each
    refine ⟨(List.range len).map fun i => (f i).2, some a, m, (List.range len).map fun i => (f i).1, by simp, by simpa using hl, hm, by simp, fun h0 => ?_, fun k p hk => ?_⟩
    · have h0 : 0 < len := by simpa using h0
      obtain ⟨b, off, spot⟩ := a
      have hspot : spot = none := by simpa [Addr.add] using World.cell?_spot (hf' 0 (by omega)).1
      subst hspot
      refine ⟨b, off, rfl, hlt (.cell b off) (List.mem_append_left _ (MemPlace.mem_row.2 ⟨0, by rw [cellsLSpots]; omega, by simp⟩)), fun k u hk => ?_⟩
      have hk' : k < len := by have := (List.getElem?_eq_some_iff.1 hk).1; simpa using this
      rw [List.getElem?_map, List.getElem?_range hk'] at hk
      have e : (f k).1 = u := by simpa using hk
      have := (hf' k (by omega)).1
      rw [e, Addr.add_lit] at this
      exact this
    · have hk' : k < len := by have := (List.getElem?_eq_some_iff.1 hk).1; simpa using this
      rw [List.getElem?_map, List.getElem?_range hk'] at hk
      have e : (f k).2 = p := by simpa using hk
      refine ⟨(f k).1, by rw [List.getElem?_map, List.getElem?_range hk']; rfl, ?_⟩
      rw [← e]
      exact (hf' k (by omega)).2
theorem cellsLDesk : Try.prog.cellsOf 42 = 2 := by kernel_rfl
set_option maxRecDepth 100000 in
/-- a desk that came in -/
theorem open_ldesk {W : World} {base : Nat} {v : Value} {d : DataW H} {p : List MemPlace} (hval : Value.okWide Try.prog W .any base 42 v)
    (h : DataW.Trod enc Try.prog W 0 (fun _ => true) true 42 v d p) (hlt : ∀ x ∈ p, x.block < W.heap.size) : ∃ k : Dk, DeskR W W.heap.size v k := by
  obtain ⟨c0, c1, y0, y1, m, rfl, rfl, rfl, h0, h1⟩ := Joins.open_agg2 Try.underlying42 (by kernel_rfl) cellsLDesk hval h
  obtain ⟨t, ht⟩ := open_lspots_cs h0 (fun x hx => hlt x (List.mem_append_left _ hx))
  obtain ⟨u, hu⟩ := open_lparts_cs h1 (fun x hx => hlt x (List.mem_append_right _ hx))
  exact ⟨(t, u), c0, c1, rfl, ht, hu⟩
end
end Go.Proofs.Ytgdifenicjgfjaa
