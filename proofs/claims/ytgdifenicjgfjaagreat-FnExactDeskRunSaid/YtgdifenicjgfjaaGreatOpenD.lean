/-
  What a reading of an argument gives a walk: a slice of the laws' own deeds, a deed, a desk. No conditions.
-/
import Derived.Test.YtgdifenicjgfjaaGreatSpots
import Derived.Test.YtgdifenicjgfjaaGreatDeedL
import Derived.Test.YtgdifenicjgfjaaGreatDeskM
import Derived.Deep.Slices
import Derived.Deep.Strs
import Derived.Deep.SlicePairs
import Derived.Lib.SmallJoins
import Derived.ProofKit
import Derived.ChangeSame
namespace Go.Proofs.YtgdifenicjgfjaaGreat
open Go.ChangeShapes Go.WideShapes Go.ChangeAt Go.RowKit Go.Deep

theorem cellsLDeed : Tryz.prog.cellsOf 47 = 3 := by kernel_rfl
section
variable {H : Type} {enc : TypeId × Value → H}
set_option maxRecDepth 100000 in
theorem open_lspots_cs {W : World} {fuel : Nat} {v : Value} {y : DataW H × List MemPlace} (hf : DataW.trod enc Tryz.prog W 0 (fun _ => true) true fuel 43 [v] = some y) (hlt : ∀ x ∈ y.2, x.block < W.heap.size) : ∃ ps, Reads W W.heap.size v ps := by
  rcases open_slice_pairs Tryz.underlying43 Tryz.underlying108 cellsLSpot rfl rfl cellsInt cellsInt hf with ⟨hcs, _⟩ | ⟨a, len, cap, m, n, V0, V1, D0, D1, P0, P1, hcs, _, hl, hm, hmm, hx, hi⟩
  · injection hcs with hcs _
    subst hcs
    exact ⟨[], none, 0, rfl, by simp, by simp [maxLen], fun _ => rfl, fun h => by omega⟩
  · injection hcs with hcs _
    subst hcs
    simp only [if_true] at hmm
    subst hmm
    rw [hx] at hlt
    have each : ∀ i, i < m → ∃ xy : Sp, W.cell? (a.add (i * 2)) = some (.int .i64 xy.1) ∧ W.cell? (a.add (i * 2 + 1)) = some (.int .i64 xy.2) := by
      intro i him
      obtain ⟨c0, c1, t0, t1⟩ := hi i him
      obtain ⟨x, e0, _, _⟩ := DataW.trod_int Tryz.underlying3 t0
      obtain ⟨y, e1, _, _⟩ := DataW.trod_int Tryz.underlying3 t1
      simp at e0 e1
      rw [e0] at c0; rw [e1] at c1
      exact ⟨(x, y), c0, c1⟩
    obtain ⟨f, hf'⟩ := choose_lt each
    refine ⟨(List.range len).map f, some a, m, by simp, by simpa using hl, hm, fun h => (by cases h), fun hm0 => ?_⟩
    obtain ⟨b, off, spot⟩ := a
    have hspot : spot = none := by simpa [Addr.add] using World.cell?_spot (hf' 0 hm0).1
    subst hspot
    refine ⟨b, off, rfl, hlt (.cell b off) (List.mem_append_left _ (MemPlace.mem_row.2 ⟨0, by omega, by simp⟩)), fun k x y hk => ?_⟩
    have hk' : k < len := by have := (List.getElem?_eq_some_iff.1 hk).1; simpa using this
    have e : f k = (x, y) := by
      rw [List.getElem?_map, List.getElem?_range hk'] at hk
      simpa using hk
    have := hf' k (by omega)
    rw [e, Addr.add_lit, Addr.add_lit, ← Nat.add_assoc] at this
    exact this
set_option maxRecDepth 100000 in
theorem open_ldeeds {W : World} {base : Nat} {v : Value} {d : DataW H} {p : List MemPlace} (hval : Value.okWide Tryz.prog W .any base 53 v)
    (h : DataW.Trod enc Tryz.prog W 0 (fun _ => true) true 53 v d p) (hlt : ∀ x ∈ p, x.block < W.heap.size) : ∃ l, CReads W W.heap.size v l := by
  obtain ⟨a0, len, cap, rfl⟩ := okWide_slice Tryz.underlying53 hval
  obtain ⟨fuel, hf⟩ := h
  rcases open_slice Tryz.underlying53 hf with ⟨hcs, _⟩ | ⟨a, len', cap', m, n, D, Pl, hcs, _, hl, hm, hmm, hx, hi⟩
  · simp [Value.cells] at hcs
    obtain ⟨rfl, rfl, rfl⟩ := hcs
    exact ⟨[], none, 0, rfl, by simp, by simp [maxLen], fun _ => rfl, fun h => by omega⟩
  · simp [Value.cells] at hcs
    obtain ⟨rfl, rfl, rfl⟩ := hcs
    simp only [if_true] at hmm
    subst hmm
    simp only [Prod.mk.injEq] at hx
    obtain ⟨_, rfl⟩ := hx
    have each : ∀ i, i < m → ∃ c : Cn, W.cell? (a.add (i * 3)) = some (.int .i64 c.1.1) ∧ W.cell? (a.add (i * 3 + 1)) = some (.int .i64 c.1.2) ∧ W.cell? (a.add (i * 3 + 2)) = some (.int .i64 c.2) := by
      intro i him
      obtain ⟨cs', h1, h2⟩ := hi i him
      rw [cellsLDeed] at h1
      obtain ⟨_, hlen, hcell⟩ := World.cells?_some h1
      obtain ⟨y0, y1, y2, k, _, _, g0, g1, g2⟩ := trod_struct3 Tryz.underlying47 h2
      match cs', hlen with
      | [v0, v1, v2], _ =>
        simp [cellsInt] at g0 g1 g2
        obtain ⟨x, e0, _, _⟩ := DataW.trod_int Tryz.underlying3 g0
        obtain ⟨y, e1, _, _⟩ := DataW.trod_int Tryz.underlying3 g1
        obtain ⟨r, e2, _, _⟩ := DataW.trod_int Tryz.underlying3 g2
        simp at e0 e1 e2
        subst e0 e1 e2
        have c0 := hcell 0 (by omega)
        have c1 := hcell 1 (by omega)
        have c2 := hcell 2 (by omega)
        rw [add_add] at c0 c1 c2
        exact ⟨((x, y), r), by simpa using c0, by simpa using c1, by simpa using c2⟩
    obtain ⟨f, hf'⟩ := choose_lt each
    refine ⟨(List.range len).map f, some a, m, by simp, by simpa using hl, hm, fun h => (by cases h), fun hm0 => ?_⟩
    obtain ⟨b, off, spot⟩ := a
    have hspot : spot = none := by simpa [Addr.add] using World.cell?_spot (hf' 0 hm0).1
    subst hspot
    refine ⟨b, off, rfl, hlt (.cell b off) (List.mem_append_left _ (MemPlace.mem_row.2 ⟨0, by rw [cellsLDeed]; omega, by simp⟩)), fun k x y r hk => ?_⟩
    have hk' : k < len := by have := (List.getElem?_eq_some_iff.1 hk).1; simpa using this
    have e : f k = ((x, y), r) := by
      rw [List.getElem?_map, List.getElem?_range hk'] at hk
      simpa using hk
    have := hf' k (by omega)
    rw [e, Addr.add_lit, Addr.add_lit, Addr.add_lit, ← Nat.add_assoc, ← Nat.add_assoc] at this
    exact ⟨this.1, this.2.1, this.2.2⟩
set_option maxRecDepth 100000 in
theorem open_ldeed {W : World} {base : Nat} {v : Value} {d : DataW H} {p : List MemPlace} (hval : Value.okWide Tryz.prog W .any base 47 v)
    (h : DataW.Trod enc Tryz.prog W 0 (fun _ => true) true 47 v d p) : ∃ a : Dd, v = .agg #[.int .i64 a.1.1, .int .i64 a.1.2, .int .i64 a.2] := by
  obtain ⟨c0, c1, c2, y0, y1, y2, m, rfl, _, _, h0, h1, h2⟩ := Joins.open_agg3 Tryz.underlying47 (by kernel_rfl) cellsLDeed hval h
  obtain ⟨x, e0, _, _⟩ := DataW.trod_int Tryz.underlying3 h0
  obtain ⟨y, e1, _, _⟩ := DataW.trod_int Tryz.underlying3 h1
  obtain ⟨z, e2, _, _⟩ := DataW.trod_int Tryz.underlying3 h2
  simp at e0 e1 e2
  exact ⟨((x, y), z), by rw [e0, e1, e2]⟩
theorem cellsLSpots : Tryz.prog.cellsOf 43 = 1 := by kernel_rfl
set_option maxRecDepth 100000 in
/-- pictures that came in -/
theorem open_lparts_cs {W : World} {fuel : Nat} {v : Value} {y : DataW H × List MemPlace} (hf : DataW.trod enc Tryz.prog W 0 (fun _ => true) true fuel 44 [v] = some y) (hlt : ∀ x ∈ y.2, x.block < W.heap.size) : ∃ ls, PReads W W.heap.size v ls := by
  rcases open_slice Tryz.underlying44 hf with ⟨hcs, _⟩ | ⟨a, len, cap, m, n, D, Pl, hcs, _, hl, hm, hmm, hx, hi⟩
  · injection hcs with hcs _
    subst hcs
    exact ⟨[], none, 0, [], rfl, by simp, by simp [maxLen], rfl, fun h => absurd h (by simp), fun k p h => by cases h⟩
  · injection hcs with hcs _
    subst hcs
    simp only [if_true] at hmm
    subst hmm
    rw [hx] at hlt
    have each : ∀ i, i < m → ∃ q : Value × List Sp, W.cell? (a.add i) = some q.1 ∧ Reads W W.heap.size q.1 q.2 := by
      intro i him
      obtain ⟨cs', h1, h2⟩ := hi i him
      rw [cellsLSpots] at h1
      obtain ⟨_, hlen, hcell⟩ := World.cells?_some h1
      match cs', hlen with
      | [u], _ =>
        obtain ⟨l, hr⟩ := open_lspots_cs h2 (fun x hx => hlt x (List.mem_append_right _ (List.mem_flatMap.2 ⟨i, List.mem_range.2 him, hx⟩)))
        have c0 := hcell 0 (by omega)
        rw [add_add] at c0
        exact ⟨(u, l), by simpa using c0, hr⟩
    obtain ⟨f, hf'⟩ := choose_lt each
    refine ⟨(List.range len).map fun i => (f i).2, some a, m, (List.range len).map fun i => (f i).1, by simp, by simpa using hl, hm, by simp, fun h0 => ?_, fun k p hk => ?_⟩
    · have h0 : 0 < len := by simpa using h0
      obtain ⟨b, off, spot⟩ := a
      have hspot : spot = none := by simpa [Addr.add] using World.cell?_spot (hf' 0 (by omega)).1
      subst hspot
      refine ⟨b, off, rfl, hlt (.cell b off) (List.mem_append_left _ (MemPlace.mem_row.2 ⟨0, by rw [cellsLSpots]; omega, by simp⟩)), fun k u hk => ?_⟩
      have hk' : k < len := by have := (List.getElem?_eq_some_iff.1 hk).1; simpa using this
      rw [List.getElem?_map, List.getElem?_range hk'] at hk
      have e : (f k).1 = u := by simpa using hk
      have := (hf' k (by omega)).1
      rw [e, Addr.add_lit] at this
      exact this
    · have hk' : k < len := by have := (List.getElem?_eq_some_iff.1 hk).1; simpa using this
      rw [List.getElem?_map, List.getElem?_range hk'] at hk
      have e : (f k).2 = p := by simpa using hk
      refine ⟨(f k).1, by rw [List.getElem?_map, List.getElem?_range hk']; rfl, ?_⟩
      rw [← e]
      exact (hf' k (by omega)).2
theorem cellsLDesk : Tryz.prog.cellsOf 46 = 2 := by kernel_rfl
set_option maxRecDepth 100000 in
/-- a desk that came in -/
theorem open_ldesk {W : World} {base : Nat} {v : Value} {d : DataW H} {p : List MemPlace} (hval : Value.okWide Tryz.prog W .any base 46 v)
    (h : DataW.Trod enc Tryz.prog W 0 (fun _ => true) true 46 v d p) (hlt : ∀ x ∈ p, x.block < W.heap.size) : ∃ k : Dk, DeskR W W.heap.size v k := by
  obtain ⟨c0, c1, y0, y1, m, rfl, rfl, rfl, h0, h1⟩ := Joins.open_agg2 Tryz.underlying46 (by kernel_rfl) cellsLDesk hval h
  obtain ⟨t, ht⟩ := open_lspots_cs h0 (fun x hx => hlt x (List.mem_append_left _ hx))
  obtain ⟨u, hu⟩ := open_lparts_cs h1 (fun x hx => hlt x (List.mem_append_right _ hx))
  exact ⟨(t, u), c0, c1, rfl, ht, hu⟩
end
end Go.Proofs.YtgdifenicjgfjaaGreat
