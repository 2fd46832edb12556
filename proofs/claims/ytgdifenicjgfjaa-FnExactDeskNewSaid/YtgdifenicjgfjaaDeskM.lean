/- Desks in memory: pictures that the call itself made, each in blocks from lo on and ahead of hi, no two in one block; what is written there leaves all else as it was. No conditions but those typed. -/
import Derived.Test.YtgdifenicjgfjaaPartsL
import Derived.Test.YtgdifenicjgfjaaDeskP
namespace Go.Proofs.Ytgdifenicjgfjaa
open Go.RowKit Go.Sort

/-- what changes lies in blocks from lo on and ahead of hi -/
structure GrownIn (lo hi : Nat) (w w' : World) : Prop where
  os : w'.os = w.os
  tape : w'.tape = w.tape
  output : w'.output = w.output
  size : w.heap.size ≤ w'.heap.size
  block : ∀ k, k < w.heap.size → (k < lo ∨ hi ≤ k) → w'.heap[k]? = w.heap[k]?
theorem GrownIn.refl (lo hi : Nat) (w : World) : GrownIn lo hi w w := ⟨rfl, rfl, rfl, Nat.le_refl _, fun _ _ _ => rfl⟩
theorem GrownIn.trans {lo hi : Nat} {a b c : World} (h : GrownIn lo hi a b) (k : GrownIn lo hi b c) : GrownIn lo hi a c :=
  ⟨k.os.trans h.os, k.tape.trans h.tape, k.output.trans h.output, Nat.le_trans h.size k.size, fun i hi1 ho => (k.block i (Nat.lt_of_lt_of_le hi1 h.size) ho).trans (h.block i hi1 ho)⟩
theorem GrownIn.of_grown {lo hi : Nat} {w w' : World} {row : Option Nat} (h : w.grownBy w' row) (hr : ∀ g, row = some g → lo ≤ g ∧ g < hi) : GrownIn lo hi w w' :=
  ⟨h.os, h.tape, h.output, h.size, fun k hk ho => h.block k hk fun e => by have := hr k e.symm; omega⟩
theorem GrownIn.of_below {lo hi : Nat} {w w' : World} (h : Below w.heap.size w w') : GrownIn lo hi w w' := ⟨h.os, h.tape, h.output, h.size, fun k hk _ => h.block k hk⟩
theorem GrownIn.below {lo hi B : Nat} {w w' : World} (h : GrownIn lo hi w w') (hB : B ≤ lo) (hs : B ≤ w.heap.size) : Below B w w' := ⟨h.os, h.tape, h.output, h.size, fun k hk => h.block k (by omega) (.inl (by omega))⟩

theorem Owns.keptBy {w w' : World} {base : Nat} {v : Value} {ps : List Sp} (h : Owns w base v ps) (hk : ∀ g, v.ownBlock = some g → w'.heap[g]? = w.heap[g]?) : Owns w' base v ps := by
  refine ⟨h.1, ?_⟩
  rcases h.2 with h0 | ⟨g, cap, cur, rfl, h1, hg, h2⟩
  · exact .inl h0
  · exact .inr ⟨g, cap, cur, rfl, h1, (hk g rfl).trans hg, h2⟩
theorem VOwns.keptBy {T : TypeId} {w w' : World} {base : Nat} {v : Value} {l : List Value} (h : VOwns T w base v l) (hk : ∀ g, v.ownBlock = some g → w'.heap[g]? = w.heap[g]?) : VOwns T w' base v l := by
  refine ⟨h.1, ?_⟩
  rcases h.2 with h0 | ⟨g, cap, cur, rfl, h1, hg, h2⟩
  · exact .inl h0
  · exact .inr ⟨g, cap, cur, rfl, h1, (hk g rfl).trans hg, h2⟩

theorem Reads.nilAny {w w' : World} {B B' : Nat} {v : Value} (h : Reads w B v []) (hB : B ≤ B') : Reads w' B' v [] := by
  obtain ⟨A, c, h1, h2, h3, h4, h5⟩ := h.is
  refine ⟨A, c, h1, h2, h3, h4, fun hc => ?_⟩
  obtain ⟨b, off, h6, h7, _⟩ := h5 hc
  exact ⟨b, off, h6, by omega, fun k x y hk => by cases hk⟩
/-- a picture that the call itself made, in a block from lo on and ahead of hi; or an empty one -/
def OZ (w : World) (lo hi : Nat) (v : Value) (ps : List Sp) : Prop := (ps = [] ∧ Reads w hi v []) ∨ (ps ≠ [] ∧ Owns w lo v ps ∧ ∀ g, v.ownBlock = some g → g < hi)
/-- the block in which its spots lie, if it has any -/
def blk (v : Value) (ps : List Sp) : Option Nat := if ps = [] then none else v.ownBlock
theorem blk_nil (v : Value) : blk v [] = none := if_pos rfl
theorem blk_yes {v : Value} {ps : List Sp} (h : ps ≠ []) : blk v ps = v.ownBlock := if_neg h
theorem blk_congr {v : Value} {ps qs : List Sp} (h : ps.length = qs.length) : blk v ps = blk v qs := by
  by_cases e : ps = []
  · subst e
    rw [List.eq_nil_of_length_eq_zero (l := qs) (by simpa using h.symm)]
  · have e' : qs ≠ [] := fun k => e (List.eq_nil_of_length_eq_zero (by rw [h, k]; rfl))
    rw [blk_yes e, blk_yes e']
theorem OZ.of {w : World} {lo hi : Nat} {v : Value} {ps : List Sp} (h : Owns w lo v ps) (hh : w.heap.size ≤ hi) : OZ w lo hi v ps := by
  by_cases e : ps = []
  · subst e
    exact .inl ⟨rfl, h.reads.more hh⟩
  · exact .inr ⟨e, h, fun g hg => Nat.lt_of_lt_of_le (h.lt g hg).2 hh⟩
theorem OZ.empty (w : World) (lo hi : Nat) (A : Option Addr) : OZ w lo hi (.slice A 0 0) [] := .inl ⟨rfl, A, 0, rfl, Nat.le_refl _, by simp [maxLen], fun _ => rfl, fun h => by omega⟩
theorem OZ.rng {w : World} {lo hi : Nat} {v : Value} {ps : List Sp} (h : OZ w lo hi v ps) : ∀ g, blk v ps = some g → (lo ≤ g ∧ g < hi) ∧ g < w.heap.size := by
  intro g hg
  rcases h with ⟨rfl, _⟩ | ⟨e, h, k⟩
  · rw [blk_nil] at hg; cases hg
  · rw [blk_yes e] at hg; exact ⟨⟨(h.lt g hg).1, k g hg⟩, (h.lt g hg).2⟩
theorem OZ.keptBy {w w' : World} {lo hi : Nat} {v : Value} {ps : List Sp} (h : OZ w lo hi v ps) (hk : ∀ g, lo ≤ g → g < hi → g < w.heap.size → w'.heap[g]? = w.heap[g]?) : OZ w' lo hi v ps := by
  rcases h with ⟨h, k⟩ | ⟨e, h, k⟩
  · exact .inl ⟨h, k.nilAny (Nat.le_refl _)⟩
  · exact .inr ⟨e, h.keptBy fun g hg => hk g (h.lt g hg).1 (k g hg) (h.lt g hg).2, k⟩
theorem OZ.wider {w : World} {lo lo' hi hi' : Nat} {v : Value} {ps : List Sp} (h : OZ w lo hi v ps) (hl : lo' ≤ lo) (hh : hi ≤ hi') : OZ w lo' hi' v ps := by
  rcases h with ⟨h, k⟩ | ⟨e, h, k⟩
  · exact .inl ⟨h, k.nilAny hh⟩
  · exact .inr ⟨e, h.base hl, fun g hg => Nat.lt_of_lt_of_le (k g hg) hh⟩
/-- what is written into another block leaves it as it was -/
theorem OZ.other {w w' : World} {lo hi : Nat} {v : Value} {ps : List Sp} {row : Option Nat} (h : OZ w lo hi v ps) (hg : w.grownBy w' row) (hne : blk v ps = none ∨ blk v ps ≠ row) : OZ w' lo hi v ps := by
  rcases h with ⟨h, k⟩ | ⟨e, h, k⟩
  · exact .inl ⟨h, k.nilAny (Nat.le_refl _)⟩
  · refine .inr ⟨e, h.grown hg ?_, k⟩
    rw [blk_yes e] at hne; exact hne
theorem OZ.reads {w : World} {lo hi : Nat} {v : Value} {ps : List Sp} (h : OZ w lo hi v ps) : Reads w hi v ps := by
  rcases h with ⟨rfl, h⟩ | ⟨e, h, k⟩
  · exact h
  · rcases h.parts with ⟨rfl, rfl⟩ | ⟨b, off, c, rfl, h1, h2, h3, h4⟩
    · exact absurd rfl e
    · exact ⟨_, c, rfl, h1, h2, fun e => (by cases e), fun _ => ⟨b, off, rfl, k b rfl, h4⟩⟩
theorem OZ.slice {w : World} {lo hi : Nat} {v : Value} {ps : List Sp} (h : OZ w lo hi v ps) : ∃ A c, v = .slice A ps.length c ∧ ps.length ≤ c ∧ c ≤ maxLen := h.reads.slice

/-- pictures, each with memory of its own -/
structure InZ (w : World) (lo hi : Nat) (vs : List Value) (ls : List (List Sp)) : Prop where
  len : vs.length = ls.length
  own : ∀ (k : Nat) p, ls[k]? = some p → ∃ u, vs[k]? = some u ∧ OZ w lo hi u p
  ne : ∀ (i j : Nat) u u' p p', i < j → vs[i]? = some u → vs[j]? = some u' → ls[i]? = some p → ls[j]? = some p' → blk u p = none ∨ blk u p ≠ blk u' p'
theorem InZ.keptBy {w w' : World} {lo hi : Nat} {vs : List Value} {ls : List (List Sp)} (h : InZ w lo hi vs ls) (hk : ∀ g, lo ≤ g → g < hi → g < w.heap.size → w'.heap[g]? = w.heap[g]?) : InZ w' lo hi vs ls :=
  ⟨h.len, fun k p hp => by obtain ⟨u, h1, h2⟩ := h.own k p hp; exact ⟨u, h1, h2.keptBy hk⟩, h.ne⟩
theorem InZ.wider {w : World} {lo lo' hi hi' : Nat} {vs : List Value} {ls : List (List Sp)} (h : InZ w lo hi vs ls) (hl : lo' ≤ lo) (hh : hi ≤ hi') : InZ w lo' hi' vs ls :=
  ⟨h.len, fun k p hp => by obtain ⟨u, h1, h2⟩ := h.own k p hp; exact ⟨u, h1, h2.wider hl hh⟩, h.ne⟩
theorem InZ.nil (w : World) (lo hi : Nat) : InZ w lo hi [] [] := ⟨rfl, fun k p h => (by cases h), fun i j u u' p p' _ h => (by cases h)⟩
/-- one more behind the others, in blocks that are none of theirs -/
theorem InZ.snoc {w : World} {lo mid hi : Nat} {vs : List Value} {ls : List (List Sp)} {u : Value} {p : List Sp} (h : InZ w lo mid vs ls) (ho : OZ w mid hi u p) (hl : lo ≤ mid) (hh : mid ≤ hi) : InZ w lo hi (vs ++ [u]) (ls ++ [p]) := by
  refine ⟨by rw [List.length_append, List.length_append, h.len]; rfl, fun k q hk => ?_, fun i j a b q q' hij ha hb hq hq' => ?_⟩
  · by_cases hkl : k < ls.length
    · rw [List.getElem?_append_left hkl] at hk
      obtain ⟨a, h1, h2⟩ := h.own k q hk
      exact ⟨a, by rw [List.getElem?_append_left (by rw [h.len]; exact hkl)]; exact h1, h2.wider (Nat.le_refl _) hh⟩
    · rw [List.getElem?_append_right (by omega)] at hk
      have e : k - ls.length = 0 := by
        have := (List.getElem?_eq_some_iff.1 hk).1
        simp only [List.length_singleton] at this; omega
      rw [e] at hk
      cases hk
      exact ⟨u, by rw [List.getElem?_append_right (by rw [h.len]; omega), h.len, e]; rfl, ho.wider hl (Nat.le_refl _)⟩
  · have hj := (List.getElem?_eq_some_iff.1 hb).1
    rw [List.length_append, List.length_singleton] at hj
    have hlen := h.len
    rw [List.getElem?_append_left (by omega)] at ha hq
    by_cases hl' : j < vs.length
    · rw [List.getElem?_append_left hl'] at hb
      rw [List.getElem?_append_left (by omega)] at hq'
      exact h.ne i j a b q q' hij ha hb hq hq'
    · have e : j = vs.length := by omega
      subst e
      rw [List.getElem?_append_right (Nat.le_refl _), Nat.sub_self] at hb
      rw [hlen, List.getElem?_append_right (Nat.le_refl _), Nat.sub_self] at hq'
      cases hb
      cases hq'
      cases hx : blk a q with
      | none => exact .inl rfl
      | some g =>
        refine .inr fun e => ?_
        obtain ⟨a', h1, h2⟩ := h.own i q hq
        rw [ha] at h1; cases h1
        have l1 := (h2.rng g hx).1
        have l2 := (ho.rng g e.symm).1
        omega
/-- one more ahead of the others -/
theorem InZ.cons {w : World} {lo mid hi : Nat} {vs : List Value} {ls : List (List Sp)} {u : Value} {p : List Sp} (h : InZ w lo mid vs ls) (ho : OZ w mid hi u p) (hl : lo ≤ mid) (hh : mid ≤ hi) : InZ w lo hi (u :: vs) (p :: ls) := by
  refine ⟨by rw [List.length_cons, List.length_cons, h.len], fun k q hk => ?_, fun i j a b q q' hij ha hb hq hq' => ?_⟩
  · cases k with
    | zero => cases hk; exact ⟨u, rfl, ho.wider hl (Nat.le_refl _)⟩
    | succ k =>
      rw [List.getElem?_cons_succ] at hk
      obtain ⟨a, h1, h2⟩ := h.own k q hk
      exact ⟨a, by rw [List.getElem?_cons_succ]; exact h1, h2.wider (Nat.le_refl _) hh⟩
  · cases j with
    | zero => omega
    | succ j =>
      rw [List.getElem?_cons_succ] at hb hq'
      cases i with
      | succ i =>
        rw [List.getElem?_cons_succ] at ha hq
        exact h.ne i j a b q q' (by omega) ha hb hq hq'
      | zero =>
        cases ha
        cases hq
        cases hx : blk u p with
        | none => exact .inl rfl
        | some g =>
          refine .inr fun e => ?_
          obtain ⟨b', h1, h2⟩ := h.own j q' hq'
          rw [hb] at h1; cases h1
          have l1 := (ho.rng g hx).1
          have l2 := (h2.rng g e.symm).1
          omega
/-- the first one in blocks ahead of the others' -/
theorem InZ.first {w : World} {lo mid hi : Nat} {vs : List Value} {ls : List (List Sp)} {u : Value} {p : List Sp} (h : InZ w mid hi vs ls) (ho : OZ w lo mid u p) (hl : lo ≤ mid) (hh : mid ≤ hi) : InZ w lo hi (u :: vs) (p :: ls) := by
  refine ⟨by rw [List.length_cons, List.length_cons, h.len], fun k q hk => ?_, fun i j a b q q' hij ha hb hq hq' => ?_⟩
  · cases k with
    | zero => cases hk; exact ⟨u, rfl, ho.wider (Nat.le_refl _) hh⟩
    | succ k =>
      rw [List.getElem?_cons_succ] at hk
      obtain ⟨a, h1, h2⟩ := h.own k q hk
      exact ⟨a, by rw [List.getElem?_cons_succ]; exact h1, h2.wider hl (Nat.le_refl _)⟩
  · cases j with
    | zero => omega
    | succ j =>
      rw [List.getElem?_cons_succ] at hb hq'
      cases i with
      | succ i =>
        rw [List.getElem?_cons_succ] at ha hq
        exact h.ne i j a b q q' (by omega) ha hb hq hq'
      | zero =>
        cases ha
        cases hq
        cases hx : blk u p with
        | none => exact .inl rfl
        | some g =>
          refine .inr fun e => ?_
          obtain ⟨b', h1, h2⟩ := h.own j q' hq'
          rw [hb] at h1; cases h1
          have l1 := (ho.rng g hx).1
          have l2 := (h2.rng g e.symm).1
          omega
/-- a slice of slices in a block of such slices, from lo on and ahead of hi -/
def VZ (w : World) (lo hi : Nat) (v : Value) (vs : List Value) : Prop := ∃ A c, v = .slice A vs.length c ∧ vs.length ≤ c ∧ c ≤ maxLen ∧
  (0 < vs.length → ∃ g off cur, A = some ⟨g, off, none⟩ ∧ (lo ≤ g ∧ g < hi) ∧ w.heap[g]? = some (.cells cur 23 (0, 0)) ∧ ∀ (k : Nat) u, vs[k]? = some u → cur[off + k]? = some u)
theorem VZ.of {w : World} {lo hi : Nat} {v : Value} {vs : List Value} (h : VOwns 23 w lo v vs) (hh : w.heap.size ≤ hi) : VZ w lo hi v vs := by
  have h' := h
  rcases h.2 with ⟨rfl, h0⟩ | ⟨g, cap, cur, rfl, hb, hg, hn, hc, hs, ht⟩
  · exact ⟨none, 0, by rw [h0], by omega, by simp [maxLen], fun k => by omega⟩
  · refine ⟨some ⟨g, 0, none⟩, cap, rfl, hn, hc, fun _ => ⟨g, 0, cur, rfl, ⟨hb, Nat.lt_of_lt_of_le (h'.lt g rfl).2 hh⟩, hg, fun k u hk => ?_⟩⟩
    have hkl := (List.getElem?_eq_some_iff.1 hk).1
    rw [← ht, List.getElem?_take_of_lt (by omega), Array.getElem?_toList] at hk
    rw [Nat.zero_add]; exact hk
theorem VZ.keptBy {w w' : World} {lo hi : Nat} {v : Value} {vs : List Value} (h : VZ w lo hi v vs) (hk : ∀ g, lo ≤ g → g < hi → g < w.heap.size → w'.heap[g]? = w.heap[g]?) : VZ w' lo hi v vs := by
  obtain ⟨A, c, h1, h2, h3, h4⟩ := h
  refine ⟨A, c, h1, h2, h3, fun h0 => ?_⟩
  obtain ⟨g, off, cur, h5, h6, h7, h8⟩ := h4 h0
  exact ⟨g, off, cur, h5, h6, (hk g h6.1 h6.2 (Array.getElem?_eq_some_iff.1 h7).1).trans h7, h8⟩
theorem VZ.wider {w : World} {lo lo' hi hi' : Nat} {v : Value} {vs : List Value} (h : VZ w lo hi v vs) (hl : lo' ≤ lo) (hh : hi ≤ hi') : VZ w lo' hi' v vs := by
  obtain ⟨A, c, h1, h2, h3, h4⟩ := h
  refine ⟨A, c, h1, h2, h3, fun h0 => ?_⟩
  obtain ⟨g, off, cur, h5, h6, h7, h8⟩ := h4 h0
  exact ⟨g, off, cur, h5, ⟨by omega, by omega⟩, h7, h8⟩
theorem VZ.shape {w : World} {lo hi : Nat} {v : Value} {vs : List Value} (h : VZ w lo hi v vs) : ∃ A c, v = .slice A vs.length c ∧ vs.length ≤ c ∧ c ≤ maxLen ∧
    (0 < vs.length → ∃ g off, A = some ⟨g, off, none⟩ ∧ (lo ≤ g ∧ g < hi) ∧ g < w.heap.size ∧ ∀ (k : Nat) u, vs[k]? = some u → w.cell? ⟨g, off + k, none⟩ = some u) := by
  obtain ⟨A, c, h1, h2, h3, h4⟩ := h
  refine ⟨A, c, h1, h2, h3, fun h0 => ?_⟩
  obtain ⟨g, off, cur, h5, h6, h7, h8⟩ := h4 h0
  exact ⟨g, off, h5, h6, (Array.getElem?_eq_some_iff.1 h7).1, fun k u hk => by rw [cell_of_row w g _ cur _ (0, 0) h7]; exact h8 k u hk⟩
theorem VZ.nil (w : World) (lo hi : Nat) (A : Option Addr) (c : Nat) (hc : c ≤ maxLen) : VZ w lo hi (.slice A 0 c) [] := ⟨A, c, rfl, Nat.zero_le _, hc, fun h => absurd h (by simp)⟩
theorem VZ.take {w : World} {lo hi n c k : Nat} {A : Option Addr} {vs : List Value} (h : VZ w lo hi (.slice A n c) vs) (hk : k ≤ vs.length) : VZ w lo hi (.slice A k c) (vs.take k) := by
  obtain ⟨A', c', h1, h2, h3, h4⟩ := h
  cases h1
  have e : (vs.take k).length = k := by rw [List.length_take]; omega
  refine ⟨A, c, by rw [e], by omega, h3, fun h0 => ?_⟩
  obtain ⟨g, off, cur, h5, h6, h7, h8⟩ := h4 (by omega)
  refine ⟨g, off, cur, h5, h6, h7, fun j u hj => h8 j u ?_⟩
  rw [List.getElem?_take] at hj
  split at hj
  · exact hj
  · cases hj
theorem VZ.drop {w : World} {lo hi n c k g off : Nat} {vs : List Value} (h : VZ w lo hi (.slice (some ⟨g, off, none⟩) n c) vs) (hk : k < vs.length) : VZ w lo hi (.slice (some ⟨g, off + k, none⟩) (n - k) (c - k)) (vs.drop k) := by
  obtain ⟨A', c', h1, h2, h3, h4⟩ := h
  cases h1
  refine ⟨_, _, by rw [List.length_drop], by rw [List.length_drop]; omega, by omega, fun h0 => ?_⟩
  obtain ⟨g', off', cur, h5, h6, h7, h8⟩ := h4 (by omega)
  cases h5
  refine ⟨g, off + k, cur, rfl, h6, h7, fun j u hj => ?_⟩
  rw [List.getElem?_drop] at hj
  rw [Nat.add_assoc]
  exact h8 _ u hj
theorem preadsZ {w : World} {lo hi : Nat} {v : Value} {vs : List Value} {ls : List (List Sp)} (h : VZ w lo hi v vs) (hl : vs.length = ls.length) (ho : ∀ (k : Nat) p, ls[k]? = some p → ∃ u, vs[k]? = some u ∧ OZ w lo hi u p) : PReads w hi v ls := by
  obtain ⟨A, c, rfl, h3, h4, h5⟩ := h.shape
  refine ⟨A, c, vs, by rw [hl], by omega, h4, hl, fun h0 => ?_, fun k p hk => ?_⟩
  · obtain ⟨g, off, rfl, h6, _, h7⟩ := h5 (by omega)
    exact ⟨g, off, rfl, h6.2, h7⟩
  · obtain ⟨u, h6, h7⟩ := ho k p hk
    exact ⟨u, h6, h7.reads⟩

/-- a desk that reads so -/
def DeskR (w : World) (B : Nat) (v : Value) (d : Dk) : Prop := ∃ n p, v = .agg #[n, p] ∧ Reads w B n d.1 ∧ PReads w B p d.2
theorem DeskR.below {w w' : World} {B : Nat} {v : Value} {d : Dk} (h : DeskR w B v d) (hb : Below B w w') : DeskR w' B v d := by
  obtain ⟨n, p, e, h1, h2⟩ := h
  exact ⟨n, p, e, h1.below hb, h2.below hb⟩
theorem DeskR.more {w : World} {B B' : Nat} {v : Value} {d : Dk} (h : DeskR w B v d) (hB : B ≤ B') : DeskR w B' v d := by
  obtain ⟨n, p, e, h1, h2⟩ := h
  exact ⟨n, p, e, h1.more hB, h2.more hB⟩
theorem DeskR.kept {w w' : World} {v : Value} {d : Dk} (h : DeskR w w.heap.size v d) (hb : Below w.heap.size w w') : DeskR w' w'.heap.size v d := (h.below hb).more hb.size
/-- what is below B stays, whatever the world that was made of it -/
theorem DeskR.keep {w w' : World} {B : Nat} {v : Value} {d : Dk} (h : DeskR w B v d) (hb : Below B w w') (hs : B ≤ w.heap.size) : DeskR w' w'.heap.size v d := (h.below hb).more (Nat.le_trans hs hb.size)
theorem DeskR.zero (w : World) (B : Nat) : DeskR w B (.agg #[.slice none 0 0, .slice none 0 0]) ([], []) :=
  ⟨_, _, rfl, Reads.nil _ _, ⟨none, 0, [], rfl, Nat.le_refl _, by simp [maxLen], rfl, fun h => absurd h (by simp), fun k p h => by cases h⟩⟩
/-- a desk that the call itself made, in blocks from lo on and ahead of hi -/
def DeskO (w : World) (lo hi : Nat) (v : Value) (d : Dk) : Prop := ∃ n p vs, v = .agg #[n, p] ∧ VZ w lo hi p vs ∧ InZ w lo hi (n :: vs) (d.1 :: d.2) ∧ hi ≤ w.heap.size
theorem DeskO.keptBy {w w' : World} {lo hi : Nat} {v : Value} {d : Dk} (h : DeskO w lo hi v d) (hs : w.heap.size ≤ w'.heap.size) (hk : ∀ g, lo ≤ g → g < hi → g < w.heap.size → w'.heap[g]? = w.heap[g]?) : DeskO w' lo hi v d := by
  obtain ⟨n, p, vs, e, h1, h2, h3⟩ := h
  exact ⟨n, p, vs, e, h1.keptBy hk, h2.keptBy hk, Nat.le_trans h3 hs⟩
theorem DeskO.below {w w' : World} {lo hi : Nat} {v : Value} {d : Dk} (h : DeskO w lo hi v d) (hb : Below w.heap.size w w') : DeskO w' lo hi v d := h.keptBy hb.size fun g _ _ hg => hb.block g hg
theorem DeskO.apart {w w' : World} {lo hi a b : Nat} {v : Value} {d : Dk} (h : DeskO w lo hi v d) (hg : GrownIn a b w w') (hab : hi ≤ a ∨ b ≤ lo) : DeskO w' lo hi v d := h.keptBy hg.size fun g h1 h2 h3 => hg.block g h3 (by omega)
theorem DeskO.wider {w : World} {lo lo' hi hi' : Nat} {v : Value} {d : Dk} (h : DeskO w lo hi v d) (hl : lo' ≤ lo) (hh : hi ≤ hi') (hs : hi' ≤ w.heap.size) : DeskO w lo' hi' v d := by
  obtain ⟨n, p, vs, e, h1, h2, h3⟩ := h
  exact ⟨n, p, vs, e, h1.wider hl hh, h2.wider hl hh, hs⟩
theorem DeskO.fits {w : World} {lo hi : Nat} {v : Value} {d : Dk} (h : DeskO w lo hi v d) : hi ≤ w.heap.size := by
  obtain ⟨_, _, _, _, _, _, h⟩ := h; exact h
theorem DeskO.reads {w : World} {lo hi : Nat} {v : Value} {d : Dk} (h : DeskO w lo hi v d) : DeskR w hi v d := by
  obtain ⟨n, p, vs, e, h1, h2, h3⟩ := h
  obtain ⟨u, k1, k2⟩ := h2.own 0 d.1 rfl
  cases k1
  refine ⟨n, p, e, k2.reads, preadsZ h1 (by have := h2.len; simpa using this) fun k q hq => ?_⟩
  obtain ⟨u, k3, k4⟩ := h2.own (k + 1) q (by rw [List.getElem?_cons_succ]; exact hq)
  rw [List.getElem?_cons_succ] at k3
  exact ⟨u, k3, k4⟩
theorem DeskO.rd {w : World} {lo hi : Nat} {v : Value} {d : Dk} (h : DeskO w lo hi v d) : DeskR w w.heap.size v d := h.reads.more h.fits
theorem DeskO.zero (w : World) (lo hi : Nat) (hl : lo ≤ hi) (hh : hi ≤ w.heap.size) : DeskO w lo hi (.agg #[.slice none 0 0, .slice none 0 0]) ([], []) :=
  ⟨_, _, [], rfl, VZ.nil _ _ _ _ _ (by simp [maxLen]), (InZ.nil w lo lo).cons (OZ.empty w lo hi none) (Nat.le_refl _) hl, hh⟩
/-- how many spots all its pictures have -/
def dsum (d : Dk) : Nat := d.1.length + (d.2.map List.length).sum
def marksD (d : Dk) (k : Int) : Dk := (marks d.1.length k, marksSS d.2 (k + 2 * (d.1.length : Int)))
def GivesDesk (d : Dk) (w : World) (e : Ending) (w' : World) : Prop := ∃ v', e = .returned v' ∧ DeskO w' w.heap.size w'.heap.size v' d ∧ Below w.heap.size w w'
/-- a desk that may share memory with what came in -/
def GivesRead (d : Dk) (w : World) (e : Ending) (w' : World) : Prop := ∃ v', e = .returned v' ∧ DeskR w' w'.heap.size v' d ∧ Below w.heap.size w w'
theorem Reads.keptIn {w w' : World} {v : Value} {ps : List Sp} (h : Reads w w.heap.size v ps) (hb : Below w.heap.size w w') : Reads w' w'.heap.size v ps := h.kept hb
/-- a block of another type is none of a list's -/
theorem Owns.apart2 {w : World} {base G : Nat} {v : Value} {ps : List Sp} {cs : Array Value} {T : TypeId} {m : Nat × Nat} (h : Owns w base v ps) (hG : w.heap[G]? = some (.cells cs T m)) (hT : T ≠ 30) : v.ownBlock = none ∨ v.ownBlock ≠ some G := by
  rcases h.2 with ⟨rfl, _⟩ | ⟨g, cap, cur, rfl, _, hg, _⟩
  · exact .inl rfl
  · refine .inr fun e => ?_
    cases e
    rw [hg] at hG
    injection hG with hG
    injection hG with h1 h2 h3
    exact hT h2.symm
theorem Owns.setFar2 {w : World} {base : Nat} {v : Value} {ps : List Sp} (h : Owns w base v ps) {a : Addr} (ha : v.ownBlock = none ∨ v.ownBlock ≠ some a.block) (x : Value) : Owns (w.setCell a x) base v ps := by
  refine ⟨h.1, ?_⟩
  rcases h.2 with h0 | ⟨g, cap, cur, rfl, h1, hg, h2⟩
  · exact .inl h0
  · refine .inr ⟨g, cap, cur, rfl, h1, (heap_setCell_other _ _ _ _ (fun e => ?_)).trans hg, h2⟩
    rcases ha with ha | ha
    · cases ha
    · exact ha (by rw [← e]; rfl)
theorem Owns.other2 {w : World} {base k : Nat} {v : Value} {ps : List Sp} (h : Owns w base v ps) (hk : k < base) : v.ownBlock = none ∨ v.ownBlock ≠ some k := by
  cases hv : v.ownBlock with
  | none => exact .inl rfl
  | some j => exact .inr (fun e => by have := (h.lt j hv).1; cases e; omega)

end Go.Proofs.Ytgdifenicjgfjaa
