/- Lists of pictures in memory: a slice of slices, each with memory of its own. No conditions but those typed. -/
import Derived.Test.YtgdifenicjgfjaaOnes
namespace Go.Proofs.Ytgdifenicjgfjaa
open Go.RowKit Go.Sort

/-- the slices of a list of lists, each in blocks from base on, no two in one block -/
structure Inner (w : World) (base : Nat) (vs : List Value) (ls : List (List Sp)) : Prop where
  len : vs.length = ls.length
  own : ∀ (k : Nat) p, ls[k]? = some p → ∃ u, vs[k]? = some u ∧ Owns w base u p
  ne : ∀ (i j : Nat) u u', i < j → vs[i]? = some u → vs[j]? = some u' → u.ownBlock = none ∨ u.ownBlock ≠ u'.ownBlock
/-- a slice of slices that the call itself made -/
def Parts (w : World) (base : Nat) (v : Value) (ls : List (List Sp)) : Prop := ∃ vs, VOwns 23 w base v vs ∧ Inner w base vs ls
/-- a slice of slices that reads as a list of lists -/
structure PReads (w : World) (B : Nat) (v : Value) (ls : List (List Sp)) : Prop where
  is : ∃ A c, ∃ vs : List Value, v = .slice A ls.length c ∧ ls.length ≤ c ∧ c ≤ maxLen ∧ vs.length = ls.length ∧
    (0 < ls.length → ∃ b off, A = some ⟨b, off, none⟩ ∧ b < B ∧ ∀ (k : Nat) u, vs[k]? = some u → w.cell? ⟨b, off + k, none⟩ = some u) ∧ ∀ (k : Nat) p, ls[k]? = some p → ∃ u, vs[k]? = some u ∧ Reads w B u p
theorem PReads.below {w w' : World} {B : Nat} {v : Value} {ls : List (List Sp)} (h : PReads w B v ls) (hb : Below B w w') : PReads w' B v ls := by
  obtain ⟨A, c, vs, h1, h2, h3, h4, h5, h6⟩ := h.is
  refine ⟨A, c, vs, h1, h2, h3, h4, fun hl => ?_, fun k p hk => ?_⟩
  · obtain ⟨b, off, h7, h8, h9⟩ := h5 hl
    exact ⟨b, off, h7, h8, fun k u hk => (hb.cell (p := ⟨b, off + k, none⟩) h8).trans (h9 k u hk)⟩
  · obtain ⟨u, h7, h8⟩ := h6 k p hk
    exact ⟨u, h7, h8.below hb⟩
theorem PReads.more {w : World} {B B' : Nat} {v : Value} {ls : List (List Sp)} (h : PReads w B v ls) (hB : B ≤ B') : PReads w B' v ls := by
  obtain ⟨A, c, vs, h1, h2, h3, h4, h5, h6⟩ := h.is
  refine ⟨A, c, vs, h1, h2, h3, h4, fun hl => ?_, fun k p hk => ?_⟩
  · obtain ⟨b, off, h7, h8, h9⟩ := h5 hl
    exact ⟨b, off, h7, by omega, h9⟩
  · obtain ⟨u, h7, h8⟩ := h6 k p hk
    exact ⟨u, h7, h8.more hB⟩
theorem PReads.kept {w w' : World} {v : Value} {ls : List (List Sp)} (h : PReads w w.heap.size v ls) (hb : Below w.heap.size w w') : PReads w' w'.heap.size v ls := (h.below hb).more hb.size
theorem PReads.slice {w : World} {B : Nat} {v : Value} {ls : List (List Sp)} (h : PReads w B v ls) : ∃ A c, v = .slice A ls.length c ∧ ls.length ≤ c ∧ c ≤ maxLen := by
  obtain ⟨A, c, _, h1, h2, h3, _⟩ := h.is
  exact ⟨A, c, h1, h2, h3⟩
theorem Inner.below {w w' : World} {base : Nat} {vs : List Value} {ls : List (List Sp)} (h : Inner w base vs ls) (hb : Below w.heap.size w w') : Inner w' base vs ls :=
  ⟨h.len, fun k p hk => by obtain ⟨u, h1, h2⟩ := h.own k p hk; exact ⟨u, h1, h2.below hb⟩, h.ne⟩
theorem Inner.lower {w : World} {base base' : Nat} {vs : List Value} {ls : List (List Sp)} (h : Inner w base vs ls) (hb : base' ≤ base) : Inner w base' vs ls :=
  ⟨h.len, fun k p hk => by obtain ⟨u, h1, h2⟩ := h.own k p hk; exact ⟨u, h1, h2.base hb⟩, h.ne⟩
theorem Inner.lt {w : World} {base : Nat} {vs : List Value} {ls : List (List Sp)} (h : Inner w base vs ls) {k : Nat} {u : Value} (hu : vs[k]? = some u) : ∀ g, u.ownBlock = some g → base ≤ g ∧ g < w.heap.size := by
  have hk := (List.getElem?_eq_some_iff.1 hu).1
  obtain ⟨u', h1, h2⟩ := h.own k _ (List.getElem?_eq_getElem (by have := h.len; omega))
  rw [hu] at h1; cases h1
  exact h2.lt
theorem Parts.below {w w' : World} {base : Nat} {v : Value} {ls : List (List Sp)} (h : Parts w base v ls) (hb : Below w.heap.size w w') : Parts w' base v ls := by
  obtain ⟨vs, h1, h2⟩ := h
  exact ⟨vs, h1.below hb, h2.below hb⟩
theorem Parts.lower {w : World} {base base' : Nat} {v : Value} {ls : List (List Sp)} (h : Parts w base v ls) (hb : base' ≤ base) : Parts w base' v ls := by
  obtain ⟨vs, h1, h2⟩ := h
  exact ⟨vs, h1.lower hb, h2.lower hb⟩
theorem Parts.nil (w : World) (base : Nat) : Parts w base (.slice none 0 0) [] := ⟨[], VOwns.nil _ _ _, rfl, fun k p h => (by cases h), fun i j u u' _ h => (by cases h)⟩
theorem Parts.empty (w : World) (base : Nat) (hb : base ≤ w.heap.size) : Parts (w.alloc (.cells #[] 23)) base (.slice (some ⟨w.heap.size, 0, none⟩) 0 0) [] := ⟨[], VOwns.empty _ _ _ hb, rfl, fun k p h => (by cases h), fun i j u u' _ h => (by cases h)⟩
theorem Parts.reads {w : World} {base : Nat} {v : Value} {ls : List (List Sp)} (h : Parts w base v ls) : PReads w w.heap.size v ls := by
  obtain ⟨vs, h1, h2⟩ := h
  obtain ⟨A, c, rfl, h3, h4, h5⟩ := h1.shape
  have hl := h2.len
  refine ⟨A, c, vs, by rw [hl], by omega, h4, hl, fun h0 => ?_, fun k p hk => ?_⟩
  · obtain ⟨g, rfl, h6, h7⟩ := h5 (by omega)
    exact ⟨g, 0, rfl, h7, fun k u hk => by rw [Nat.zero_add]; exact (h1.cell (List.getElem?_eq_some_iff.1 hk).1).trans hk⟩
  · obtain ⟨u, h6, h7⟩ := h2.own k p hk
    exact ⟨u, h6, h7.reads⟩
/-- a slice of slices is in no block of a slice of spots -/
theorem VOwns.apartO {T : TypeId} (hT : T ≠ 30) {w : World} {base base' : Nat} {v u : Value} {l : List Value} {ps : List Sp} (h : VOwns T w base v l) (k : Owns w base' u ps) : u.ownBlock = none ∨ u.ownBlock ≠ v.ownBlock := by
  rcases k.2 with ⟨rfl, _⟩ | ⟨g, cap, cur, rfl, _, hg, _⟩
  · exact .inl rfl
  · right
    rcases h.2 with ⟨rfl, _⟩ | ⟨g', cap', cur', rfl, _, hg', _⟩
    · intro e; cases e
    · intro e
      injection e with e
      subst e
      rw [hg] at hg'
      injection hg' with hg'
      injection hg' with _ e2
      exact hT e2.symm
theorem VOwns.apartV {T : TypeId} (hT : T ≠ 30) {w : World} {base base' : Nat} {v u : Value} {l : List Value} {ps : List Sp} (h : VOwns T w base v l) (k : Owns w base' u ps) : v.ownBlock = none ∨ v.ownBlock ≠ u.ownBlock := by
  rcases h.apartO hT k with e | e
  · rw [e]
    cases hv : v.ownBlock with
    | none => exact .inl rfl
    | some g => exact .inr fun e => by cases e
  · exact .inr fun e' => e e'.symm
theorem parts_apart : 23 ≠ 30 := by decide
/-- a further list behind the others -/
theorem parts_push {w w' : World} {base base' : Nat} {v v' u : Value} {vs : List Value} {ls : List (List Sp)} {p : List Sp} (hv : VOwns 23 w base v vs) (hI : Inner w base vs ls) (o : Owns w base u p) (hnew : ∀ g, u.ownBlock = some g → base' ≤ g) (hold : ∀ (k : Nat) u', vs[k]? = some u' → ∀ g, u'.ownBlock = some g → g < base')
    (hv' : VOwns 23 w' base v' (vs ++ [u])) (hg : w.grownBy w' v.ownBlock) : Parts w' base v' (ls ++ [p]) := by
  refine ⟨vs ++ [u], hv', by rw [List.length_append, List.length_append, hI.len]; rfl, fun k q hk => ?_, fun i j a b hij ha hb => ?_⟩
  · by_cases hl : k < ls.length
    · rw [List.getElem?_append_left hl] at hk
      obtain ⟨a, h1, h2⟩ := hI.own k q hk
      exact ⟨a, by rw [List.getElem?_append_left (by rw [hI.len]; exact hl)]; exact h1, h2.grown hg (hv.apartO parts_apart h2)⟩
    · rw [List.getElem?_append_right (by omega)] at hk
      have e : k - ls.length = 0 := by
        have := (List.getElem?_eq_some_iff.1 hk).1
        simp only [List.length_singleton] at this; omega
      rw [e] at hk
      cases hk
      exact ⟨u, by rw [List.getElem?_append_right (by rw [hI.len]; omega), hI.len, e]; rfl, o.grown hg (hv.apartO parts_apart o)⟩
  · have hj := (List.getElem?_eq_some_iff.1 hb).1
    rw [List.length_append, List.length_singleton] at hj
    rw [List.getElem?_append_left (by omega)] at ha
    by_cases hl : j < vs.length
    · rw [List.getElem?_append_left hl] at hb
      exact hI.ne i j a b hij ha hb
    · have e : j = vs.length := by omega
      subst e
      rw [List.getElem?_append_right (Nat.le_refl _), Nat.sub_self] at hb
      cases hb
      cases hx : a.ownBlock with
      | none => exact .inl rfl
      | some g => exact .inr fun e => by have h1 := hold i a ha g hx; have h2 := hnew g e.symm; omega
def GivesParts (ls : List (List Sp)) (w : World) (e : Ending) (w' : World) : Prop := ∃ v', e = .returned v' ∧ Parts w' w.heap.size v' ls ∧ Below w.heap.size w w'
end Go.Proofs.Ytgdifenicjgfjaa
