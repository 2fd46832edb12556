/- The laws' own helpers for patterns: szPattern, toPattern, eqPattern, markPattern; a pattern that came in. No conditions but those typed. -/
import Derived.Test.YtfofmfkdkihhbacMark
import Derived.Test.YtfofmfkdkihhbacBox
import Derived.Test.YtfofmfkdkihhbacHas
import Derived.Test.YtfofmfkdkihhbacOpen
import Derived.ProofKit
import Derived.Deep.SlicePairs
import Derived.Lib.SmallJoins
namespace Go.Proofs.Ytfofmfkdkihhbac
open Go.RowKit Go.Sort

/-- a block of another type is none of a list's -/
theorem Owns.apart2 {w : World} {base G : Nat} {v : Value} {ps : List Sp} {cs : Array Value} {T : TypeId} {m : Nat × Nat} (h : Owns w base v ps) (hG : w.heap[G]? = some (.cells cs T m)) (hT : T ≠ 35) : v.ownBlock = none ∨ v.ownBlock ≠ some G := by
  rcases h.2 with ⟨rfl, _⟩ | ⟨g, cap, cur, rfl, _, hg, _⟩
  · exact .inl rfl
  · refine .inr fun e => ?_
    cases e
    rw [hg] at hG
    injection hG with hG
    injection hG with h1 h2 h3
    exact hT h2.symm
theorem Owns.setFar2 {w : World} {base : Nat} {v : Value} {ps : List Sp} (h : Owns w base v ps) {a : Addr} (ha : v.ownBlock = none ∨ v.ownBlock ≠ some a.block) (x : Value) : Owns (w.setCell a x) base v ps := by
  refine ⟨h.1, ?_⟩
  rcases h.2 with h0 | ⟨g, cap, cur, rfl, h1, hg, h2⟩
  · exact .inl h0
  · refine .inr ⟨g, cap, cur, rfl, h1, (heap_setCell_other _ _ _ _ (fun e => ?_)).trans hg, h2⟩
    rcases ha with ha | ha
    · cases ha
    · exact ha (by rw [← e]; rfl)
theorem Owns.other2 {w : World} {base k : Nat} {v : Value} {ps : List Sp} (h : Owns w base v ps) (hk : k < base) : v.ownBlock = none ∨ v.ownBlock ≠ some k := by
  cases hv : v.ownBlock with
  | none => exact .inl rfl
  | some j => exact .inr (fun e => by have := (h.lt j hv).1; cases e; omega)

theorem szPattern_no (n c m d : Nat) (A B : Option Addr) (left : Int) (w : World) (h1 : 0 ≤ left) (h2 : left ≤ 1048576) (hl : (n : Int) + (m : Int) ≤ left) (hc : c ≤ 9223372036854775807) (hd : d ≤ 9223372036854775807) (hn : n ≤ c) (hm : m ≤ d) :
    Calls Try.prog 20 #[.agg #[.slice A n c, .slice B m d], .int .i64 left] w (Gives (.int .i64 (left - n - m)) w) := by
  have b0 := box_below w #[.slice A n c, .slice B m d] 39
  obtain ⟨W, hW⟩ : ∃ W, W = w.alloc (.cells #[.slice A n c, .slice B m d] 39) := ⟨_, rfl⟩
  have q0 : W.cell? ⟨w.heap.size, 0, none⟩ = some (.slice A n c) := by rw [hW]; simp [go_sem]
  have q1 : W.cell? ⟨w.heap.size, 1, none⟩ = some (.slice B m d) := by rw [hW]; simp [go_sem]
  have s0 : w.heap.size < W.heap.size := by rw [hW]; simp
  rw [← hW] at b0
  go_enter Try.func20, Try.ntmps20
  go_wp2_with (first | (rw [← hW]; clear hW) | fail)
  refine (szSpotS_no n c A left _ (by omega) (by omega) (by omega) (by omega)).mono ?_
  rintro e w1 ⟨rfl, b1⟩
  have q1 := (b1.cell (p := ⟨w.heap.size, 1, none⟩) s0).trans q1
  go_wp2_with fail
  refine (szSpotS_no m d B (left - n) _ (by omega) (by omega) (by omega) (by omega)).mono ?_
  rintro e w2 ⟨rfl, b2⟩
  go_wp2
  go_ret
  exact ⟨rfl, below_step (below_step b0 b1) b2⟩
theorem szPattern_yes (n c m d : Nat) (A B : Option Addr) (left : Int) (w : World) (h1 : 0 ≤ left) (h2 : left ≤ 1048576) (hl : left < (n : Int) + (m : Int)) (hc : c ≤ 9223372036854775807) (hd : d ≤ 9223372036854775807) (hn : n ≤ c) (hm : m ≤ d) :
    Calls Try.prog 20 #[.agg #[.slice A n c, .slice B m d], .int .i64 left] w (Gives (.int .i64 (-1)) w) := by
  by_cases hx : left < n
  · have b0 := box_below w #[.slice A n c, .slice B m d] 39
    obtain ⟨W, hW⟩ : ∃ W, W = w.alloc (.cells #[.slice A n c, .slice B m d] 39) := ⟨_, rfl⟩
    have q0 : W.cell? ⟨w.heap.size, 0, none⟩ = some (.slice A n c) := by rw [hW]; simp [go_sem]
    have q1 : W.cell? ⟨w.heap.size, 1, none⟩ = some (.slice B m d) := by rw [hW]; simp [go_sem]
    have s0 : w.heap.size < W.heap.size := by rw [hW]; simp
    rw [← hW] at b0
    go_enter Try.func20, Try.ntmps20
    go_wp2_with (first | (rw [← hW]; clear hW) | fail)
    refine (szSpotS_yes n c A left _ (by omega) (by omega) (by omega) (by omega)).mono ?_
    rintro e w1 ⟨rfl, b1⟩
    go_wp2
    go_ret
    exact ⟨rfl, below_step b0 b1⟩
  · have b0 := box_below w #[.slice A n c, .slice B m d] 39
    obtain ⟨W, hW⟩ : ∃ W, W = w.alloc (.cells #[.slice A n c, .slice B m d] 39) := ⟨_, rfl⟩
    have q0 : W.cell? ⟨w.heap.size, 0, none⟩ = some (.slice A n c) := by rw [hW]; simp [go_sem]
    have q1 : W.cell? ⟨w.heap.size, 1, none⟩ = some (.slice B m d) := by rw [hW]; simp [go_sem]
    have s0 : w.heap.size < W.heap.size := by rw [hW]; simp
    rw [← hW] at b0
    go_enter Try.func20, Try.ntmps20
    go_wp2_with (first | (rw [← hW]; clear hW) | fail)
    refine (szSpotS_no n c A left _ (by omega) (by omega) (by omega) (by omega)).mono ?_
    rintro e w1 ⟨rfl, b1⟩
    have q1 := (b1.cell (p := ⟨w.heap.size, 1, none⟩) s0).trans q1
    go_wp2_with fail
    refine (szSpotS_yes m d B (left - n) _ (by omega) (by omega) (by omega) (by omega)).mono ?_
    rintro e w2 ⟨rfl, b2⟩
    go_wp2
    go_ret
    exact ⟨rfl, below_step (below_step b0 b1) b2⟩

/-- two new lists are handed back as a pattern -/
def GivesPat (t u : List Sp) (w : World) (e : Ending) (w' : World) : Prop := ∃ vt vu, e = .returned (.agg #[vt, vu]) ∧ Owns w' w.heap.size vt t ∧ Owns w' w.heap.size vu u ∧ (vu.ownBlock = none ∨ vu.ownBlock ≠ vt.ownBlock) ∧ Below w.heap.size w w'
set_option maxHeartbeats 800000 in
theorem toPattern_any (t u : List Sp) (vt vu : Value) (w : World) (ht : Reads w w.heap.size vt t) (hu : Reads w w.heap.size vu u) (hlt : t.length ≤ 1048576) (hlu : u.length ≤ 1048576) :
    Calls Try.prog 22 #[.agg #[vt, vu]] w (GivesPat t u w) := by
  obtain ⟨At, ct, rfl, _, _⟩ := ht.slice
  obtain ⟨Au, cu, rfl, _, _⟩ := hu.slice
  obtain ⟨W, hW⟩ : ∃ W, W = ((w.alloc (.cells #[.slice At t.length ct, .slice Au u.length cu] 39)).alloc (.cells #[.slice none 0 0, .slice none 0 0] 25)).alloc (.cells #[.slice none 0 0, .slice none 0 0] 25) := ⟨_, rfl⟩
  have b0 : Below w.heap.size w W := by rw [hW]; exact ((box_below w _ _).alloc (by simp) _).alloc (by simp; omega) _
  have q0 : W.cell? ⟨w.heap.size, 0, none⟩ = some (.slice At t.length ct) := by rw [hW]; simp [go_sem, World.cell?_alloc_past]
  have q1 : W.cell? ⟨w.heap.size, 1, none⟩ = some (.slice Au u.length cu) := by rw [hW]; simp [go_sem, World.cell?_alloc_past]
  have s0 : W.heap.size = w.heap.size + 3 := by rw [hW]; simp
  have r1 : W.heap[w.heap.size + 1]? = some (.cells #[.slice none 0 0, .slice none 0 0] 25 (0, 0)) := by
    rw [hW]
    have h1 := heap_alloc_new (w.alloc (.cells #[.slice At t.length ct, .slice Au u.length cu] 39)) (.cells #[.slice none 0 0, .slice none 0 0] 25)
    rw [World.size_alloc] at h1
    exact (((Below.refl (w.heap.size + 2) _).alloc (by simp) _).block (w.heap.size + 1) (by omega)).trans h1
  have r2 : W.heap[w.heap.size + 2]? = some (.cells #[.slice none 0 0, .slice none 0 0] 25 (0, 0)) := by
    rw [hW]
    have h1 := heap_alloc_new ((w.alloc (.cells #[.slice At t.length ct, .slice Au u.length cu] 39)).alloc (.cells #[.slice none 0 0, .slice none 0 0] 25)) (.cells #[.slice none 0 0, .slice none 0 0] 25)
    rw [World.size_alloc, World.size_alloc] at h1
    exact h1
  have rt := ht.kept b0
  go_enter Try.func22, Try.ntmps22
  go_wp2_with (first | (rw [← hW]; clear hW) | fail)
  refine (toSpotS_any t _ W rt hlt).mono ?_
  rintro e w1 ⟨v1, rfl, o1, b1⟩
  have q1 := (b1.cell (p := ⟨w.heap.size, 1, none⟩) (by simp only []; omega)).trans q1
  have r1 := (b1.block (w.heap.size + 1) (by omega)).trans r1
  have r2 := (b1.block (w.heap.size + 2) (by omega)).trans r2
  have hz1 := b1.size
  obtain ⟨A1, c1, rfl, _, _⟩ := o1.reads.slice
  obtain ⟨c20, c21⟩ := cells_of_row r2
  have f20 := frozen_of_row w1 _ 0 _ _ r2
  have z1 : w.heap.size + 1 + 1 < w1.heap.size := by omega
  have n1 : w.heap.size ≠ w.heap.size + 1 + 1 := by omega
  obtain ⟨W2, hW2⟩ : ∃ W2, W2 = w1.setCell ⟨w.heap.size + 1 + 1, 0, none⟩ (.slice A1 t.length c1) := ⟨_, rfl⟩
  have bb := below_step b0 b1
  have bb2 : Below w.heap.size w W2 := by rw [hW2]; exact bb.setCell (p := ⟨w.heap.size + 1 + 1, 0, none⟩) (by simp only []; omega) _
  have o1 : Owns W2 W.heap.size (.slice A1 t.length c1) t := by rw [hW2]; exact o1.setFar2 (o1.other2 (by simp only []; omega)) _
  have r1 : W2.heap[w.heap.size + 1]? = some (.cells #[.slice none 0 0, .slice none 0 0] 25 (0, 0)) := by rw [hW2]; exact (heap_setCell_other _ _ _ _ (by simp only []; omega)).trans r1
  have r2 : W2.heap[w.heap.size + 2]? = some (.cells #[.slice A1 t.length c1, .slice none 0 0] 25 (0, 0)) := by rw [hW2]; exact (heap_setCell_same w1 _ 0 _ _ _ r2).trans rfl
  have z2 : W2.heap.size = w1.heap.size := by rw [hW2]; simp [World.setCell]
  have ru := hu.kept bb2
  have o1b := o1
  go_wp2_with fail
  rw [← hW2]
  clear hW2
  refine (toSpotS_any u _ W2 ru hlu).mono ?_
  rintro e w3 ⟨v3, rfl, o3, b3⟩
  have hz3 := b3.size
  have o1 := o1.below b3
  have r1 := (b3.block (w.heap.size + 1) (by omega)).trans r1
  have r2 := (b3.block (w.heap.size + 2) (by omega)).trans r2
  obtain ⟨A3, c3, rfl, _, _⟩ := o3.reads.slice
  obtain ⟨d20, d21⟩ := cells_of_row r2
  obtain ⟨d10, d11⟩ := cells_of_row r1
  have f20 := frozen_of_row w3 _ 0 _ _ r2
  have f21 := frozen_of_row w3 _ 1 _ _ r2
  have f10 := frozen_of_row w3 _ 0 _ _ r1
  have f11 := frozen_of_row w3 _ 1 _ _ r1
  have z3 : w.heap.size + 1 + 1 < w3.heap.size := by omega
  have z4 : w.heap.size + 1 < w3.heap.size := by omega
  have bb3 := bb2.trans (b3.mono (by have := bb2.size; omega))
  have hne : (Value.slice A3 u.length c3).ownBlock = none ∨ (Value.slice A3 u.length c3).ownBlock ≠ (Value.slice A1 t.length c1).ownBlock := Owns.ne' o3 o1b (Nat.le_refl _)
  clear c20 c21 q0 q1 rt ru
  have p1 := (o1.setFar2 (a := ⟨w.heap.size + 2, 1, none⟩) (o1.other2 (by simp only []; omega)) (.slice A3 u.length c3))
  have p3 := (o3.setFar2 (a := ⟨w.heap.size + 2, 1, none⟩) (o3.other2 (by simp only []; omega)) (.slice A3 u.length c3))
  have p1 := ((p1.setFar2 (a := ⟨w.heap.size + 1, 0, none⟩) (p1.other2 (by simp only []; omega)) (.slice A1 t.length c1)).setFar2 (a := ⟨w.heap.size + 1, 1, none⟩) (p1.other2 (by simp only []; omega)) (.slice A3 u.length c3)).base (base' := w.heap.size) (by omega)
  have p3 := ((p3.setFar2 (a := ⟨w.heap.size + 1, 0, none⟩) (p3.other2 (by simp only []; omega)) (.slice A1 t.length c1)).setFar2 (a := ⟨w.heap.size + 1, 1, none⟩) (p3.other2 (by simp only []; omega)) (.slice A3 u.length c3)).base (base' := w.heap.size) (by omega)
  have bb4 := ((bb3.setCell (p := ⟨w.heap.size + 2, 1, none⟩) (by simp only []; omega) (.slice A3 u.length c3)).setCell (p := ⟨w.heap.size + 1, 0, none⟩) (by simp only []; omega) (.slice A1 t.length c1)).setCell (p := ⟨w.heap.size + 1, 1, none⟩) (by simp only []; omega) (.slice A3 u.length c3)
  go_wp2
  refine bodyPost_ret (v := .agg #[.slice A1 t.length c1, .slice A3 u.length c3]) (by simp [results, Try.results22, go_sem, *]) rfl ⟨_, _, rfl, p1, p3, hne, bb4⟩

theorem eqPattern_same (t u : List Sp) (vt vu va vb : Value) (w : World) (ht : Reads w w.heap.size vt t) (hu : Reads w w.heap.size vu u) (ha : Reads w w.heap.size va t) (hb : Reads w w.heap.size vb u) :
    Calls Try.prog 24 #[.agg #[vt, vu], .agg #[va, vb]] w (Gives (.bool true) w) := by
  obtain ⟨At, ct, rfl, _, _⟩ := ht.slice
  obtain ⟨Au, cu, rfl, _, _⟩ := hu.slice
  obtain ⟨Aa, ca, rfl, _, _⟩ := ha.slice
  obtain ⟨Ab, cb, rfl, _, _⟩ := hb.slice
  obtain ⟨W, hW⟩ : ∃ W, W = (w.alloc (.cells #[.slice At t.length ct, .slice Au u.length cu] 25)).alloc (.cells #[.slice Aa t.length ca, .slice Ab u.length cb] 25) := ⟨_, rfl⟩
  have b0 : Below w.heap.size w W := by rw [hW]; exact (box_below w _ _).alloc (by simp) _
  have q0 : W.cell? ⟨w.heap.size, 0, none⟩ = some (.slice At t.length ct) := by rw [hW]; simp [go_sem, World.cell?_alloc_past]
  have q1 : W.cell? ⟨w.heap.size, 1, none⟩ = some (.slice Au u.length cu) := by rw [hW]; simp [go_sem, World.cell?_alloc_past]
  have q2 : W.cell? ⟨w.heap.size + 1, 0, none⟩ = some (.slice Aa t.length ca) := by rw [hW]; simp [go_sem]
  have q3 : W.cell? ⟨w.heap.size + 1, 1, none⟩ = some (.slice Ab u.length cb) := by rw [hW]; simp [go_sem]
  have s0 : w.heap.size + 2 = W.heap.size := by rw [hW]; simp
  have r0 := ht.kept b0
  have r1 := hu.kept b0
  have r2 := ha.kept b0
  have r3 := hb.kept b0
  go_enter Try.func24, Try.ntmps24
  go_wp2_with (first | (rw [← hW]; clear hW) | fail)
  refine (gives_is (show decide (t = t) = true by simp) (eqSpotS_any _ _ _ _ _ r0 r2)).mono ?_
  rintro e w1 ⟨rfl, b1⟩
  have q1 := (b1.cell (p := ⟨w.heap.size, 1, none⟩) (by simp only []; omega)).trans q1
  have q3 := (b1.cell (p := ⟨w.heap.size + 1, 1, none⟩) (by simp only []; omega)).trans q3
  go_wp2_with fail
  refine (gives_is (show decide (u = u) = true by simp) (eqSpotS_any _ _ _ _ _ (r1.kept b1) (r3.kept b1))).mono ?_
  rintro e w2 ⟨rfl, b2⟩
  go_wp2
  go_ret
  exact ⟨rfl, below_step (below_step b0 b1) b2⟩

/-- marks in both lists of a pattern: what has changed -/
def Marked2 (k : Int) (n : Nat) (vt vu : Value) (w : World) (e : Ending) (w' : World) : Prop := e = .returned (.int .i64 (k + 2 * (n : Int))) ∧ ∃ w0 w1, Below w.heap.size w w0 ∧ w0.grownBy w1 vt.ownBlock ∧ w1.grownBy w' vu.ownBlock
theorem markPattern_any (t u : List Sp) (vt vu : Value) (bt bu : Nat) (k : Int) (w : World) (ht : Owns w bt vt t) (hu : Owns w bu vu u) (hne : vu.ownBlock = none ∨ vu.ownBlock ≠ vt.ownBlock) (hlt : t.length ≤ 1048576) (hlu : u.length ≤ 1048576) (h0 : 0 ≤ k) (h1 : k ≤ 4000000) :
    Calls Try.prog 26 #[.agg #[vt, vu], .int .i64 k] w (Marked2 k (t.length + u.length) vt vu w) := by
  obtain ⟨At, ct, rfl, _, _⟩ := ht.reads.slice
  obtain ⟨Au, cu, rfl, _, _⟩ := hu.reads.slice
  obtain ⟨W, hW⟩ : ∃ W, W = w.alloc (.cells #[.slice At t.length ct, .slice Au u.length cu] 25) := ⟨_, rfl⟩
  have b0 : Below w.heap.size w W := by rw [hW]; exact box_below w _ _
  have q0 : W.cell? ⟨w.heap.size, 0, none⟩ = some (.slice At t.length ct) := by rw [hW]; simp [go_sem]
  have q1 : W.heap[w.heap.size]? = some (.cells #[.slice At t.length ct, .slice Au u.length cu] 25 (0, 0)) := by rw [hW]; exact heap_alloc_new w _
  have ot := ht.below b0
  have ou := hu.below b0
  have hap := ot.apart2 q1 (by decide)
  have hs : w.heap.size < W.heap.size := by rw [hW]; simp
  go_enter Try.func26, Try.ntmps26
  go_wp2_with (first | (rw [← hW]; clear hW) | fail)
  refine (mark_any t _ _ k _ ot (by omega) (by omega) (by omega)).mono ?_
  rintro e w1 ⟨rfl, ot1, g1⟩
  have ou1 := ou.grown g1 hne
  have q1 := (g1.block _ hs (by
    rcases hap with h | h
    · rw [h]; intro e; cases e
    · exact fun e => h e.symm)).trans q1
  obtain ⟨c0, c1⟩ := cells_of_row q1
  clear q0
  go_wp2_with fail
  refine (mark_any u _ _ (k + 2 * (t.length : Int)) _ ou1 (by omega) (by omega) (by omega)).mono ?_
  rintro e w2 ⟨rfl, ou2, g2⟩
  go_wp2
  go_ret
  exact ⟨ret_int (by omega), W, w1, b0, g1, g2⟩

open Go.ChangeShapes Go.WideShapes Go.ChangeAt Go.Deep
section
variable {H : Type} {enc : TypeId × Value → H}
set_option maxRecDepth 100000 in
/-- a field that is a slice of the laws' own spots -/
theorem open_lspots_cs {W : World} {fuel : Nat} {v : Value} {y : DataW H × List MemPlace} (hf : DataW.trod enc Try.prog W 0 (fun _ => true) true fuel 37 [v] = some y) (hlt : ∀ x ∈ y.2, x.block < W.heap.size) : ∃ ps, Reads W W.heap.size v ps := by
  rcases open_slice_pairs Try.underlying37 Try.underlying71 cellsLSpot rfl rfl cellsInt cellsInt hf with ⟨hcs, _⟩ | ⟨a, len, cap, m, n, V0, V1, D0, D1, P0, P1, hcs, _, hl, hm, hmm, hx, hi⟩
  · injection hcs with hcs _
    subst hcs
    exact ⟨[], none, 0, rfl, by simp, by simp [maxLen], fun _ => rfl, fun h => by omega⟩
  · injection hcs with hcs _
    subst hcs
    simp only [if_true] at hmm
    subst hmm
    rw [hx] at hlt
    have each : ∀ i, i < m → ∃ xy : Sp, W.cell? (a.add (i * 2)) = some (.int .i64 xy.1) ∧ W.cell? (a.add (i * 2 + 1)) = some (.int .i64 xy.2) := by
      intro i him
      obtain ⟨c0, c1, t0, t1⟩ := hi i him
      obtain ⟨x, e0, _, _⟩ := DataW.trod_int Try.underlying3 t0
      obtain ⟨y, e1, _, _⟩ := DataW.trod_int Try.underlying3 t1
      simp at e0 e1
      rw [e0] at c0; rw [e1] at c1
      exact ⟨(x, y), c0, c1⟩
    obtain ⟨f, hf'⟩ := choose_lt each
    refine ⟨(List.range len).map f, some a, m, by simp, by simpa using hl, hm, fun h => (by cases h), fun hm0 => ?_⟩
    obtain ⟨b, off, spot⟩ := a
    have hspot : spot = none := by simpa [Addr.add] using World.cell?_spot (hf' 0 hm0).1
    subst hspot
    refine ⟨b, off, rfl, hlt (.cell b off) (List.mem_append_left _ (MemPlace.mem_row.2 ⟨0, by omega, by simp⟩)), fun k x y hk => ?_⟩
    have hk' : k < len := by have := (List.getElem?_eq_some_iff.1 hk).1; simpa using this
    have e : f k = (x, y) := by
      rw [List.getElem?_map, List.getElem?_range hk'] at hk
      simpa using hk
    have := hf' k (by omega)
    rw [e, Addr.add_lit, Addr.add_lit, ← Nat.add_assoc] at this
    exact this
theorem cellsLPattern : Try.prog.cellsOf 39 = 2 := by kernel_rfl
set_option maxRecDepth 100000 in
/-- a pattern that came in -/
theorem open_lpattern {W : World} {base : Nat} {v : Value} {d : DataW H} {p : List MemPlace} (hval : Value.okWide Try.prog W .any base 39 v)
    (h : DataW.Trod enc Try.prog W 0 (fun _ => true) true 39 v d p) (hlt : ∀ x ∈ p, x.block < W.heap.size) : ∃ m : Value × Value × List Sp × List Sp, v = .agg #[m.1, m.2.1] ∧ Reads W W.heap.size m.1 m.2.2.1 ∧ Reads W W.heap.size m.2.1 m.2.2.2 := by
  obtain ⟨c0, c1, y0, y1, m, rfl, rfl, rfl, h0, h1⟩ := Joins.open_agg2 Try.underlying39 (by kernel_rfl) cellsLPattern hval h
  obtain ⟨t, ht⟩ := open_lspots_cs h0 (fun x hx => hlt x (List.mem_append_left _ hx))
  obtain ⟨u, hu⟩ := open_lspots_cs h1 (fun x hx => hlt x (List.mem_append_right _ hx))
  exact ⟨(c0, c1, t, u), rfl, ht, hu⟩
end
end Go.Proofs.Ytfofmfkdkihhbac
