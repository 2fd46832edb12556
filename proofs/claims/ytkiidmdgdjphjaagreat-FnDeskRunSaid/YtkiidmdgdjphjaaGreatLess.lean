/- The program's lessSpot and boxOfFits. No conditions but those typed. -/
import Derived.Test.YtkiidmdgdjphjaaGreatBox
import Derived.Test.YtkiidmdgdjphjaaGreatPlain
namespace Go.Proofs.YtkiidmdgdjphjaaGreat
open Go.RowKit Go.Sort

theorem less_any (x y u v : Int) (w : World) (h : -1000 ≤ x ∧ x ≤ 1000 ∧ -1000 ≤ y ∧ y ≤ 1000) (k : -1000 ≤ u ∧ u ≤ 1000 ∧ -1000 ≤ v ∧ v ≤ 1000) :
    Calls Tryz.prog 115 #[.agg #[.int .i64 x, .int .i64 y], .agg #[.int .i64 u, .int .i64 v]] w (Gives (.agg #[.int .i64 (x - u), .int .i64 (y - v)]) w) := by
  obtain ⟨h1, h2, h3, h4⟩ := h
  obtain ⟨k1, k2, k3, k4⟩ := k
  go_enter Tryz.func115, Tryz.ntmps115
  go_wp2
  refine bodyPost_ret (v := .agg #[.int .i64 (x - u), .int .i64 (y - v)]) (by simp [results, Tryz.results115, go_sem]) rfl ⟨rfl, ?_⟩
  exact (((Below.refl _ _).alloc (Nat.le_refl _) _).alloc (by simp) _).alloc (by simp; omega) _
theorem box_is {ps : List Sp} {v : Value} {w : World} {b : Bool} {c : Sp × Sp} (h : Reads w w.heap.size v ps) (hb : boxOk ps = b) (hc : boxR ps = c) : Calls Tryz.prog 114 #[v] w (GivesBox c b w) := by
  subst hb hc; exact implBox_any ps v w h
theorem box_yes {p : List Sp} (h : picB p = true) (h0 : p ≠ []) : boxOk p = true ∧ boxR p = boxL p := by
  have e : boxOk p = true := by unfold boxOk; rw [h, decide_eq_true h0]; rfl
  exact ⟨e, by unfold boxR; rw [e, if_pos rfl]⟩

theorem keep2 {w : World} {g k o : Nat} {a b v : Value} (h : k ≠ g) (hc : w.cell? ⟨k, o, none⟩ = some v) : ((w.setCell ⟨g, 0, none⟩ a).setCell ⟨g, 1, none⟩ b).cell? ⟨k, o, none⟩ = some v := by
  rw [World.cell?_setCell_far _ _ _ _ (fun e => h e.symm), World.cell?_setCell_far _ _ _ _ (fun e => h e.symm), hc]

def GivesTwo (a b : Sp) (w : World) (e : Ending) (w' : World) : Prop := e = .returned (.tuple #[.agg #[.int .i64 a.1, .int .i64 a.2], .agg #[.int .i64 b.1, .int .i64 b.2]]) ∧ Below w.heap.size w w'
set_option maxHeartbeats 400000 in
theorem boxOfFits_any (p q : List Sp) (v u : Value) (w : World) (h : Reads w w.heap.size v p) (k : Reads w w.heap.size u q) (hp : picB p = true) (hq : picB q = true) (p0 : p ≠ []) (q0 : q ≠ []) :
    Calls Tryz.prog 99 #[v, u] w (GivesTwo (fitLo p q) (fitHi p q) w) := by
  obtain ⟨A, c, rfl, hc, hm, hA, hr⟩ := h.is
  obtain ⟨A', c', rfl, hc', hm', hA', hr'⟩ := k.is
  obtain ⟨ep1, ep2⟩ := box_yes hp p0
  obtain ⟨eq1, eq2⟩ := box_yes hq q0
  have bp := boxL_in (n := 30) p0 (fun a ha => (picB_pic hp).2.1 a ha)
  have bq := boxL_in (n := 30) q0 (fun a ha => (picB_pic hq).2.1 a ha)
  unfold fitLo fitHi
  generalize boxL p = bxp at ep2 bp ⊢
  generalize boxL q = bxq at eq2 bq ⊢
  obtain ⟨⟨x0, y0⟩, ⟨x1, y1⟩⟩ := bxp
  obtain ⟨⟨u0, v0⟩, ⟨u1, v1⟩⟩ := bxq
  simp only at bp bq ⊢
  obtain ⟨⟨p1, p2, p3, p4⟩, p5, p6, p7, p8⟩ := bp
  obtain ⟨⟨s1, s2, s3, s4⟩, s5, s6, s7, s8⟩ := bq
  have b0 : Below w.heap.size w ((w.alloc (.cells #[.int .i64 0, .int .i64 0] 53)).alloc (.cells #[.int .i64 0, .int .i64 0] 53)) := (box_below w _ _).alloc (by simp) _
  obtain ⟨W, hW⟩ : ∃ W, W = (w.alloc (.cells #[.int .i64 0, .int .i64 0] 53)).alloc (.cells #[.int .i64 0, .int .i64 0] 53) := ⟨_, rfl⟩
  have hWs : w.heap.size + 2 ≤ W.heap.size := by rw [hW]; simp
  have z0 : W.heap[w.heap.size]? = some (.cells #[.int .i64 0, .int .i64 0] 53 (0, 0)) := by
    rw [hW]; exact (((Below.refl _ _).alloc (Nat.le_refl _) _).block _ (by simp)).trans (heap_alloc_new w _)
  have z1 : W.heap[w.heap.size + 1]? = some (.cells #[.int .i64 0, .int .i64 0] 53 (0, 0)) := by
    rw [hW]
    have := heap_alloc_new (w.alloc (.cells #[.int .i64 0, .int .i64 0] 53)) (.cells #[.int .i64 0, .int .i64 0] 53)
    simpa using this
  rw [← hW] at b0
  have hv := h.kept b0
  have hu := k.kept b0
  have cp := box_is hv ep1 ep2
  clear ep1 ep2
  go_enter Tryz.func99, Tryz.ntmps99
  go_wp2_with (first | (rw [← hW]; clear hW) | fail)
  refine cp.mono ?_
  rintro e w1 ⟨rfl, b1⟩
  have hs1 := b1.size
  have b2 : Below w1.heap.size w1 ((w1.alloc (.cells #[.int .i64 x0, .int .i64 y0] 53)).alloc (.cells #[.int .i64 x1, .int .i64 y1] 53)) := (box_below w1 _ _).alloc (by simp) _
  have bw2 := below_step b1 b2
  have cq := box_is (hu.kept bw2) eq1 eq2
  clear eq1 eq2 cp
  go_wp2_with fail
  refine cq.mono ?_
  rintro e w3 ⟨rfl, b3⟩
  have bw3 := below_step bw2 b3
  have hs3 := b3.size
  have hs2 := b2.size
  rw [World.size_alloc, World.size_alloc] at hs2
  simp only [World.size_alloc] at hs3
  have m0 := (bw3.block w.heap.size (by omega)).trans z0
  have m1 := (bw3.block (w.heap.size + 1) (by omega)).trans z1
  have n0 := (b3.block w1.heap.size (by simp <;> omega)).trans ((box_below _ #[.int .i64 x1, .int .i64 y1] 53).block w1.heap.size (by simp) |>.trans (heap_alloc_new w1 (.cells #[.int .i64 x0, .int .i64 y0] 53)))
  have n1 := (b3.block (w1.heap.size + 1) (by simp <;> omega)).trans (show _ = some (.cells #[.int .i64 x1, .int .i64 y1] 53 (0, 0)) by
    have := heap_alloc_new (w1.alloc (.cells #[.int .i64 x0, .int .i64 y0] 53)) (.cells #[.int .i64 x1, .int .i64 y1] 53)
    rw [World.size_alloc] at this; exact this)
  go_wp2
  obtain ⟨w4, hw4⟩ : ∃ w4, w4 = (w3.alloc (.cells #[.int .i64 u0, .int .i64 v0] 53)).alloc (.cells #[.int .i64 u1, .int .i64 v1] 53) := ⟨_, rfl⟩
  have b4 : Below w3.heap.size w3 w4 := by rw [hw4]; exact (box_below w3 _ _).alloc (by simp) _
  have l0 : w4.heap[w3.heap.size]? = some (.cells #[.int .i64 u0, .int .i64 v0] 53 (0, 0)) := by
    rw [hw4]; exact (box_below _ #[.int .i64 u1, .int .i64 v1] 53).block w3.heap.size (by simp) |>.trans (heap_alloc_new w3 (.cells #[.int .i64 u0, .int .i64 v0] 53))
  have l1 : w4.heap[w3.heap.size + 1]? = some (.cells #[.int .i64 u1, .int .i64 v1] 53 (0, 0)) := by
    rw [hw4]
    have := heap_alloc_new (w3.alloc (.cells #[.int .i64 u0, .int .i64 v0] 53)) (.cells #[.int .i64 u1, .int .i64 v1] 53)
    rw [World.size_alloc] at this; exact this
  have hs4 : w3.heap.size + 2 ≤ w4.heap.size := by rw [hw4]; simp
  have m0 := (b4.block w.heap.size (by omega)).trans m0
  have m1 := (b4.block (w.heap.size + 1) (by omega)).trans m1
  have n0 := (b4.block w1.heap.size (by omega)).trans n0
  have n1 := (b4.block (w1.heap.size + 1) (by omega)).trans n1
  have bw4 := below_step bw3 b4
  rw [← hw4]
  clear hw4 b1 b2 b3 b4 bw2 bw3 z0 z1 cq hv hu h k
  obtain ⟨G0, hG0⟩ : ∃ G0, G0 = w.heap.size := ⟨_, rfl⟩
  obtain ⟨G1, hG1⟩ : ∃ G1, G1 = w.heap.size + 1 := ⟨_, rfl⟩
  obtain ⟨G2, hG2⟩ : ∃ G2, G2 = w1.heap.size := ⟨_, rfl⟩
  obtain ⟨G3, hG3⟩ : ∃ G3, G3 = w1.heap.size + 1 := ⟨_, rfl⟩
  obtain ⟨G4, hG4⟩ : ∃ G4, G4 = w3.heap.size := ⟨_, rfl⟩
  obtain ⟨G5, hG5⟩ : ∃ G5, G5 = w3.heap.size + 1 := ⟨_, rfl⟩
  rw [← hG1] at m1 ⊢
  rw [← hG3] at n1 ⊢
  rw [← hG5] at l1 ⊢
  rw [← hG0] at m0
  rw [← hG2] at n0 ⊢
  rw [← hG4] at l0 ⊢
  rw [← hG0]
  have q01 : G0 < G1 := by omega
  have q12 : G1 < G2 := by omega
  have q23 : G2 < G3 := by omega
  have q34 : G3 < G4 := by omega
  have q45 : G4 < G5 := by omega
  have q54 : G5 < w4.heap.size := by omega
  have bb := (below_step b0 bw4).drew
  have HG := Lib.hid hG0
  clear hG0 hG1 hG2 hG3 hG4 hG5 hs1 hs2 hs3 hs4 hWs bw4 hr hr' hA hA' hc hc' hm hm' p0 q0 hp hq
  have a0 := cell_of_row w4 _ 0 _ _ _ m0
  have a1 := cell_of_row w4 _ 1 _ _ _ m0
  simp only [List.getElem?_toArray, List.getElem?_cons_zero, List.getElem?_cons_succ] at a0 a1
  have a2 := cell_of_row w4 _ 0 _ _ _ m1
  have a3 := cell_of_row w4 _ 1 _ _ _ m1
  simp only [List.getElem?_toArray, List.getElem?_cons_zero, List.getElem?_cons_succ] at a2 a3
  have c0 := cell_of_row w4 _ 0 _ _ _ n0
  have c1 := cell_of_row w4 _ 1 _ _ _ n0
  simp only [List.getElem?_toArray, List.getElem?_cons_zero, List.getElem?_cons_succ] at c0 c1
  have c2 := cell_of_row w4 _ 0 _ _ _ n1
  have c3 := cell_of_row w4 _ 1 _ _ _ n1
  simp only [List.getElem?_toArray, List.getElem?_cons_zero, List.getElem?_cons_succ] at c2 c3
  have c4 := cell_of_row w4 _ 0 _ _ _ l0
  have c5 := cell_of_row w4 _ 1 _ _ _ l0
  simp only [List.getElem?_toArray, List.getElem?_cons_zero, List.getElem?_cons_succ] at c4 c5
  have c6 := cell_of_row w4 _ 0 _ _ _ l1
  have c7 := cell_of_row w4 _ 1 _ _ _ l1
  simp only [List.getElem?_toArray, List.getElem?_cons_zero, List.getElem?_cons_succ] at c6 c7
  have f0 := fun j => frozen_of_row w4 _ j _ _ m0
  have f1 := fun j => frozen_of_row w4 _ j _ _ m1
  have e02 : G2 ≠ G0 := by omega
  have e03 : G3 ≠ G0 := by omega
  have e04 : G4 ≠ G0 := by omega
  have e05 : G5 ≠ G0 := by omega
  have e12 : G2 ≠ G1 := by omega
  have e13 : G3 ≠ G1 := by omega
  have e14 : G4 ≠ G1 := by omega
  have e15 : G5 ≠ G1 := by omega
  have e01 : G1 ≠ G0 := by omega
  have e10 : G0 ≠ G1 := by omega
  clear m0 m1 n0 n1 l0 l1
  have c0 : w4.drew.cell? ⟨G2, 0, none⟩ = some (.int .i64 x0) := c0
  have c1 : w4.drew.cell? ⟨G2, 1, none⟩ = some (.int .i64 y0) := c1
  have c2 : w4.drew.cell? ⟨G3, 0, none⟩ = some (.int .i64 x1) := c2
  have c3 : w4.drew.cell? ⟨G3, 1, none⟩ = some (.int .i64 y1) := c3
  have c4 : w4.drew.cell? ⟨G4, 0, none⟩ = some (.int .i64 u0) := c4
  have c5 : w4.drew.cell? ⟨G4, 1, none⟩ = some (.int .i64 v0) := c5
  have c6 : w4.drew.cell? ⟨G5, 0, none⟩ = some (.int .i64 u1) := c6
  have c7 : w4.drew.cell? ⟨G5, 1, none⟩ = some (.int .i64 v1) := c7
  have a0 : w4.drew.cell? ⟨G0, 0, none⟩ = some (.int .i64 0) := a0
  have a1 : w4.drew.cell? ⟨G0, 1, none⟩ = some (.int .i64 0) := a1
  have a2 : w4.drew.cell? ⟨G1, 0, none⟩ = some (.int .i64 0) := a2
  have a3 : w4.drew.cell? ⟨G1, 1, none⟩ = some (.int .i64 0) := a3
  have f0 : ∀ j, w4.drew.frozen? ⟨G0, j, none⟩ = false := f0
  have f1 : ∀ j, w4.drew.frozen? ⟨G1, j, none⟩ = false := f1
  have q54 : G5 < w4.drew.heap.size := q54
  go_region_held3 (fun w' => w'.cell? ⟨G2, 0, none⟩ = some (.int .i64 x0) ∧ w'.cell? ⟨G2, 1, none⟩ = some (.int .i64 y0) ∧ w'.cell? ⟨G3, 0, none⟩ = some (.int .i64 x1) ∧ w'.cell? ⟨G3, 1, none⟩ = some (.int .i64 y1) ∧ w'.cell? ⟨G4, 0, none⟩ = some (.int .i64 u0) ∧ w'.cell? ⟨G4, 1, none⟩ = some (.int .i64 v0) ∧ w'.cell? ⟨G5, 0, none⟩ = some (.int .i64 u1) ∧ w'.cell? ⟨G5, 1, none⟩ = some (.int .i64 v1)) (first | (refine ⟨?_, ?_, ?_, ?_, ?_, ?_, ?_, ?_⟩ <;> with_reducible assumption) | (refine ⟨keep2 ?_ ?_, keep2 ?_ ?_, keep2 ?_ ?_, keep2 ?_ ?_, keep2 ?_ ?_, keep2 ?_ ?_, keep2 ?_ ?_, keep2 ?_ ?_⟩ <;> with_reducible assumption) | (refine ⟨keep2 ?_ (keep2 ?_ ?_), keep2 ?_ (keep2 ?_ ?_), keep2 ?_ (keep2 ?_ ?_), keep2 ?_ (keep2 ?_ ?_), keep2 ?_ (keep2 ?_ ?_), keep2 ?_ (keep2 ?_ ?_), keep2 ?_ (keep2 ?_ ?_), keep2 ?_ (keep2 ?_ ?_)⟩ <;> with_reducible assumption))
    (first | (go_at_call 115; refine (less_any _ _ _ _ _ (by omega) (by omega)).mono ?_; rintro e w' ⟨rfl, hb⟩; have hz := hb.size; have q54 : G5 < w'.heap.size := Nat.lt_of_lt_of_le (by first | omega | (simp; omega)) hz; have bb := below_step bb hb; have c0 : w'.cell? ⟨G2, 0, none⟩ = some (.int .i64 x0) := (hb.cell (p := ⟨G2, 0, none⟩) (by first | omega | (simp; omega))).trans (by (first | with_reducible assumption | (refine keep2 ?_ ?_ <;> with_reducible assumption))); have c1 : w'.cell? ⟨G2, 1, none⟩ = some (.int .i64 y0) := (hb.cell (p := ⟨G2, 1, none⟩) (by first | omega | (simp; omega))).trans (by (first | with_reducible assumption | (refine keep2 ?_ ?_ <;> with_reducible assumption))); have c2 : w'.cell? ⟨G3, 0, none⟩ = some (.int .i64 x1) := (hb.cell (p := ⟨G3, 0, none⟩) (by first | omega | (simp; omega))).trans (by (first | with_reducible assumption | (refine keep2 ?_ ?_ <;> with_reducible assumption))); have c3 : w'.cell? ⟨G3, 1, none⟩ = some (.int .i64 y1) := (hb.cell (p := ⟨G3, 1, none⟩) (by first | omega | (simp; omega))).trans (by (first | with_reducible assumption | (refine keep2 ?_ ?_ <;> with_reducible assumption))); have c4 : w'.cell? ⟨G4, 0, none⟩ = some (.int .i64 u0) := (hb.cell (p := ⟨G4, 0, none⟩) (by first | omega | (simp; omega))).trans (by (first | with_reducible assumption | (refine keep2 ?_ ?_ <;> with_reducible assumption))); have c5 : w'.cell? ⟨G4, 1, none⟩ = some (.int .i64 v0) := (hb.cell (p := ⟨G4, 1, none⟩) (by first | omega | (simp; omega))).trans (by (first | with_reducible assumption | (refine keep2 ?_ ?_ <;> with_reducible assumption))); have c6 : w'.cell? ⟨G5, 0, none⟩ = some (.int .i64 u1) := (hb.cell (p := ⟨G5, 0, none⟩) (by first | omega | (simp; omega))).trans (by (first | with_reducible assumption | (refine keep2 ?_ ?_ <;> with_reducible assumption))); have c7 : w'.cell? ⟨G5, 1, none⟩ = some (.int .i64 v1) := (hb.cell (p := ⟨G5, 1, none⟩) (by first | omega | (simp; omega))).trans (by (first | with_reducible assumption | (refine keep2 ?_ ?_ <;> with_reducible assumption))); have aG00 := hb.cell (p := ⟨G0, 0, none⟩) (by first | omega | (simp; omega)); have aG01 := hb.cell (p := ⟨G0, 1, none⟩) (by first | omega | (simp; omega)); have f0 := fun j => hb.frozen (p := ⟨G0, j, none⟩) (by first | omega | (simp; omega)); have aG10 := hb.cell (p := ⟨G1, 0, none⟩) (by first | omega | (simp; omega)); have aG11 := hb.cell (p := ⟨G1, 1, none⟩) (by first | omega | (simp; omega)); have f1 := fun j => hb.frozen (p := ⟨G1, j, none⟩) (by first | omega | (simp; omega))))
  go_wp2
  refine bodyPost_ret (v := .tuple #[.agg #[.int .i64 (x0 - u0), .int .i64 (y0 - v0)], .agg #[.int .i64 (x1 - u1), .int .i64 (y1 - v1)]]) (by simp [results, Tryz.results99, go_sem, *]) rfl ⟨rfl, ?_⟩
  have z0 : w.heap.size ≤ G0 := by have := HG.out; omega
  have z1 : w.heap.size ≤ G1 := by omega
  exact (((bb.setCell (p := ⟨G0, 0, none⟩) z0 _).setCell (p := ⟨G0, 1, none⟩) z0 _).setCell (p := ⟨G1, 0, none⟩) z1 _).setCell (p := ⟨G1, 1, none⟩) z1 _
end Go.Proofs.YtkiidmdgdjphjaaGreat
