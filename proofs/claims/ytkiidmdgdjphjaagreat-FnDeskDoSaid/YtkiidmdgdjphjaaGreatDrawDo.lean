/- The draw of a desk and a deed. No conditions but those typed. -/
import Derived.Test.YtkiidmdgdjphjaaGreatDrawM
import Derived.Test.YtkiidmdgdjphjaaGreatSpots
import Derived.Deep.RegionHeld3
namespace Go.Proofs.YtkiidmdgdjphjaaGreat
open Go.RowKit Go.Sort

set_option maxRecDepth 100000 in
set_option maxHeartbeats 6400000 in
theorem drawDo_any (A : Option Addr) (n c : Nat) (w : World) (hb : Bytes w w.heap.size A n) (hn : n ≤ c) (hc : c ≤ 9223372036854775807) :
    Calls Tryz.prog 5 #[.slice A n c] w fun e w' => ∃ v d lo hi, ∃ k x y : Int, e = .returned (.tuple #[v, .agg #[.int .i64 k, .int .i64 x, .int .i64 y]]) ∧ DeskO w' lo hi v d ∧ Below w.heap.size w w' := by
  obtain ⟨W, hW⟩ : ∃ W, W = w.alloc (.cells #[.slice none 0 0, .slice none 0 0] 26) := ⟨_, rfl⟩
  obtain ⟨W2, hW2⟩ : ∃ W2, W2 = W.alloc (.cells #[.int .i64 0, .int .i64 0, .int .i64 0] 28) := ⟨_, rfl⟩
  have bx1 : Below w.heap.size w W := by rw [hW]; exact box_below _ _ _
  have bx2 : Below W.heap.size W W2 := by rw [hW2]; exact box_below _ _ _
  have sx1 : w.heap.size < W.heap.size := by rw [hW]; simp
  have sx2 : W.heap.size < W2.heap.size := by rw [hW2]; simp
  have bx := below_step bx1 bx2
  have rA : W2.heap[w.heap.size]? = some (.cells #[.slice none 0 0, .slice none 0 0] 26 (0, 0)) := (bx2.block _ sx1).trans (by rw [hW]; exact heap_alloc_new w _)
  have rB : W2.heap[W.heap.size]? = some (.cells #[.int .i64 0, .int .i64 0, .int .i64 0] 28 (0, 0)) := by rw [hW2]; exact heap_alloc_new W _
  have hbW : Bytes W2 W2.heap.size A n := (hb.below bx).more (by omega)
  clear bx1 bx2
  go_enter Tryz.func5, Tryz.ntmps5
  go_wp2_with (first | (rw [← hW]; clear hW) | (rw [← hW2]; clear hW2) | fail)
  refine (open_any A n c _ hbW hn hc).mono ?_
  rintro e w1 ⟨n', rfl, r1, b1⟩
  go_wp2_with fail
  refine (desk_any _ n' c 0 A 12 _ r1 (by omega) (by omega) (by omega)).mono ?_
  rintro e w2 ⟨v, d, q, lo, hi, rfl, D, r2, hq, g2⟩
  have bW : Below W2.heap.size W2 w2 := Below.of_grown b1 g2 (Nat.le_refl _)
  have s1 : W2.heap.size < w1.heap.size := r1.lt
  have s2 := bW.size
  have hge := D.ge
  have hsum := D.sum
  have oD := D.own.o
  clear D g2 r1 b1 hbW hb
  obtain ⟨n2, p2, e2, rn, rp⟩ := oD.rd
  subst e2
  obtain ⟨An, cn, rfl, _, _⟩ := rn.slice
  obtain ⟨Ap, cp, rfl, _, _⟩ := rp.slice
  clear rn rp
  obtain ⟨W3, hW3⟩ : ∃ W3, W3 = w2.alloc (.cells #[.slice An d.1.length cn, .slice Ap d.2.length cp] 26) := ⟨_, rfl⟩
  have b3 : Below w2.heap.size w2 W3 := by rw [hW3]; exact box_below _ _ _
  have rC : W3.heap[w2.heap.size]? = some (.cells #[.slice An d.1.length cn, .slice Ap d.2.length cp] 26 (0, 0)) := by rw [hW3]; exact heap_alloc_new w2 _
  have sC : w2.heap.size < W3.heap.size := by rw [hW3]; simp
  have b23 := below_step bW b3
  have rA := (b23.block _ (by omega)).trans rA
  have rB := (b23.block _ (by omega)).trans rB
  have r3 := (r2.below b3).below (Below.refl W3.heap.size W3).drew
  have o3 := (oD.below b3).below (Below.refl W3.heap.size W3).drew
  have bF := below_step bx (below_step b23 (Below.refl W3.heap.size W3).drew)
  have hle : hi ≤ w2.heap.size := oD.fits
  obtain ⟨B, hB⟩ : ∃ B, w2.heap.size = B := ⟨_, rfl⟩
  obtain ⟨H, hH⟩ : ∃ H, W.heap.size = H := ⟨_, rfl⟩
  obtain ⟨g, hg⟩ : ∃ g, W2.heap.size = g := ⟨_, rfl⟩
  rw [hB] at rC sC hle s2
  rw [hH] at rB sx1 sx2
  rw [hg] at r3 sx2 s1 s2
  have rA0 : W3.drew.heap[w.heap.size]? = _ := rA
  have rB0 : W3.drew.heap[H]? = _ := rB
  have rC0 : W3.drew.heap[B]? = _ := rC
  have sD : B < W3.drew.heap.size := sC
  obtain ⟨ta0, ta1⟩ := cells_of_row rC0
  have hnow : ∀ w', W3.drew.grownBy w' (some g) → Reads w' w'.heap.size (.slice An d.1.length cn) d.1 := fun w' h => by
    have o := o3.keptBy (w' := w') h.size (fun p h1 _ h3 => h.block p h3 (fun e => by injection e with e; omega))
    obtain ⟨n, p, e, h1, _⟩ := o.rd
    cases e
    exact h1
  have hlen : d.1.length ≤ 100000 := by omega
  have hBw : B ≠ w.heap.size := by omega
  have hBH : B ≠ H := by omega
  have hwH : w.heap.size ≠ H := by omega
  have hwB := Ne.symm hBw
  have hHB := Ne.symm hBH
  have hHw := Ne.symm hwH
  replace hB := Lib.hid hB
  replace hH := Lib.hid hH
  replace hg := Lib.hid hg
  clear rA rB rC b23 b3 oD r2 bW bx sC
  go_wp2_with (first | (rw [← hW3]; clear hW3) | fail)
  try rw [hB.out]
  try rw [hH.out]
  try rw [hg.out]
  go_region_held3 (fun w' => w'.cell? ⟨B, 0, none⟩ = some (.slice An d.1.length cn) ∧ w'.cell? ⟨B, 1, none⟩ = some (.slice Ap d.2.length cp)) (first | (refine ⟨?_, ?_⟩ <;> with_reducible assumption) | go_keep)
    ((go_at_call 19; (with_reducible refine (deed_any g n' c q A d.1 _ W3.drew r3 hnow hlen (by omega)).mono ?_); rintro e wa ⟨kd, x, y, qa, rfl, ra, hqa, ga⟩; have rA1 := (ga.block w.heap.size (by omega) (fun e => (by injection e with e; omega))).trans rA0; have rB1 := (ga.block H (by omega) (fun e => (by injection e with e; omega))).trans rB0; have rC1 := (ga.block B sD (fun e => (by injection e with e; omega))).trans rC0; have oa := o3.keptBy (w' := wa) ga.size (fun p h1 _ h3 => ga.block p h3 (fun e => (by injection e with e; omega))); have ba := Below.grown bF ga (by omega) (fun k e => (by injection e with e; omega)); clear ta0 ta1; have ta0 := (cells_of_row rC1).1; have ta1 := (cells_of_row rC1).2; have a0 := (cells_of_row rA1).1; have a1 := (cells_of_row rA1).2; have fa0 := frozen_of_row wa _ 0 _ _ rA1; have fa1 := frozen_of_row wa _ 1 _ _ rA1; have h0 := (cells3_of rB1).1; have h1 := (cells3_of rB1).2.1; have h2 := (cells3_of rB1).2.2; have fh0 := frozen_of_row wa _ 0 _ _ rB1; have fh1 := frozen_of_row wa _ 1 _ _ rB1; have fh2 := frozen_of_row wa _ 2 _ _ rB1))
  all_goals
    have hk : ∀ q, q ≠ w.heap.size → q ≠ H → (((((wa.setCell ⟨w.heap.size, 0, none⟩ (.slice An d.1.length cn)).setCell ⟨w.heap.size, 1, none⟩ (.slice Ap d.2.length cp)).setCell ⟨H, 0, none⟩ (.int .i64 kd)).setCell ⟨H, 1, none⟩ (.int .i64 x)).setCell ⟨H, 2, none⟩ (.int .i64 y)).heap[q]? = wa.heap[q]? := fun q h1 h2 => (heap_setCell_other _ _ _ _ h2).trans ((set2_other h2).trans (set2_other h1))
    have oF : DeskO (((((wa.setCell ⟨w.heap.size, 0, none⟩ (.slice An d.1.length cn)).setCell ⟨w.heap.size, 1, none⟩ (.slice Ap d.2.length cp)).setCell ⟨H, 0, none⟩ (.int .i64 kd)).setCell ⟨H, 1, none⟩ (.int .i64 x)).setCell ⟨H, 2, none⟩ (.int .i64 y)) lo hi (.agg #[.slice An d.1.length cn, .slice Ap d.2.length cp]) d := oa.keptBy (by simp [World.setCell]) (fun q h1 _ _ => hk q (by omega) (by omega))
    have bE := ((((ba.setCell (p := ⟨w.heap.size, 0, none⟩) (Nat.le_refl _) (.slice An d.1.length cn)).setCell (p := ⟨w.heap.size, 1, none⟩) (Nat.le_refl _) (.slice Ap d.2.length cp)).setCell (p := ⟨H, 0, none⟩) (by simp only []; omega) (.int .i64 kd)).setCell (p := ⟨H, 1, none⟩) (by simp only []; omega) (.int .i64 x)).setCell (p := ⟨H, 2, none⟩) (by simp only []; omega) (.int .i64 y)
    go_wp2
    exact bodyPost_ret (v := .tuple #[.agg #[.slice An d.1.length cn, .slice Ap d.2.length cp], .agg #[.int .i64 kd, .int .i64 x, .int .i64 y]]) (by simp [results, Tryz.results5, go_sem, *]) rfl ⟨_, d, lo, hi, kd, x, y, rfl, oF, bE⟩
end Go.Proofs.YtkiidmdgdjphjaaGreat
