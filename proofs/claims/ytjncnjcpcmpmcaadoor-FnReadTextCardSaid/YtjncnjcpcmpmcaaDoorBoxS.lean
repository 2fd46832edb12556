/- BoxOf of the model. No conditions but those typed. -/
import Derived.Test.YtjncnjcpcmpmcaaDoorBox
import Derived.Test.YtjncnjcpcmpmcaaDoorPicWalk
import Derived.Deep.LoopGhost
namespace Go.Proofs.YtjncnjcpcmpmcaaDoor
open Go.RowKit Go.Sort

set_option maxRecDepth 100000 in
set_option maxHeartbeats 1600000 in
theorem specBox_any (ps : List Sp) (v : Value) (w : World) (h : Reads w w.heap.size v ps) :
    Calls Tryd.prog 40 #[v] w (GivesBox (boxR ps) (boxOk ps) w) := by
  obtain ⟨A, c, rfl, hc, hm, hA, hr⟩ := h.is
  unfold maxLen at hm
  have b0 : Below w.heap.size w ((w.alloc (.cells #[.int .i64 0, .int .i64 0] 32)).alloc (.cells #[.int .i64 0, .int .i64 0] 32)) := (box_below w _ _).alloc (by simp) _
  obtain ⟨W, hW⟩ : ∃ W, W = (w.alloc (.cells #[.int .i64 0, .int .i64 0] 32)).alloc (.cells #[.int .i64 0, .int .i64 0] 32) := ⟨_, rfl⟩
  have hWs : w.heap.size + 2 = W.heap.size := by rw [hW]; simp
  have q0 : W.heap[w.heap.size]? = some (.cells #[.int .i64 0, .int .i64 0] 32 (0, 0)) := by
    rw [hW]; exact (((Below.refl _ _).alloc (Nat.le_refl _) _).block _ (by simp)).trans (heap_alloc_new w _)
  have q1 : W.heap[w.heap.size + 1]? = some (.cells #[.int .i64 0, .int .i64 0] 32 (0, 0)) := by
    rw [hW]
    have := heap_alloc_new (w.alloc (.cells #[.int .i64 0, .int .i64 0] 32)) (.cells #[.int .i64 0, .int .i64 0] 32)
    simpa using this
  rw [← hW] at b0
  have hv := h.kept b0
  rcases hp : picB ps with _ | _
  · have e1 : boxOk ps = false := by unfold boxOk; rw [hp]; rfl
    rw [box_no e1, e1]
    go_enter Tryd.func40, Tryd.ntmps40
    go_wp2_with (first | (rw [← hW]; clear hW) | fail)
    refine (gives_is hp (specPicture_any ps _ _ hv)).mono ?_
    rintro e w1 ⟨rfl, b1⟩
    have r0 := (b1.block w.heap.size (by omega)).trans q0
    have r1 := (b1.block (w.heap.size + 1) (by omega)).trans q1
    have c0 := cell_of_row w1 _ 0 _ _ _ r0
    have c1 := cell_of_row w1 _ 1 _ _ _ r0
    have c2 := cell_of_row w1 _ 0 _ _ _ r1
    have c3 := cell_of_row w1 _ 1 _ _ _ r1
    have f0 := fun j => frozen_of_row w1 _ j _ _ r0
    have f1 := fun j => frozen_of_row w1 _ j _ _ r1
    simp only [List.getElem?_toArray, List.getElem?_cons_zero, List.getElem?_cons_succ] at c0 c1 c2 c3
    go_wp2
    have bb := below_step b0 b1
    refine bodyPost_ret (v := .tuple #[.agg #[.int .i64 0, .int .i64 0], .agg #[.int .i64 0, .int .i64 0], .bool false]) (by simp [results, Tryd.results40, go_sem, c0, c1, c2, c3]) rfl ⟨rfl, ?_⟩
    exact (((bb.setCell (p := ⟨w.heap.size, 0, none⟩) (Nat.le_refl _) _).setCell (p := ⟨w.heap.size, 1, none⟩) (Nat.le_refl _) _).setCell (p := ⟨w.heap.size + 1, 0, none⟩) (Nat.le_succ _) _).setCell (p := ⟨w.heap.size + 1, 1, none⟩) (Nat.le_succ _) _
  · have HP := Lib.hid hp
    by_cases h0 : ps.length = 0
    · obtain rfl := List.eq_nil_of_length_eq_zero h0
      have e1 : boxOk [] = false := by decide
      rw [box_no e1, e1]
      clear hp
      go_enter Tryd.func40, Tryd.ntmps40
      go_wp2_with (first | (rw [← hW]; clear hW) | fail)
      refine (gives_is HP.out (specPicture_any [] _ _ hv)).mono ?_
      rintro e w1 ⟨rfl, b1⟩
      have r0 := (b1.block w.heap.size (by omega)).trans q0
      have r1 := (b1.block (w.heap.size + 1) (by omega)).trans q1
      have c0 := cell_of_row w1 _ 0 _ _ _ r0
      have c1 := cell_of_row w1 _ 1 _ _ _ r0
      have c2 := cell_of_row w1 _ 0 _ _ _ r1
      have c3 := cell_of_row w1 _ 1 _ _ _ r1
      have f0 := fun j => frozen_of_row w1 _ j _ _ r0
      have f1 := fun j => frozen_of_row w1 _ j _ _ r1
      simp only [List.getElem?_toArray, List.getElem?_cons_zero, List.getElem?_cons_succ] at c0 c1 c2 c3
      go_wp2
      have bb := below_step b0 b1
      refine bodyPost_ret (v := .tuple #[.agg #[.int .i64 0, .int .i64 0], .agg #[.int .i64 0, .int .i64 0], .bool false]) (by simp [results, Tryd.results40, go_sem, c0, c1, c2, c3]) rfl ⟨rfl, ?_⟩
      exact (((bb.setCell (p := ⟨w.heap.size, 0, none⟩) (Nat.le_refl _) _).setCell (p := ⟨w.heap.size, 1, none⟩) (Nat.le_refl _) _).setCell (p := ⟨w.heap.size + 1, 0, none⟩) (Nat.le_succ _) _).setCell (p := ⟨w.heap.size + 1, 1, none⟩) (Nat.le_succ _) _
    · obtain ⟨b, off, rfl, hb, hcell⟩ := hr (by omega)
      obtain ⟨m, hml⟩ : ∃ m, ps.length = m + 1 := ⟨ps.length - 1, by omega⟩
      obtain ⟨⟨x0, y0⟩, hx0⟩ : ∃ a, ps[0]? = some a := ⟨_, List.getElem?_eq_getElem (by omega)⟩
      obtain ⟨c0, c1⟩ := hcell _ _ _ hx0
      rw [Nat.zero_mul, Nat.add_zero] at c0 c1
      rw [hml] at hv ⊢
      have hc1 : m + 1 ≤ c := by omega
      have HL := Lib.hid hml
      clear hml h hr hp
      go_enter Tryd.func40, Tryd.ntmps40
      go_wp2_with (first | (rw [← hW]; clear hW) | fail)
      refine (gives_is HP.out (specPicture_any ps _ _ hv)).mono ?_
      rintro e w1 ⟨rfl, b1⟩
      have r0 := (b1.block w.heap.size (by omega)).trans q0
      have r1 := (b1.block (w.heap.size + 1) (by omega)).trans q1
      have bb := below_step b0 b1
      have hbw1 : b < w1.heap.size := Nat.lt_of_lt_of_le hb bb.size
      have d0 := (bb.cell (p := ⟨b, off, none⟩) hb).trans c0
      have d1 := (bb.cell (p := ⟨b, off + 1, none⟩) hb).trans c1
      have ba : Below w1.heap.size w1 (w1.alloc (.cells #[.int .i64 x0, .int .i64 y0] 32)) := (Below.refl _ _).alloc (Nat.le_refl _) _
      have d2 := (ba.cell (p := ⟨b, off, none⟩) hbw1).trans d0
      have d3 := (ba.cell (p := ⟨b, off + 1, none⟩) hbw1).trans d1
      clear c0 c1
      go_wp2
      obtain ⟨L, hL⟩ : ∃ L, L = w1.heap.size := ⟨_, rfl⟩
      obtain ⟨G, hG⟩ : ∃ G, G = w1.heap.size + 1 := ⟨_, rfl⟩
      obtain ⟨w2, hw2⟩ : ∃ w2, w2 = (w1.alloc (.cells #[.int .i64 x0, .int .i64 y0] 32)).alloc (.cells #[.int .i64 x0, .int .i64 y0] 32) := ⟨_, rfl⟩
      have b2 : Below w1.heap.size w1 w2 := by rw [hw2]; exact ((Below.refl _ _).alloc (Nat.le_refl _) _).alloc (by simp) _
      have l2 : w2.heap[L]? = some (.cells #[.int .i64 x0, .int .i64 y0] 32 (0, 0)) := by rw [hw2, hL]; exact first_block _ _ _
      have g2 : w2.heap[G]? = some (.cells #[.int .i64 x0, .int .i64 y0] 32 (0, 0)) := by rw [hw2, hG]; exact second_block _ _ _
      rw [← hw2, ← hG, ← hL]
      have hLG : L ≠ G := by omega
      have hGL : G ≠ L := by omega
      have hwL : w1.heap.size ≤ L := by omega
      have hwG : w1.heap.size ≤ G := by omega
      have HC := Lib.hid hcell
      have HR := Lib.hid (And.intro r0 r1)
      have HI0 := Lib.hid (show IsBox (ps.take 1) (x0, y0) (x0, y0) by rw [List.take_add_one, List.take_zero, hx0]; exact IsBox.start _)
      clear hw2 hL hG hcell d0 d1 d2 d3 q0 q1 r0 r1 hv hx0 b0 ba
      go_loopg [7] (m + 1) (fun g i wr => ∃ (k : Nat) (lx ly gx gy : Int), m + 1 - k ≤ g ∧ 1 ≤ k ∧ k ≤ m + 1 ∧ i = .int .i64 k ∧ Below w1.heap.size w1 wr ∧ wr.heap[L]? = some (.cells #[.int .i64 lx, .int .i64 ly] 32 (0, 0)) ∧ wr.heap[G]? = some (.cells #[.int .i64 gx, .int .i64 gy] 32 (0, 0)) ∧ IsBox (ps.take k) (lx, ly) (gx, gy))
      case atStart => exact ⟨1, x0, y0, x0, y0, by omega, Nat.le_refl _, by omega, rfl, b2, l2, g2, HI0.out⟩
      case round =>
        obtain ⟨k, lx, ly, gx, gy, hgk, hk1, hk, rfl, hbw, hl, hg, hI⟩ := hrel
        have HI := Lib.hid hI
        clear hI l2 g2 b2
        by_cases hlt : k < m + 1
        · as_aux_lemma =>
            have h9 : 1 ≤ k + 1 ∧ k + 1 ≤ m + 1 ∧ Value.int .i64 ((k : Int) + 1) = Value.int .i64 ((k + 1 : Nat) : Int) ∧ m + 1 - (k + 1) < gk := ⟨by omega, by omega, by rw [Int.natCast_add]; rfl, by omega⟩
            have H9 := Lib.hid h9
            clear h9
            have hll := HL.out
            obtain ⟨⟨x, y⟩, hxy⟩ : ∃ a, ps[k]? = some a := ⟨_, List.getElem?_eq_getElem (by omega)⟩
            obtain ⟨e0, e1⟩ := HC.out k x y hxy
            have bbr := bb.trans (hbw.mono bb.size)
            have d0 := (bbr.cell (p := ⟨b, off + k * 2, none⟩) hb).trans e0
            have d1 := (bbr.cell (p := ⟨b, off + k * 2 + 1, none⟩) hb).trans e1
            have c0 := cell_of_row wr _ 0 _ _ _ hl
            have c1 := cell_of_row wr _ 1 _ _ _ hl
            have c2 := cell_of_row wr _ 0 _ _ _ hg
            have c3 := cell_of_row wr _ 1 _ _ _ hg
            have f0 := fun j => frozen_of_row wr _ j _ _ hl
            have f1 := fun j => frozen_of_row wr _ j _ _ hg
            simp only [List.getElem?_toArray, List.getElem?_cons_zero, List.getElem?_cons_succ] at c0 c1 c2 c3
            have HX := Lib.hid (And.intro (HI.out.step hxy) hxy)
            have nL : L ≠ b := by omega
            have nG : G ≠ b := by omega
            have hi0 : (0 : Int) ≤ (k : Int) := Int.natCast_nonneg _
            have hi1 : (k : Int) < (m : Int) + 1 := by omega
            clear e0 e1 hxy hll
            obtain ⟨X1, hX1⟩ : ∃ X, (if x < lx then x else lx) = X := ⟨_, rfl⟩
            obtain ⟨Y1, hY1⟩ : ∃ X, (if y < ly then y else ly) = X := ⟨_, rfl⟩
            obtain ⟨X2, hX2⟩ : ∃ X, (if gx < x then x else gx) = X := ⟨_, rfl⟩
            obtain ⟨Y2, hY2⟩ : ∃ X, (if gy < y then y else gy) = X := ⟨_, rfl⟩
            rw [hX1, hY1, hX2, hY2] at HX
            go_wp2_with fail
            go_region
            as_aux_lemma =>
              obtain ⟨w5, hw5⟩ : ∃ w5, w5 = ((wr.setCell ⟨L, 0, none⟩ (.int .i64 X1)).setCell ⟨L, 1, none⟩ (.int .i64 Y1)).drew := ⟨_, rfl⟩
              have l5 : w5.heap[L]? = some (.cells #[.int .i64 X1, .int .i64 Y1] 32 (0, 0)) := by rw [hw5]; exact set2_same hl
              have g5 : w5.heap[G]? = some (.cells #[.int .i64 gx, .int .i64 gy] 32 (0, 0)) := by rw [hw5]; exact (set2_other hGL).trans hg
              have b5 : Below w1.heap.size w1 w5 := by rw [hw5]; exact (below_set2 hbw hwL).drew
              rw [← hw5]
              clear hw5 d0 d1 c0 c1 c2 c3 f0 f1 hX1 hY1
              obtain ⟨e0, e1⟩ := HC.out k x y HX.out.2
              have bbr := bb.trans (b5.mono bb.size)
              have d0 := (bbr.cell (p := ⟨b, off + k * 2, none⟩) hb).trans e0
              have d1 := (bbr.cell (p := ⟨b, off + k * 2 + 1, none⟩) hb).trans e1
              have c0 := cell_of_row w5 _ 0 _ _ _ l5
              have c1 := cell_of_row w5 _ 1 _ _ _ l5
              have c2 := cell_of_row w5 _ 0 _ _ _ g5
              have c3 := cell_of_row w5 _ 1 _ _ _ g5
              have f0 := fun j => frozen_of_row w5 _ j _ _ l5
              have f1 := fun j => frozen_of_row w5 _ j _ _ g5
              simp only [List.getElem?_toArray, List.getElem?_cons_zero, List.getElem?_cons_succ] at c0 c1 c2 c3
              obtain ⟨w6, hw6⟩ : ∃ w6, w6 = ((w5.setCell ⟨G, 0, none⟩ (.int .i64 X2)).setCell ⟨G, 1, none⟩ (.int .i64 Y2)).drew := ⟨_, rfl⟩
              have l6 : w6.heap[L]? = some (.cells #[.int .i64 X1, .int .i64 Y1] 32 (0, 0)) := by rw [hw6]; exact (show ((w5.setCell ⟨G, 0, none⟩ (.int .i64 X2)).setCell ⟨G, 1, none⟩ (.int .i64 Y2)).heap[L]? = _ from (set2_other hLG).trans l5)
              have g6 : w6.heap[G]? = some (.cells #[.int .i64 X2, .int .i64 Y2] 32 (0, 0)) := by rw [hw6]; exact (show ((w5.setCell ⟨G, 0, none⟩ (.int .i64 X2)).setCell ⟨G, 1, none⟩ (.int .i64 Y2)).heap[G]? = _ from set2_same g5)
              have b6 : Below w1.heap.size w1 w6 := by rw [hw6]; exact (below_set2 b5 hwG).drew
              have HW6 := Lib.hid hw6
              clear e0 e1 hw6 hl hg hbw bbr
              go_wp2_with fail
              go_region
              have hw6 := HW6.out
              rw [← hw6]
              clear hw6 hX2 hY2
              go_wp2
              go_roundg (m + 1 - (k + 1))
              case rel => exact ⟨k + 1, X1, Y1, X2, Y2, Nat.le_refl _, H9.out.1, H9.out.2.1, H9.out.2.2.1, b6, l6, g6, HX.out.1⟩
              case measure => exact H9.out.2.2.2
        · as_aux_lemma =>
            obtain rfl : k = m + 1 := by omega
            have hI := HI.out
            rw [← HL.out, List.take_length] at hI
            have hne : ps ≠ [] := fun e => h0 (by rw [e]; rfl)
            have e1 : boxOk ps = true := by unfold boxOk; rw [HP.out]; simpa using hne
            have e2 : boxR ps = ((lx, ly), (gx, gy)) := by
              unfold boxR; rw [e1, if_pos rfl]
              obtain ⟨a1, a2⟩ := (isBox_boxL hne).one hI
              rw [← a1, ← a2]
            have HE := Lib.hid (And.intro e1 e2)
            have hwb := bb.size
            have hz := b1.size
            have s0 := (hbw.block w.heap.size (by omega)).trans HR.out.1
            have s1 := (hbw.block (w.heap.size + 1) (by omega)).trans HR.out.2
            have c0 := cell_of_row wr _ 0 _ _ _ s0
            have c1 := cell_of_row wr _ 1 _ _ _ s0
            have c2 := cell_of_row wr _ 0 _ _ _ s1
            have c3 := cell_of_row wr _ 1 _ _ _ s1
            have c4 := cell_of_row wr _ 0 _ _ _ hl
            have c5 := cell_of_row wr _ 1 _ _ _ hl
            have c6 := cell_of_row wr _ 0 _ _ _ hg
            have c7 := cell_of_row wr _ 1 _ _ _ hg
            have f0 := fun j => frozen_of_row wr _ j _ _ s0
            have f1 := fun j => frozen_of_row wr _ j _ _ s1
            simp only [List.getElem?_toArray, List.getElem?_cons_zero, List.getElem?_cons_succ] at c0 c1 c2 c3 c4 c5 c6 c7
            have bbr := bb.trans (hbw.mono bb.size)
            have n1 : L ≠ w.heap.size := by omega
            have n2 : L ≠ w.heap.size + 1 := by omega
            have n3 : G ≠ w.heap.size := by omega
            have n4 : G ≠ w.heap.size + 1 := by omega
            have n5 := n1.symm
            have n6 := n2.symm
            have n7 := n3.symm
            have n8 := n4.symm
            clear e1 e2 hI
            go_wp2_with fail
            go_region_held3 (fun w' => w'.cell? ⟨L, 0, none⟩ = some (.int .i64 lx) ∧ w'.cell? ⟨L, 1, none⟩ = some (.int .i64 ly) ∧ w'.cell? ⟨G, 0, none⟩ = some (.int .i64 gx) ∧ w'.cell? ⟨G, 1, none⟩ = some (.int .i64 gy)) (go_keep) (fail)
            go_wp2
            refine bodyPost_ret (v := .tuple #[.agg #[.int .i64 lx, .int .i64 ly], .agg #[.int .i64 gx, .int .i64 gy], .bool true]) (by simp [results, Tryd.results40, go_sem, c0, c1, c2, c3]) rfl ⟨by rw [HE.out.1, HE.out.2], ?_⟩
            exact ((((bbr.drew).setCell (p := ⟨w.heap.size, 0, none⟩) (Nat.le_refl _) _).setCell (p := ⟨w.heap.size, 1, none⟩) (Nat.le_refl _) _).setCell (p := ⟨w.heap.size + 1, 0, none⟩) (Nat.le_succ _) _).setCell (p := ⟨w.heap.size + 1, 1, none⟩) (Nat.le_succ _) _
end Go.Proofs.YtjncnjcpcmpmcaaDoor
