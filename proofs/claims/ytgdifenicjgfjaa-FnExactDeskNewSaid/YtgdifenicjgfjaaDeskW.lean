/- The program's DeskNew. No conditions but those typed. -/
import Derived.Test.YtgdifenicjgfjaaDeskN
import Derived.Test.YtgdifenicjgfjaaDeskC
namespace Go.Proofs.Ytgdifenicjgfjaa
open Go.RowKit Go.Sort

theorem deskR_one {w : World} {B : Nat} {v : Value} {p : List Sp} (h : Reads w B v p) : DeskR w B (.agg #[v, .slice none 0 0]) (p, []) :=
  ⟨v, _, rfl, h, ⟨none, 0, [], rfl, Nat.le_refl _, by simp [maxLen], rfl, fun h => absurd h (by simp), fun k p h => by cases h⟩⟩
set_option maxRecDepth 100000 in
set_option maxHeartbeats 1600000 in
theorem implDeskNew_any (p : List Sp) (v : Value) (w : World) (h : Reads w w.heap.size v p) : Calls Try.prog 12 #[v] w (GivesDesk2 (deskNewR p) (picB p) w) := by
  obtain ⟨A, c, rfl, _, _⟩ := h.slice
  have b0 := box_below w #[.slice none 0 0, .slice none 0 0] 26
  obtain ⟨W, hW⟩ : ∃ W, W = w.alloc (.cells #[.slice none 0 0, .slice none 0 0] 26) := ⟨_, rfl⟩
  have r0 : W.heap[w.heap.size]? = some (.cells #[.slice none 0 0, .slice none 0 0] 26 (0, 0)) := by rw [hW]; exact heap_alloc_new w _
  have s0 : W.heap.size = w.heap.size + 1 := by rw [hW]; simp
  rw [← hW] at b0
  have h0 := h.kept b0
  cases hp : picB p with
  | false =>
    rw [new_no hp]
    go_enter Try.func12, Try.ntmps12
    go_wp2_with (first | (rw [← hW]; clear hW) | fail)
    refine (gives_is hp (implPicture_any p _ _ h0)).mono ?_
    rintro e w1 ⟨rfl, b1⟩
    have hs1 := b1.size
    have r1 := (b1.block w.heap.size (by omega)).trans r0
    obtain ⟨d10, d11⟩ := cells_of_row r1
    have f10 := frozen_of_row w1 _ 0 _ _ r1
    have f11 := frozen_of_row w1 _ 1 _ _ r1
    have b6 := ((below_step b0 b1).setCell (p := ⟨w.heap.size, 0, none⟩) (Nat.le_refl _) (.slice none 0 0)).setCell (p := ⟨w.heap.size, 1, none⟩) (Nat.le_refl _) (.slice none 0 0)
    have hO := DeskO.zero ((w1.setCell ⟨w.heap.size, 0, none⟩ (.slice none 0 0)).setCell ⟨w.heap.size, 1, none⟩ (.slice none 0 0)) w.heap.size ((w1.setCell ⟨w.heap.size, 0, none⟩ (.slice none 0 0)).setCell ⟨w.heap.size, 1, none⟩ (.slice none 0 0)).heap.size b6.size (Nat.le_refl _)
    go_wp2
    exact bodyPost_ret (v := .tuple #[.agg #[.slice none 0 0, .slice none 0 0], .bool false]) (by simp [results, Try.results12, go_sem, *]) rfl ⟨_, rfl, hO, b6⟩
  | true =>
    rw [new_yes hp]
    have hl := (picB_pic hp).1
    go_enter Try.func12, Try.ntmps12
    go_wp2_with (first | (rw [← hW]; clear hW) | fail)
    refine (gives_is hp (implPicture_any p _ _ h0)).mono ?_
    rintro e w1 ⟨rfl, b1⟩
    have hs1 := b1.size
    have r1 := (b1.block w.heap.size (by omega)).trans r0
    go_wp2_with fail
    refine (copied_any (p, []) _ _ (deskR_one (h0.kept b1)) (by simp only []; omega) (fun q hq => by cases hq) (by simp)).mono ?_
    rintro e w3 ⟨v3, rfl, o3, b3⟩
    have hs3 := b3.size
    have r3 := (b3.block w.heap.size (by omega)).trans r1
    obtain ⟨d10, d11⟩ := cells_of_row r3
    have f10 := frozen_of_row w3 _ 0 _ _ r3
    have f11 := frozen_of_row w3 _ 1 _ _ r3
    obtain ⟨n4, p4, e4, rn4, rp4⟩ := o3.rd
    subst e4
    obtain ⟨A3, c3, rfl, _, _⟩ := rn4.slice
    obtain ⟨A4, c4, rfl, _, _⟩ := rp4.slice
    have b6 := ((below_step (below_step b0 b1) b3).setCell (p := ⟨w.heap.size, 0, none⟩) (Nat.le_refl _) (.slice A3 p.length c3)).setCell (p := ⟨w.heap.size, 1, none⟩) (Nat.le_refl _) (.slice A4 0 c4)
    have hO := o3.boxed (w := w) (r := w.heap.size) (X := .slice A3 p.length c3) (Y := .slice A4 0 c4) (by omega) (by omega)
    simp only [List.length_nil] at hO ⊢
    clear rn4 rp4 o3
    go_wp2
    exact bodyPost_ret (v := .tuple #[.agg #[.slice A3 p.length c3, .slice A4 0 c4], .bool true]) (by simp [results, Try.results12, go_sem, *]) rfl ⟨_, rfl, hO, b6⟩
end Go.Proofs.Ytgdifenicjgfjaa
