/- The model's DeskNew. No conditions but those typed. -/
import Derived.Test.YtkiidmdgdjphjaaGreatDeskG
namespace Go.Proofs.YtkiidmdgdjphjaaGreat
open Go.RowKit Go.Sort

def deskNewR (p : List Sp) : Dk := if picB p then (p, []) else ([], [])
theorem new_yes {p : List Sp} (h : picB p = true) : deskNewR p = (p, []) := by unfold deskNewR; rw [h]; rfl
theorem new_no {p : List Sp} (h : picB p = false) : deskNewR p = ([], []) := by unfold deskNewR; rw [h]; rfl
/-- a picture that the call made is a desk -/
theorem desk_one {w : World} {lo : Nat} {n : Value} {p : List Sp} (h : Owns w lo n p) (hl : lo ≤ w.heap.size) : DeskO w lo w.heap.size (.agg #[n, .slice none 0 0]) (p, []) :=
  ⟨n, _, [], rfl, VZ.nil _ _ _ _ _ (by simp [maxLen]), (InZ.nil w lo lo).cons (OZ.of h (Nat.le_refl _)) (Nat.le_refl _) hl, Nat.le_refl _⟩
/-- a desk without pictures of before, and a truth -/
def GivesNewP (d : Dk) (b : Bool) (w : World) (e : Ending) (w' : World) : Prop := ∃ n', e = .returned (.tuple #[.agg #[n', .slice none 0 0], .bool b]) ∧ DeskO w' w.heap.size w'.heap.size (.agg #[n', .slice none 0 0]) d ∧ Below w.heap.size w w'
set_option maxRecDepth 100000 in
set_option maxHeartbeats 1600000 in
theorem specDeskNewP_any (p : List Sp) (v : Value) (w : World) (h : Reads w w.heap.size v p) : Calls Tryz.prog 33 #[v] w (GivesNewP (deskNewR p) (picB p) w) := by
  obtain ⟨A, c, rfl, _, _⟩ := h.slice
  have b0 := box_below w #[.slice none 0 0, .slice none 0 0] 26
  obtain ⟨W, hW⟩ : ∃ W, W = w.alloc (.cells #[.slice none 0 0, .slice none 0 0] 26) := ⟨_, rfl⟩
  have r0 : W.heap[w.heap.size]? = some (.cells #[.slice none 0 0, .slice none 0 0] 26 (0, 0)) := by rw [hW]; exact heap_alloc_new w _
  have s0 : W.heap.size = w.heap.size + 1 := by rw [hW]; simp
  rw [← hW] at b0
  have h0 := h.kept b0
  cases hp : picB p with
  | false =>
    rw [new_no hp]
    go_enter Tryz.func33, Tryz.ntmps33
    go_wp2_with (first | (rw [← hW]; clear hW) | fail)
    refine (gives_is hp (specPicture_any p _ _ h0)).mono ?_
    rintro e w1 ⟨rfl, b1⟩
    have hs1 := b1.size
    have r1 := (b1.block w.heap.size (by omega)).trans r0
    obtain ⟨d10, d11⟩ := cells_of_row r1
    have f10 := frozen_of_row w1 _ 0 _ _ r1
    have f11 := frozen_of_row w1 _ 1 _ _ r1
    have b6 := ((below_step b0 b1).setCell (p := ⟨w.heap.size, 0, none⟩) (Nat.le_refl _) (.slice none 0 0)).setCell (p := ⟨w.heap.size, 1, none⟩) (Nat.le_refl _) (.slice none 0 0)
    have hO := DeskO.zero ((w1.setCell ⟨w.heap.size, 0, none⟩ (.slice none 0 0)).setCell ⟨w.heap.size, 1, none⟩ (.slice none 0 0)) w.heap.size ((w1.setCell ⟨w.heap.size, 0, none⟩ (.slice none 0 0)).setCell ⟨w.heap.size, 1, none⟩ (.slice none 0 0)).heap.size b6.size (Nat.le_refl _)
    go_wp2
    exact bodyPost_ret (v := .tuple #[.agg #[.slice none 0 0, .slice none 0 0], .bool false]) (by simp [results, Tryz.results33, go_sem, *]) rfl ⟨_, rfl, hO, b6⟩
  | true =>
    rw [new_yes hp]
    have hl := (picB_pic hp).1
    go_enter Tryz.func33, Tryz.ntmps33
    go_wp2_with (first | (rw [← hW]; clear hW) | fail)
    refine (gives_is hp (specPicture_any p _ _ h0)).mono ?_
    rintro e w1 ⟨rfl, b1⟩
    have hs1 := b1.size
    have r1 := (b1.block w.heap.size (by omega)).trans r0
    have bE : Below w1.heap.size w1 (w1.alloc (.cells #[] 53)) := (Below.refl _ _).alloc (Nat.le_refl _) _
    have oE := Owns.empty w1 w1.heap.size (Nat.le_refl _)
    have hp2 := ((h0.kept b1).kept bE)
    go_wp2_with (at_builtin; refine wpList_append_spots (qs := p) oE hp2 (by simp only [List.length_nil]; omega) bE.size rfl _ _ rfl rfl rfl ?_)
    intro v3 w3 o3 g3 _
    have b3 := oE.below_app bE bE.size g3
    have hs3 := b3.size
    have r3 := (b3.block w.heap.size (by omega)).trans r1
    obtain ⟨d10, d11⟩ := cells_of_row r3
    have f10 := frozen_of_row w3 _ 0 _ _ r3
    have f11 := frozen_of_row w3 _ 1 _ _ r3
    have hD := desk_one o3 hs3
    obtain ⟨A3, c3, rfl, _, _⟩ := o3.reads.slice
    have b6 := ((below_step (below_step b0 b1) b3).setCell (p := ⟨w.heap.size, 0, none⟩) (Nat.le_refl _) (.slice A3 p.length c3)).setCell (p := ⟨w.heap.size, 1, none⟩) (Nat.le_refl _) (.slice none 0 0)
    have hO := hD.boxed (w := w) (r := w.heap.size) (X := .slice A3 p.length c3) (Y := .slice none 0 0) (by omega) (by omega)
    clear hD o3
    go_wp2
    exact bodyPost_ret (v := .tuple #[.agg #[.slice A3 p.length c3, .slice none 0 0], .bool true]) (by simp [results, Tryz.results33, go_sem, *]) rfl ⟨_, rfl, hO, b6⟩
theorem specDeskNew_any (p : List Sp) (v : Value) (w : World) (h : Reads w w.heap.size v p) : Calls Tryz.prog 33 #[v] w (GivesDesk2 (deskNewR p) (picB p) w) :=
  (specDeskNewP_any p v w h).mono fun _ _ h => by
    obtain ⟨n, h1, h2, h3⟩ := h
    exact ⟨_, h1, h2, h3⟩
end Go.Proofs.YtkiidmdgdjphjaaGreat
