/- The program's runs of rows, and RowsFilled: for each row the run from its first spot to its last one, and all spots of these. No conditions but those typed. -/
import Derived.Test.YtjncnjcpcmpmcaaDoorBetwI
import Derived.Test.YtjncnjcpcmpmcaaDoorRuns
import Derived.Test.YtjncnjcpcmpmcaaDoorTold
namespace Go.Proofs.YtjncnjcpcmpmcaaDoor
open Go.RowKit Go.Sort

theorem runRule_any (x y : Int) (w : World) : Calls Tryd.prog 95 #[.agg #[.int .i64 x, .int .i64 y]] w (Gives (.bool true) w) := by
  go_enter Tryd.func95, Tryd.ntmps95
  go_wp2
  go_ret
  exact ⟨rfl, box_below _ _ _⟩
def RunIn (r : Rn) : Prop := -30 ≤ r.1.1 ∧ r.1.1 ≤ 30 ∧ -30 ≤ r.1.2 ∧ r.1.2 ≤ 30 ∧ -30 ≤ r.2 ∧ r.2 ≤ 30
set_option maxRecDepth 100000 in
theorem runSpots_any (y f t : Int) (w : World) (h : RunIn ((y, f), t)) : Calls Tryd.prog 74 #[.agg #[.int .i64 y, .int .i64 f, .int .i64 t]] w fun e w' => ∃ v', e = .returned v' ∧ Owns w' w.heap.size v' (runCells ((y, f), t)) ∧ Below w.heap.size w w' := by
  obtain ⟨h1, h2, h3, h4, h5, h6⟩ := h
  simp only at h1 h2 h3 h4 h5 h6
  have HS := Lib.hid (runCells_at y f t)
  have b0 := box_below w #[.int .i64 y, .int .i64 f, .int .i64 t] 66
  go_enter Tryd.func74, Tryd.ntmps74
  go_wp2_with fail
  refine (betwRun_any (fun _ => true) f y t y _ (by omega) (by omega) (by omega) (by omega) (by omega) (by omega) (by omega) (by omega) (fun x y w1 _ _ _ _ _ => runRule_any x y w1)).mono ?_
  rintro e w1 ⟨v1, rfl, o1, b1⟩
  rw [← HS.out] at o1
  go_wp2
  go_ret
  exact ⟨_, rfl, o1.base b0.size, below_step b0 b1⟩

/-- behind a spot more -/
def StepRPost (base : Nat) (l : List Rn) (w : World) (e : Ending) (w' : World) : Prop := ∃ v', e = .returned v' ∧ ROwns w' base v' l ∧ Below base w w'
/-- a run's spots behind those before -/
def StepSPost (base : Nat) (l : List Sp) (w : World) (e : Ending) (w' : World) : Prop := ∃ v', e = .returned v' ∧ Owns w' base v' l ∧ Below base w w'
theorem rowsOkI_pic {p : List Sp} (h : picB p = false) : rowsOk p = false := by unfold rowsOk; rw [h]; rfl
theorem rowsOkI_yes {p : List Sp} (h : picB p = true) : rowsOk p = picB (rowsL p) := by unfold rowsOk; rw [h, Bool.true_and]
end Go.Proofs.YtjncnjcpcmpmcaaDoor
