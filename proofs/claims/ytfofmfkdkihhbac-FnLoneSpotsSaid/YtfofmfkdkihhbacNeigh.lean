/- The neighbours of the spot 0, 0, four or eight, as the program makes them. No conditions but those typed. -/
import Derived.Test.YtfofmfkdkihhbacPattC
import Derived.Test.YtfofmfkdkihhbacBallI
namespace Go.Proofs.Ytfofmfkdkihhbac
open Go.RowKit Go.Sort

theorem ring_is : (ballL 1 1).filter (fun a => !decide (a = (0, 0))) = ring8 := by decide +kernel
theorem ring4_is : (ballL 1 0).filter (fun a => !decide (a = (0, 0))) = ring4 (0, 0) := by decide +kernel
theorem ring_len : (ballL 1 1).length ≤ 100000 := by decide +kernel
theorem ring4_len : (ballL 1 0).length ≤ 100000 := by decide +kernel
theorem ringRule_any (x y : Int) (w : World) : Calls Try.prog 99 #[.agg #[.int .i64 x, .int .i64 y]] w (Gives (.bool (!decide (((x, y) : Sp) = (0, 0)))) w) := by
  go_enter Try.func99, Try.ntmps99
  go_wp2
  all_goals go_ret
  all_goals exact ⟨ret_bool (by simp [*]), box_below _ _ _⟩
/-- the four, or the eight -/
def ringE : Bool → List Sp
  | true => ring8
  | false => ring4 (0, 0)
theorem ringE_4 : ringE false = [(0, -1), (-1, 0), (1, 0), (0, 1)] := by decide
theorem neighbours_any (b : Bool) (w : World) : Calls Try.prog 88 #[.bool b] w fun e w' => ∃ v', e = .returned v' ∧ Owns w' w.heap.size v' (ringE b) ∧ Below w.heap.size w w' := by
  cases b
  · go_enter Try.func88, Try.ntmps88
    go_wp2_with fail
    refine (implBall_any 1 0 _).mono ?_
    rintro e w1 ⟨v1, rfl, o1, b1⟩
    have hsp := spotsRing (fun a => !decide (a = (0, 0))) (ballL 1 0) _ w1 o1.reads ring4_len (fun x y w2 _ _ => ringRule_any x y w2)
    rw [ring4_is] at hsp
    obtain ⟨A1, c1, rfl, _, _⟩ := o1.reads.slice
    go_wp2_with fail
    refine hsp.mono ?_
    rintro e w2 ⟨v2, rfl, o2, b2⟩
    go_wp2
    go_ret
    exact ⟨_, rfl, o2.base b1.size, below_step b1 b2⟩
  · go_enter Try.func88, Try.ntmps88
    go_wp2_with fail
    refine (implBall_any 1 1 _).mono ?_
    rintro e w1 ⟨v1, rfl, o1, b1⟩
    have hsp := spotsRing (fun a => !decide (a = (0, 0))) (ballL 1 1) _ w1 o1.reads ring_len (fun x y w2 _ _ => ringRule_any x y w2)
    rw [ring_is] at hsp
    obtain ⟨A1, c1, rfl, _, _⟩ := o1.reads.slice
    go_wp2_with fail
    refine hsp.mono ?_
    rintro e w2 ⟨v2, rfl, o2, b2⟩
    go_wp2
    go_ret
    exact ⟨_, rfl, o2.base b1.size, below_step b1 b2⟩
end Go.Proofs.Ytfofmfkdkihhbac
