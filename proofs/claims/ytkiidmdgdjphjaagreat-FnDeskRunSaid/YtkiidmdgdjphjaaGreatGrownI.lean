/- GrownBall of the program. No conditions but those typed. -/
import Derived.Test.YtkiidmdgdjphjaaGreatBallI
import Derived.Test.YtkiidmdgdjphjaaGreatSumI
namespace Go.Proofs.YtkiidmdgdjphjaaGreat
open Go.RowKit Go.Sort

theorem implGrown_any (ps : List Sp) (v : Value) (r way : Int) (w : World) (h : Reads w w.heap.size v ps) :
    Calls Tryz.prog 84 #[v, .int .i64 r, .int .i64 way] w (Gives2' (grownBallR ps r way) (grownBallOk ps r way) w) := by
  obtain ⟨A, c, rfl, _, _⟩ := h.slice
  rcases hk : ballOk r way with _ | _
  · obtain ⟨e1, e2⟩ := grownBall_no (p := ps) hk
    rw [e1, e2]
    go_enter Tryz.func84, Tryz.ntmps84
    go_wp2_with fail
    refine (implBall_any r way _).mono ?_
    rintro e w1 ⟨v1, rfl, o1, b1⟩
    rw [ball_no hk] at o1
    clear e1 e2 hk
    obtain ⟨A1, c1, rfl, _, _⟩ := o1.reads.slice
    go_wp2
    go_ret2
    exact ⟨_, rfl, Owns.nil _ _, b1⟩
  · obtain ⟨e1, e2⟩ := grownBall_yes (p := ps) hk
    rw [e1, e2]
    have hpos := ball_pos hk
    have hpb : (((ballL r way).length : Int) == 0) = false := by rw [beq_eq_false_iff_ne]; omega
    clear e1 e2 hk
    go_enter Tryz.func84, Tryz.ntmps84
    go_wp2_with fail
    refine (implBall_any r way _).mono ?_
    rintro e w1 ⟨v1, rfl, o1, b1⟩
    obtain ⟨A1, c1, rfl, _, _⟩ := o1.reads.slice
    go_wp2_with fail
    refine (implSum_any ps (ballL r way) _ _ _ (h.kept b1) o1.reads).mono ?_
    rintro e w2 ⟨v2, rfl, o2, b2⟩
    go_wp2
    go_ret2
    exact ⟨_, rfl, o2.base b1.size, below_step b1 b2⟩
end Go.Proofs.YtkiidmdgdjphjaaGreat
