/- GrownBall and CountBall of the model. No conditions but those typed. -/
import Derived.Test.YtdfpgfnfoippmaaBallS
import Derived.Test.YtdfpgfnfoippmaaSumS
import Derived.Test.YtdfpgfnfoippmaaMove
namespace Go.Proofs.Ytdfpgfnfoippmaa
open Go.RowKit Go.Sort

def countI (r way : Int) : Int := if ballOk r way then ((ballL r way).length : Int) else -1
theorem count_no {r way : Int} (h : ballOk r way = false) : countI r way = -1 := by unfold countI; rw [h]; rfl
theorem count_yes {r way : Int} (h : ballOk r way = true) : countI r way = ((ballL r way).length : Int) := by unfold countI; rw [h]; rfl
theorem ball_pos {r way : Int} (h : ballOk r way = true) : 0 < (ballL r way).length := by
  refine List.length_pos_iff.2 fun e => ?_
  rw [ball_nil.1 e] at h; cases h
theorem ball_len (r way : Int) : (ballL r way).length ≤ 60 := (picB_pic (picB_ball (r := r) (way := way))).1
theorem specSum_lit {b : Bool} {p q : List Sp} {v u : Value} {w : World} (hk : sumOk p q = b) (h : Reads w w.heap.size v p) (k : Reads w w.heap.size u q) : Calls Try.prog 97 #[v, u] w (Gives2' (sumR p q) b w) := by
  subst hk; exact specSum_any p q v u w h k
theorem specGrown_any (ps : List Sp) (v : Value) (r way : Int) (w : World) (h : Reads w w.heap.size v ps) :
    Calls Try.prog 73 #[v, .int .i64 r, .int .i64 way] w (Gives2' (grownBallR ps r way) (grownBallOk ps r way) w) := by
  obtain ⟨A, c, rfl, _, _⟩ := h.slice
  rcases hk : ballOk r way with _ | _
  · obtain ⟨e1, e2⟩ := grownBall_no (p := ps) hk
    rw [e1, e2]
    go_enter Try.func73, Try.ntmps73
    go_wp2_with fail
    refine (specBall_any r way _).mono ?_
    rintro e w1 ⟨v1, rfl, o1, b1⟩
    rw [ball_no hk] at o1
    clear e1 e2 hk
    obtain ⟨A1, c1, rfl, _, _⟩ := o1.reads.slice
    have hle := b1.size
    go_wp2
    go_ret2
    exact ⟨_, rfl, Owns.empty _ _ hle, b1.alloc hle _⟩
  · obtain ⟨e1, e2⟩ := grownBall_yes (p := ps) hk
    rw [e1, e2]
    have hpos := ball_pos hk
    have hpb : (((ballL r way).length : Int) == 0) = false := by rw [beq_eq_false_iff_ne]; omega
    clear e1 e2 hk
    go_enter Try.func73, Try.ntmps73
    go_wp2_with fail
    refine (specBall_any r way _).mono ?_
    rintro e w1 ⟨v1, rfl, o1, b1⟩
    obtain ⟨A1, c1, rfl, _, _⟩ := o1.reads.slice
    go_wp2_with fail
    refine (specSum_any ps (ballL r way) _ _ _ (h.kept b1) o1.reads).mono ?_
    rintro e w2 ⟨v2, rfl, o2, b2⟩
    go_wp2
    go_ret2
    exact ⟨_, rfl, o2.base b1.size, below_step b1 b2⟩
end Go.Proofs.Ytdfpgfnfoippmaa
