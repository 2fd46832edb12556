/- GrownBall and CountBall of the model. No conditions but those typed. -/
import Derived.Test.YtmpfhdcefilekaaBallS
import Derived.Test.YtmpfhdcefilekaaSumS
import Derived.Test.YtmpfhdcefilekaaMove
namespace Go.Proofs.Ytmpfhdcefilekaa
open Go.RowKit Go.Sort

def countI (r way : Int) : Int := if ballOk r way then ((ballL r way).length : Int) else -1
theorem count_no {r way : Int} (h : ballOk r way = false) : countI r way = -1 := by unfold countI; rw [h]; rfl
theorem count_yes {r way : Int} (h : ballOk r way = true) : countI r way = ((ballL r way).length : Int) := by unfold countI; rw [h]; rfl
theorem ball_pos {r way : Int} (h : ballOk r way = true) : 0 < (ballL r way).length := by
  refine List.length_pos_iff.2 fun e => ?_
  rw [ball_nil.1 e] at h; cases h
theorem ball_len (r way : Int) : (ballL r way).length ≤ 60 := (picB_pic (picB_ball (r := r) (way := way))).1
end Go.Proofs.Ytmpfhdcefilekaa
