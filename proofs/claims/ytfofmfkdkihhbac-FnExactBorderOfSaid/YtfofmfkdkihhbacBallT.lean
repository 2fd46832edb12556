/- Texts of one kind, merged: BallS, BallT. No conditions but those that stand in each theorem. -/
import Derived.Test.YtfofmfkdkihhbacPlain
import Derived.Test.YtfofmfkdkihhbacFarS
import Derived.Test.YtfofmfkdkihhbacSumS
import Derived.Test.YtfofmfkdkihhbacPicWalk
import Derived.Test.YtfofmfkdkihhbacDraws1
import Derived.Test.YtfofmfkdkihhbacMove
namespace Go.Proofs.Ytfofmfkdkihhbac
/-! ### BallS -/
section
open Go.RowKit Go.Sort

/-- DistanceOf of the model: spots may be any -/
theorem l1In_is {n a b : Int} {c : Bool} {w : World} (h : decide (a ≤ n ∧ n ≤ b) = c) : Calls Try.prog 64 #[.int .i64 n, .int .i64 a, .int .i64 b] w (Gives (.bool c) w) := by
  subst h; exact l1In_any n a b w
theorem ballOk_no1 {r way : Int} (h : decide (0 ≤ r ∧ r ≤ 3) = false) : ballOk r way = false := by unfold ballOk; rw [h]; rfl
theorem ballOk_no2 {r way : Int} (h : wayOk way = false) : ballOk r way = false := by unfold ballOk; rw [h, Bool.and_false]
theorem ballOk_yes {r way : Int} (h : decide (0 ≤ r ∧ r ≤ 3) = true) (k : wayOk way = true) : ballOk r way = true := by unfold ballOk; rw [h, k]; rfl
def inBall (r way : Int) (a : Sp) : Bool := decide (farI a (0, 0) way ≤ r)
theorem farFromI_nopic {p : List Sp} {a : Sp} {way : Int} (h : picB p = false) : farFromI p a way = -1 := by unfold farFromI; rw [h]; rfl
theorem farFromI_pic {p : List Sp} {a : Sp} {way : Int} (h : picB p = true) : farFromI p a way = farFromF a way (-1) p := by unfold farFromI; rw [h]; rfl
theorem distI_le {a b : Sp} {way : Int} : distI a b way ≤ 1000 := by
  rcases dist_cases a b way with ⟨h, e⟩ | ⟨_, e⟩ <;> rw [e]
  · have k := distOk_iff.1 h
    have h1 := picB_one.1 k.pa
    have h2 := picB_one.1 k.pb
    unfold InR at h1 h2
    have := farI_le a b way (n := 60) (by unfold absI; split <;> omega) (by unfold absI; split <;> omega)
    omega
  · omega
theorem distI_ge (a b : Sp) (way : Int) : -1 ≤ distI a b way := by
  rcases dist_cases a b way with ⟨_, e⟩ | ⟨_, e⟩ <;> rw [e]
  · have := farI_nonneg a b way; omega
  · omega
theorem nearer_yes1 {best d : Int} (h : best < 0) : nearer best d = d := by unfold nearer; rw [if_pos (Or.inl h)]
theorem nearer_yes2 {best d : Int} (h : d < best) : nearer best d = d := by unfold nearer; rw [if_pos (Or.inr h)]
theorem nearer_no {best d : Int} (h : 0 ≤ best) (k : best ≤ d) : nearer best d = best := by unfold nearer; rw [if_neg (by omega)]
end
/-! ### BallT -/
section
open Go.RowKit Go.Sort

def countI (r way : Int) : Int := if ballOk r way then ((ballL r way).length : Int) else -1
theorem count_no {r way : Int} (h : ballOk r way = false) : countI r way = -1 := by unfold countI; rw [h]; rfl
theorem count_yes {r way : Int} (h : ballOk r way = true) : countI r way = ((ballL r way).length : Int) := by unfold countI; rw [h]; rfl
theorem ball_pos {r way : Int} (h : ballOk r way = true) : 0 < (ballL r way).length := by
  refine List.length_pos_iff.2 fun e => ?_
  rw [ball_nil.1 e] at h; cases h
theorem ball_len (r way : Int) : (ballL r way).length ≤ 60 := (picB_pic (picB_ball (r := r) (way := way))).1
end
end Go.Proofs.Ytfofmfkdkihhbac
