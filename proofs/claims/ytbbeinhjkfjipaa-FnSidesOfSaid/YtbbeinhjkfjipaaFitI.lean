/- The program's rule whether one picture, moved by a spot, is within another one: fitRule, its two closures, IndexFunc and ContainsFunc with it. No conditions but those typed. -/
import Derived.Test.YtbbeinhjkfjipaaHas2
import Derived.Test.YtbbeinhjkfjipaaMove
import Derived.Test.YtbbeinhjkfjipaaPlain
namespace Go.Proofs.Ytbbeinhjkfjipaa
open Go.RowKit Go.Sort

theorem inPicture_is {b : Bool} {ps : List Sp} {v : Value} {ax ay : Int} {w : World} (hk : inP ps (ax, ay) = b) (h : Reads w w.heap.size v ps) (hs : Sorted ps) (hl : ps.length ≤ 1000000) :
    Calls Try.prog 60 #[v, .agg #[.int .i64 ax, .int .i64 ay]] w (Gives (.bool b) w) := by
  subst hk; exact inPicture_any ps v ax ay w h hs hl

def IdxPost (ps qs : List Sp) (a : Sp) (w : World) (e : Ending) (w' : World) : Prop := ∃ i : Int, e = .returned (.int .i64 i) ∧ decide (0 ≤ i) = (!fitAt ps qs a) ∧ Below w.heap.size w w'
end Go.Proofs.Ytbbeinhjkfjipaa
