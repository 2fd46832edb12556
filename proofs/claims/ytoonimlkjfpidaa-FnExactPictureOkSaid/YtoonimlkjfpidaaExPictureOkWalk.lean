/- The exact law of PictureOk, as a call: it returns true and leaves old memory as it was. -/
import Derived.Test.YtoonimlkjfpidaaCopy
import Derived.Test.YtoonimlkjfpidaaSpicWalk
namespace Go.Proofs.Ytoonimlkjfpidaa
open Go.RowKit Go.Sort

set_option maxHeartbeats 400000 in
theorem exPictureOk_any (ps : List Sp) (v : Value) (w : World) (h : Reads w w.heap.size v ps) : Calls Try.prog 10 #[v] w (Gives (.bool true) w) := by
  obtain ⟨A, c, rfl, hc, hm⟩ := h.slice
  unfold maxLen at hm
  by_cases hl : 1048576 < ps.length
  · go_enter Try.func10, Try.ntmps10
    go_wp2_with fail
    refine (szSpotS_yes ps.length c A 1048576 _ (by omega) (by omega) (by omega) (by omega)).mono ?_
    rintro e w1 ⟨rfl, b1⟩
    go_wp2
    go_ret
    exact ⟨rfl, b1⟩
  · go_enter Try.func10, Try.ntmps10
    go_wp2_with fail
    refine (szSpotS_no ps.length c A 1048576 _ (by omega) (by omega) (by omega) (by omega)).mono ?_
    rintro e w1 ⟨rfl, b1⟩
    have r1 := h.kept b1
    go_wp2_with fail
    refine (toSpotS_any ps _ _ r1 (by omega)).mono ?_
    rintro e w2 ⟨v2, rfl, o2, b2⟩
    have r2 := r1.kept b2
    go_wp2_with fail
    refine (specPicture_any ps _ _ o2.reads).mono ?_
    rintro e w3 ⟨rfl, b3⟩
    have r3 := r2.kept b3
    go_wp2_with fail
    refine (toSpotS_any ps _ _ r3 (by omega)).mono ?_
    rintro e w4 ⟨v4, rfl, o4, b4⟩
    have r4 := r3.kept b4
    go_wp2_with fail
    refine (implPicture_any ps _ _ o4.reads).mono ?_
    rintro e w5 ⟨rfl, b5⟩
    have r5 := r4.kept b5
    have o5 := o4.below b5
    go_wp2_with fail
    go_ways
    refine (toSpotS_any ps _ _ r5 (by omega)).mono ?_
    rintro e w6 ⟨v6, rfl, o6, b6⟩
    have o7 := o5.below b6
    go_wp2_with fail
    refine (eqSpotS_any ps ps _ _ _ o7.reads o6.reads).mono ?_
    rintro e w7 ⟨rfl, b7⟩
    go_wp2
    go_ret
    exact ⟨rfl, below_step (below_step (below_step (below_step (below_step (below_step b1 b2) b3) b4) b5) b6) b7⟩
end Go.Proofs.Ytoonimlkjfpidaa
