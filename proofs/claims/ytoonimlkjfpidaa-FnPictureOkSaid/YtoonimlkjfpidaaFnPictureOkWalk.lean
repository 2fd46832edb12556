/- The law of PictureOk over drawn pictures, as a call: it returns true and leaves old memory as it was. -/
import Derived.Test.YtoonimlkjfpidaaDraws1
import Derived.Test.YtoonimlkjfpidaaSpicWalk
import Derived.Test.YtoonimlkjfpidaaHas2
namespace Go.Proofs.Ytoonimlkjfpidaa
open Go.RowKit Go.Sort

theorem pic_take {ps : List Sp} (h : Pic ps) (k : Nat) : Pic (ps.take k) :=
  ⟨Nat.le_trans (List.length_take_le' _ _) h.1, fun a ha => h.2.1 a (List.mem_of_mem_take ha), sorted_take h.2.2 k⟩

set_option maxHeartbeats 800000 in
theorem fnPictureOk_any (A : Option Addr) (n c : Nat) (w : World) (hb : Bytes w w.heap.size A n) (hn : n ≤ c) (hc : c ≤ 9223372036854775807) :
    Calls Try.prog 3 #[.slice A n c] w (Gives (.bool true) w) := by
  by_cases hbig : 1048576 < n
  · go_enter Try.func3, Try.ntmps3
    go_wp2
    go_ret
    exact ⟨rfl, Below.refl _ _⟩
  · go_enter Try.func3, Try.ntmps3
    go_wp2_with fail
    refine (drawPictureOk_any A n c _ hb hn hc).mono ?_
    rintro e w1 ⟨v, ps, rfl, D⟩
    have b1 := D.below
    have r1 := D.own.reads
    have hl := D.len
    obtain ⟨A', c', rfl, hc', hm'⟩ := r1.slice
    unfold maxLen at hm'
    go_wp2_with fail
    rcases hp : picB ps with _ | _
    · refine (gives_is hp (implPicture_any ps _ _ r1)).mono ?_
      rintro e w2 ⟨rfl, b2⟩
      have r2 := r1.kept b2
      go_wp2_with fail
      refine (gives_is hp (specPicture_any ps _ _ r2)).mono ?_
      rintro e w3 ⟨rfl, b3⟩
      clear hp
      go_wp2_with fail
      have lx := litB w3 [] #[] rfl (by simp)
      have bx1 : Below w3.heap.size w3 (w3.alloc (.cells #[] 27)) := (Below.refl _ _).alloc (Nat.le_refl _) _
      refine (gives_is (show picB [] = true by decide) (implPicture_any [] _ _ lx.reads)).mono ?_
      rintro e w4 ⟨rfl, b4⟩
      go_wp2_with fail
      have ly := litB w4 [(30, -30)] #[.int .i64 30, .int .i64 (-30)] rfl (by simp)
      have bx2 : Below w4.heap.size w4 (w4.alloc (.cells #[.int .i64 30, .int .i64 (-30)] 27)) := (Below.refl _ _).alloc (Nat.le_refl _) _
      refine (gives_is (show picB [(30, -30)] = true by decide) (implPicture_any [(30, -30)] _ _ ly.reads)).mono ?_
      rintro e w5 ⟨rfl, b5⟩
      go_wp2_with fail
      refine (alive_any _).mono ?_
      rintro e w6 ⟨rfl, b6⟩
      go_wp2
      go_ret
      exact ⟨rfl, below_step (below_step (below_step (below_step (below_step b1 b2) b3) (below_step bx1 b4)) (below_step bx2 b5)) b6⟩
    · refine (gives_is hp (implPicture_any ps _ _ r1)).mono ?_
      rintro e w2 ⟨rfl, b2⟩
      have r2 := r1.kept b2
      go_wp2_with fail
      refine (gives_is hp (specPicture_any ps _ _ r2)).mono ?_
      rintro e w3 ⟨rfl, b3⟩
      have r3 := r2.kept b3
      have hpic := picB_pic hp
      clear hp
      go_wp2_with fail
      have lx := litB w3 [] #[] rfl (by simp)
      have bx1 : Below w3.heap.size w3 (w3.alloc (.cells #[] 27)) := (Below.refl _ _).alloc (Nat.le_refl _) _
      refine (gives_is (show picB [] = true by decide) (implPicture_any [] _ _ lx.reads)).mono ?_
      rintro e w4 ⟨rfl, b4⟩
      go_wp2_with fail
      have ly := litB w4 [(30, -30)] #[.int .i64 30, .int .i64 (-30)] rfl (by simp)
      have bx2 : Below w4.heap.size w4 (w4.alloc (.cells #[.int .i64 30, .int .i64 (-30)] 27)) := (Below.refl _ _).alloc (Nat.le_refl _) _
      refine (gives_is (show picB [(30, -30)] = true by decide) (implPicture_any [(30, -30)] _ _ ly.reads)).mono ?_
      rintro e w5 ⟨rfl, b5⟩
      have bq := below_step (below_step (below_step (below_step (below_step b1 b2) b3) (below_step bx1 b4)) bx2) b5
      have r5 := (r3.kept (below_step (below_step (below_step bx1 b4) bx2) b5))
      by_cases h0 : ps.length = 0
      · have e0 : ((ps.length : Int) == 0) = true := by rw [beq_iff_eq]; omega
        go_wp2_with fail
        refine (alive_any _).mono ?_
        rintro e w6 ⟨rfl, b6⟩
        go_wp2
        go_ret
        exact ⟨rfl, below_step bq b6⟩
      · have e0 : ((ps.length : Int) == 0) = false := beq_eq_false_iff_ne.2 (by omega)
        have rt := r5.take (k := ps.length - 1) (by omega)
        have ht : picB (ps.take (ps.length - 1)) = true := decide_eq_true (pic_take hpic _)
        go_wp2_with fail
        refine (gives_is ht (implPicture_any _ _ _ rt)).mono ?_
        rintro e w6 ⟨rfl, b6⟩
        clear ht
        go_wp2_with fail
        refine (alive_any _).mono ?_
        rintro e w7 ⟨rfl, b7⟩
        go_wp2
        go_ret
        exact ⟨rfl, below_step (below_step bq b6) b7⟩
end Go.Proofs.Ytoonimlkjfpidaa
