/- The program's squares, and what is left of a picture by one of them: SquareOf, SievedBy and the methods behind them. No conditions but those typed. -/
import Derived.Test.YtbbeinhjkfjipaaBetwI
import Derived.Test.YtbbeinhjkfjipaaShrinkI
import Derived.Test.YtbbeinhjkfjipaaPlain
import Derived.Test.YtbbeinhjkfjipaaOnes
namespace Go.Proofs.Ytbbeinhjkfjipaa
open Go.RowKit Go.Sort

theorem squareRule_any (x y : Int) (w : World) : Calls Try.prog 79 #[.agg #[.int .i64 x, .int .i64 y]] w (Gives (.bool true) w) := by
  go_enter Try.func79, Try.ntmps79
  go_wp2
  go_ret
  exact ⟨rfl, box_below _ _ _⟩
set_option maxRecDepth 100000 in
theorem square_any (s : Int) (w : World) : Calls Try.prog 49 #[.int .i64 s] w (GivesOwn (squareR s) w) := by
  rcases h : sizeOk s with _ | _
  · rw [square_no h]
    have h' : ¬ (1 ≤ s ∧ s ≤ 5) := of_decide_eq_false h
    clear h
    by_cases h1 : s < 1
    · go_enter Try.func49, Try.ntmps49
      go_wp2
      go_ret
      exact ⟨_, rfl, Owns.nil _ _, Below.refl _ _⟩
    · have h5 : 5 < s := by omega
      clear h'
      go_enter Try.func49, Try.ntmps49
      go_wp2
      go_ret
      exact ⟨_, rfl, Owns.nil _ _, Below.refl _ _⟩
  · obtain ⟨h1, h2⟩ := size_is h
    have HS := Lib.hid (show squareR s = betw (fun _ => true) (0, 0) (s - 1, s - 1) by unfold squareR; rw [h, if_pos rfl])
    clear h
    go_enter Try.func49, Try.ntmps49
    go_wp2_with fail
    refine (betwSquare_any (fun _ => true) 0 0 (s - 1) (s - 1) w (by omega) (by omega) (by omega) (by omega) (by omega) (by omega) (by omega) (by omega) (fun x y w1 _ _ _ _ _ => squareRule_any x y w1)).mono ?_
    rintro e w1 ⟨v1, rfl, o1, b1⟩
    rw [← HS.out] at o1
    go_wp2
    go_ret
    exact ⟨_, rfl, o1, b1⟩
set_option maxRecDepth 100000 in
theorem implSquare_any (s : Int) (w : World) : Calls Try.prog 18 #[.int .i64 s] w (GivesOwn (squareR s) w) := by
  go_enter Try.func18, Try.ntmps18
  go_wp2_with fail
  refine (square_any s w).mono ?_
  rintro e w1 ⟨v1, rfl, o1, b1⟩
  go_wp2
  go_ret
  exact ⟨_, rfl, o1, b1⟩
end Go.Proofs.Ytbbeinhjkfjipaa
