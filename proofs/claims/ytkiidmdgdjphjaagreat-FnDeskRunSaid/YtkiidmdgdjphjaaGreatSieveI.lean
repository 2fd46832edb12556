/- The program's squares, and what is left of a picture by one of them: SquareOf, SievedBy and the methods behind them. No conditions but those typed. -/
import Derived.Test.YtkiidmdgdjphjaaGreatBetwI
import Derived.Test.YtkiidmdgdjphjaaGreatShrinkI
import Derived.Test.YtkiidmdgdjphjaaGreatPlain
import Derived.Test.YtkiidmdgdjphjaaGreatParts
namespace Go.Proofs.YtkiidmdgdjphjaaGreat
open Go.RowKit Go.Sort

theorem squareRule_any (x y : Int) (w : World) : Calls Tryz.prog 124 #[.agg #[.int .i64 x, .int .i64 y]] w (Gives (.bool true) w) := by
  go_enter Tryz.func124, Tryz.ntmps124
  go_wp2
  go_ret
  exact ⟨rfl, box_below _ _ _⟩
set_option maxRecDepth 100000 in
theorem square_any (s : Int) (w : World) : Calls Tryz.prog 104 #[.int .i64 s] w (GivesOwn (squareR s) w) := by
  rcases h : sizeOk s with _ | _
  · rw [square_no h]
    have h' : ¬ (1 ≤ s ∧ s ≤ 5) := of_decide_eq_false h
    clear h
    by_cases h1 : s < 1
    · go_enter Tryz.func104, Tryz.ntmps104
      go_wp2
      go_ret
      exact ⟨_, rfl, Owns.nil _ _, Below.refl _ _⟩
    · have h5 : 5 < s := by omega
      clear h'
      go_enter Tryz.func104, Tryz.ntmps104
      go_wp2
      go_ret
      exact ⟨_, rfl, Owns.nil _ _, Below.refl _ _⟩
  · obtain ⟨h1, h2⟩ := size_is h
    have HS := Lib.hid (show squareR s = betw (fun _ => true) (0, 0) (s - 1, s - 1) by unfold squareR; rw [h, if_pos rfl])
    clear h
    go_enter Tryz.func104, Tryz.ntmps104
    go_wp2_with fail
    refine (betwSquare_any (fun _ => true) 0 0 (s - 1) (s - 1) w (by omega) (by omega) (by omega) (by omega) (by omega) (by omega) (by omega) (by omega) (fun x y w1 _ _ _ _ _ => squareRule_any x y w1)).mono ?_
    rintro e w1 ⟨v1, rfl, o1, b1⟩
    rw [← HS.out] at o1
    go_wp2
    go_ret
    exact ⟨_, rfl, o1, b1⟩
set_option maxRecDepth 100000 in
theorem sieve_any (ps : List Sp) (v : Value) (s : Int) (w : World) (h : Reads w w.heap.size v ps) : Calls Tryz.prog 87 #[.int .i64 s, v] w (Gives2' (sieveR ps s) (sieveOk ps s) w) := by
  obtain ⟨e1, e2⟩ := sieve_is ps s
  rw [← e1, ← e2]
  clear e1 e2
  go_enter Tryz.func87, Tryz.ntmps87
  go_wp2_with fail
  refine (square_any s w).mono ?_
  rintro e w1 ⟨v1, rfl, o1, b1⟩
  go_wp2_with fail
  refine (implShrunkGrown_any ps (squareR s) v v1 w1 (h.kept b1) o1.reads).mono ?_
  rintro e w2 ⟨v2, rfl, o2, b2⟩
  go_wp2
  go_ret2
  exact ⟨_, rfl, o2.base b1.size, below_step b1 b2⟩
set_option maxRecDepth 100000 in
theorem implSieved_any (ps : List Sp) (v : Value) (s : Int) (w : World) (h : Reads w w.heap.size v ps) : Calls Tryz.prog 65 #[v, .int .i64 s] w (Gives2' (sieveR ps s) (sieveOk ps s) w) := by
  go_enter Tryz.func65, Tryz.ntmps65
  go_wp2_with fail
  refine (sieve_any ps v s w h).mono ?_
  rintro e w1 ⟨v1, rfl, o1, b1⟩
  go_wp2
  go_ret2
  exact ⟨_, rfl, o1, b1⟩
end Go.Proofs.YtkiidmdgdjphjaaGreat
