/- Texts of one kind, merged: FarS, BallT. No conditions but those that stand in each theorem. -/
import Derived.Test.YtkiidmdgdjphjaaGreatPlain
import Derived.Test.YtkiidmdgdjphjaaGreatSpots
import Derived.IntWalk
import Derived.Laws.Cover1
import Derived.Test.YtkiidmdgdjphjaaGreatSumS
import Derived.Test.YtkiidmdgdjphjaaGreatPicWalk
import Derived.Test.YtkiidmdgdjphjaaGreatMove
namespace Go.Proofs.YtkiidmdgdjphjaaGreat
/-! ### FarS -/
section
open Go.RowKit Go.Sort

theorem absI_is (x y : Int) : absI (x - y) = max (x - y) (y - x) := by unfold absI; split <;> omega
theorem maxI_is (x y : Int) : maxI x y = max x y := by unfold maxI; split <;> omega
theorem farI_0 (x y u v : Int) : farI (x, y) (u, v) 0 = max (x - u) (u - x) + max (y - v) (v - y) := by
  unfold farI; rw [if_pos rfl, absI_is, absI_is]
theorem farI_1 (x y u v : Int) : farI (x, y) (u, v) 1 = max (max (x - u) (u - x)) (max (y - v) (v - y)) := by
  unfold farI; rw [if_neg (by decide), if_pos rfl, absI_is, absI_is, maxI_is]
theorem farI_2 (x y u v : Int) {way : Int} (h0 : ¬ way = 0) (h1 : ¬ way = 1) : farI (x, y) (u, v) way = max (max (max (x - u) (u - x)) (max (y - v) (v - y))) ((2 * (max (x - u) (u - x) + max (y - v) (v - y)) + 2) / 3) := by
  unfold farI; rw [if_neg h0, if_neg h1, absI_is, absI_is, maxI_is, maxI_is]
set_option maxHeartbeats 800000 in
theorem l4Far_any (x y u v way : Int) (w : World) (h : -1000 ≤ x ∧ x ≤ 1000 ∧ -1000 ≤ y ∧ y ≤ 1000) (k : -1000 ≤ u ∧ u ≤ 1000 ∧ -1000 ≤ v ∧ v ≤ 1000) :
    Calls Tryz.prog 71 #[.agg #[.int .i64 x, .int .i64 y], .agg #[.int .i64 u, .int .i64 v], .int .i64 way] w (Gives (.int .i64 (farI (x, y) (u, v) way)) w) := by
  obtain ⟨h1, h2, h3, h4⟩ := h
  obtain ⟨k1, k2, k3, k4⟩ := k
  by_cases w0 : way = 0
  · subst w0
    rw [farI_0]
    go_enter Tryz.func71, Tryz.ntmps71
    go_wp2
    all_goals go_ret
    all_goals exact ⟨ret_int (by omega), ((Below.refl _ _).alloc (Nat.le_refl _) _).alloc (by simp) _⟩
  by_cases w1 : way = 1
  · subst w1
    rw [farI_1]
    go_enter Tryz.func71, Tryz.ntmps71
    go_wp2
    all_goals go_ret
    all_goals exact ⟨ret_int (by omega), ((Below.refl _ _).alloc (Nat.le_refl _) _).alloc (by simp) _⟩
  · rw [farI_2 x y u v w0 w1]
    have b0 : (way == 0) = false := beq_eq_false_iff_ne.2 w0
    have b1 : (way == 1) = false := beq_eq_false_iff_ne.2 w1
    clear w0 w1
    go_enter Tryz.func71, Tryz.ntmps71
    go_wp2
    all_goals go_ret
    all_goals exact ⟨ret_int (by omega), ((Below.refl _ _).alloc (Nat.le_refl _) _).alloc (by simp) _⟩
end
/-! ### BallT -/
section
/-! ### BallS -/
section
open Go.RowKit Go.Sort

/-- DistanceOf of the model: spots may be any -/
theorem l1In_is {n a b : Int} {c : Bool} {w : World} (h : decide (a ≤ n ∧ n ≤ b) = c) : Calls Tryz.prog 45 #[.int .i64 n, .int .i64 a, .int .i64 b] w (Gives (.bool c) w) := by
  subst h; exact l1In_any n a b w
theorem ballOk_no1 {r way : Int} (h : decide (0 ≤ r ∧ r ≤ 3) = false) : ballOk r way = false := by unfold ballOk; rw [h]; rfl
theorem ballOk_no2 {r way : Int} (h : wayOk way = false) : ballOk r way = false := by unfold ballOk; rw [h, Bool.and_false]
theorem ballOk_yes {r way : Int} (h : decide (0 ≤ r ∧ r ≤ 3) = true) (k : wayOk way = true) : ballOk r way = true := by unfold ballOk; rw [h, k]; rfl
def inBall (r way : Int) (a : Sp) : Bool := decide (farI a (0, 0) way ≤ r)
set_option maxHeartbeats 1600000 in
theorem specBall_any (r way : Int) (w : World) : Calls Tryz.prog 48 #[.int .i64 r, .int .i64 way] w fun e w' => ∃ v', e = .returned v' ∧ Owns w' w.heap.size v' (ballL r way) ∧ Below w.heap.size w w' := by
  have oE := Owns.empty w w.heap.size (Nat.le_refl _)
  have bE := (Below.refl w.heap.size w).alloc (Nat.le_refl _) (.cells #[] 53)
  have sE := bE.size
  rcases h1 : decide (0 ≤ r ∧ r ≤ 3) with _ | _
  · rw [ball_no (ballOk_no1 h1)]
    go_enter Tryz.func48, Tryz.ntmps48
    go_wp2_with fail
    refine (l1In_is (c := false) h1).mono ?_
    rintro e w1 ⟨rfl, b1⟩
    go_wp2
    go_ret
    exact ⟨_, rfl, oE.below b1, bE.trans (b1.mono sE)⟩
  rcases h2 : wayOk way with _ | _
  · rw [ball_no (ballOk_no2 h2)]
    have H2 := Lib.hid h2
    clear h2
    go_enter Tryz.func48, Tryz.ntmps48
    go_wp2_with fail
    refine (l1In_is (c := true) h1).mono ?_
    rintro e w1 ⟨rfl, b1⟩
    go_wp2_with fail
    refine (l1In_is (c := false) H2.out).mono ?_
    rintro e w2 ⟨rfl, b2⟩
    go_wp2
    go_ret
    exact ⟨_, rfl, (oE.below b1).below b2, bE.trans ((below_step b1 b2).mono sE)⟩
  · rw [ball_yes (ballOk_yes h1 h2)]
    have hr := of_decide_eq_true h1
    obtain ⟨hr0, hr3⟩ := hr
    have HG : betw (fun a => decide (farI a (0, 0) way ≤ r)) (-r, -r) (r, r) = rowsB (inBall r way) (-r) (-r) (span (-r) r) (span (-r) r) := rfl
    rw [HG]
    clear HG
    have H2 := Lib.hid h2
    clear h2
    obtain ⟨n, hn⟩ : ∃ n, n = span (-r) r := ⟨_, rfl⟩
    have hn2 : n ≤ 201 := by rw [hn]; exact span_le (by omega) (by omega)
    have HN := Lib.hid hn
    rw [← hn]
    clear hn
    go_enter Tryz.func48, Tryz.ntmps48
    go_wp2_with fail
    refine (l1In_is (c := true) h1).mono ?_
    rintro e w1 ⟨rfl, b1⟩
    have o1 := oE.below b1
    have bb := bE.trans (b1.mono sE)
    clear h1 oE bE b1 sE
    go_wp2_with fail
    refine (l1In_is (c := true) H2.out).mono ?_
    rintro e w2 ⟨rfl, b2⟩
    have o2 := o1.below b2
    have bb := bb.trans (b2.mono bb.size)
    clear o1 b2
    go_wp2
    go_loopw [5, 6] (fun o i wr => ∃ y : Int, i = .int .i64 y ∧ -r ≤ y ∧ (y ≤ -r ∨ y ≤ r + 1) ∧ Owns wr w.heap.size o (rowsB (inBall r way) (-r) (-r) n (y - -r).toNat) ∧ Below w.heap.size w wr) (fun _ i _ => (r + 1 - intOf i).toNat)
    case atStart => exact ⟨-r, rfl, by omega, Or.inl (by omega), by rw [Int.sub_self]; exact o2, bb⟩
    case round =>
      clear o2 bb
      obtain ⟨y, rfl, hy1, hy2, hown, hbw⟩ := hrel
      by_cases hlt : y ≤ r
      · go_wp2
        go_loopw [5, 7] (fun o i wr' => ∃ x : Int, i = .int .i64 x ∧ -r ≤ x ∧ (x ≤ -r ∨ x ≤ r + 1) ∧ Owns wr' w.heap.size o (rowsB (inBall r way) (-r) (-r) n (y - -r).toNat ++ rowB (inBall r way) (-r) y (x - -r).toNat) ∧ Below w.heap.size w wr') (fun _ i _ => (r + 1 - intOf i).toNat)
        case atStart => exact ⟨-r, rfl, by omega, Or.inl (by omega), by rw [Int.sub_self]; simpa [rowB_zero] using hown, hbw⟩
        case round =>
          clear hbw hown
          obtain ⟨x, rfl, hx1, hx2, hown, hbw⟩ := hrel
          have hbs := hbw.size
          by_cases hlx : x ≤ r
          · have hlen := length_part (inBall r way) (-r) (-r) y x n hn2 (by omega) (by omega)
            have hc := l4Far_any x y 0 0 way wr (by omega) (by omega)
            rcases hff : inBall r way (x, y) with _ | _
            · have HT := Lib.hid (row_no hx1 hff)
              have hle : ¬ farI (x, y) (0, 0) way ≤ r := of_decide_eq_false hff
              have hge : r < farI (x, y) (0, 0) way := by omega
              clear hff hle
              go_wp2_with fail
              refine hc.mono ?_
              rintro e w2 ⟨rfl, b2⟩
              have bw2 := hbw.trans (b2.mono hbs)
              have o2 := hown.below b2
              go_wp2
              go_roundw
              case rel => exact ⟨x + 1, rfl, by omega, Or.inr (by omega), by rw [← HT.out]; exact o2, bw2⟩
              case measure => simp [intOf]; omega
            · have HT := Lib.hid (row_yes hx1 hff)
              have hle : farI (x, y) (0, 0) way ≤ r := of_decide_eq_true hff
              clear hff
              go_wp2_with fail
              refine hc.mono ?_
              rintro e w2 ⟨rfl, b2⟩
              have bw2 := hbw.trans (b2.mono hbs)
              have o3 := (hown.below b2).below (box_below w2 #[.int .i64 x, .int .i64 y] 53)
              have s2 := bw2.size
              go_wp2_with (at_builtin; refine wpList_append_spots (qs := [(x, y)]) o3 (Reads.one (g := w2.heap.size) (by simp [go_sem]) (by simp [go_sem])) (by simp only [List.length_cons, List.length_nil]; omega) (by simp only [World.size_alloc]; omega) rfl (.tmp 40) (.tmp 44) rfl rfl rfl ?_)
              intro v4 w4 o4 g4 hv4
              have bw4 := o3.below_app (bw2.alloc s2 _) (by simp only [World.size_alloc]; omega) g4
              go_wp2
              go_roundw
              case rel => exact ⟨x + 1, rfl, by omega, Or.inr (by omega), by rw [← HT.out]; simpa only [Int.sub_neg, List.append_assoc] using o4, bw4⟩
              case measure => simp [intOf]; omega
          · have HE := Lib.hid (span_end (show r < x by omega) hx2 hx1)
            have HR := Lib.hid (rows_next (f := inBall r way) (x := -r) (n := n) hy1)
            rw [HE.out, ← HN.out, HR.out] at hown
            go_wp2
            go_roundw
            case rel => exact ⟨y + 1, rfl, by omega, Or.inr (by omega), hown, hbw⟩
            case measure => simp [intOf]; omega
      · have HE := Lib.hid (span_end (show r < y by omega) hy2 hy1)
        rw [HE.out, ← HN.out] at hown
        go_wp2
        go_ret
        exact ⟨_, rfl, hown, hbw⟩

theorem farFromI_nopic {p : List Sp} {a : Sp} {way : Int} (h : picB p = false) : farFromI p a way = -1 := by unfold farFromI; rw [h]; rfl
theorem farFromI_pic {p : List Sp} {a : Sp} {way : Int} (h : picB p = true) : farFromI p a way = farFromF a way (-1) p := by unfold farFromI; rw [h]; rfl
theorem distI_le {a b : Sp} {way : Int} : distI a b way ≤ 1000 := by
  rcases dist_cases a b way with ⟨h, e⟩ | ⟨_, e⟩ <;> rw [e]
  · have k := distOk_iff.1 h
    have h1 := picB_one.1 k.pa
    have h2 := picB_one.1 k.pb
    unfold InR at h1 h2
    have := farI_le a b way (n := 60) (by unfold absI; split <;> omega) (by unfold absI; split <;> omega)
    omega
  · omega
theorem distI_ge (a b : Sp) (way : Int) : -1 ≤ distI a b way := by
  rcases dist_cases a b way with ⟨_, e⟩ | ⟨_, e⟩ <;> rw [e]
  · have := farI_nonneg a b way; omega
  · omega
theorem nearer_yes1 {best d : Int} (h : best < 0) : nearer best d = d := by unfold nearer; rw [if_pos (Or.inl h)]
theorem nearer_yes2 {best d : Int} (h : d < best) : nearer best d = d := by unfold nearer; rw [if_pos (Or.inr h)]
theorem nearer_no {best d : Int} (h : 0 ≤ best) (k : best ≤ d) : nearer best d = best := by unfold nearer; rw [if_neg (by omega)]
end
/-! ### BallT -/
section
open Go.RowKit Go.Sort

def countI (r way : Int) : Int := if ballOk r way then ((ballL r way).length : Int) else -1
theorem count_no {r way : Int} (h : ballOk r way = false) : countI r way = -1 := by unfold countI; rw [h]; rfl
theorem count_yes {r way : Int} (h : ballOk r way = true) : countI r way = ((ballL r way).length : Int) := by unfold countI; rw [h]; rfl
theorem ball_pos {r way : Int} (h : ballOk r way = true) : 0 < (ballL r way).length := by
  refine List.length_pos_iff.2 fun e => ?_
  rw [ball_nil.1 e] at h; cases h
theorem ball_len (r way : Int) : (ballL r way).length ≤ 60 := (picB_pic (picB_ball (r := r) (way := way))).1
theorem specSum_lit {b : Bool} {p q : List Sp} {v u : Value} {w : World} (hk : sumOk p q = b) (h : Reads w w.heap.size v p) (k : Reads w w.heap.size u q) : Calls Tryz.prog 69 #[v, u] w (Gives2' (sumR p q) b w) := by
  subst hk; exact specSum_any p q v u w h k
theorem specGrown_any (ps : List Sp) (v : Value) (r way : Int) (w : World) (h : Reads w w.heap.size v ps) :
    Calls Tryz.prog 46 #[v, .int .i64 r, .int .i64 way] w (Gives2' (grownBallR ps r way) (grownBallOk ps r way) w) := by
  obtain ⟨A, c, rfl, _, _⟩ := h.slice
  rcases hk : ballOk r way with _ | _
  · obtain ⟨e1, e2⟩ := grownBall_no (p := ps) hk
    rw [e1, e2]
    go_enter Tryz.func46, Tryz.ntmps46
    go_wp2_with fail
    refine (specBall_any r way _).mono ?_
    rintro e w1 ⟨v1, rfl, o1, b1⟩
    rw [ball_no hk] at o1
    clear e1 e2 hk
    obtain ⟨A1, c1, rfl, _, _⟩ := o1.reads.slice
    have hle := b1.size
    go_wp2
    go_ret2
    exact ⟨_, rfl, Owns.empty _ _ hle, b1.alloc hle _⟩
  · obtain ⟨e1, e2⟩ := grownBall_yes (p := ps) hk
    rw [e1, e2]
    have hpos := ball_pos hk
    have hpb : (((ballL r way).length : Int) == 0) = false := by rw [beq_eq_false_iff_ne]; omega
    clear e1 e2 hk
    go_enter Tryz.func46, Tryz.ntmps46
    go_wp2_with fail
    refine (specBall_any r way _).mono ?_
    rintro e w1 ⟨v1, rfl, o1, b1⟩
    obtain ⟨A1, c1, rfl, _, _⟩ := o1.reads.slice
    go_wp2_with fail
    refine (specSum_any ps (ballL r way) _ _ _ (h.kept b1) o1.reads).mono ?_
    rintro e w2 ⟨v2, rfl, o2, b2⟩
    go_wp2
    go_ret2
    exact ⟨_, rfl, o2.base b1.size, below_step b1 b2⟩
end
end
end Go.Proofs.YtkiidmdgdjphjaaGreat
