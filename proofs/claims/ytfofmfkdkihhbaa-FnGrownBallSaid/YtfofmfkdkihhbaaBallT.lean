/- Texts of one kind, merged: BallS, BallT. No conditions but those that stand in each theorem. -/
import Derived.Test.YtfofmfkdkihhbaaPlain
import Derived.Test.YtfofmfkdkihhbaaFarS
import Derived.Test.YtfofmfkdkihhbaaSumS
import Derived.Test.YtfofmfkdkihhbaaPicWalk
import Derived.Test.YtfofmfkdkihhbaaDraws1
import Derived.Test.YtfofmfkdkihhbaaMove
namespace Go.Proofs.Ytfofmfkdkihhbaa
/-! ### BallS -/
section
open Go.RowKit Go.Sort

/-- DistanceOf of the model: spots may be any -/
theorem l1In_is {n a b : Int} {c : Bool} {w : World} (h : decide (a ≤ n ∧ n ≤ b) = c) : Calls Try.prog 53 #[.int .i64 n, .int .i64 a, .int .i64 b] w (Gives (.bool c) w) := by
  subst h; exact l1In_any n a b w
set_option maxHeartbeats 1600000 in
theorem specDist_any (x y u v way : Int) (w : World) : Calls Try.prog 68 #[.agg #[.int .i64 x, .int .i64 y], .agg #[.int .i64 u, .int .i64 v], .int .i64 way] w (Gives (.int .i64 (distI (x, y) (u, v) way)) w) := by
  have b0 : Below w.heap.size w ((w.alloc (.cells #[.int .i64 x, .int .i64 y] 25)).alloc (.cells #[.int .i64 u, .int .i64 v] 25)) := (box_below w _ _).alloc (by simp) _
  obtain ⟨W, hW⟩ : ∃ W, W = (w.alloc (.cells #[.int .i64 x, .int .i64 y] 25)).alloc (.cells #[.int .i64 u, .int .i64 v] 25) := ⟨_, rfl⟩
  have q0 : W.cell? ⟨w.heap.size, 0, none⟩ = some (.int .i64 x) := by rw [hW]; simp [go_sem, World.cell?_alloc_past]
  have q1 : W.cell? ⟨w.heap.size, 1, none⟩ = some (.int .i64 y) := by rw [hW]; simp [go_sem, World.cell?_alloc_past]
  have q2 : W.cell? ⟨w.heap.size + 1, 0, none⟩ = some (.int .i64 u) := by rw [hW]; simp [go_sem]
  have q3 : W.cell? ⟨w.heap.size + 1, 1, none⟩ = some (.int .i64 v) := by rw [hW]; simp [go_sem]
  have s0 : w.heap.size < W.heap.size := by rw [hW]; simp; omega
  have s1 : w.heap.size + 1 < W.heap.size := by rw [hW]; simp
  rw [← hW] at b0
  have l1 := litB W [(x, y)] #[.int .i64 x, .int .i64 y] rfl (by simp)
  rcases h1 : picB [(x, y)] with _ | _
  · rw [dist_no1 h1]
    go_enter Try.func68, Try.ntmps68
    go_wp2_with (first | (rw [← hW]; clear hW) | fail)
    refine (gives_is h1 (specPicture_any [(x, y)] _ _ l1.reads)).mono ?_
    rintro e w1 ⟨rfl, b1⟩
    have b1 := below_step (box_below W #[.int .i64 x, .int .i64 y] 25) b1
    have q0 := (b1.cell (p := ⟨w.heap.size, 0, none⟩) s0).trans q0
    have q1 := (b1.cell (p := ⟨w.heap.size, 1, none⟩) s0).trans q1
    have q2 := (b1.cell (p := ⟨w.heap.size + 1, 0, none⟩) s1).trans q2
    have q3 := (b1.cell (p := ⟨w.heap.size + 1, 1, none⟩) s1).trans q3
    have s0 := Nat.lt_of_lt_of_le s0 b1.size
    have s1 := Nat.lt_of_lt_of_le s1 b1.size
    have bb := below_step b0 b1
    have l2 := litB w1 [(u, v)] #[.int .i64 u, .int .i64 v] rfl (by simp)
    clear l1
    go_wp2
    go_ret
    exact ⟨rfl, bb⟩
  rcases h2 : picB [(u, v)] with _ | _
  · rw [dist_no2 h2]
    have H2 := Lib.hid h2
    clear h2
    go_enter Try.func68, Try.ntmps68
    go_wp2_with (first | (rw [← hW]; clear hW) | fail)
    refine (gives_is h1 (specPicture_any [(x, y)] _ _ l1.reads)).mono ?_
    rintro e w1 ⟨rfl, b1⟩
    have b1 := below_step (box_below W #[.int .i64 x, .int .i64 y] 25) b1
    have q0 := (b1.cell (p := ⟨w.heap.size, 0, none⟩) s0).trans q0
    have q1 := (b1.cell (p := ⟨w.heap.size, 1, none⟩) s0).trans q1
    have q2 := (b1.cell (p := ⟨w.heap.size + 1, 0, none⟩) s1).trans q2
    have q3 := (b1.cell (p := ⟨w.heap.size + 1, 1, none⟩) s1).trans q3
    have s0 := Nat.lt_of_lt_of_le s0 b1.size
    have s1 := Nat.lt_of_lt_of_le s1 b1.size
    have bb := below_step b0 b1
    have l2 := litB w1 [(u, v)] #[.int .i64 u, .int .i64 v] rfl (by simp)
    clear l1
    clear h1
    have h2 := H2.out
    go_wp2_with fail
    refine (gives_is h2 (specPicture_any [(u, v)] _ _ l2.reads)).mono ?_
    rintro e w2 ⟨rfl, b2⟩
    have b2 := below_step (box_below w1 #[.int .i64 u, .int .i64 v] 25) b2
    have q0 := (b2.cell (p := ⟨w.heap.size, 0, none⟩) s0).trans q0
    have q1 := (b2.cell (p := ⟨w.heap.size, 1, none⟩) s0).trans q1
    have q2 := (b2.cell (p := ⟨w.heap.size + 1, 0, none⟩) s1).trans q2
    have q3 := (b2.cell (p := ⟨w.heap.size + 1, 1, none⟩) s1).trans q3
    have s0 := Nat.lt_of_lt_of_le s0 b2.size
    have s1 := Nat.lt_of_lt_of_le s1 b2.size
    have bb := below_step bb b2
    clear l2
    go_wp2
    go_ret
    exact ⟨rfl, bb⟩
  rcases h3 : wayOk way with _ | _
  · rw [dist_no3 h3]
    have H2 := Lib.hid h2
    have H3 := Lib.hid h3
    clear h2 h3
    go_enter Try.func68, Try.ntmps68
    go_wp2_with (first | (rw [← hW]; clear hW) | fail)
    refine (gives_is h1 (specPicture_any [(x, y)] _ _ l1.reads)).mono ?_
    rintro e w1 ⟨rfl, b1⟩
    have b1 := below_step (box_below W #[.int .i64 x, .int .i64 y] 25) b1
    have q0 := (b1.cell (p := ⟨w.heap.size, 0, none⟩) s0).trans q0
    have q1 := (b1.cell (p := ⟨w.heap.size, 1, none⟩) s0).trans q1
    have q2 := (b1.cell (p := ⟨w.heap.size + 1, 0, none⟩) s1).trans q2
    have q3 := (b1.cell (p := ⟨w.heap.size + 1, 1, none⟩) s1).trans q3
    have s0 := Nat.lt_of_lt_of_le s0 b1.size
    have s1 := Nat.lt_of_lt_of_le s1 b1.size
    have bb := below_step b0 b1
    have l2 := litB w1 [(u, v)] #[.int .i64 u, .int .i64 v] rfl (by simp)
    clear l1
    clear h1
    have h2 := H2.out
    go_wp2_with fail
    refine (gives_is h2 (specPicture_any [(u, v)] _ _ l2.reads)).mono ?_
    rintro e w2 ⟨rfl, b2⟩
    have b2 := below_step (box_below w1 #[.int .i64 u, .int .i64 v] 25) b2
    have q0 := (b2.cell (p := ⟨w.heap.size, 0, none⟩) s0).trans q0
    have q1 := (b2.cell (p := ⟨w.heap.size, 1, none⟩) s0).trans q1
    have q2 := (b2.cell (p := ⟨w.heap.size + 1, 0, none⟩) s1).trans q2
    have q3 := (b2.cell (p := ⟨w.heap.size + 1, 1, none⟩) s1).trans q3
    have s0 := Nat.lt_of_lt_of_le s0 b2.size
    have s1 := Nat.lt_of_lt_of_le s1 b2.size
    have bb := below_step bb b2
    clear l2
    clear h2
    go_wp2_with fail
    refine (l1In_is (c := false) H3.out).mono ?_
    rintro e w3 ⟨rfl, b3⟩
    go_wp2
    go_ret
    exact ⟨rfl, below_step bb b3⟩
  · rw [dist_yes h1 h2 h3]
    have n1 := picB_one.1 h1
    have n2 := picB_one.1 h2
    unfold InR at n1 n2
    simp only at n1 n2
    have H2 := Lib.hid h2
    have H3 := Lib.hid h3
    clear h2 h3
    go_enter Try.func68, Try.ntmps68
    go_wp2_with (first | (rw [← hW]; clear hW) | fail)
    refine (gives_is h1 (specPicture_any [(x, y)] _ _ l1.reads)).mono ?_
    rintro e w1 ⟨rfl, b1⟩
    have b1 := below_step (box_below W #[.int .i64 x, .int .i64 y] 25) b1
    have q0 := (b1.cell (p := ⟨w.heap.size, 0, none⟩) s0).trans q0
    have q1 := (b1.cell (p := ⟨w.heap.size, 1, none⟩) s0).trans q1
    have q2 := (b1.cell (p := ⟨w.heap.size + 1, 0, none⟩) s1).trans q2
    have q3 := (b1.cell (p := ⟨w.heap.size + 1, 1, none⟩) s1).trans q3
    have s0 := Nat.lt_of_lt_of_le s0 b1.size
    have s1 := Nat.lt_of_lt_of_le s1 b1.size
    have bb := below_step b0 b1
    have l2 := litB w1 [(u, v)] #[.int .i64 u, .int .i64 v] rfl (by simp)
    clear l1
    clear h1
    have h2 := H2.out
    go_wp2_with fail
    refine (gives_is h2 (specPicture_any [(u, v)] _ _ l2.reads)).mono ?_
    rintro e w2 ⟨rfl, b2⟩
    have b2 := below_step (box_below w1 #[.int .i64 u, .int .i64 v] 25) b2
    have q0 := (b2.cell (p := ⟨w.heap.size, 0, none⟩) s0).trans q0
    have q1 := (b2.cell (p := ⟨w.heap.size, 1, none⟩) s0).trans q1
    have q2 := (b2.cell (p := ⟨w.heap.size + 1, 0, none⟩) s1).trans q2
    have q3 := (b2.cell (p := ⟨w.heap.size + 1, 1, none⟩) s1).trans q3
    have s0 := Nat.lt_of_lt_of_le s0 b2.size
    have s1 := Nat.lt_of_lt_of_le s1 b2.size
    have bb := below_step bb b2
    clear l2
    clear h2
    go_wp2_with fail
    refine (l1In_is (c := true) H3.out).mono ?_
    rintro e w3 ⟨rfl, b3⟩
    have q0 := (b3.cell (p := ⟨w.heap.size, 0, none⟩) s0).trans q0
    have q1 := (b3.cell (p := ⟨w.heap.size, 1, none⟩) s0).trans q1
    have q2 := (b3.cell (p := ⟨w.heap.size + 1, 0, none⟩) s1).trans q2
    have q3 := (b3.cell (p := ⟨w.heap.size + 1, 1, none⟩) s1).trans q3
    have bb := below_step bb b3
    go_wp2_with fail
    refine (l4Far_any x y u v way _ (by omega) (by omega)).mono ?_
    rintro e w4 ⟨rfl, b4⟩
    go_wp2
    go_ret
    exact ⟨rfl, below_step bb b4⟩

theorem ballOk_no1 {r way : Int} (h : decide (0 ≤ r ∧ r ≤ 3) = false) : ballOk r way = false := by unfold ballOk; rw [h]; rfl
theorem ballOk_no2 {r way : Int} (h : wayOk way = false) : ballOk r way = false := by unfold ballOk; rw [h, Bool.and_false]
theorem ballOk_yes {r way : Int} (h : decide (0 ≤ r ∧ r ≤ 3) = true) (k : wayOk way = true) : ballOk r way = true := by unfold ballOk; rw [h, k]; rfl
def inBall (r way : Int) (a : Sp) : Bool := decide (farI a (0, 0) way ≤ r)
set_option maxHeartbeats 1600000 in
theorem specBall_any (r way : Int) (w : World) : Calls Try.prog 33 #[.int .i64 r, .int .i64 way] w fun e w' => ∃ v', e = .returned v' ∧ Owns w' w.heap.size v' (ballL r way) ∧ Below w.heap.size w w' := by
  have oE := Owns.empty w w.heap.size (Nat.le_refl _)
  have bE := (Below.refl w.heap.size w).alloc (Nat.le_refl _) (.cells #[] 25)
  have sE := bE.size
  rcases h1 : decide (0 ≤ r ∧ r ≤ 3) with _ | _
  · rw [ball_no (ballOk_no1 h1)]
    go_enter Try.func33, Try.ntmps33
    go_wp2_with fail
    refine (l1In_is (c := false) h1).mono ?_
    rintro e w1 ⟨rfl, b1⟩
    go_wp2
    go_ret
    exact ⟨_, rfl, oE.below b1, bE.trans (b1.mono sE)⟩
  rcases h2 : wayOk way with _ | _
  · rw [ball_no (ballOk_no2 h2)]
    have H2 := Lib.hid h2
    clear h2
    go_enter Try.func33, Try.ntmps33
    go_wp2_with fail
    refine (l1In_is (c := true) h1).mono ?_
    rintro e w1 ⟨rfl, b1⟩
    go_wp2_with fail
    refine (l1In_is (c := false) H2.out).mono ?_
    rintro e w2 ⟨rfl, b2⟩
    go_wp2
    go_ret
    exact ⟨_, rfl, (oE.below b1).below b2, bE.trans ((below_step b1 b2).mono sE)⟩
  · rw [ball_yes (ballOk_yes h1 h2)]
    have hr := of_decide_eq_true h1
    obtain ⟨hr0, hr3⟩ := hr
    have HG : betw (fun a => decide (farI a (0, 0) way ≤ r)) (-r, -r) (r, r) = rowsB (inBall r way) (-r) (-r) (span (-r) r) (span (-r) r) := rfl
    rw [HG]
    clear HG
    have H2 := Lib.hid h2
    clear h2
    obtain ⟨n, hn⟩ : ∃ n, n = span (-r) r := ⟨_, rfl⟩
    have hn2 : n ≤ 201 := by rw [hn]; exact span_le (by omega) (by omega)
    have HN := Lib.hid hn
    rw [← hn]
    clear hn
    go_enter Try.func33, Try.ntmps33
    go_wp2_with fail
    refine (l1In_is (c := true) h1).mono ?_
    rintro e w1 ⟨rfl, b1⟩
    have o1 := oE.below b1
    have bb := bE.trans (b1.mono sE)
    clear h1 oE bE b1 sE
    go_wp2_with fail
    refine (l1In_is (c := true) H2.out).mono ?_
    rintro e w2 ⟨rfl, b2⟩
    have o2 := o1.below b2
    have bb := bb.trans (b2.mono bb.size)
    clear o1 b2
    go_wp2
    go_loopw [5, 6] (fun o i wr => ∃ y : Int, i = .int .i64 y ∧ -r ≤ y ∧ (y ≤ -r ∨ y ≤ r + 1) ∧ Owns wr w.heap.size o (rowsB (inBall r way) (-r) (-r) n (y - -r).toNat) ∧ Below w.heap.size w wr) (fun _ i _ => (r + 1 - intOf i).toNat)
    case atStart => exact ⟨-r, rfl, by omega, Or.inl (by omega), by rw [Int.sub_self]; exact o2, bb⟩
    case round =>
      clear o2 bb
      obtain ⟨y, rfl, hy1, hy2, hown, hbw⟩ := hrel
      by_cases hlt : y ≤ r
      · go_wp2
        go_loopw [5, 7] (fun o i wr' => ∃ x : Int, i = .int .i64 x ∧ -r ≤ x ∧ (x ≤ -r ∨ x ≤ r + 1) ∧ Owns wr' w.heap.size o (rowsB (inBall r way) (-r) (-r) n (y - -r).toNat ++ rowB (inBall r way) (-r) y (x - -r).toNat) ∧ Below w.heap.size w wr') (fun _ i _ => (r + 1 - intOf i).toNat)
        case atStart => exact ⟨-r, rfl, by omega, Or.inl (by omega), by rw [Int.sub_self]; simpa [rowB_zero] using hown, hbw⟩
        case round =>
          clear hbw hown
          obtain ⟨x, rfl, hx1, hx2, hown, hbw⟩ := hrel
          have hbs := hbw.size
          by_cases hlx : x ≤ r
          · have hlen := length_part (inBall r way) (-r) (-r) y x n hn2 (by omega) (by omega)
            have hc := l4Far_any x y 0 0 way wr (by omega) (by omega)
            rcases hff : inBall r way (x, y) with _ | _
            · have HT := Lib.hid (row_no hx1 hff)
              have hle : ¬ farI (x, y) (0, 0) way ≤ r := of_decide_eq_false hff
              have hge : r < farI (x, y) (0, 0) way := by omega
              clear hff hle
              go_wp2_with fail
              refine hc.mono ?_
              rintro e w2 ⟨rfl, b2⟩
              have bw2 := hbw.trans (b2.mono hbs)
              have o2 := hown.below b2
              go_wp2
              go_roundw
              case rel => exact ⟨x + 1, rfl, by omega, Or.inr (by omega), by rw [← HT.out]; exact o2, bw2⟩
              case measure => simp [intOf]; omega
            · have HT := Lib.hid (row_yes hx1 hff)
              have hle : farI (x, y) (0, 0) way ≤ r := of_decide_eq_true hff
              clear hff
              go_wp2_with fail
              refine hc.mono ?_
              rintro e w2 ⟨rfl, b2⟩
              have bw2 := hbw.trans (b2.mono hbs)
              have o3 := (hown.below b2).below (box_below w2 #[.int .i64 x, .int .i64 y] 25)
              have s2 := bw2.size
              go_wp2_with (at_builtin; refine wpList_append_spots (qs := [(x, y)]) o3 (Reads.one (g := w2.heap.size) (by simp [go_sem]) (by simp [go_sem])) (by simp only [List.length_cons, List.length_nil]; omega) (by simp only [World.size_alloc]; omega) rfl (.tmp 40) (.tmp 44) rfl rfl rfl ?_)
              intro v4 w4 o4 g4 hv4
              have bw4 := o3.below_app (bw2.alloc s2 _) (by simp only [World.size_alloc]; omega) g4
              go_wp2
              go_roundw
              case rel => exact ⟨x + 1, rfl, by omega, Or.inr (by omega), by rw [← HT.out]; simpa only [Int.sub_neg, List.append_assoc] using o4, bw4⟩
              case measure => simp [intOf]; omega
          · have HE := Lib.hid (span_end (show r < x by omega) hx2 hx1)
            have HR := Lib.hid (rows_next (f := inBall r way) (x := -r) (n := n) hy1)
            rw [HE.out, ← HN.out, HR.out] at hown
            go_wp2
            go_roundw
            case rel => exact ⟨y + 1, rfl, by omega, Or.inr (by omega), hown, hbw⟩
            case measure => simp [intOf]; omega
      · have HE := Lib.hid (span_end (show r < y by omega) hy2 hy1)
        rw [HE.out, ← HN.out] at hown
        go_wp2
        go_ret
        exact ⟨_, rfl, hown, hbw⟩

theorem farFromI_nopic {p : List Sp} {a : Sp} {way : Int} (h : picB p = false) : farFromI p a way = -1 := by unfold farFromI; rw [h]; rfl
theorem farFromI_pic {p : List Sp} {a : Sp} {way : Int} (h : picB p = true) : farFromI p a way = farFromF a way (-1) p := by unfold farFromI; rw [h]; rfl
theorem distI_le {a b : Sp} {way : Int} : distI a b way ≤ 1000 := by
  rcases dist_cases a b way with ⟨h, e⟩ | ⟨_, e⟩ <;> rw [e]
  · have k := distOk_iff.1 h
    have h1 := picB_one.1 k.pa
    have h2 := picB_one.1 k.pb
    unfold InR at h1 h2
    have := farI_le a b way (n := 60) (by unfold absI; split <;> omega) (by unfold absI; split <;> omega)
    omega
  · omega
theorem distI_ge (a b : Sp) (way : Int) : -1 ≤ distI a b way := by
  rcases dist_cases a b way with ⟨_, e⟩ | ⟨_, e⟩ <;> rw [e]
  · have := farI_nonneg a b way; omega
  · omega
theorem nearer_yes1 {best d : Int} (h : best < 0) : nearer best d = d := by unfold nearer; rw [if_pos (Or.inl h)]
theorem nearer_yes2 {best d : Int} (h : d < best) : nearer best d = d := by unfold nearer; rw [if_pos (Or.inr h)]
theorem nearer_no {best d : Int} (h : 0 ≤ best) (k : best ≤ d) : nearer best d = best := by unfold nearer; rw [if_neg (by omega)]
set_option maxHeartbeats 1600000 in
theorem specFarFrom_any (ps : List Sp) (v : Value) (ax ay way : Int) (w : World) (h : Reads w w.heap.size v ps) :
    Calls Try.prog 38 #[v, .agg #[.int .i64 ax, .int .i64 ay], .int .i64 way] w (Gives (.int .i64 (farFromI ps (ax, ay) way)) w) := by
  obtain ⟨A, c, rfl, hc, hm, hA, hr⟩ := h.is
  unfold maxLen at hm
  have b0 := box_below w #[.int .i64 ax, .int .i64 ay] 25
  by_cases h0 : ps.length = 0
  · obtain rfl := List.eq_nil_of_length_eq_zero h0
    have e : farFromI [] (ax, ay) way = -1 := by rw [farFromI_pic (by decide)]; rfl
    rw [e]
    clear e
    go_enter Try.func38, Try.ntmps38
    go_wp2
    refine wp_loop_rounds 1 ?_
    rw [rounds_succ]
    go_wp2
    go_ret
    exact ⟨rfl, b0⟩
  have hlp : 0 < ps.length := by omega
  rcases hp : picB ps with _ | _
  · rw [farFromI_nopic hp]
    have HP := Lib.hid hp
    clear hp
    have hd : decide (0 < ps.length) = true := decide_eq_true hlp
    go_enter Try.func38, Try.ntmps38
    go_wp2
    refine wp_loop_rounds 1 ?_
    rw [rounds_succ]
    go_wp2_with fail
    refine (gives_is HP.out (specPicture_any ps _ _ (h.kept b0))).mono ?_
    rintro e w1 ⟨rfl, b1⟩
    go_wp2
    go_ret
    exact ⟨rfl, below_step b0 b1⟩
  · obtain ⟨b, off, rfl, hb, hcell⟩ := hr (by omega)
    have HE := Lib.hid (farFromI_pic (a := (ax, ay)) (way := way) hp)
    have HP := Lib.hid hp
    have hpl := (picB_pic hp).1
    clear hp
    go_enter Try.func38, Try.ntmps38
    go_wp2
    obtain ⟨W, hW⟩ : ∃ W, W = w.alloc (.cells #[.int .i64 ax, .int .i64 ay] 25) := ⟨_, rfl⟩
    have q0 : W.cell? ⟨w.heap.size, 0, none⟩ = some (.int .i64 ax) := by rw [hW]; simp [go_sem]
    have q1 : W.cell? ⟨w.heap.size, 1, none⟩ = some (.int .i64 ay) := by rw [hW]; simp [go_sem]
    have s0 : w.heap.size < W.heap.size := by rw [hW]; simp
    rw [← hW] at b0 ⊢
    clear hW
    go_loopw [7, 8] (fun z i wr => ∃ (k : Nat) (best : Int), k ≤ ps.length ∧ i = .int .i64 k ∧ z = .int .i64 best ∧ best = farFromF (ax, ay) way (-1) (ps.take k) ∧ -1 ≤ best ∧ best ≤ 1000 ∧ Below W.heap.size W wr) (fun _ i _ => ps.length - (intOf i).toNat)
    case atStart => exact ⟨0, -1, Nat.zero_le _, rfl, rfl, by rw [List.take_zero]; rfl, by omega, by omega, Below.refl _ _⟩
    case round =>
      obtain ⟨k, best, hk, rfl, rfl, hbest, hb1, hb2, hbw⟩ := hrel
      have hbs := hbw.size
      have bb := b0.trans (hbw.mono b0.size)
      have HB := Lib.hid hbest
      clear hbest
      by_cases hlt : k < ps.length
      · obtain ⟨⟨x, y⟩, hxy⟩ : ∃ a, ps[k]? = some a := ⟨_, List.getElem?_eq_getElem hlt⟩
        have HT := Lib.hid (farFromF_succ (a := (ax, ay)) (way := way) hxy)
        obtain ⟨c0, c1⟩ := hcell k x y hxy
        clear hxy
        go_wp2_with fail
        refine (gives_is HP.out (specPicture_any ps _ _ (h.kept bb))).mono ?_
        rintro e w1 ⟨rfl, b1⟩
        have bw1 := hbw.trans (b1.mono hbs)
        have bb1 := below_step bb b1
        have f0 := (bw1.cell (p := ⟨w.heap.size, 0, none⟩) s0).trans q0
        have f1 := (bw1.cell (p := ⟨w.heap.size, 1, none⟩) s0).trans q1
        have d0 := (bb1.cell (p := ⟨b, off + k * 2, none⟩) hb).trans c0
        have d1 := (bb1.cell (p := ⟨b, off + k * 2 + 1, none⟩) hb).trans c1
        have g0 := cell_regrown f0
        have g1 := cell_regrown f1
        have g2 := cell_regrown d0
        have g3 := cell_regrown d1
        have hm0 : (0 : Int) ≤ (k : Int) := Int.natCast_nonneg _
        have hm1 : (k : Int) < (ps.length : Int) := by omega
        have hge := distI_ge (ax, ay) (x, y) way
        have hle := distI_le (a := (ax, ay)) (b := (x, y)) (way := way)
        clear f0 f1 d0 d1 c0 c1 b1 bb1 bb
        go_wp2
        refine wp_region_quiet_below (by kernel_rfl) (by kernel_rfl) ?_
        repeat (go_big_quiet_step (first | (go_at_call 68; exact gives_regrown (fun w1 _ => specDist_any ax ay x y way w1) _ _)))
        refine wpQuiet_nil ?_
        intro w2 hw'
        obtain ⟨⟨dq, osq⟩, hw''⟩ := hw'
        have hN : Below w1.heap.size w1 w2 := by rw [hw'']; exact below_regrown _ _ _
        clear hw'' dq osq
        have bw3 := bw1.trans (hN.mono bw1.size)
        clear hN bw1 g0 g1 g2 g3
        by_cases hbn : best < 0
        · have HS := Lib.hid (nearer_yes1 (d := distI (ax, ay) (x, y) way) hbn)
          generalize distI (ax, ay) (x, y) way = d at *
          go_wp2
          go_roundw
          case rel => exact ⟨k + 1, d, by omega, by go_num, rfl, by rw [HT.out, ← HB.out]; exact HS.out.symm, by omega, by omega, bw3⟩
          case measure => simp [intOf]; omega
        · by_cases hdn : distI (ax, ay) (x, y) way < best
          · have HS := Lib.hid (nearer_yes2 hdn)
            generalize distI (ax, ay) (x, y) way = d at *
            go_wp2
            go_roundw
            case rel => exact ⟨k + 1, d, by omega, by go_num, rfl, by rw [HT.out, ← HB.out]; exact HS.out.symm, by omega, by omega, bw3⟩
            case measure => simp [intOf]; omega
          · have HS := Lib.hid (nearer_no (best := best) (d := distI (ax, ay) (x, y) way) (by omega) (by omega))
            generalize distI (ax, ay) (x, y) way = d at *
            go_wp2
            go_roundw
            case rel => exact ⟨k + 1, best, by omega, by go_num, rfl, by rw [HT.out, ← HB.out]; exact HS.out.symm, by omega, by omega, bw3⟩
            case measure => simp [intOf]; omega
      · obtain rfl : k = ps.length := by omega
        have HF := Lib.hid (show best = farFromI ps (ax, ay) way by rw [HE.out, HB.out, List.take_length])
        go_wp2
        go_ret
        exact ⟨ret_int HF.out, bb⟩
end
/-! ### BallT -/
section
open Go.RowKit Go.Sort

def countI (r way : Int) : Int := if ballOk r way then ((ballL r way).length : Int) else -1
theorem count_no {r way : Int} (h : ballOk r way = false) : countI r way = -1 := by unfold countI; rw [h]; rfl
theorem count_yes {r way : Int} (h : ballOk r way = true) : countI r way = ((ballL r way).length : Int) := by unfold countI; rw [h]; rfl
theorem ball_pos {r way : Int} (h : ballOk r way = true) : 0 < (ballL r way).length := by
  refine List.length_pos_iff.2 fun e => ?_
  rw [ball_nil.1 e] at h; cases h
theorem ball_len (r way : Int) : (ballL r way).length ≤ 60 := (picB_pic (picB_ball (r := r) (way := way))).1
theorem specSum_lit {b : Bool} {p q : List Sp} {v u : Value} {w : World} (hk : sumOk p q = b) (h : Reads w w.heap.size v p) (k : Reads w w.heap.size u q) : Calls Try.prog 54 #[v, u] w (Gives2' (sumR p q) b w) := by
  subst hk; exact specSum_any p q v u w h k
theorem specGrown_any (ps : List Sp) (v : Value) (r way : Int) (w : World) (h : Reads w w.heap.size v ps) :
    Calls Try.prog 41 #[v, .int .i64 r, .int .i64 way] w (Gives2' (grownBallR ps r way) (grownBallOk ps r way) w) := by
  obtain ⟨A, c, rfl, _, _⟩ := h.slice
  rcases hk : ballOk r way with _ | _
  · obtain ⟨e1, e2⟩ := grownBall_no (p := ps) hk
    rw [e1, e2]
    go_enter Try.func41, Try.ntmps41
    go_wp2_with fail
    refine (specBall_any r way _).mono ?_
    rintro e w1 ⟨v1, rfl, o1, b1⟩
    rw [ball_no hk] at o1
    clear e1 e2 hk
    obtain ⟨A1, c1, rfl, _, _⟩ := o1.reads.slice
    have hle := b1.size
    go_wp2
    go_ret2
    exact ⟨_, rfl, Owns.empty _ _ hle, b1.alloc hle _⟩
  · obtain ⟨e1, e2⟩ := grownBall_yes (p := ps) hk
    rw [e1, e2]
    have hpos := ball_pos hk
    have hpb : (((ballL r way).length : Int) == 0) = false := by rw [beq_eq_false_iff_ne]; omega
    clear e1 e2 hk
    go_enter Try.func41, Try.ntmps41
    go_wp2_with fail
    refine (specBall_any r way _).mono ?_
    rintro e w1 ⟨v1, rfl, o1, b1⟩
    obtain ⟨A1, c1, rfl, _, _⟩ := o1.reads.slice
    go_wp2_with fail
    refine (specSum_any ps (ballL r way) _ _ _ (h.kept b1) o1.reads).mono ?_
    rintro e w2 ⟨v2, rfl, o2, b2⟩
    go_wp2
    go_ret2
    exact ⟨_, rfl, o2.base b1.size, below_step b1 b2⟩
end
end Go.Proofs.Ytfofmfkdkihhbaa
