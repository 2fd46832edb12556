/- DistanceOf, BallOf, FarFrom, GrownBall and CountBall of the program. No conditions but those typed. -/
import Derived.Test.YtpdpfjebikdgjaaTell
import Derived.Test.YtpdpfjebikdgjaaPicWalk
import Derived.Test.YtpdpfjebikdgjaaBallJ
namespace Go.Proofs.Ytpdpfjebikdgjaa
open Go.RowKit Go.Sort

theorem inB_lit {a : Sp} {b : Bool} (h : picB [a] = b) : inB a.1 a.2 30 = b := by
  subst h
  rw [Bool.eq_iff_iff, picB_one]
  unfold inB InR
  simp
theorem within_is {x y : Int} {b : Bool} {w : World} (h : picB [(x, y)] = b) : Calls Try.prog 45 #[.agg #[.int .i64 x, .int .i64 y], .int .i64 30] w (Gives (.bool b) w) := by
  have e := inB_lit h
  simp only at e
  rw [← e]
  exact spotWithin_any x y 30 w (by decide) (by decide)
set_option maxHeartbeats 1600000 in
theorem implDist_any (x y u v way : Int) (w : World) : Calls Try.prog 14 #[.agg #[.int .i64 x, .int .i64 y], .agg #[.int .i64 u, .int .i64 v], .int .i64 way] w (Gives (.int .i64 (distI (x, y) (u, v) way)) w) := by
  rcases h3 : wayOk way with _ | _
  · rw [dist_no3 h3]
    have b0 : Below w.heap.size w ((w.alloc (.cells #[.int .i64 x, .int .i64 y] 24)).alloc (.cells #[.int .i64 u, .int .i64 v] 24)) := (box_below w _ _).alloc (by simp) _
    obtain ⟨W, hW⟩ : ∃ W, W = (w.alloc (.cells #[.int .i64 x, .int .i64 y] 24)).alloc (.cells #[.int .i64 u, .int .i64 v] 24) := ⟨_, rfl⟩
    have q0 : W.cell? ⟨w.heap.size, 0, none⟩ = some (.int .i64 x) := by rw [hW]; simp [go_sem, World.cell?_alloc_past]
    have q1 : W.cell? ⟨w.heap.size, 1, none⟩ = some (.int .i64 y) := by rw [hW]; simp [go_sem, World.cell?_alloc_past]
    have q2 : W.cell? ⟨w.heap.size + 1, 0, none⟩ = some (.int .i64 u) := by rw [hW]; simp [go_sem]
    have q3 : W.cell? ⟨w.heap.size + 1, 1, none⟩ = some (.int .i64 v) := by rw [hW]; simp [go_sem]
    have s0 : w.heap.size < W.heap.size := by rw [hW]; simp; omega
    have s1 : w.heap.size + 1 < W.heap.size := by rw [hW]; simp
    rw [← hW] at b0
    go_enter Try.func14, Try.ntmps14
    go_wp2_with (first | (rw [← hW]; clear hW) | fail)
    refine (distanceIn_no _ h3).mono ?_
    rintro e w1 ⟨rfl, bn⟩
    have q0 := (bn.cell (p := ⟨w.heap.size, 0, none⟩) s0).trans q0
    have q1 := (bn.cell (p := ⟨w.heap.size, 1, none⟩) s0).trans q1
    have q2 := (bn.cell (p := ⟨w.heap.size + 1, 0, none⟩) s1).trans q2
    have q3 := (bn.cell (p := ⟨w.heap.size + 1, 1, none⟩) s1).trans q3
    have s0 := Nat.lt_of_lt_of_le s0 bn.size
    have s1 := Nat.lt_of_lt_of_le s1 bn.size
    have b0 := below_step b0 bn
    clear bn
    go_wp2
    go_ret
    exact ⟨rfl, b0⟩
  rcases h1 : picB [(x, y)] with _ | _
  · rw [dist_no1 h1]
    have H1 := Lib.hid h1
    clear h1
    have b0 : Below w.heap.size w ((w.alloc (.cells #[.int .i64 x, .int .i64 y] 24)).alloc (.cells #[.int .i64 u, .int .i64 v] 24)) := (box_below w _ _).alloc (by simp) _
    obtain ⟨W, hW⟩ : ∃ W, W = (w.alloc (.cells #[.int .i64 x, .int .i64 y] 24)).alloc (.cells #[.int .i64 u, .int .i64 v] 24) := ⟨_, rfl⟩
    have q0 : W.cell? ⟨w.heap.size, 0, none⟩ = some (.int .i64 x) := by rw [hW]; simp [go_sem, World.cell?_alloc_past]
    have q1 : W.cell? ⟨w.heap.size, 1, none⟩ = some (.int .i64 y) := by rw [hW]; simp [go_sem, World.cell?_alloc_past]
    have q2 : W.cell? ⟨w.heap.size + 1, 0, none⟩ = some (.int .i64 u) := by rw [hW]; simp [go_sem]
    have q3 : W.cell? ⟨w.heap.size + 1, 1, none⟩ = some (.int .i64 v) := by rw [hW]; simp [go_sem]
    have s0 : w.heap.size < W.heap.size := by rw [hW]; simp; omega
    have s1 : w.heap.size + 1 < W.heap.size := by rw [hW]; simp
    rw [← hW] at b0
    go_enter Try.func14, Try.ntmps14
    go_wp2_with (first | (rw [← hW]; clear hW) | fail)
    refine (distanceIn_yes _ h3).mono ?_
    rintro e w1 ⟨rfl, bn⟩
    have q0 := (bn.cell (p := ⟨w.heap.size, 0, none⟩) s0).trans q0
    have q1 := (bn.cell (p := ⟨w.heap.size, 1, none⟩) s0).trans q1
    have q2 := (bn.cell (p := ⟨w.heap.size + 1, 0, none⟩) s1).trans q2
    have q3 := (bn.cell (p := ⟨w.heap.size + 1, 1, none⟩) s1).trans q3
    have s0 := Nat.lt_of_lt_of_le s0 bn.size
    have s1 := Nat.lt_of_lt_of_le s1 bn.size
    have b0 := below_step b0 bn
    clear bn
    clear h3
    go_wp2_with fail
    refine (within_is H1.out).mono ?_
    rintro e w2 ⟨rfl, bn⟩
    have q0 := (bn.cell (p := ⟨w.heap.size, 0, none⟩) s0).trans q0
    have q1 := (bn.cell (p := ⟨w.heap.size, 1, none⟩) s0).trans q1
    have q2 := (bn.cell (p := ⟨w.heap.size + 1, 0, none⟩) s1).trans q2
    have q3 := (bn.cell (p := ⟨w.heap.size + 1, 1, none⟩) s1).trans q3
    have s0 := Nat.lt_of_lt_of_le s0 bn.size
    have s1 := Nat.lt_of_lt_of_le s1 bn.size
    have b0 := below_step b0 bn
    clear bn
    go_wp2
    go_ret
    exact ⟨rfl, b0⟩
  rcases h2 : picB [(u, v)] with _ | _
  · rw [dist_no2 h2]
    have H1 := Lib.hid h1
    have H2 := Lib.hid h2
    clear h1 h2
    have b0 : Below w.heap.size w ((w.alloc (.cells #[.int .i64 x, .int .i64 y] 24)).alloc (.cells #[.int .i64 u, .int .i64 v] 24)) := (box_below w _ _).alloc (by simp) _
    obtain ⟨W, hW⟩ : ∃ W, W = (w.alloc (.cells #[.int .i64 x, .int .i64 y] 24)).alloc (.cells #[.int .i64 u, .int .i64 v] 24) := ⟨_, rfl⟩
    have q0 : W.cell? ⟨w.heap.size, 0, none⟩ = some (.int .i64 x) := by rw [hW]; simp [go_sem, World.cell?_alloc_past]
    have q1 : W.cell? ⟨w.heap.size, 1, none⟩ = some (.int .i64 y) := by rw [hW]; simp [go_sem, World.cell?_alloc_past]
    have q2 : W.cell? ⟨w.heap.size + 1, 0, none⟩ = some (.int .i64 u) := by rw [hW]; simp [go_sem]
    have q3 : W.cell? ⟨w.heap.size + 1, 1, none⟩ = some (.int .i64 v) := by rw [hW]; simp [go_sem]
    have s0 : w.heap.size < W.heap.size := by rw [hW]; simp; omega
    have s1 : w.heap.size + 1 < W.heap.size := by rw [hW]; simp
    rw [← hW] at b0
    go_enter Try.func14, Try.ntmps14
    go_wp2_with (first | (rw [← hW]; clear hW) | fail)
    refine (distanceIn_yes _ h3).mono ?_
    rintro e w1 ⟨rfl, bn⟩
    have q0 := (bn.cell (p := ⟨w.heap.size, 0, none⟩) s0).trans q0
    have q1 := (bn.cell (p := ⟨w.heap.size, 1, none⟩) s0).trans q1
    have q2 := (bn.cell (p := ⟨w.heap.size + 1, 0, none⟩) s1).trans q2
    have q3 := (bn.cell (p := ⟨w.heap.size + 1, 1, none⟩) s1).trans q3
    have s0 := Nat.lt_of_lt_of_le s0 bn.size
    have s1 := Nat.lt_of_lt_of_le s1 bn.size
    have b0 := below_step b0 bn
    clear bn
    clear h3
    go_wp2_with fail
    refine (within_is H1.out).mono ?_
    rintro e w2 ⟨rfl, bn⟩
    have q0 := (bn.cell (p := ⟨w.heap.size, 0, none⟩) s0).trans q0
    have q1 := (bn.cell (p := ⟨w.heap.size, 1, none⟩) s0).trans q1
    have q2 := (bn.cell (p := ⟨w.heap.size + 1, 0, none⟩) s1).trans q2
    have q3 := (bn.cell (p := ⟨w.heap.size + 1, 1, none⟩) s1).trans q3
    have s0 := Nat.lt_of_lt_of_le s0 bn.size
    have s1 := Nat.lt_of_lt_of_le s1 bn.size
    have b0 := below_step b0 bn
    clear bn
    go_wp2_with fail
    refine (within_is H2.out).mono ?_
    rintro e w3 ⟨rfl, bn⟩
    have q0 := (bn.cell (p := ⟨w.heap.size, 0, none⟩) s0).trans q0
    have q1 := (bn.cell (p := ⟨w.heap.size, 1, none⟩) s0).trans q1
    have q2 := (bn.cell (p := ⟨w.heap.size + 1, 0, none⟩) s1).trans q2
    have q3 := (bn.cell (p := ⟨w.heap.size + 1, 1, none⟩) s1).trans q3
    have s0 := Nat.lt_of_lt_of_le s0 bn.size
    have s1 := Nat.lt_of_lt_of_le s1 bn.size
    have b0 := below_step b0 bn
    clear bn
    go_wp2
    go_ret
    exact ⟨rfl, b0⟩
  · rw [dist_yes h1 h2 h3]
    have n1 := picB_one.1 h1
    have n2 := picB_one.1 h2
    unfold InR at n1 n2
    simp only at n1 n2
    have H1 := Lib.hid h1
    have H2 := Lib.hid h2
    have H3 := Lib.hid h3
    clear h1 h2
    have b0 : Below w.heap.size w ((w.alloc (.cells #[.int .i64 x, .int .i64 y] 24)).alloc (.cells #[.int .i64 u, .int .i64 v] 24)) := (box_below w _ _).alloc (by simp) _
    obtain ⟨W, hW⟩ : ∃ W, W = (w.alloc (.cells #[.int .i64 x, .int .i64 y] 24)).alloc (.cells #[.int .i64 u, .int .i64 v] 24) := ⟨_, rfl⟩
    have q0 : W.cell? ⟨w.heap.size, 0, none⟩ = some (.int .i64 x) := by rw [hW]; simp [go_sem, World.cell?_alloc_past]
    have q1 : W.cell? ⟨w.heap.size, 1, none⟩ = some (.int .i64 y) := by rw [hW]; simp [go_sem, World.cell?_alloc_past]
    have q2 : W.cell? ⟨w.heap.size + 1, 0, none⟩ = some (.int .i64 u) := by rw [hW]; simp [go_sem]
    have q3 : W.cell? ⟨w.heap.size + 1, 1, none⟩ = some (.int .i64 v) := by rw [hW]; simp [go_sem]
    have s0 : w.heap.size < W.heap.size := by rw [hW]; simp; omega
    have s1 : w.heap.size + 1 < W.heap.size := by rw [hW]; simp
    rw [← hW] at b0
    go_enter Try.func14, Try.ntmps14
    go_wp2_with (first | (rw [← hW]; clear hW) | fail)
    refine (distanceIn_yes _ h3).mono ?_
    rintro e w1 ⟨rfl, bn⟩
    have q0 := (bn.cell (p := ⟨w.heap.size, 0, none⟩) s0).trans q0
    have q1 := (bn.cell (p := ⟨w.heap.size, 1, none⟩) s0).trans q1
    have q2 := (bn.cell (p := ⟨w.heap.size + 1, 0, none⟩) s1).trans q2
    have q3 := (bn.cell (p := ⟨w.heap.size + 1, 1, none⟩) s1).trans q3
    have s0 := Nat.lt_of_lt_of_le s0 bn.size
    have s1 := Nat.lt_of_lt_of_le s1 bn.size
    have b0 := below_step b0 bn
    clear bn
    clear h3
    go_wp2_with fail
    refine (within_is H1.out).mono ?_
    rintro e w2 ⟨rfl, bn⟩
    have q0 := (bn.cell (p := ⟨w.heap.size, 0, none⟩) s0).trans q0
    have q1 := (bn.cell (p := ⟨w.heap.size, 1, none⟩) s0).trans q1
    have q2 := (bn.cell (p := ⟨w.heap.size + 1, 0, none⟩) s1).trans q2
    have q3 := (bn.cell (p := ⟨w.heap.size + 1, 1, none⟩) s1).trans q3
    have s0 := Nat.lt_of_lt_of_le s0 bn.size
    have s1 := Nat.lt_of_lt_of_le s1 bn.size
    have b0 := below_step b0 bn
    clear bn
    go_wp2_with fail
    refine (within_is H2.out).mono ?_
    rintro e w3 ⟨rfl, bn⟩
    have q0 := (bn.cell (p := ⟨w.heap.size, 0, none⟩) s0).trans q0
    have q1 := (bn.cell (p := ⟨w.heap.size, 1, none⟩) s0).trans q1
    have q2 := (bn.cell (p := ⟨w.heap.size + 1, 0, none⟩) s1).trans q2
    have q3 := (bn.cell (p := ⟨w.heap.size + 1, 1, none⟩) s1).trans q3
    have s0 := Nat.lt_of_lt_of_le s0 bn.size
    have s1 := Nat.lt_of_lt_of_le s1 bn.size
    have b0 := below_step b0 bn
    clear bn
    go_wp2_with fail
    refine (between_any x y u v way _ H3.out (by omega) (by omega)).mono ?_
    rintro e w4 ⟨rfl, bn⟩
    have q0 := (bn.cell (p := ⟨w.heap.size, 0, none⟩) s0).trans q0
    have q1 := (bn.cell (p := ⟨w.heap.size, 1, none⟩) s0).trans q1
    have q2 := (bn.cell (p := ⟨w.heap.size + 1, 0, none⟩) s1).trans q2
    have q3 := (bn.cell (p := ⟨w.heap.size + 1, 1, none⟩) s1).trans q3
    have s0 := Nat.lt_of_lt_of_le s0 bn.size
    have s1 := Nat.lt_of_lt_of_le s1 bn.size
    have b0 := below_step b0 bn
    clear bn
    go_wp2
    go_ret
    exact ⟨rfl, b0⟩

set_option maxHeartbeats 1600000 in
theorem implBall_any (r way : Int) (w : World) : Calls Try.prog 18 #[.int .i64 r, .int .i64 way] w fun e w' => ∃ v', e = .returned v' ∧ Owns w' w.heap.size v' (ballL r way) ∧ Below w.heap.size w w' := by
  rcases h2 : wayOk way with _ | _
  · rw [ball_no (ballOk_no2 h2)]
    go_enter Try.func18, Try.ntmps18
    go_wp2_with fail
    refine (distanceIn_no _ h2).mono ?_
    rintro e w1 ⟨rfl, b1⟩
    go_wp2
    go_ret
    exact ⟨_, rfl, Owns.nil _ _, b1⟩
  by_cases hr0 : r < 0
  · rw [ball_no (ballOk_no1 (decide_eq_false (by omega)))]
    go_enter Try.func18, Try.ntmps18
    go_wp2_with fail
    refine (distanceIn_yes _ h2).mono ?_
    rintro e w1 ⟨rfl, b1⟩
    go_wp2
    go_ret
    exact ⟨_, rfl, Owns.nil _ _, b1⟩
  by_cases hr3 : 3 < r
  · rw [ball_no (ballOk_no1 (decide_eq_false (by omega)))]
    go_enter Try.func18, Try.ntmps18
    go_wp2_with fail
    refine (distanceIn_yes _ h2).mono ?_
    rintro e w1 ⟨rfl, b1⟩
    go_wp2
    go_ret
    exact ⟨_, rfl, Owns.nil _ _, b1⟩
  · have H2 := Lib.hid h2
    go_enter Try.func18, Try.ntmps18
    go_wp2_with fail
    refine (distanceIn_yes _ h2).mono ?_
    rintro e w1 ⟨rfl, b1⟩
    clear h2
    go_wp2_with fail
    refine (ballsBy_any way _).mono ?_
    rintro e w2 ⟨M, T, rfl, hM, hK, b2⟩
    go_wp2_with fail
    refine (maker_any M T r way _ H2.out (by omega) hK).mono ?_
    rintro e w3 ⟨v3, rfl, o3, b3⟩
    have bw := below_step b1 b2
    have hs := b1.size
    go_wp2
    go_ret
    exact ⟨_, rfl, o3.base bw.size, bw.trans (b3.mono (by omega))⟩

/-! ### how far from a picture -/
def minF (a : Sp) (way : Int) : Int → List Sp → Int
  | n, [] => n
  | n, b :: p => minF a way (min n (farI a b way)) p
theorem minF_append (a : Sp) (way : Int) : ∀ (p q : List Sp) (n : Int), minF a way n (p ++ q) = minF a way (minF a way n p) q
  | [], _, _ => rfl
  | _ :: p, q, _ => minF_append a way p q _
theorem minF_succ {p : List Sp} {a b : Sp} {way n : Int} {k : Nat} (h : p[k]? = some b) : minF a way n (p.take (k + 1)) = min (minF a way n (p.take k)) (farI a b way) := by
  rw [List.take_add_one, h, minF_append]; rfl
theorem minF_far {a : Sp} {way : Int} (ha : picB [a] = true) (hw : wayOk way = true) : ∀ (p : List Sp) (n : Int), 0 ≤ n → (∀ b ∈ p, picB [b] = true) → farFromF a way n p = minF a way n p
  | [], _, _, _ => rfl
  | b :: p, n, hn, h => by
    have hd := dist_yes ha (h b (List.mem_cons_self ..)) hw
    have h0 := farI_nonneg a b way
    show farFromF a way (nearer n (distI a b way)) p = minF a way (min n (farI a b way)) p
    have e : nearer n (distI a b way) = min n (farI a b way) := by rw [hd]; unfold nearer; split <;> omega
    rw [e]
    exact minF_far ha hw p _ (by omega) (fun c hc => h c (List.mem_cons_of_mem _ hc))
theorem far_min {a b : Sp} {p : List Sp} {way : Int} (h : farOk (b :: p) a way = true) : farFromI (b :: p) a way = minF a way (farI a b way) p := by
  have k := farOk_is h
  have hp : ∀ c ∈ b :: p, picB [c] = true := fun c hc => picB_one.2 ((picB_pic k.pp).2.1 c hc)
  rw [farFromI_pic k.pp]
  show farFromF a way (nearer (-1) (distI a b way)) p = _
  have e : nearer (-1) (distI a b way) = farI a b way := by rw [nearer_yes1 (by decide), dist_yes k.pa (hp b (List.mem_cons_self ..)) k.pw]
  rw [e]
  exact minF_far k.pa k.pw p _ (farI_nonneg _ _ _) (fun c hc => hp c (List.mem_cons_of_mem _ hc))
theorem minF_rng (a : Sp) (way : Int) : ∀ (p : List Sp) (n : Int), 0 ≤ n → n ≤ 100000 → 0 ≤ minF a way n p ∧ minF a way n p ≤ 100000
  | [], _, h1, h2 => ⟨h1, h2⟩
  | b :: p, n, h1, h2 => minF_rng a way p _ (by have := farI_nonneg a b way; omega) (by omega)
def Wide (a : Sp) : Prop := -1000 ≤ a.1 ∧ a.1 ≤ 1000 ∧ -1000 ≤ a.2 ∧ a.2 ≤ 1000
theorem farStep_any (T A : Nat) (n ax ay bx by' way : Int) (w : World) (hw : wayOk way = true) (ha : Wide (ax, ay)) (hb : Wide (bx, by')) (hn : 0 ≤ n ∧ n ≤ 100000)
    (hT : T < w.heap.size) (hA : A < w.heap.size) (cT : w.cell? ⟨T, 0, none⟩ = some (.func (.func (tellF way)) #[] #[])) (cA : w.cell? ⟨A, 0, none⟩ = some (.int .i64 ax)) (cB : w.cell? ⟨A, 1, none⟩ = some (.int .i64 ay)) :
    Calls Try.prog 61 #[.int .i64 n, .agg #[.int .i64 bx, .int .i64 by'], .pointer (some ⟨T, 0, none⟩), .pointer (some ⟨A, 0, none⟩)] w (Gives (.int .i64 (min n (farI (ax, ay) (bx, by') way))) w) := by
  have b0 := box_below w #[.int .i64 bx, .int .i64 by'] 24
  have f0 := (b0.cell (p := ⟨T, 0, none⟩) hT).trans cT
  have f1 := (b0.cell (p := ⟨A, 0, none⟩) hA).trans cA
  have f2 := (b0.cell (p := ⟨A, 1, none⟩) hA).trans cB
  have fn := farI_nonneg (ax, ay) (bx, by') way
  have cc := fun w1 => between_any ax ay bx by' way w1 hw ha hb
  obtain ⟨h0, h1⟩ := hn
  generalize farI (ax, ay) (bx, by') way = d at *
  have CC := Lib.hid cc
  clear cT cA cB hw cc ha hb
  go_enter Try.func61, Try.ntmps61
  go_wp2_with fail
  refine (CC.out _).mono ?_
  rintro e w1 ⟨rfl, b1⟩
  go_wp2
  all_goals go_ret
  all_goals exact ⟨ret_int (by omega), below_step b0 b1⟩
theorem wide_of {a : Sp} (h : picB [a] = true) : Wide a := by
  have := picB_one.1 h
  unfold InR at this; unfold Wide; omega
theorem foldMin_any (T A : Nat) (qs : List Sp) (v : Value) (n ax ay way : Int) (w : World) (hw : wayOk way = true) (ha : Wide (ax, ay)) (hq : ∀ b ∈ qs, Wide b) (hn : 0 ≤ n ∧ n ≤ 100000) (hv : Reads w w.heap.size v qs)
    (hT : T < w.heap.size) (hA : A < w.heap.size) (cT : w.cell? ⟨T, 0, none⟩ = some (.func (.func (tellF way)) #[] #[])) (cA : w.cell? ⟨A, 0, none⟩ = some (.int .i64 ax)) (cB : w.cell? ⟨A, 1, none⟩ = some (.int .i64 ay)) :
    Calls Try.prog 60 #[v, .int .i64 n, .func (.func 61) #[] #[.pointer (some ⟨T, 0, none⟩), .pointer (some ⟨A, 0, none⟩)]] w (Gives (.int .i64 (minF (ax, ay) way n qs)) w) := by
  obtain ⟨Ad, c, rfl, hc, hm, _, hcp⟩ := hv.is
  unfold maxLen at hm
  have b0 := Below.refl w.heap.size w
  by_cases h0 : qs.length = 0
  · obtain rfl := List.eq_nil_of_length_eq_zero h0
    go_enter Try.func60, Try.ntmps60
    go_wp2
    refine wp_loop_rounds 1 ?_
    rw [rounds_succ]
    go_wp2
    go_ret
    exact ⟨rfl, b0⟩
  · obtain ⟨b, off, rfl, hb, hcp⟩ := hcp (by omega)
    go_enter Try.func60, Try.ntmps60
    go_wp2
    go_loopw [7, 13] (fun s i wr => ∃ (k : Nat) (m : Int), k ≤ qs.length ∧ i = .int .i64 k ∧ s = .int .i64 m ∧ m = minF (ax, ay) way n (qs.take k) ∧ 0 ≤ m ∧ m ≤ 100000 ∧ Below w.heap.size w wr) (fun _ i _ => qs.length - (intOf i).toNat)
    case atStart => exact ⟨0, n, Nat.zero_le _, rfl, rfl, by rw [List.take_zero]; rfl, hn.1, hn.2, b0⟩
    case round =>
      obtain ⟨k, m, hk, rfl, rfl, hmn, hm0, hm1, hbw⟩ := hrel
      have HM := Lib.hid hmn
      clear hmn
      by_cases hlt : k < qs.length
      · obtain ⟨⟨x, y⟩, hxy⟩ : ∃ a, qs[k]? = some a := ⟨_, List.getElem?_eq_getElem hlt⟩
        obtain ⟨c0, c1⟩ := hcp k x y hxy
        have d0 := (hbw.cell (p := ⟨b, off + k * 2, none⟩) hb).trans c0
        have d1 := (hbw.cell (p := ⟨b, off + k * 2 + 1, none⟩) hb).trans c1
        have hwb := hq _ (List.mem_of_getElem? hxy)
        have HT := Lib.hid (minF_succ (a := (ax, ay)) (way := way) (n := n) hxy)
        have hbs := hbw.size
        have hal : Below wr.heap.size wr (wr.alloc (.cells #[.int .i64 x, .int .i64 y] 24)) := (Below.refl _ _).alloc (Nat.le_refl _) _
        have bw1 := hbw.trans (hal.mono hbs)
        have hf0 := farI_nonneg (ax, ay) (x, y) way
        have cs := farStep_any T A m ax ay x y way (wr.alloc (.cells #[.int .i64 x, .int .i64 y] 24)) hw ha hwb ⟨hm0, hm1⟩ (Nat.lt_of_lt_of_le hT bw1.size) (Nat.lt_of_lt_of_le hA bw1.size) ((bw1.cell (p := ⟨T, 0, none⟩) hT).trans cT) ((bw1.cell (p := ⟨A, 0, none⟩) hA).trans cA) ((bw1.cell (p := ⟨A, 1, none⟩) hA).trans cB)
        clear c0 c1 hxy
        go_wp2_with fail
        refine cs.mono ?_
        rintro e w2 ⟨rfl, b2⟩
        have bw2 := below_step bw1 b2
        go_wp2
        go_roundw
        case rel => exact ⟨k + 1, _, by omega, by go_num, rfl, by rw [HT.out, ← HM.out], by omega, by omega, bw2⟩
        case measure => simp [intOf]; omega
      · obtain rfl : k = qs.length := by omega
        have HE := Lib.hid (show m = minF (ax, ay) way n qs by rw [HM.out, List.take_length])
        go_wp2
        go_ret
        exact ⟨ret_int HE.out, hbw⟩
theorem farOk_no4 {p : List Sp} {a : Sp} {way : Int} (h : wayOk way = false) : farOk p a way = false := by unfold farOk; rw [h, Bool.and_false, Bool.and_false, Bool.and_false]
theorem farOk_no3 {p : List Sp} {a : Sp} {way : Int} (h : picB [a] = false) : farOk p a way = false := by unfold farOk; rw [h, Bool.false_and, Bool.and_false, Bool.and_false]
theorem Reads.zero' (w : World) (B : Nat) (A : Addr) : Reads w B (.slice (some A) 0 0) [] := ⟨some A, 0, rfl, by simp, by simp [maxLen], fun h => (by cases h), fun h => by omega⟩
set_option maxRecDepth 100000 in
set_option maxHeartbeats 3200000 in
theorem implFar_yes (x y : Int) (p2 : List Sp) (v : Value) (ax ay way : Int) (w : World) (h : Reads w w.heap.size v ((x, y) :: p2)) (h3 : wayOk way = true) (h1 : picB [(ax, ay)] = true) (hp : picB ((x, y) :: p2) = true) :
    Calls Try.prog 27 #[v, .agg #[.int .i64 ax, .int .i64 ay], .int .i64 way] w (Gives (.int .i64 (farFromI ((x, y) :: p2) (ax, ay) way)) w) := by
  have hf : farOk ((x, y) :: p2) (ax, ay) way = true := by unfold farOk; rw [hp, h1, h3]; rfl
  rw [far_min hf]
  have hwa := wide_of h1
  have hpp : ∀ c ∈ (x, y) :: p2, Wide c := fun c hc => wide_of (picB_one.2 ((picB_pic hp).2.1 c hc))
  have hwx := hpp (x, y) (List.mem_cons_self ..)
  have hwq : ∀ c ∈ p2, Wide c := fun c hc => hpp c (List.mem_cons_of_mem _ hc)
  have fn := farI_nonneg (ax, ay) (x, y) way
  have fl : farI (ax, ay) (x, y) way ≤ 100000 := by
    have := hwa; have k2 := hwx
    unfold Wide at this k2
    simp only at this k2
    have := farI_le (ax, ay) (x, y) way (n := 2000) (by unfold absI; split <;> simp only [] <;> omega) (by unfold absI; split <;> simp only [] <;> omega)
    omega
  have cc := fun w1 => between_any ax ay x y way w1 h3 hwa hwx
  have CC := Lib.hid cc
  have cf := fun (T A : Nat) (v : Value) (w : World) (hv : Reads w w.heap.size v p2) (hT : T < w.heap.size) (hA : A < w.heap.size) (cT : w.cell? ⟨T, 0, none⟩ = some (.func (.func (tellF way)) #[] #[])) (cA : w.cell? ⟨A, 0, none⟩ = some (.int .i64 ax)) (cB : w.cell? ⟨A, 1, none⟩ = some (.int .i64 ay)) => foldMin_any T A p2 v (farI (ax, ay) (x, y) way) ax ay way w h3 hwa hwq ⟨fn, fl⟩ hv hT hA cT cA cB
  generalize farI (ax, ay) (x, y) way = d at *
  have CF := Lib.hid cf
  have H1 := Lib.hid h1
  have HP := Lib.hid hp
  clear h1 hp hf hpp hwq hwx hwa cc cf
  have b0 := box_below w #[.int .i64 ax, .int .i64 ay] 24
  obtain ⟨W, hW⟩ : ∃ W, W = w.alloc (.cells #[.int .i64 ax, .int .i64 ay] 24) := ⟨_, rfl⟩
  have q0 : W.cell? ⟨w.heap.size, 0, none⟩ = some (.int .i64 ax) := by rw [hW]; simp [go_sem]
  have q1 : W.cell? ⟨w.heap.size, 1, none⟩ = some (.int .i64 ay) := by rw [hW]; simp [go_sem]
  have s0 : w.heap.size < W.heap.size := by rw [hW]; simp
  rw [← hW] at b0
  have rp := h.kept b0
  go_enter Try.func27, Try.ntmps27
  go_wp2_with (first | (rw [← hW]; clear hW) | fail)
  refine (distanceIn_yes _ h3).mono ?_
  rintro e w1 ⟨rfl, bn⟩
  have q0 := (bn.cell (p := ⟨w.heap.size, 0, none⟩) s0).trans q0
  have q1 := (bn.cell (p := ⟨w.heap.size, 1, none⟩) s0).trans q1
  have s0 := Nat.lt_of_lt_of_le s0 bn.size
  have b0 := below_step b0 bn
  have rp := rp.kept bn
  clear bn
  obtain ⟨W2, hW2⟩ : ∃ W2, W2 = w1.alloc (.cells #[.func (.func (tellF way)) #[] #[]] 62) := ⟨_, rfl⟩
  have t0 : W2.cell? ⟨w1.heap.size, 0, none⟩ = some (.func (.func (tellF way)) #[] #[]) := by rw [hW2]; simp [go_sem]
  have tz : w1.heap.size < W2.heap.size := by rw [hW2]; simp
  have bn : Below w1.heap.size w1 W2 := by rw [hW2]; exact box_below _ _ _
  have q0 := (bn.cell (p := ⟨w.heap.size, 0, none⟩) s0).trans q0
  have q1 := (bn.cell (p := ⟨w.heap.size, 1, none⟩) s0).trans q1
  have s0 := Nat.lt_of_lt_of_le s0 bn.size
  have b0 := below_step b0 bn
  have rp := rp.kept bn
  clear bn
  clear h3
  go_wp2_with fail
  rw [← hW2]
  clear hW2
  refine (within_is H1.out).mono ?_
  rintro e w2 ⟨rfl, bn⟩
  have t0 := (bn.cell (p := ⟨w1.heap.size, 0, none⟩) tz).trans t0
  have tz := Nat.lt_of_lt_of_le tz bn.size
  have q0 := (bn.cell (p := ⟨w.heap.size, 0, none⟩) s0).trans q0
  have q1 := (bn.cell (p := ⟨w.heap.size, 1, none⟩) s0).trans q1
  have s0 := Nat.lt_of_lt_of_le s0 bn.size
  have b0 := below_step b0 bn
  have rp := rp.kept bn
  clear bn
  obtain ⟨A, c, rfl, hc, hm, _, hr⟩ := rp.is
  unfold maxLen at hm
  obtain ⟨b, off, rfl, hb, hcell⟩ := hr (by simp at hc; omega)
  obtain ⟨c0, c1⟩ := hcell 0 x y rfl
  simp only [Nat.zero_mul, Nat.add_zero] at c0 c1
  go_wp2_with fail
  refine (gives_is HP.out (implPicture_any _ _ _ rp)).mono ?_
  rintro e w3 ⟨rfl, bn⟩
  have c0 := (bn.cell (p := ⟨b, off, none⟩) hb).trans c0
  have c1 := (bn.cell (p := ⟨b, off + 1, none⟩) hb).trans c1
  have hb := Nat.lt_of_lt_of_le hb bn.size
  have t0 := (bn.cell (p := ⟨w1.heap.size, 0, none⟩) tz).trans t0
  have tz := Nat.lt_of_lt_of_le tz bn.size
  have q0 := (bn.cell (p := ⟨w.heap.size, 0, none⟩) s0).trans q0
  have q1 := (bn.cell (p := ⟨w.heap.size, 1, none⟩) s0).trans q1
  have s0 := Nat.lt_of_lt_of_le s0 bn.size
  have b0 := below_step b0 bn
  have rp := rp.kept bn
  clear bn
  clear hcell hr
  by_cases hc1 : c = 1
  · subst hc1
    have hp0 : p2 = [] := List.eq_nil_of_length_eq_zero (by rw [List.length_cons] at hc; omega)
    subst hp0
    have rd : Reads w3.drew w3.drew.heap.size (.slice (some ⟨b, off, none⟩) 0 0) [] := Reads.zero' _ _ _
    simp only [List.length_cons, List.length_nil, Nat.zero_add] at hc rp ⊢
    have t0 : w3.drew.cell? ⟨w1.heap.size, 0, none⟩ = some (.func (.func (tellF way)) #[] #[]) := t0
    have q0 : w3.drew.cell? ⟨w.heap.size, 0, none⟩ = some (.int .i64 ax) := q0
    have q1 : w3.drew.cell? ⟨w.heap.size, 1, none⟩ = some (.int .i64 ay) := q1
    have c0 : w3.drew.cell? ⟨b, off, none⟩ = some (.int .i64 x) := c0
    have c1 : w3.drew.cell? ⟨b, off + 1, none⟩ = some (.int .i64 y) := c1
    have tz : w1.heap.size < w3.drew.heap.size := tz
    have s0 : w.heap.size < w3.drew.heap.size := s0
    have hb : b < w3.drew.heap.size := hb
    have b0 := b0.drew
    go_wp2
    go_region_held3 (fun w' => w'.cell? ⟨w1.heap.size, 0, none⟩ = some (.func (.func (tellF way)) #[] #[]) ∧ w'.cell? ⟨w.heap.size, 0, none⟩ = some (.int .i64 ax) ∧ w'.cell? ⟨w.heap.size, 1, none⟩ = some (.int .i64 ay) ∧ w'.cell? ⟨b, off, none⟩ = some (.int .i64 x) ∧ w'.cell? ⟨b, off + 1, none⟩ = some (.int .i64 y)) (refine ⟨?_, ?_, ?_, ?_, ?_⟩ <;> with_reducible assumption)
      (first
        | (go_at_call 46; refine (CC.out _).mono ?_; rintro e w4 ⟨rfl, hbn⟩; have t0 := (hbn.cell (p := ⟨w1.heap.size, 0, none⟩) tz).trans t0; have q0 := (hbn.cell (p := ⟨w.heap.size, 0, none⟩) s0).trans q0; have q1 := (hbn.cell (p := ⟨w.heap.size, 1, none⟩) s0).trans q1; have c0 := (hbn.cell (p := ⟨b, off, none⟩) hb).trans c0; have c1 := (hbn.cell (p := ⟨b, off + 1, none⟩) hb).trans c1; have b0 := below_step b0 hbn; have rd := rd.kept hbn; have tz := Nat.lt_of_lt_of_le tz hbn.size; have s0 := Nat.lt_of_lt_of_le s0 hbn.size; have hb := Nat.lt_of_lt_of_le hb hbn.size)
        | (go_at_call 60; refine (CF.out _ _ _ _ rd tz s0 t0 q0 q1).mono ?_; rintro e w5 ⟨rfl, hbn⟩; have t0 := (hbn.cell (p := ⟨w1.heap.size, 0, none⟩) tz).trans t0; have q0 := (hbn.cell (p := ⟨w.heap.size, 0, none⟩) s0).trans q0; have q1 := (hbn.cell (p := ⟨w.heap.size, 1, none⟩) s0).trans q1; have c0 := (hbn.cell (p := ⟨b, off, none⟩) hb).trans c0; have c1 := (hbn.cell (p := ⟨b, off + 1, none⟩) hb).trans c1; have b0 := below_step b0 hbn))
    all_goals
      go_wp2
      go_ret
      exact ⟨rfl, b0⟩
  · simp only [List.length_cons] at hc rp ⊢
    have z0 : (((p2.length + 1 : Nat) : Int) == 0) = false := beq_eq_false_iff_ne.2 (by omega)
    have z1 : (1 : Int) ≤ (p2.length : Int) + 1 := by omega
    have z2 : (p2.length : Int) + 1 ≤ (c : Int) := by omega
    have z3 : (0 : Int) ≤ (p2.length : Int) + 1 := by omega
    have z4 : p2.length + 1 ≤ c := hc
    have z5 : 1 ≤ p2.length + 1 := by omega
    have rd0 := rp.drop (k := 1) (by simp) (some ⟨b, off + 2, none⟩) (fun _ => rfl)
    simp only [Nat.add_sub_cancel, List.drop_succ_cons, List.drop_zero] at rd0
    have rd := rd0.kept (Below.refl w3.heap.size w3).drew
    clear rd0
    have t0 : w3.drew.cell? ⟨w1.heap.size, 0, none⟩ = some (.func (.func (tellF way)) #[] #[]) := t0
    have q0 : w3.drew.cell? ⟨w.heap.size, 0, none⟩ = some (.int .i64 ax) := q0
    have q1 : w3.drew.cell? ⟨w.heap.size, 1, none⟩ = some (.int .i64 ay) := q1
    have c0 : w3.drew.cell? ⟨b, off, none⟩ = some (.int .i64 x) := c0
    have c1 : w3.drew.cell? ⟨b, off + 1, none⟩ = some (.int .i64 y) := c1
    have tz : w1.heap.size < w3.drew.heap.size := tz
    have s0 : w.heap.size < w3.drew.heap.size := s0
    have hb : b < w3.drew.heap.size := hb
    have b0 := b0.drew
    go_wp2
    go_region_held3 (fun w' => w'.cell? ⟨w1.heap.size, 0, none⟩ = some (.func (.func (tellF way)) #[] #[]) ∧ w'.cell? ⟨w.heap.size, 0, none⟩ = some (.int .i64 ax) ∧ w'.cell? ⟨w.heap.size, 1, none⟩ = some (.int .i64 ay) ∧ w'.cell? ⟨b, off, none⟩ = some (.int .i64 x) ∧ w'.cell? ⟨b, off + 1, none⟩ = some (.int .i64 y)) (refine ⟨?_, ?_, ?_, ?_, ?_⟩ <;> with_reducible assumption)
      (first
        | (go_at_call 46; refine (CC.out _).mono ?_; rintro e w4 ⟨rfl, hbn⟩; have t0 := (hbn.cell (p := ⟨w1.heap.size, 0, none⟩) tz).trans t0; have q0 := (hbn.cell (p := ⟨w.heap.size, 0, none⟩) s0).trans q0; have q1 := (hbn.cell (p := ⟨w.heap.size, 1, none⟩) s0).trans q1; have c0 := (hbn.cell (p := ⟨b, off, none⟩) hb).trans c0; have c1 := (hbn.cell (p := ⟨b, off + 1, none⟩) hb).trans c1; have b0 := below_step b0 hbn; have rd := rd.kept hbn; have tz := Nat.lt_of_lt_of_le tz hbn.size; have s0 := Nat.lt_of_lt_of_le s0 hbn.size; have hb := Nat.lt_of_lt_of_le hb hbn.size)
        | (go_at_call 60; refine (CF.out _ _ _ _ rd tz s0 t0 q0 q1).mono ?_; rintro e w5 ⟨rfl, hbn⟩; have t0 := (hbn.cell (p := ⟨w1.heap.size, 0, none⟩) tz).trans t0; have q0 := (hbn.cell (p := ⟨w.heap.size, 0, none⟩) s0).trans q0; have q1 := (hbn.cell (p := ⟨w.heap.size, 1, none⟩) s0).trans q1; have c0 := (hbn.cell (p := ⟨b, off, none⟩) hb).trans c0; have c1 := (hbn.cell (p := ⟨b, off + 1, none⟩) hb).trans c1; have b0 := below_step b0 hbn))
    all_goals
      go_wp2
      go_ret
      exact ⟨rfl, b0⟩
set_option maxRecDepth 100000 in
set_option maxHeartbeats 1600000 in
theorem implFarFrom_any (ps : List Sp) (v : Value) (ax ay way : Int) (w : World) (h : Reads w w.heap.size v ps) :
    Calls Try.prog 27 #[v, .agg #[.int .i64 ax, .int .i64 ay], .int .i64 way] w (Gives (.int .i64 (farFromI ps (ax, ay) way)) w) := by
  rcases h3 : wayOk way with _ | _
  · rw [farFrom_no (farOk_no4 h3)]
    have b0 := box_below w #[.int .i64 ax, .int .i64 ay] 24
    obtain ⟨W, hW⟩ : ∃ W, W = w.alloc (.cells #[.int .i64 ax, .int .i64 ay] 24) := ⟨_, rfl⟩
    have q0 : W.cell? ⟨w.heap.size, 0, none⟩ = some (.int .i64 ax) := by rw [hW]; simp [go_sem]
    have q1 : W.cell? ⟨w.heap.size, 1, none⟩ = some (.int .i64 ay) := by rw [hW]; simp [go_sem]
    have s0 : w.heap.size < W.heap.size := by rw [hW]; simp
    rw [← hW] at b0
    have rp := h.kept b0
    go_enter Try.func27, Try.ntmps27
    go_wp2_with (first | (rw [← hW]; clear hW) | fail)
    refine (distanceIn_no _ h3).mono ?_
    rintro e w1 ⟨rfl, bn⟩
    go_wp2
    go_ret
    refine ⟨rfl, ?_⟩
    exact (below_step b0 bn).alloc (below_step b0 bn).size _
  rcases h1 : picB [(ax, ay)] with _ | _
  · rw [farFrom_no (farOk_no3 h1)]
    have H1 := Lib.hid h1
    clear h1
    have b0 := box_below w #[.int .i64 ax, .int .i64 ay] 24
    obtain ⟨W, hW⟩ : ∃ W, W = w.alloc (.cells #[.int .i64 ax, .int .i64 ay] 24) := ⟨_, rfl⟩
    have q0 : W.cell? ⟨w.heap.size, 0, none⟩ = some (.int .i64 ax) := by rw [hW]; simp [go_sem]
    have q1 : W.cell? ⟨w.heap.size, 1, none⟩ = some (.int .i64 ay) := by rw [hW]; simp [go_sem]
    have s0 : w.heap.size < W.heap.size := by rw [hW]; simp
    rw [← hW] at b0
    have rp := h.kept b0
    go_enter Try.func27, Try.ntmps27
    go_wp2_with (first | (rw [← hW]; clear hW) | fail)
    refine (distanceIn_yes _ h3).mono ?_
    rintro e w1 ⟨rfl, bn⟩
    have q0 := (bn.cell (p := ⟨w.heap.size, 0, none⟩) s0).trans q0
    have q1 := (bn.cell (p := ⟨w.heap.size, 1, none⟩) s0).trans q1
    have s0 := Nat.lt_of_lt_of_le s0 bn.size
    have b0 := below_step b0 bn
    have rp := rp.kept bn
    clear bn
    obtain ⟨W2, hW2⟩ : ∃ W2, W2 = w1.alloc (.cells #[.func (.func (tellF way)) #[] #[]] 62) := ⟨_, rfl⟩
    have t0 : W2.cell? ⟨w1.heap.size, 0, none⟩ = some (.func (.func (tellF way)) #[] #[]) := by rw [hW2]; simp [go_sem]
    have tz : w1.heap.size < W2.heap.size := by rw [hW2]; simp
    have bn : Below w1.heap.size w1 W2 := by rw [hW2]; exact box_below _ _ _
    have q0 := (bn.cell (p := ⟨w.heap.size, 0, none⟩) s0).trans q0
    have q1 := (bn.cell (p := ⟨w.heap.size, 1, none⟩) s0).trans q1
    have s0 := Nat.lt_of_lt_of_le s0 bn.size
    have b0 := below_step b0 bn
    have rp := rp.kept bn
    clear bn
    clear h3
    go_wp2_with fail
    rw [← hW2]
    clear hW2
    refine (within_is H1.out).mono ?_
    rintro e w2 ⟨rfl, bn⟩
    have q0 := (bn.cell (p := ⟨w.heap.size, 0, none⟩) s0).trans q0
    have q1 := (bn.cell (p := ⟨w.heap.size, 1, none⟩) s0).trans q1
    have s0 := Nat.lt_of_lt_of_le s0 bn.size
    have b0 := below_step b0 bn
    have rp := rp.kept bn
    clear bn
    go_wp2
    go_ret
    exact ⟨rfl, b0⟩
  rcases hp : picB ps with _ | _
  · rw [farFromI_nopic hp]
    have H1 := Lib.hid h1
    have HP := Lib.hid hp
    clear h1 hp
    have b0 := box_below w #[.int .i64 ax, .int .i64 ay] 24
    obtain ⟨W, hW⟩ : ∃ W, W = w.alloc (.cells #[.int .i64 ax, .int .i64 ay] 24) := ⟨_, rfl⟩
    have q0 : W.cell? ⟨w.heap.size, 0, none⟩ = some (.int .i64 ax) := by rw [hW]; simp [go_sem]
    have q1 : W.cell? ⟨w.heap.size, 1, none⟩ = some (.int .i64 ay) := by rw [hW]; simp [go_sem]
    have s0 : w.heap.size < W.heap.size := by rw [hW]; simp
    rw [← hW] at b0
    have rp := h.kept b0
    go_enter Try.func27, Try.ntmps27
    go_wp2_with (first | (rw [← hW]; clear hW) | fail)
    refine (distanceIn_yes _ h3).mono ?_
    rintro e w1 ⟨rfl, bn⟩
    have q0 := (bn.cell (p := ⟨w.heap.size, 0, none⟩) s0).trans q0
    have q1 := (bn.cell (p := ⟨w.heap.size, 1, none⟩) s0).trans q1
    have s0 := Nat.lt_of_lt_of_le s0 bn.size
    have b0 := below_step b0 bn
    have rp := rp.kept bn
    clear bn
    obtain ⟨W2, hW2⟩ : ∃ W2, W2 = w1.alloc (.cells #[.func (.func (tellF way)) #[] #[]] 62) := ⟨_, rfl⟩
    have t0 : W2.cell? ⟨w1.heap.size, 0, none⟩ = some (.func (.func (tellF way)) #[] #[]) := by rw [hW2]; simp [go_sem]
    have tz : w1.heap.size < W2.heap.size := by rw [hW2]; simp
    have bn : Below w1.heap.size w1 W2 := by rw [hW2]; exact box_below _ _ _
    have q0 := (bn.cell (p := ⟨w.heap.size, 0, none⟩) s0).trans q0
    have q1 := (bn.cell (p := ⟨w.heap.size, 1, none⟩) s0).trans q1
    have s0 := Nat.lt_of_lt_of_le s0 bn.size
    have b0 := below_step b0 bn
    have rp := rp.kept bn
    clear bn
    clear h3
    go_wp2_with fail
    rw [← hW2]
    clear hW2
    refine (within_is H1.out).mono ?_
    rintro e w2 ⟨rfl, bn⟩
    have q0 := (bn.cell (p := ⟨w.heap.size, 0, none⟩) s0).trans q0
    have q1 := (bn.cell (p := ⟨w.heap.size, 1, none⟩) s0).trans q1
    have s0 := Nat.lt_of_lt_of_le s0 bn.size
    have b0 := below_step b0 bn
    have rp := rp.kept bn
    clear bn
    go_wp2_with fail
    refine (gives_is HP.out (implPicture_any ps _ _ rp)).mono ?_
    rintro e w3 ⟨rfl, bn⟩
    have q0 := (bn.cell (p := ⟨w.heap.size, 0, none⟩) s0).trans q0
    have q1 := (bn.cell (p := ⟨w.heap.size, 1, none⟩) s0).trans q1
    have s0 := Nat.lt_of_lt_of_le s0 bn.size
    have b0 := below_step b0 bn
    have rp := rp.kept bn
    clear bn
    go_wp2
    go_ret
    exact ⟨rfl, b0⟩
  match ps, hp with
  | [], hp =>
    have e : farFromI [] (ax, ay) way = -1 := by rw [farFromI_pic (by decide)]; rfl
    rw [e]
    have H1 := Lib.hid h1
    have HP := Lib.hid hp
    clear h1 hp e
    have b0 := box_below w #[.int .i64 ax, .int .i64 ay] 24
    obtain ⟨W, hW⟩ : ∃ W, W = w.alloc (.cells #[.int .i64 ax, .int .i64 ay] 24) := ⟨_, rfl⟩
    have q0 : W.cell? ⟨w.heap.size, 0, none⟩ = some (.int .i64 ax) := by rw [hW]; simp [go_sem]
    have q1 : W.cell? ⟨w.heap.size, 1, none⟩ = some (.int .i64 ay) := by rw [hW]; simp [go_sem]
    have s0 : w.heap.size < W.heap.size := by rw [hW]; simp
    rw [← hW] at b0
    have rp := h.kept b0
    go_enter Try.func27, Try.ntmps27
    go_wp2_with (first | (rw [← hW]; clear hW) | fail)
    refine (distanceIn_yes _ h3).mono ?_
    rintro e w1 ⟨rfl, bn⟩
    have q0 := (bn.cell (p := ⟨w.heap.size, 0, none⟩) s0).trans q0
    have q1 := (bn.cell (p := ⟨w.heap.size, 1, none⟩) s0).trans q1
    have s0 := Nat.lt_of_lt_of_le s0 bn.size
    have b0 := below_step b0 bn
    have rp := rp.kept bn
    clear bn
    obtain ⟨W2, hW2⟩ : ∃ W2, W2 = w1.alloc (.cells #[.func (.func (tellF way)) #[] #[]] 62) := ⟨_, rfl⟩
    have t0 : W2.cell? ⟨w1.heap.size, 0, none⟩ = some (.func (.func (tellF way)) #[] #[]) := by rw [hW2]; simp [go_sem]
    have tz : w1.heap.size < W2.heap.size := by rw [hW2]; simp
    have bn : Below w1.heap.size w1 W2 := by rw [hW2]; exact box_below _ _ _
    have q0 := (bn.cell (p := ⟨w.heap.size, 0, none⟩) s0).trans q0
    have q1 := (bn.cell (p := ⟨w.heap.size, 1, none⟩) s0).trans q1
    have s0 := Nat.lt_of_lt_of_le s0 bn.size
    have b0 := below_step b0 bn
    have rp := rp.kept bn
    clear bn
    clear h3
    go_wp2_with fail
    rw [← hW2]
    clear hW2
    refine (within_is H1.out).mono ?_
    rintro e w2 ⟨rfl, bn⟩
    have q0 := (bn.cell (p := ⟨w.heap.size, 0, none⟩) s0).trans q0
    have q1 := (bn.cell (p := ⟨w.heap.size, 1, none⟩) s0).trans q1
    have s0 := Nat.lt_of_lt_of_le s0 bn.size
    have b0 := below_step b0 bn
    have rp := rp.kept bn
    clear bn
    obtain ⟨A, c, rfl, hc, hm⟩ := rp.slice
    go_wp2_with fail
    refine (gives_is HP.out (implPicture_any [] _ _ rp)).mono ?_
    rintro e w3 ⟨rfl, bn⟩
    have q0 := (bn.cell (p := ⟨w.heap.size, 0, none⟩) s0).trans q0
    have q1 := (bn.cell (p := ⟨w.heap.size, 1, none⟩) s0).trans q1
    have s0 := Nat.lt_of_lt_of_le s0 bn.size
    have b0 := below_step b0 bn
    have rp := rp.kept bn
    clear bn
    go_wp2
    go_ret
    exact ⟨rfl, b0⟩
  | (x, y) :: p2, hp => exact implFar_yes x y p2 v ax ay way w h h3 h1 hp
theorem implSum_lit {b : Bool} {p q : List Sp} {v u : Value} {w : World} (hk : sumOk p q = b) (h : Reads w w.heap.size v p) (k : Reads w w.heap.size u q) : Calls Try.prog 21 #[v, u] w (Gives2' (sumR p q) b w) := by
  subst hk; exact implSum_any p q v u w h k
theorem implGrown_any (ps : List Sp) (v : Value) (r way : Int) (w : World) (h : Reads w w.heap.size v ps) :
    Calls Try.prog 30 #[v, .int .i64 r, .int .i64 way] w (Gives2' (grownBallR ps r way) (grownBallOk ps r way) w) := by
  obtain ⟨A, c, rfl, _, _⟩ := h.slice
  rcases hk : ballOk r way with _ | _
  · obtain ⟨e1, e2⟩ := grownBall_no (p := ps) hk
    rw [e1, e2]
    go_enter Try.func30, Try.ntmps30
    go_wp2_with fail
    refine (implBall_any r way _).mono ?_
    rintro e w1 ⟨v1, rfl, o1, b1⟩
    rw [ball_no hk] at o1
    clear e1 e2 hk
    obtain ⟨A1, c1, rfl, _, _⟩ := o1.reads.slice
    go_wp2
    go_ret2
    exact ⟨_, rfl, Owns.nil _ _, b1⟩
  · obtain ⟨e1, e2⟩ := grownBall_yes (p := ps) hk
    rw [e1, e2]
    have hpos := ball_pos hk
    have hpb : (((ballL r way).length : Int) == 0) = false := by rw [beq_eq_false_iff_ne]; omega
    clear e1 e2 hk
    go_enter Try.func30, Try.ntmps30
    go_wp2_with fail
    refine (implBall_any r way _).mono ?_
    rintro e w1 ⟨v1, rfl, o1, b1⟩
    obtain ⟨A1, c1, rfl, _, _⟩ := o1.reads.slice
    go_wp2_with fail
    refine (implSum_any ps (ballL r way) _ _ _ (h.kept b1) o1.reads).mono ?_
    rintro e w2 ⟨v2, rfl, o2, b2⟩
    go_wp2
    go_ret2
    exact ⟨_, rfl, o2.base b1.size, below_step b1 b2⟩
theorem implCount_any (r way : Int) (w : World) : Calls Try.prog 33 #[.int .i64 r, .int .i64 way] w (Gives (.int .i64 (countI r way)) w) := by
  rcases hk : ballOk r way with _ | _
  · rw [count_no hk]
    go_enter Try.func33, Try.ntmps33
    go_wp2_with fail
    refine (implBall_any r way _).mono ?_
    rintro e w1 ⟨v1, rfl, o1, b1⟩
    rw [ball_no hk] at o1
    clear hk
    obtain ⟨A1, c1, rfl, _, _⟩ := o1.reads.slice
    go_wp2
    go_ret
    exact ⟨rfl, b1⟩
  · rw [count_yes hk]
    have hpos := ball_pos hk
    have hpb : (((ballL r way).length : Int) == 0) = false := by rw [beq_eq_false_iff_ne]; omega
    clear hk
    go_enter Try.func33, Try.ntmps33
    go_wp2_with fail
    refine (implBall_any r way _).mono ?_
    rintro e w1 ⟨v1, rfl, o1, b1⟩
    obtain ⟨A1, c1, rfl, _, _⟩ := o1.reads.slice
    go_wp2
    go_ret
    exact ⟨rfl, b1⟩
end Go.Proofs.Ytpdpfjebikdgjaa
