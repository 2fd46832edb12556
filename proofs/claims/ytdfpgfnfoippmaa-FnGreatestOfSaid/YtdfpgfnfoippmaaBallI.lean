/- DistanceOf, BallOf, FarFrom, GrownBall and CountBall of the program. No conditions but those typed. -/
import Derived.Test.YtdfpgfnfoippmaaTell
import Derived.Test.YtdfpgfnfoippmaaPicWalk
import Derived.Test.YtdfpgfnfoippmaaBallJ
namespace Go.Proofs.Ytdfpgfnfoippmaa
open Go.RowKit Go.Sort

theorem inB_lit {a : Sp} {b : Bool} (h : picB [a] = b) : inB a.1 a.2 30 = b := by
  subst h
  rw [Bool.eq_iff_iff, picB_one]
  unfold inB InR
  simp
theorem within_is {x y : Int} {b : Bool} {w : World} (h : picB [(x, y)] = b) : Calls Try.prog 54 #[.agg #[.int .i64 x, .int .i64 y], .int .i64 30] w (Gives (.bool b) w) := by
  have e := inB_lit h
  simp only at e
  rw [← e]
  exact spotWithin_any x y 30 w (by decide) (by decide)
set_option maxHeartbeats 1600000 in
theorem implDist_any (x y u v way : Int) (w : World) : Calls Try.prog 20 #[.agg #[.int .i64 x, .int .i64 y], .agg #[.int .i64 u, .int .i64 v], .int .i64 way] w (Gives (.int .i64 (distI (x, y) (u, v) way)) w) := by
  rcases h3 : wayOk way with _ | _
  · rw [dist_no3 h3]
    have b0 : Below w.heap.size w ((w.alloc (.cells #[.int .i64 x, .int .i64 y] 25)).alloc (.cells #[.int .i64 u, .int .i64 v] 25)) := (box_below w _ _).alloc (by simp) _
    obtain ⟨W, hW⟩ : ∃ W, W = (w.alloc (.cells #[.int .i64 x, .int .i64 y] 25)).alloc (.cells #[.int .i64 u, .int .i64 v] 25) := ⟨_, rfl⟩
    have q0 : W.cell? ⟨w.heap.size, 0, none⟩ = some (.int .i64 x) := by rw [hW]; simp [go_sem, World.cell?_alloc_past]
    have q1 : W.cell? ⟨w.heap.size, 1, none⟩ = some (.int .i64 y) := by rw [hW]; simp [go_sem, World.cell?_alloc_past]
    have q2 : W.cell? ⟨w.heap.size + 1, 0, none⟩ = some (.int .i64 u) := by rw [hW]; simp [go_sem]
    have q3 : W.cell? ⟨w.heap.size + 1, 1, none⟩ = some (.int .i64 v) := by rw [hW]; simp [go_sem]
    have s0 : w.heap.size < W.heap.size := by rw [hW]; simp; omega
    have s1 : w.heap.size + 1 < W.heap.size := by rw [hW]; simp
    rw [← hW] at b0
    go_enter Try.func20, Try.ntmps20
    go_wp2_with (first | (rw [← hW]; clear hW) | fail)
    refine (distanceIn_no _ h3).mono ?_
    rintro e w1 ⟨rfl, bn⟩
    have q0 := (bn.cell (p := ⟨w.heap.size, 0, none⟩) s0).trans q0
    have q1 := (bn.cell (p := ⟨w.heap.size, 1, none⟩) s0).trans q1
    have q2 := (bn.cell (p := ⟨w.heap.size + 1, 0, none⟩) s1).trans q2
    have q3 := (bn.cell (p := ⟨w.heap.size + 1, 1, none⟩) s1).trans q3
    have s0 := Nat.lt_of_lt_of_le s0 bn.size
    have s1 := Nat.lt_of_lt_of_le s1 bn.size
    have b0 := below_step b0 bn
    clear bn
    go_wp2
    go_ret
    exact ⟨rfl, b0⟩
  rcases h1 : picB [(x, y)] with _ | _
  · rw [dist_no1 h1]
    have H1 := Lib.hid h1
    clear h1
    have b0 : Below w.heap.size w ((w.alloc (.cells #[.int .i64 x, .int .i64 y] 25)).alloc (.cells #[.int .i64 u, .int .i64 v] 25)) := (box_below w _ _).alloc (by simp) _
    obtain ⟨W, hW⟩ : ∃ W, W = (w.alloc (.cells #[.int .i64 x, .int .i64 y] 25)).alloc (.cells #[.int .i64 u, .int .i64 v] 25) := ⟨_, rfl⟩
    have q0 : W.cell? ⟨w.heap.size, 0, none⟩ = some (.int .i64 x) := by rw [hW]; simp [go_sem, World.cell?_alloc_past]
    have q1 : W.cell? ⟨w.heap.size, 1, none⟩ = some (.int .i64 y) := by rw [hW]; simp [go_sem, World.cell?_alloc_past]
    have q2 : W.cell? ⟨w.heap.size + 1, 0, none⟩ = some (.int .i64 u) := by rw [hW]; simp [go_sem]
    have q3 : W.cell? ⟨w.heap.size + 1, 1, none⟩ = some (.int .i64 v) := by rw [hW]; simp [go_sem]
    have s0 : w.heap.size < W.heap.size := by rw [hW]; simp; omega
    have s1 : w.heap.size + 1 < W.heap.size := by rw [hW]; simp
    rw [← hW] at b0
    go_enter Try.func20, Try.ntmps20
    go_wp2_with (first | (rw [← hW]; clear hW) | fail)
    refine (distanceIn_yes _ h3).mono ?_
    rintro e w1 ⟨rfl, bn⟩
    have q0 := (bn.cell (p := ⟨w.heap.size, 0, none⟩) s0).trans q0
    have q1 := (bn.cell (p := ⟨w.heap.size, 1, none⟩) s0).trans q1
    have q2 := (bn.cell (p := ⟨w.heap.size + 1, 0, none⟩) s1).trans q2
    have q3 := (bn.cell (p := ⟨w.heap.size + 1, 1, none⟩) s1).trans q3
    have s0 := Nat.lt_of_lt_of_le s0 bn.size
    have s1 := Nat.lt_of_lt_of_le s1 bn.size
    have b0 := below_step b0 bn
    clear bn
    clear h3
    go_wp2_with fail
    refine (within_is H1.out).mono ?_
    rintro e w2 ⟨rfl, bn⟩
    have q0 := (bn.cell (p := ⟨w.heap.size, 0, none⟩) s0).trans q0
    have q1 := (bn.cell (p := ⟨w.heap.size, 1, none⟩) s0).trans q1
    have q2 := (bn.cell (p := ⟨w.heap.size + 1, 0, none⟩) s1).trans q2
    have q3 := (bn.cell (p := ⟨w.heap.size + 1, 1, none⟩) s1).trans q3
    have s0 := Nat.lt_of_lt_of_le s0 bn.size
    have s1 := Nat.lt_of_lt_of_le s1 bn.size
    have b0 := below_step b0 bn
    clear bn
    go_wp2
    go_ret
    exact ⟨rfl, b0⟩
  rcases h2 : picB [(u, v)] with _ | _
  · rw [dist_no2 h2]
    have H1 := Lib.hid h1
    have H2 := Lib.hid h2
    clear h1 h2
    have b0 : Below w.heap.size w ((w.alloc (.cells #[.int .i64 x, .int .i64 y] 25)).alloc (.cells #[.int .i64 u, .int .i64 v] 25)) := (box_below w _ _).alloc (by simp) _
    obtain ⟨W, hW⟩ : ∃ W, W = (w.alloc (.cells #[.int .i64 x, .int .i64 y] 25)).alloc (.cells #[.int .i64 u, .int .i64 v] 25) := ⟨_, rfl⟩
    have q0 : W.cell? ⟨w.heap.size, 0, none⟩ = some (.int .i64 x) := by rw [hW]; simp [go_sem, World.cell?_alloc_past]
    have q1 : W.cell? ⟨w.heap.size, 1, none⟩ = some (.int .i64 y) := by rw [hW]; simp [go_sem, World.cell?_alloc_past]
    have q2 : W.cell? ⟨w.heap.size + 1, 0, none⟩ = some (.int .i64 u) := by rw [hW]; simp [go_sem]
    have q3 : W.cell? ⟨w.heap.size + 1, 1, none⟩ = some (.int .i64 v) := by rw [hW]; simp [go_sem]
    have s0 : w.heap.size < W.heap.size := by rw [hW]; simp; omega
    have s1 : w.heap.size + 1 < W.heap.size := by rw [hW]; simp
    rw [← hW] at b0
    go_enter Try.func20, Try.ntmps20
    go_wp2_with (first | (rw [← hW]; clear hW) | fail)
    refine (distanceIn_yes _ h3).mono ?_
    rintro e w1 ⟨rfl, bn⟩
    have q0 := (bn.cell (p := ⟨w.heap.size, 0, none⟩) s0).trans q0
    have q1 := (bn.cell (p := ⟨w.heap.size, 1, none⟩) s0).trans q1
    have q2 := (bn.cell (p := ⟨w.heap.size + 1, 0, none⟩) s1).trans q2
    have q3 := (bn.cell (p := ⟨w.heap.size + 1, 1, none⟩) s1).trans q3
    have s0 := Nat.lt_of_lt_of_le s0 bn.size
    have s1 := Nat.lt_of_lt_of_le s1 bn.size
    have b0 := below_step b0 bn
    clear bn
    clear h3
    go_wp2_with fail
    refine (within_is H1.out).mono ?_
    rintro e w2 ⟨rfl, bn⟩
    have q0 := (bn.cell (p := ⟨w.heap.size, 0, none⟩) s0).trans q0
    have q1 := (bn.cell (p := ⟨w.heap.size, 1, none⟩) s0).trans q1
    have q2 := (bn.cell (p := ⟨w.heap.size + 1, 0, none⟩) s1).trans q2
    have q3 := (bn.cell (p := ⟨w.heap.size + 1, 1, none⟩) s1).trans q3
    have s0 := Nat.lt_of_lt_of_le s0 bn.size
    have s1 := Nat.lt_of_lt_of_le s1 bn.size
    have b0 := below_step b0 bn
    clear bn
    go_wp2_with fail
    refine (within_is H2.out).mono ?_
    rintro e w3 ⟨rfl, bn⟩
    have q0 := (bn.cell (p := ⟨w.heap.size, 0, none⟩) s0).trans q0
    have q1 := (bn.cell (p := ⟨w.heap.size, 1, none⟩) s0).trans q1
    have q2 := (bn.cell (p := ⟨w.heap.size + 1, 0, none⟩) s1).trans q2
    have q3 := (bn.cell (p := ⟨w.heap.size + 1, 1, none⟩) s1).trans q3
    have s0 := Nat.lt_of_lt_of_le s0 bn.size
    have s1 := Nat.lt_of_lt_of_le s1 bn.size
    have b0 := below_step b0 bn
    clear bn
    go_wp2
    go_ret
    exact ⟨rfl, b0⟩
  · rw [dist_yes h1 h2 h3]
    have n1 := picB_one.1 h1
    have n2 := picB_one.1 h2
    unfold InR at n1 n2
    simp only at n1 n2
    have H1 := Lib.hid h1
    have H2 := Lib.hid h2
    have H3 := Lib.hid h3
    clear h1 h2
    have b0 : Below w.heap.size w ((w.alloc (.cells #[.int .i64 x, .int .i64 y] 25)).alloc (.cells #[.int .i64 u, .int .i64 v] 25)) := (box_below w _ _).alloc (by simp) _
    obtain ⟨W, hW⟩ : ∃ W, W = (w.alloc (.cells #[.int .i64 x, .int .i64 y] 25)).alloc (.cells #[.int .i64 u, .int .i64 v] 25) := ⟨_, rfl⟩
    have q0 : W.cell? ⟨w.heap.size, 0, none⟩ = some (.int .i64 x) := by rw [hW]; simp [go_sem, World.cell?_alloc_past]
    have q1 : W.cell? ⟨w.heap.size, 1, none⟩ = some (.int .i64 y) := by rw [hW]; simp [go_sem, World.cell?_alloc_past]
    have q2 : W.cell? ⟨w.heap.size + 1, 0, none⟩ = some (.int .i64 u) := by rw [hW]; simp [go_sem]
    have q3 : W.cell? ⟨w.heap.size + 1, 1, none⟩ = some (.int .i64 v) := by rw [hW]; simp [go_sem]
    have s0 : w.heap.size < W.heap.size := by rw [hW]; simp; omega
    have s1 : w.heap.size + 1 < W.heap.size := by rw [hW]; simp
    rw [← hW] at b0
    go_enter Try.func20, Try.ntmps20
    go_wp2_with (first | (rw [← hW]; clear hW) | fail)
    refine (distanceIn_yes _ h3).mono ?_
    rintro e w1 ⟨rfl, bn⟩
    have q0 := (bn.cell (p := ⟨w.heap.size, 0, none⟩) s0).trans q0
    have q1 := (bn.cell (p := ⟨w.heap.size, 1, none⟩) s0).trans q1
    have q2 := (bn.cell (p := ⟨w.heap.size + 1, 0, none⟩) s1).trans q2
    have q3 := (bn.cell (p := ⟨w.heap.size + 1, 1, none⟩) s1).trans q3
    have s0 := Nat.lt_of_lt_of_le s0 bn.size
    have s1 := Nat.lt_of_lt_of_le s1 bn.size
    have b0 := below_step b0 bn
    clear bn
    clear h3
    go_wp2_with fail
    refine (within_is H1.out).mono ?_
    rintro e w2 ⟨rfl, bn⟩
    have q0 := (bn.cell (p := ⟨w.heap.size, 0, none⟩) s0).trans q0
    have q1 := (bn.cell (p := ⟨w.heap.size, 1, none⟩) s0).trans q1
    have q2 := (bn.cell (p := ⟨w.heap.size + 1, 0, none⟩) s1).trans q2
    have q3 := (bn.cell (p := ⟨w.heap.size + 1, 1, none⟩) s1).trans q3
    have s0 := Nat.lt_of_lt_of_le s0 bn.size
    have s1 := Nat.lt_of_lt_of_le s1 bn.size
    have b0 := below_step b0 bn
    clear bn
    go_wp2_with fail
    refine (within_is H2.out).mono ?_
    rintro e w3 ⟨rfl, bn⟩
    have q0 := (bn.cell (p := ⟨w.heap.size, 0, none⟩) s0).trans q0
    have q1 := (bn.cell (p := ⟨w.heap.size, 1, none⟩) s0).trans q1
    have q2 := (bn.cell (p := ⟨w.heap.size + 1, 0, none⟩) s1).trans q2
    have q3 := (bn.cell (p := ⟨w.heap.size + 1, 1, none⟩) s1).trans q3
    have s0 := Nat.lt_of_lt_of_le s0 bn.size
    have s1 := Nat.lt_of_lt_of_le s1 bn.size
    have b0 := below_step b0 bn
    clear bn
    go_wp2_with fail
    refine (between_any x y u v way _ H3.out (by omega) (by omega)).mono ?_
    rintro e w4 ⟨rfl, bn⟩
    have q0 := (bn.cell (p := ⟨w.heap.size, 0, none⟩) s0).trans q0
    have q1 := (bn.cell (p := ⟨w.heap.size, 1, none⟩) s0).trans q1
    have q2 := (bn.cell (p := ⟨w.heap.size + 1, 0, none⟩) s1).trans q2
    have q3 := (bn.cell (p := ⟨w.heap.size + 1, 1, none⟩) s1).trans q3
    have s0 := Nat.lt_of_lt_of_le s0 bn.size
    have s1 := Nat.lt_of_lt_of_le s1 bn.size
    have b0 := below_step b0 bn
    clear bn
    go_wp2
    go_ret
    exact ⟨rfl, b0⟩

/-! ### how far from a picture -/
def minF (a : Sp) (way : Int) : Int → List Sp → Int
  | n, [] => n
  | n, b :: p => minF a way (min n (farI a b way)) p
theorem minF_append (a : Sp) (way : Int) : ∀ (p q : List Sp) (n : Int), minF a way n (p ++ q) = minF a way (minF a way n p) q
  | [], _, _ => rfl
  | _ :: p, q, _ => minF_append a way p q _
theorem minF_succ {p : List Sp} {a b : Sp} {way n : Int} {k : Nat} (h : p[k]? = some b) : minF a way n (p.take (k + 1)) = min (minF a way n (p.take k)) (farI a b way) := by
  rw [List.take_add_one, h, minF_append]; rfl
theorem minF_far {a : Sp} {way : Int} (ha : picB [a] = true) (hw : wayOk way = true) : ∀ (p : List Sp) (n : Int), 0 ≤ n → (∀ b ∈ p, picB [b] = true) → farFromF a way n p = minF a way n p
  | [], _, _, _ => rfl
  | b :: p, n, hn, h => by
    have hd := dist_yes ha (h b (List.mem_cons_self ..)) hw
    have h0 := farI_nonneg a b way
    show farFromF a way (nearer n (distI a b way)) p = minF a way (min n (farI a b way)) p
    have e : nearer n (distI a b way) = min n (farI a b way) := by rw [hd]; unfold nearer; split <;> omega
    rw [e]
    exact minF_far ha hw p _ (by omega) (fun c hc => h c (List.mem_cons_of_mem _ hc))
theorem far_min {a b : Sp} {p : List Sp} {way : Int} (h : farOk (b :: p) a way = true) : farFromI (b :: p) a way = minF a way (farI a b way) p := by
  have k := farOk_is h
  have hp : ∀ c ∈ b :: p, picB [c] = true := fun c hc => picB_one.2 ((picB_pic k.pp).2.1 c hc)
  rw [farFromI_pic k.pp]
  show farFromF a way (nearer (-1) (distI a b way)) p = _
  have e : nearer (-1) (distI a b way) = farI a b way := by rw [nearer_yes1 (by decide), dist_yes k.pa (hp b (List.mem_cons_self ..)) k.pw]
  rw [e]
  exact minF_far k.pa k.pw p _ (farI_nonneg _ _ _) (fun c hc => hp c (List.mem_cons_of_mem _ hc))
theorem minF_rng (a : Sp) (way : Int) : ∀ (p : List Sp) (n : Int), 0 ≤ n → n ≤ 100000 → 0 ≤ minF a way n p ∧ minF a way n p ≤ 100000
  | [], _, h1, h2 => ⟨h1, h2⟩
  | b :: p, n, h1, h2 => minF_rng a way p _ (by have := farI_nonneg a b way; omega) (by omega)
def Wide (a : Sp) : Prop := -1000 ≤ a.1 ∧ a.1 ≤ 1000 ∧ -1000 ≤ a.2 ∧ a.2 ≤ 1000
theorem wide_of {a : Sp} (h : picB [a] = true) : Wide a := by
  have := picB_one.1 h
  unfold InR at this; unfold Wide; omega
theorem farOk_no4 {p : List Sp} {a : Sp} {way : Int} (h : wayOk way = false) : farOk p a way = false := by unfold farOk; rw [h, Bool.and_false, Bool.and_false, Bool.and_false]
theorem farOk_no3 {p : List Sp} {a : Sp} {way : Int} (h : picB [a] = false) : farOk p a way = false := by unfold farOk; rw [h, Bool.false_and, Bool.and_false, Bool.and_false]
theorem Reads.zero' (w : World) (B : Nat) (A : Addr) : Reads w B (.slice (some A) 0 0) [] := ⟨some A, 0, rfl, by simp, by simp [maxLen], fun h => (by cases h), fun h => by omega⟩
end Go.Proofs.Ytdfpgfnfoippmaa
