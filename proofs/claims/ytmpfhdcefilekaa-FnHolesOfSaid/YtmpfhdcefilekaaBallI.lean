/- DistanceOf, BallOf, FarFrom, GrownBall and CountBall of the program. No conditions but those typed. -/
import Derived.Test.YtmpfhdcefilekaaTell
import Derived.Test.YtmpfhdcefilekaaPicWalk
import Derived.Test.YtmpfhdcefilekaaBallJ
namespace Go.Proofs.Ytmpfhdcefilekaa
open Go.RowKit Go.Sort

theorem inB_lit {a : Sp} {b : Bool} (h : picB [a] = b) : inB a.1 a.2 30 = b := by
  subst h
  rw [Bool.eq_iff_iff, picB_one]
  unfold inB InR
  simp
theorem within_is {x y : Int} {b : Bool} {w : World} (h : picB [(x, y)] = b) : Calls Try.prog 62 #[.agg #[.int .i64 x, .int .i64 y], .int .i64 30] w (Gives (.bool b) w) := by
  have e := inB_lit h
  simp only at e
  rw [← e]
  exact spotWithin_any x y 30 w (by decide) (by decide)
set_option maxHeartbeats 1600000 in
theorem implBall_any (r way : Int) (w : World) : Calls Try.prog 82 #[.int .i64 r, .int .i64 way] w fun e w' => ∃ v', e = .returned v' ∧ Owns w' w.heap.size v' (ballL r way) ∧ Below w.heap.size w w' := by
  rcases h2 : wayOk way with _ | _
  · rw [ball_no (ballOk_no2 h2)]
    go_enter Try.func82, Try.ntmps82
    go_wp2_with fail
    refine (distanceIn_no _ h2).mono ?_
    rintro e w1 ⟨rfl, b1⟩
    go_wp2
    go_ret
    exact ⟨_, rfl, Owns.nil _ _, b1⟩
  by_cases hr0 : r < 0
  · rw [ball_no (ballOk_no1 (decide_eq_false (by omega)))]
    go_enter Try.func82, Try.ntmps82
    go_wp2_with fail
    refine (distanceIn_yes _ h2).mono ?_
    rintro e w1 ⟨rfl, b1⟩
    go_wp2
    go_ret
    exact ⟨_, rfl, Owns.nil _ _, b1⟩
  by_cases hr3 : 3 < r
  · rw [ball_no (ballOk_no1 (decide_eq_false (by omega)))]
    go_enter Try.func82, Try.ntmps82
    go_wp2_with fail
    refine (distanceIn_yes _ h2).mono ?_
    rintro e w1 ⟨rfl, b1⟩
    go_wp2
    go_ret
    exact ⟨_, rfl, Owns.nil _ _, b1⟩
  · have H2 := Lib.hid h2
    go_enter Try.func82, Try.ntmps82
    go_wp2_with fail
    refine (distanceIn_yes _ h2).mono ?_
    rintro e w1 ⟨rfl, b1⟩
    clear h2
    go_wp2_with fail
    refine (ballsBy_any way _).mono ?_
    rintro e w2 ⟨M, T, rfl, hM, hK, b2⟩
    go_wp2_with fail
    refine (maker_any M T r way _ H2.out (by omega) hK).mono ?_
    rintro e w3 ⟨v3, rfl, o3, b3⟩
    have bw := below_step b1 b2
    have hs := b1.size
    go_wp2
    go_ret
    exact ⟨_, rfl, o3.base bw.size, bw.trans (b3.mono (by omega))⟩

/-! ### how far from a picture -/
def minF (a : Sp) (way : Int) : Int → List Sp → Int
  | n, [] => n
  | n, b :: p => minF a way (min n (farI a b way)) p
theorem minF_append (a : Sp) (way : Int) : ∀ (p q : List Sp) (n : Int), minF a way n (p ++ q) = minF a way (minF a way n p) q
  | [], _, _ => rfl
  | _ :: p, q, _ => minF_append a way p q _
theorem minF_succ {p : List Sp} {a b : Sp} {way n : Int} {k : Nat} (h : p[k]? = some b) : minF a way n (p.take (k + 1)) = min (minF a way n (p.take k)) (farI a b way) := by
  rw [List.take_add_one, h, minF_append]; rfl
theorem minF_far {a : Sp} {way : Int} (ha : picB [a] = true) (hw : wayOk way = true) : ∀ (p : List Sp) (n : Int), 0 ≤ n → (∀ b ∈ p, picB [b] = true) → farFromF a way n p = minF a way n p
  | [], _, _, _ => rfl
  | b :: p, n, hn, h => by
    have hd := dist_yes ha (h b (List.mem_cons_self ..)) hw
    have h0 := farI_nonneg a b way
    show farFromF a way (nearer n (distI a b way)) p = minF a way (min n (farI a b way)) p
    have e : nearer n (distI a b way) = min n (farI a b way) := by rw [hd]; unfold nearer; split <;> omega
    rw [e]
    exact minF_far ha hw p _ (by omega) (fun c hc => h c (List.mem_cons_of_mem _ hc))
theorem far_min {a b : Sp} {p : List Sp} {way : Int} (h : farOk (b :: p) a way = true) : farFromI (b :: p) a way = minF a way (farI a b way) p := by
  have k := farOk_is h
  have hp : ∀ c ∈ b :: p, picB [c] = true := fun c hc => picB_one.2 ((picB_pic k.pp).2.1 c hc)
  rw [farFromI_pic k.pp]
  show farFromF a way (nearer (-1) (distI a b way)) p = _
  have e : nearer (-1) (distI a b way) = farI a b way := by rw [nearer_yes1 (by decide), dist_yes k.pa (hp b (List.mem_cons_self ..)) k.pw]
  rw [e]
  exact minF_far k.pa k.pw p _ (farI_nonneg _ _ _) (fun c hc => hp c (List.mem_cons_of_mem _ hc))
theorem minF_rng (a : Sp) (way : Int) : ∀ (p : List Sp) (n : Int), 0 ≤ n → n ≤ 100000 → 0 ≤ minF a way n p ∧ minF a way n p ≤ 100000
  | [], _, h1, h2 => ⟨h1, h2⟩
  | b :: p, n, h1, h2 => minF_rng a way p _ (by have := farI_nonneg a b way; omega) (by omega)
def Wide (a : Sp) : Prop := -1000 ≤ a.1 ∧ a.1 ≤ 1000 ∧ -1000 ≤ a.2 ∧ a.2 ≤ 1000
theorem wide_of {a : Sp} (h : picB [a] = true) : Wide a := by
  have := picB_one.1 h
  unfold InR at this; unfold Wide; omega
theorem farOk_no4 {p : List Sp} {a : Sp} {way : Int} (h : wayOk way = false) : farOk p a way = false := by unfold farOk; rw [h, Bool.and_false, Bool.and_false, Bool.and_false]
theorem farOk_no3 {p : List Sp} {a : Sp} {way : Int} (h : picB [a] = false) : farOk p a way = false := by unfold farOk; rw [h, Bool.false_and, Bool.and_false, Bool.and_false]
theorem Reads.zero' (w : World) (B : Nat) (A : Addr) : Reads w B (.slice (some A) 0 0) [] := ⟨some A, 0, rfl, by simp, by simp [maxLen], fun h => (by cases h), fun h => by omega⟩
end Go.Proofs.Ytmpfhdcefilekaa
