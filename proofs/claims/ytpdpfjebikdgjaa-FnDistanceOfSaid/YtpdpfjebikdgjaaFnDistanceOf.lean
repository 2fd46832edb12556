/-
  Proved: the law of DistanceOf (FnDistanceOf) returns true for every code and further code, and both read afterwards as they read before. No conditions.
-/
import Derived.Test.YtpdpfjebikdgjaaDraws4
import Derived.Test.YtpdpfjebikdgjaaBallT
import Derived.Test.YtpdpfjebikdgjaaBallI
import Derived.Test.YtpdpfjebikdgjaaOpen
namespace Go.Proofs.Ytpdpfjebikdgjaa.fnDistanceOf
open Go.ChangeShapes Go.WideShapes Go.ChangeAt Go.RowKit

theorem impl_lit {n x y u v way : Int} {w : World} (hk : distI (x, y) (u, v) way = n) : Calls Try.prog 14 #[.agg #[.int .i64 x, .int .i64 y], .agg #[.int .i64 u, .int .i64 v], .int .i64 way] w (Gives (.int .i64 n) w) := by
  subst hk; exact implDist_any x y u v way w
theorem spec_lit {n x y u v way : Int} {w : World} (hk : distI (x, y) (u, v) way = n) : Calls Try.prog 15 #[.agg #[.int .i64 x, .int .i64 y], .agg #[.int .i64 u, .int .i64 v], .int .i64 way] w (Gives (.int .i64 n) w) := by
  subst hk; exact specDist_any x y u v way w
structure Facts (a b c : Sp) (way n m1 m2 n1 n2 n0 : Int) : Prop where
  hn : distI a b way = n
  hs : distI b a way = n
  np : 0 ≤ n
  h1 : distI a c way = m1
  h2 : distI c b way = m2
  m1a : 0 ≤ m1
  m1b : m1 ≤ 1000
  m2a : 0 ≤ m2
  m2b : m2 ≤ 1000
  tri : n ≤ m1 + m2
  k1 : distI a b 1 = n1
  k2 : distI a b 2 = n2
  k0 : distI a b 0 = n0
  l1 : n1 ≤ n2
  l2 : n2 ≤ n0
  zero : n = 0 ↔ a = b
theorem facts {a b c : Sp} {way : Int} (h : distOk a b way = true) (hc : InR c) : ∃ n m1 m2 n1 n2 n0, Facts a b c way n m1 m2 n1 n2 n0 := by
  have k := distOk_iff.1 h
  have pc := picB_one.2 hc
  have e := dist_yes k.pa k.pb k.pw
  have e1 := dist_yes k.pa pc k.pw
  have e2 := dist_yes pc k.pb k.pw
  refine ⟨_, _, _, _, _, _, ⟨rfl, ?_, ?_, rfl, rfl, ?_, distI_le, ?_, distI_le, ?_, rfl, rfl, rfl, ?_, ?_, ?_⟩⟩
  · rw [dist_yes k.pb k.pa k.pw, e, farI_swap]
  · rw [e]; exact farI_nonneg _ _ _
  · rw [e1]; exact farI_nonneg _ _ _
  · rw [e2]; exact farI_nonneg _ _ _
  · rw [e, e1, e2]; exact farI_tri _ _ _ _
  · rw [dist_yes k.pa k.pb (by decide), dist_yes k.pa k.pb (by decide)]; exact far_1_2 _ _
  · rw [dist_yes k.pa k.pb (by decide), dist_yes k.pa k.pb (by decide)]; exact far_2_0 _ _
  · rw [e]; exact farI_zero
set_option maxRecDepth 100000 in
set_option maxHeartbeats 3200000 in
theorem walk (A A' : Option Addr) (n c n' c' : Nat) (w : World) (hb : Bytes w w.heap.size A n) (hn : n ≤ c) (hc : c ≤ 9223372036854775807) (hb' : Bytes w w.heap.size A' n') (hn' : n' ≤ c') (hc' : c' ≤ 9223372036854775807) :
    Calls Try.prog 3 #[.slice A n c, .slice A' n' c'] w (Gives (.bool true) w) := by
  by_cases hbig : 1048576 < n
  · have hd : decide ((1048576 : Int) < (n : Int)) = true := decide_eq_true (by omega)
    have hd2 : decide (1048576 < n) = true := decide_eq_true hbig
    go_enter Try.func3, Try.ntmps3
    go_wp2
    all_goals
      go_ret
      exact ⟨rfl, Below.refl _ _⟩
  have hd : decide ((1048576 : Int) < (n : Int)) = false := decide_eq_false (by omega)
  have hd2 : decide (1048576 < n) = false := decide_eq_false hbig
  by_cases hbig' : 1048576 < n'
  · have hd3 : decide ((1048576 : Int) < (n' : Int)) = true := decide_eq_true (by omega)
    have hd4 : decide (1048576 < n') = true := decide_eq_true hbig'
    go_enter Try.func3, Try.ntmps3
    go_wp2
    all_goals
      go_ret
      exact ⟨rfl, Below.refl _ _⟩
  have hd3 : decide ((1048576 : Int) < (n' : Int)) = false := decide_eq_false (by omega)
  have hd4 : decide (1048576 < n') = false := decide_eq_false hbig'
  go_enter Try.func3, Try.ntmps3
  go_wp2_with fail
  refine (drawDistanceOf_any A n c _ hb hn hc).mono ?_
  rintro e w1 ⟨x, y, u, v, way, rfl, hx, hu, hw, bb⟩
  clear hd hd2 hd3 hd4 hbig hbig' hb hn hc
  obtain ⟨W, hW, bn, s0, q0, q1⟩ := two_boxes w1 (.int .i64 x) (.int .i64 y) (.int .i64 u) (.int .i64 v)
  obtain ⟨c0, c1⟩ := cells_of_row q0
  obtain ⟨c2, c3⟩ := cells_of_row q1
  have t0 : w1.heap.size < W.heap.size := by omega
  have t1 : w1.heap.size + 1 < W.heap.size := by omega
  have bb := below_step bb bn
  clear bn s0 q0 q1
  rcases hk : distOk (x, y) (u, v) way with _ | _
  · have hm1 : distI (x, y) (u, v) way = -1 := by unfold distI; rw [hk]; rfl
    have HN := Lib.hid hm1
    clear hm1 hk
    go_wp2_with (first | (rw [← hW]; clear hW) | fail)
    refine (impl_lit HN.out).mono ?_
    rintro e w3 ⟨rfl, bn⟩
    have bb := below_step bb bn
    have c0 := (bn.cell (p := ⟨w1.heap.size, 0, none⟩) t0).trans c0
    have c1 := (bn.cell (p := ⟨w1.heap.size, 1, none⟩) t0).trans c1
    have c2 := (bn.cell (p := ⟨w1.heap.size + 1, 0, none⟩) t1).trans c2
    have c3 := (bn.cell (p := ⟨w1.heap.size + 1, 1, none⟩) t1).trans c3
    have t0 := Nat.lt_of_lt_of_le t0 bn.size
    have t1 := Nat.lt_of_lt_of_le t1 bn.size
    clear bn
    go_wp2_with fail
    refine (spec_lit HN.out).mono ?_
    rintro e w4 ⟨rfl, bn⟩
    have bb := below_step bb bn
    clear c0 c1 c2 c3
    go_wp2_with fail
    refine (alive_any _).mono ?_
    rintro e w6 ⟨rfl, bn⟩
    have bb := below_step bb bn
    go_wp2
    go_ret
    exact ⟨rfl, bb⟩
  · have e0 : distI (x, y) (u, v) way = distI (x, y) (u, v) way := rfl
    obtain ⟨m, hm⟩ : ∃ m, distI (x, y) (u, v) way = m := ⟨_, rfl⟩
    have hm0 : 0 ≤ m := by rw [← hm, dist_yes (distOk_iff.1 hk).pa (distOk_iff.1 hk).pb (distOk_iff.1 hk).pw]; exact farI_nonneg _ _ _
    have hmd : decide (m < 0) = false := decide_eq_false (by omega)
    have HN := Lib.hid hm
    have HK := Lib.hid hk
    clear hm hk e0
    go_wp2_with (first | (rw [← hW]; clear hW) | fail)
    refine (impl_lit HN.out).mono ?_
    rintro e w3 ⟨rfl, bn⟩
    have bb := below_step bb bn
    have c0 := (bn.cell (p := ⟨w1.heap.size, 0, none⟩) t0).trans c0
    have c1 := (bn.cell (p := ⟨w1.heap.size, 1, none⟩) t0).trans c1
    have c2 := (bn.cell (p := ⟨w1.heap.size + 1, 0, none⟩) t1).trans c2
    have c3 := (bn.cell (p := ⟨w1.heap.size + 1, 1, none⟩) t1).trans c3
    have t0 := Nat.lt_of_lt_of_le t0 bn.size
    have t1 := Nat.lt_of_lt_of_le t1 bn.size
    clear bn
    go_wp2_with fail
    refine (spec_lit HN.out).mono ?_
    rintro e w4 ⟨rfl, bn⟩
    have bb := below_step bb bn
    have c0 := (bn.cell (p := ⟨w1.heap.size, 0, none⟩) t0).trans c0
    have c1 := (bn.cell (p := ⟨w1.heap.size, 1, none⟩) t0).trans c1
    have c2 := (bn.cell (p := ⟨w1.heap.size + 1, 0, none⟩) t1).trans c2
    have c3 := (bn.cell (p := ⟨w1.heap.size + 1, 1, none⟩) t1).trans c3
    have t0 := Nat.lt_of_lt_of_le t0 bn.size
    have t1 := Nat.lt_of_lt_of_le t1 bn.size
    clear bn
    go_wp2_with fail
    refine (drawDistanceOf_any A' n' c' _ ((hb'.below bb).more bb.size) hn' hc').mono ?_
    rintro e w5 ⟨cx, cy, du, dv, dw, rfl, ⟨hc1, hc2, hc3, hc4⟩, _, _, bn⟩
    have bb := below_step bb bn
    have c0 := (bn.cell (p := ⟨w1.heap.size, 0, none⟩) t0).trans c0
    have c1 := (bn.cell (p := ⟨w1.heap.size, 1, none⟩) t0).trans c1
    have c2 := (bn.cell (p := ⟨w1.heap.size + 1, 0, none⟩) t1).trans c2
    have c3 := (bn.cell (p := ⟨w1.heap.size + 1, 1, none⟩) t1).trans c3
    have t0 := Nat.lt_of_lt_of_le t0 bn.size
    have t1 := Nat.lt_of_lt_of_le t1 bn.size
    clear bn
    obtain ⟨W2, hW2, bn, s2, q2, q3⟩ := two_boxes w5 (.int .i64 cx) (.int .i64 cy) (.int .i64 du) (.int .i64 dv)
    obtain ⟨d0, d1⟩ := cells_of_row q2
    have t2 : w5.heap.size < W2.heap.size := by omega
    have bb := below_step bb bn
    have c0 := (bn.cell (p := ⟨w1.heap.size, 0, none⟩) t0).trans c0
    have c1 := (bn.cell (p := ⟨w1.heap.size, 1, none⟩) t0).trans c1
    have c2 := (bn.cell (p := ⟨w1.heap.size + 1, 0, none⟩) t1).trans c2
    have c3 := (bn.cell (p := ⟨w1.heap.size + 1, 1, none⟩) t1).trans c3
    have t0 := Nat.lt_of_lt_of_le t0 bn.size
    have t1 := Nat.lt_of_lt_of_le t1 bn.size
    clear bn q2 q3 s2 hb'
    obtain ⟨m', m1, m2, n1, n2, n0, F⟩ := facts (c := (cx, cy)) HK.out (show InR (cx, cy) by unfold InR; simp only []; omega)
    obtain rfl : m' = m := F.hn.symm.trans HN.out
    have HF := Lib.hid F
    have g1 := F.m1a
    have g2 := F.m1b
    have g3 := F.m2a
    have g4 := F.m2b
    have g5 := F.tri
    have g6 := F.l1
    have g7 := F.l2
    have g8 : decide (m1 < 0) = false := decide_eq_false (by omega)
    have g9 : decide (m2 < 0) = false := decide_eq_false (by omega)
    clear F
    go_wp2_with (first | (rw [← hW2]; clear hW2) | fail)
    refine (impl_lit HF.out.h1).mono ?_
    rintro e w6 ⟨rfl, bn⟩
    have bb := below_step bb bn
    have c0 := (bn.cell (p := ⟨w1.heap.size, 0, none⟩) t0).trans c0
    have c1 := (bn.cell (p := ⟨w1.heap.size, 1, none⟩) t0).trans c1
    have c2 := (bn.cell (p := ⟨w1.heap.size + 1, 0, none⟩) t1).trans c2
    have c3 := (bn.cell (p := ⟨w1.heap.size + 1, 1, none⟩) t1).trans c3
    have t0 := Nat.lt_of_lt_of_le t0 bn.size
    have t1 := Nat.lt_of_lt_of_le t1 bn.size
    have d0 := (bn.cell (p := ⟨w5.heap.size, 0, none⟩) t2).trans d0
    have d1 := (bn.cell (p := ⟨w5.heap.size, 1, none⟩) t2).trans d1
    have t2 := Nat.lt_of_lt_of_le t2 bn.size
    clear bn
    go_wp2_with fail
    refine (impl_lit HF.out.h2).mono ?_
    rintro e w7 ⟨rfl, bn⟩
    have bb := below_step bb bn
    have c0 := (bn.cell (p := ⟨w1.heap.size, 0, none⟩) t0).trans c0
    have c1 := (bn.cell (p := ⟨w1.heap.size, 1, none⟩) t0).trans c1
    have c2 := (bn.cell (p := ⟨w1.heap.size + 1, 0, none⟩) t1).trans c2
    have c3 := (bn.cell (p := ⟨w1.heap.size + 1, 1, none⟩) t1).trans c3
    have t0 := Nat.lt_of_lt_of_le t0 bn.size
    have t1 := Nat.lt_of_lt_of_le t1 bn.size
    have d0 := (bn.cell (p := ⟨w5.heap.size, 0, none⟩) t2).trans d0
    have d1 := (bn.cell (p := ⟨w5.heap.size, 1, none⟩) t2).trans d1
    have t2 := Nat.lt_of_lt_of_le t2 bn.size
    clear bn
    by_cases hxu : x = u
    · by_cases hyv : y = v
      · subst hxu hyv
        obtain rfl : m' = 0 := HF.out.zero.2 rfl
        have f0 := cell_regrown c0
        have f1 := cell_regrown c1
        have f2 := cell_regrown c2
        have f3 := cell_regrown c3
        clear c0 c1 c2 c3 d0 d1
        go_wp2
        refine wp_region_quiet_below (by kernel_rfl) (by kernel_rfl) ?_
        repeat (go_big_quiet_step (first | (go_at_call 14; with_reducible exact gives_regrown (fun w1 _ => impl_lit HF.out.hs) _ _) | (go_at_call 14; with_reducible exact gives_regrown (fun w1 _ => impl_lit HF.out.k1) _ _) | (go_at_call 14; with_reducible exact gives_regrown (fun w1 _ => impl_lit HF.out.k2) _ _) | (go_at_call 14; with_reducible exact gives_regrown (fun w1 _ => impl_lit HF.out.k0) _ _)))
        refine wpQuiet_nil ?_
        intro w9 hw'
        obtain ⟨⟨dq, osq⟩, hw''⟩ := hw'
        have hN : Below w7.heap.size w7 w9 := by rw [hw'']; exact below_regrown _ _ _
        clear hw'' dq osq
        have bb := below_step bb hN
        clear f0 f1 f2 f3 hN
        go_wp2
        go_ret
        exact ⟨ret_bool (by simp), bb⟩
      · have hz : (m' == 0) = false := beq_eq_false_iff_ne.2 (fun e => hyv (Prod.mk.inj (HF.out.zero.1 e)).2)
        subst hxu
        have f0 := cell_regrown c0
        have f1 := cell_regrown c1
        have f2 := cell_regrown c2
        have f3 := cell_regrown c3
        clear c0 c1 c2 c3 d0 d1
        go_wp2
        refine wp_region_quiet_below (by kernel_rfl) (by kernel_rfl) ?_
        repeat (go_big_quiet_step (first | (go_at_call 14; with_reducible exact gives_regrown (fun w1 _ => impl_lit HF.out.hs) _ _) | (go_at_call 14; with_reducible exact gives_regrown (fun w1 _ => impl_lit HF.out.k1) _ _) | (go_at_call 14; with_reducible exact gives_regrown (fun w1 _ => impl_lit HF.out.k2) _ _) | (go_at_call 14; with_reducible exact gives_regrown (fun w1 _ => impl_lit HF.out.k0) _ _)))
        refine wpQuiet_nil ?_
        intro w9 hw'
        obtain ⟨⟨dq, osq⟩, hw''⟩ := hw'
        have hN : Below w7.heap.size w7 w9 := by rw [hw'']; exact below_regrown _ _ _
        clear hw'' dq osq
        have bb := below_step bb hN
        clear f0 f1 f2 f3 hN
        go_wp2
        go_ret
        exact ⟨ret_bool (by simp), bb⟩
    · have hz : (m' == 0) = false := beq_eq_false_iff_ne.2 (fun e => hxu (Prod.mk.inj (HF.out.zero.1 e)).1)
      have f0 := cell_regrown c0
      have f1 := cell_regrown c1
      have f2 := cell_regrown c2
      have f3 := cell_regrown c3
      clear c0 c1 c2 c3 d0 d1
      go_wp2
      refine wp_region_quiet_below (by kernel_rfl) (by kernel_rfl) ?_
      repeat (go_big_quiet_step (first | (go_at_call 14; with_reducible exact gives_regrown (fun w1 _ => impl_lit HF.out.hs) _ _) | (go_at_call 14; with_reducible exact gives_regrown (fun w1 _ => impl_lit HF.out.k1) _ _) | (go_at_call 14; with_reducible exact gives_regrown (fun w1 _ => impl_lit HF.out.k2) _ _) | (go_at_call 14; with_reducible exact gives_regrown (fun w1 _ => impl_lit HF.out.k0) _ _)))
      refine wpQuiet_nil ?_
      intro w9 hw'
      obtain ⟨⟨dq, osq⟩, hw''⟩ := hw'
      have hN : Below w7.heap.size w7 w9 := by rw [hw'']; exact below_regrown _ _ _
      clear hw'' dq osq
      have bb := below_step bb hN
      clear f0 f1 f2 f3 hN
      go_wp2
      go_ret
      exact ⟨ret_bool (by simp), bb⟩
set_option maxRecDepth 100000 in
theorem lifted (os : Os) (started : os.Started) (H : Type) (enc : TypeId × Value → H) :
    ReturnsInHanded {} Try.checked os 3 .any (Rows.fnDistanceOfSpec.pre6 enc Try.prog Try.f3 Rows.fnDistanceOfRow.domain false) (Rows.fnDistanceOfSpec.post enc Try.prog Try.f3 false true false false) := by
  refine returnsInHanded_of_change (C := Try.checked) own started (by kernel_rfl) Try.func3
    (ChangeSpec.witness6 (enc := enc) (C := Try.checked) false ⟨#[], #[.slice none 0 0, .slice none 0 0], []⟩ 8 (by kernel_rfl) (by kernel_rfl) (by kernel_rfl) (by kernel_rfl)) ?_
  intro W base args ds gs before hval0 hW _ _
  have hval : ∀ (j : Nat) t v, Try.f3.params[j]? = some t → args[j]? = some v → Value.okWide Try.prog W .any base t v := hval0
  have hW' := hW
  obtain ⟨p, q, hA0, hV, rfl, _, _⟩ := hW
  have hA : DataW.TrodAll enc Try.prog W 0 (fun _ => true) true Try.f3.params.toList args.toList ds p := hA0
  rw [Try.params3] at hA hval
  obtain ⟨v0, v1, d0, d1, p0, p1, rfl, rfl, rfl, h0, h1⟩ := trodAll_two hA
  obtain ⟨rfl, rfl⟩ := trodVars_none hV
  clear hA0 hval0
  simp only [List.append_nil] at hW'
  have hlt : ∀ x ∈ p0 ++ p1, x.block < W.heap.size := fun x hx => by simpa using hW'.lt x hx
  have hlt0 : ∀ x ∈ p0, x.block < W.heap.size := fun x hx => hlt x (List.mem_append_left _ hx)
  have hlt1 : ∀ x ∈ p1, x.block < W.heap.size := fun x hx => hlt x (List.mem_append_right _ hx)
  have r0 := open_bytes (hval 0 22 v0 rfl rfl) h0 hlt0
  obtain ⟨⟨bA, bn, bc⟩, rfl, rb, rn, rc⟩ := r0
  simp only at rb rn rc
  have r1 := open_bytes (hval 1 22 v1 rfl rfl) h1 hlt1
  obtain ⟨⟨bA1, bn1, bc1⟩, rfl, rb1, rn1, rc1⟩ := r1
  simp only at rb1 rn1 rc1
  refine (walk bA bA1 bn bc bn1 bc1 W rb rn rc rb1 rn1 rc1).mono fun e W' hg => ?_
  obtain ⟨he, hb⟩ := hg
  subst he
  exact ⟨_, rfl, _, _, _, [], p0 ++ p1, [], hW', trodAll_mk1 (shut_bool Try.underlying4 _), trodAll_mk2 (kept_arg (by kernel_rfl) (of_decide_eq_true (by kernel_rfl)) h0 hb hlt0) (kept_arg (by kernel_rfl) (of_decide_eq_true (by kernel_rfl)) h1 hb hlt1), rfl, hb.frame _, fun h => by cases h⟩

theorem holds : Rows.FnDistanceOfSaid :=
  OpenClaim.holds_of_wide 3 Try.f3 rfl rfl rfl rfl rfl rfl rfl ⟨rfl, rfl, rfl, rfl, rfl⟩ rfl rfl rfl rfl rfl (by kernel_rfl) Try.func3 (by kernel_rfl)
    (of_decide_eq_true (by kernel_rfl)) (by unfold Func.isWrapper; first | (rw [if_pos (by decide +kernel)]; kernel_rfl) | (rw [if_neg (by decide +kernel)]; exact ⟨rfl, rfl⟩))
    (fun os started H enc _ => lifted os started H enc)
end Go.Proofs.Ytpdpfjebikdgjaa.fnDistanceOf
