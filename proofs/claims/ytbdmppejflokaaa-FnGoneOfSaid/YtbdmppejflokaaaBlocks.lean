/- The model's l20Blocks draws a picture of a few blocks in new memory; what it does to the reader. No conditions but those typed. -/
import Derived.Test.YtbdmppejflokaaaSpots
namespace Go.Proofs.Ytbdmppejflokaaa
open Go.RowKit Go.Sort

theorem row_pick {w1 w2 : World} {g B : Nat} {o : Obj} (h : w1.heap[B]? = some o) (hg : w1.grownBy w2 (some g)) (hne : g < B) : w2.heap[B]? = some o :=
  (hg.block B (Array.getElem?_eq_some_iff.1 h).1 (fun e => by cases e; omega)).trans h
theorem row_below {w1 w2 : World} {B : Nat} {o : Obj} (h : w1.heap[B]? = some o) (hb : Below w1.heap.size w1 w2) : w2.heap[B]? = some o :=
  (hb.block B (Array.getElem?_eq_some_iff.1 h).1).trans h

set_option maxRecDepth 100000 in
set_option maxHeartbeats 3200000 in
theorem blocks_any (g n c p : Nat) (A : Option Addr) (N : Int) (w : World) (hr : Rd w g A n c p) (h1 : 0 ≤ N) (h2 : N ≤ 1000) (hp : p ≤ 80000) :
    Calls Try.prog 52 #[.pointer (some ⟨g, 0, none⟩), .int .i64 N] w fun e w' => ∃ v ps q, e = .returned v ∧ Inv w w' g n c A v ps q ∧ ps.length ≤ 60 ∧ q ≤ p + 200 := by
  have hg := hr.lt
  have I0 : Inv w (w.alloc (.cells #[] 39)) g n c A (.slice (some ⟨w.heap.size, 0, none⟩) 0 0) [] p := ⟨Owns.empty w w.heap.size (Nat.le_refl _), hr.below ((Below.refl _ _).alloc (Nat.le_refl _) _), World.grownBy_alloc _ _ _, small_nil⟩
  go_enter Try.func52, Try.ntmps52
  go_wp2_with fail
  refine (pick_any g n c p A 3 _ I0.rd (by omega) (by omega) (by omega)).mono ?_
  rintro e w1 ⟨z1, rfl, z1a, z1b, r1, g1⟩
  have I1 := I0.pick hg r1 g1
  clear I0 r1 g1 hr
  obtain ⟨m1, rfl⟩ := Int.eq_ofNat_of_zero_le z1a
  go_wp2_with fail
  go_loopw [5, 6] (fun v k wr => ∃ (j : Nat) (qs : List Sp) (q : Nat), k = .int .i64 j ∧ j ≤ 3 ∧ Inv w wr g n c A v qs q ∧ qs.length ≤ 60 ∧ q + 20 * j ≤ p + 61) (fun _ k _ => (intOf k).toNat)
  case atStart => exact ⟨1 + m1, [], _, by go_num, by omega, I1, by simp, by omega⟩
  case round =>
    clear I1
    obtain ⟨j, qs, q, rfl, hj, J, hlq, hq⟩ := hrel
    by_cases hj0 : 0 < j
    · have hd : decide (0 < (j : Int)) = true := decide_eq_true (by omega)
      go_wp2_with fail
      refine (pick_any g n c q A 3 _ J.rd (by omega) (by omega) (by omega)).mono ?_
      rintro e w2 ⟨z2, rfl, z2a, z2b, r2, g2⟩
      have J2 := J.pick hg r2 g2
      clear J r2 g2
      obtain ⟨s, rfl⟩ := Int.eq_ofNat_of_zero_le z2a
      go_wp2_with fail
      refine (pick_any g n c (q + 1) A 6 _ J2.rd (by omega) (by omega) (by omega)).mono ?_
      rintro e w3 ⟨fx, rfl, fxa, fxb, r3, g3⟩
      have J3 := J2.pick hg r3 g3
      clear J2 r3 g3
      go_wp2_with fail
      refine (pick_any g n c (q + 1 + 1) A 6 _ J3.rd (by omega) (by omega) (by omega)).mono ?_
      rintro e w4 ⟨fy, rfl, fya, fyb, r4, g4⟩
      have J4 := J3.pick hg r4 g4
      clear J3 r4 g4
      have hx5 := heap_alloc_new w4 (.cells #[.int .i64 fx, .int .i64 fy] 39)
      have J5 := J4.alloc (.cells #[.int .i64 fx, .int .i64 fy] 39)
      have hB := J4.grown.size
      clear J4
      go_wp2_with fail
      go_loopw [5, 9] (fun v y wr => ∃ (k : Nat) (qs : List Sp) (q' : Nat), y = .int .i64 k ∧ k ≤ 3 ∧ Inv w wr g n c A v qs q' ∧ qs.length ≤ 60 ∧ wr.heap[w4.heap.size]? = some (.cells #[.int .i64 fx, .int .i64 fy] 39 (0, 0)) ∧ q' ≤ q + 3 + 5 * k) (fun _ y _ => (1 + s) - (intOf y).toNat)
      case atStart => exact ⟨0, _, _, rfl, by omega, J5, hlq, hx5, by omega⟩
      case round =>
        clear J5 hx5 hlq
        obtain ⟨k, qs, q1, rfl, hk, J, hlq, hx, hq1⟩ := hrel
        by_cases hks : k < 1 + s
        · have hd2 : decide ((k : Int) < 1 + (s : Int)) = true := decide_eq_true (by omega)
          go_wp2_with fail
          go_loopw [5, 10] (fun v x wr => ∃ (i : Nat) (qs : List Sp) (q' : Nat), x = .int .i64 i ∧ i ≤ 4 ∧ Inv w wr g n c A v qs q' ∧ qs.length ≤ 60 ∧ wr.heap[w4.heap.size]? = some (.cells #[.int .i64 fx, .int .i64 fy] 39 (0, 0)) ∧ q' ≤ q + 3 + 5 * k + i) (fun _ x _ => 5 - (intOf x).toNat)
          case atStart => exact ⟨0, _, _, rfl, by omega, J, hlq, hx, by omega⟩
          case round =>
            clear J hx hlq
            obtain ⟨i, qs, q2, rfl, hi, J, hlq, hx, hq2⟩ := hrel
            go_wp2_with fail
            refine (pick_any g n c q2 A 2 _ J.rd (by omega) (by omega) (by omega)).mono ?_
            rintro e w6 ⟨z6, rfl, z6a, z6b, r6, g6⟩
            have J6 := J.pick hg r6 g6
            have hx6 := row_pick hx g6 (by omega)
            clear J hx r6 g6
            obtain ⟨A', c', rfl, hc', hm'⟩ := J6.own.reads.slice
            unfold maxLen at hm'
            by_cases hxi : (i : Int) < 1 + (s : Int) + z6
            · have hd3 : decide ((i : Int) < 1 + (s : Int) + z6) = true := decide_eq_true hxi
              by_cases hl60 : qs.length < 60
              · have hd4 : decide ((qs.length : Int) < 60) = true := decide_eq_true (by omega)
                have c0 := cell_of_row w6 _ 0 _ _ _ hx6
                have c1 := cell_of_row w6 _ 1 _ _ _ hx6
                simp only [List.getElem?_toArray, List.getElem?_cons_zero, List.getElem?_cons_succ] at c0 c1
                have hwz := J6.grown.size
                go_wp2_with fail
                refine (l1Put_any qs _ (fx + (i : Int)) (fy + (k : Int)) w.heap.size _ J6.own (by omega) (by omega)).mono ?_
                rintro e w8 ⟨v8, rfl, o8, b8⟩
                have J8 := J6.put b8 o8 (small_put J6.small (small_one (by omega) (by omega) (by omega) (by omega)))
                have hx8 := row_below hx6 b8
                have hl8 := length_put_le qs (fx + (i : Int), fy + (k : Int))
                clear J6 o8 b8 c0 c1
                go_wp2
                go_roundw
                case rel => exact ⟨i + 1, _, _, by go_num, by omega, J8, by omega, hx8, by omega⟩
                case measure => simp [intOf]; omega
              · have hd4 : decide ((qs.length : Int) < 60) = false := decide_eq_false (by omega)
                go_wp2
                go_roundw
                case rel => exact ⟨i + 1, _, _, by go_num, by omega, J6, by omega, hx6, by omega⟩
                case measure => simp [intOf]; omega
            · have hd3 : decide ((i : Int) < 1 + (s : Int) + z6) = false := decide_eq_false hxi
              go_wp2
              go_roundw
              case rel => exact ⟨k + 1, _, _, by go_num, by omega, J6, by omega, hx6, by omega⟩
              case measure => simp [intOf]; omega
        · have hd2 : decide ((k : Int) < 1 + (s : Int)) = false := decide_eq_false (by omega)
          go_wp2
          go_roundw
          case rel => exact ⟨j - 1, _, _, by go_num, by omega, J, by omega, by omega⟩
          case measure => simp [intOf]; omega
    · have hd : decide (0 < (j : Int)) = false := decide_eq_false (by omega)
      go_wp2_with fail
      refine (odd_any g n c q A N _ J.rd (by omega) (by omega) (by omega)).mono ?_
      rintro e w9 ⟨zo, q9, rfl, hq9, r9, g9⟩
      have J9 := J.pick hg r9 g9
      clear J r9 g9
      cases zo with
      | false =>
        go_wp2
        go_ret
        exact ⟨_, qs, _, rfl, J9, by omega, by omega⟩
      | true =>
        have hg9 := J9.grown.size
        go_wp2_with fail
        refine (spots_any g n c q9 A 9 2 _ J9.rd (by omega) (by omega) (by omega) (by omega) (by omega)).mono ?_
        rintro e w10 ⟨v10, ps, q10, rfl, I10, hl10, hq10⟩
        go_wp2
        go_ret
        exact ⟨_, ps, _, rfl, ⟨I10.own.base hg9, I10.rd, grown_trans J9.grown I10.grown, I10.small⟩, by omega, by omega⟩
end Go.Proofs.Ytbdmppejflokaaa
