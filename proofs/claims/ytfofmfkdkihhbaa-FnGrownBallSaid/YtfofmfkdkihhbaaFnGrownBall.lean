/-
  Proved: the law of GrownBall (FnGrownBall) returns true for every code, and the code reads afterwards as it read before. No conditions.
-/
import Derived.Test.YtfofmfkdkihhbaaDraws4
import Derived.Test.YtfofmfkdkihhbaaBallT
import Derived.Test.YtfofmfkdkihhbaaBallI
import Derived.Test.YtfofmfkdkihhbaaGrownI
import Derived.Test.YtfofmfkdkihhbaaHas2
import Derived.Test.YtfofmfkdkihhbaaOpen
namespace Go.Proofs.Ytfofmfkdkihhbaa.fnGrownBall
open Go.ChangeShapes Go.WideShapes Go.ChangeAt Go.RowKit

theorem impl_lit {b : Bool} {p : List Sp} {v : Value} {r way : Int} {w : World} (hk : grownBallOk p r way = b) (h : Reads w w.heap.size v p) : Calls Try.prog 40 #[v, .int .i64 r, .int .i64 way] w (Gives2' (grownBallR p r way) b w) := by
  subst hk; exact implGrown_any p v r way w h
theorem spec_lit {b : Bool} {p : List Sp} {v : Value} {r way : Int} {w : World} (hk : grownBallOk p r way = b) (h : Reads w w.heap.size v p) : Calls Try.prog 41 #[v, .int .i64 r, .int .i64 way] w (Gives2' (grownBallR p r way) b w) := by
  subst hk; exact specGrown_any p v r way w h
theorem far_lit {n : Int} {p : List Sp} {v : Value} {x y way : Int} {w : World} (hk : farFromI p (x, y) way = n) (h : Reads w w.heap.size v p) : Calls Try.prog 38 #[v, .agg #[.int .i64 x, .int .i64 y], .int .i64 way] w (Gives (.int .i64 n) w) := by
  subst hk; exact specFarFrom_any p v x y way w h
theorem has_lit {b : Bool} {p : List Sp} {v : Value} {x y : Int} {w : World} (hk : hasB p (x, y) = b) (h : Reads w w.heap.size v p) : Calls Try.prog 12 #[v, .agg #[.int .i64 x, .int .i64 y]] w (Gives (.bool b) w) := by
  subst hk; exact implHas_any p v x y w h
theorem nil_of {p : List Sp} {r way : Int} (h : grownBallOk p r way = false) : grownBallR p r way = [] := by
  unfold grownBallOk at h
  unfold grownBallR
  rcases k : ballOk r way with _ | _
  · rfl
  · rw [k, Bool.true_and] at h
    rw [if_pos rfl]; exact sumR_no' h
set_option maxHeartbeats 1600000 in
theorem walk (A : Option Addr) (n c : Nat) (w : World) (hb : Bytes w w.heap.size A n) (hn : n ≤ c) (hc : c ≤ 9223372036854775807) :
    Calls Try.prog 10 #[.slice A n c] w (Gives (.bool true) w) := by
  by_cases hbig : 1048576 < n
  · go_enter Try.func10, Try.ntmps10
    go_wp2
    go_ret
    exact ⟨rfl, Below.refl _ _⟩
  · go_enter Try.func10, Try.ntmps10
    go_wp2_with fail
    refine (drawGrownBall_any A n c _ hb hn hc).mono ?_
    rintro e w1 ⟨v, ps, r, way, rfl, op, hl, ⟨hr1, hr2⟩, hw, bb⟩
    obtain ⟨Ap, cp, rfl, _, _⟩ := op.reads.slice
    clear hb hn hc hw
    rcases hk : grownBallOk ps r way with _ | _
    · have hnil := nil_of hk
      go_wp2_with fail
      refine (impl_lit hk op.reads).mono ?_
      rintro e w2 ⟨vs, rfl, os, bn⟩
      have bb := below_step bb bn
      have op := op.below bn
      go_wp2_with fail
      refine (spec_lit hk op.reads).mono ?_
      rintro e w3 ⟨vx, rfl, ox, bn⟩
      have bb := below_step bb bn
      have op := op.below bn
      have os := os.below bn
      go_wp2_with fail
      refine (gives_is (show decide (grownBallR ps r way = grownBallR ps r way) = true by simp) (sameSpots_any _ _ _ _ _ os.reads ox.reads)).mono ?_
      rintro e w4 ⟨rfl, bn⟩
      have bb := below_step bb bn
      have op := op.below bn
      have os := os.below bn
      clear ox bn
      rw [hnil] at os
      obtain ⟨As, cs, rfl, _, _⟩ := os.reads.slice
      clear hk hnil
      go_wp2_with fail
      refine (alive_any _).mono ?_
      rintro e w5 ⟨rfl, bn⟩
      have bb := below_step bb bn
      go_wp2
      go_ret
      exact ⟨rfl, bb⟩
    · go_wp2_with fail
      refine (impl_lit hk op.reads).mono ?_
      rintro e w2 ⟨vs, rfl, os, bn⟩
      have bb := below_step bb bn
      have op := op.below bn
      go_wp2_with fail
      refine (spec_lit hk op.reads).mono ?_
      rintro e w3 ⟨vx, rfl, ox, bn⟩
      have bb := below_step bb bn
      have op := op.below bn
      have os := os.below bn
      go_wp2_with fail
      refine (gives_is (show decide (grownBallR ps r way = grownBallR ps r way) = true by simp) (sameSpots_any _ _ _ _ _ os.reads ox.reads)).mono ?_
      rintro e w4 ⟨rfl, bn⟩
      have bb := below_step bb bn
      have op := op.below bn
      have os := os.below bn
      clear ox bn
      have HK := Lib.hid hk
      clear hk
      obtain ⟨As, cs, rfl, _, _⟩ := os.reads.slice
      have hs4 := bb.size
      have bw := Below.refl w4.heap.size w4
      go_wp2
      go_loopw [10] (fun i wr => ∃ y : Int, i = .int .i64 y ∧ -9 ≤ y ∧ y ≤ 10 ∧ Below w4.heap.size w4 wr) (fun i _ => (10 - intOf i).toNat)
      case atStart => exact ⟨-9, rfl, by omega, by omega, bw⟩
      case round =>
        clear bw
        obtain ⟨y, rfl, hy1, hy2, bw⟩ := hrel
        by_cases hly : y ≤ 9
        · go_wp2
          go_loopw [11] (fun i wr => ∃ x : Int, i = .int .i64 x ∧ -9 ≤ x ∧ x ≤ 10 ∧ Below w4.heap.size w4 wr) (fun i _ => (10 - intOf i).toNat)
          case atStart => exact ⟨-9, rfl, by omega, by omega, bw⟩
          case round =>
            clear bw
            obtain ⟨x, rfl, hx1, hx2, bw⟩ := hrel
            by_cases hlx : x ≤ 9
            · have hal := box_below wr #[.int .i64 x, .int .i64 y] 25
              have bw := below_step bw hal
              have op2 := op.below bw
              have os2 := os.below bw
              have d0 : (wr.alloc (.cells #[.int .i64 x, .int .i64 y] 25)).cell? ⟨wr.heap.size, 0, none⟩ = some (.int .i64 x) := by simp [go_sem]
              have d1 : (wr.alloc (.cells #[.int .i64 x, .int .i64 y] 25)).cell? ⟨wr.heap.size, 1, none⟩ = some (.int .i64 y) := by simp [go_sem]
              have hnear := grownBall_near (a := (x, y)) HK.out (show InR (x, y) by unfold InR; simp only []; omega)
              obtain ⟨m, hm⟩ : ∃ m, farFromI ps (x, y) way = m := ⟨_, rfl⟩
              rw [hm] at hnear
              clear hal
              by_cases hm0 : 0 ≤ m
              · by_cases hmr : m ≤ r
                · have hh : hasB (grownBallR ps r way) (x, y) = true := hnear.2 ⟨hm0, hmr⟩
                  clear hnear
                  have HM := Lib.hid hm
                  have HH := Lib.hid hh
                  clear hm hh
                  go_wp2_with fail
                  refine (far_lit HM.out op2.reads).mono ?_
                  rintro e w5 ⟨rfl, bn⟩
                  have bw := below_step bw bn
                  have os2 := os2.below bn
                  have d0 := (bn.cell (p := ⟨wr.heap.size, 0, none⟩) (by simp)).trans d0
                  have d1 := (bn.cell (p := ⟨wr.heap.size, 1, none⟩) (by simp)).trans d1
                  go_wp2_with fail
                  refine (has_lit HH.out os2.reads).mono ?_
                  rintro e w6 ⟨rfl, bn⟩
                  have bw := below_step bw bn
                  clear op2 os2 d0 d1 bn
                  go_wp2
                  go_roundw
                  case rel => exact ⟨x + 1, rfl, by omega, by omega, bw⟩
                  case measure => simp [intOf]; omega
                · have hh : hasB (grownBallR ps r way) (x, y) = false := by
                    rcases k : hasB (grownBallR ps r way) (x, y) with _ | _
                    · rfl
                    · exact absurd (hnear.1 k).2 hmr
                  have hmr' : r < m := by omega
                  clear hnear hmr
                  have HM := Lib.hid hm
                  have HH := Lib.hid hh
                  clear hm hh
                  go_wp2_with fail
                  refine (far_lit HM.out op2.reads).mono ?_
                  rintro e w5 ⟨rfl, bn⟩
                  have bw := below_step bw bn
                  have os2 := os2.below bn
                  have d0 := (bn.cell (p := ⟨wr.heap.size, 0, none⟩) (by simp)).trans d0
                  have d1 := (bn.cell (p := ⟨wr.heap.size, 1, none⟩) (by simp)).trans d1
                  go_wp2_with fail
                  refine (has_lit HH.out os2.reads).mono ?_
                  rintro e w6 ⟨rfl, bn⟩
                  have bw := below_step bw bn
                  clear op2 os2 d0 d1 bn
                  go_wp2
                  go_roundw
                  case rel => exact ⟨x + 1, rfl, by omega, by omega, bw⟩
                  case measure => simp [intOf]; omega
              · have hh : hasB (grownBallR ps r way) (x, y) = false := by
                  rcases k : hasB (grownBallR ps r way) (x, y) with _ | _
                  · rfl
                  · exact absurd (hnear.1 k).1 hm0
                have hm0' : m < 0 := by omega
                clear hnear hm0
                have HM := Lib.hid hm
                have HH := Lib.hid hh
                clear hm hh
                go_wp2_with fail
                refine (far_lit HM.out op2.reads).mono ?_
                rintro e w5 ⟨rfl, bn⟩
                have bw := below_step bw bn
                have os2 := os2.below bn
                have d0 := (bn.cell (p := ⟨wr.heap.size, 0, none⟩) (by simp)).trans d0
                have d1 := (bn.cell (p := ⟨wr.heap.size, 1, none⟩) (by simp)).trans d1
                go_wp2_with fail
                refine (has_lit HH.out os2.reads).mono ?_
                rintro e w6 ⟨rfl, bn⟩
                have bw := below_step bw bn
                clear op2 os2 d0 d1 bn
                go_wp2
                go_roundw
                case rel => exact ⟨x + 1, rfl, by omega, by omega, bw⟩
                case measure => simp [intOf]; omega
            · go_wp2
              go_roundw
              case rel => exact ⟨y + 1, rfl, by omega, by omega, bw⟩
              case measure => simp [intOf]; omega
        · have bb := below_step bb bw
          clear bw
          go_wp2_with fail
          refine (alive_any _).mono ?_
          rintro e w7 ⟨rfl, bn⟩
          have bb := below_step bb bn
          go_wp2
          go_ret
          exact ⟨rfl, bb⟩
set_option maxRecDepth 100000 in
theorem lifted (os : Os) (started : os.Started) (H : Type) (enc : TypeId × Value → H) :
    ReturnsInHanded {} Try.checked os 10 .any (Rows.fnGrownBallSpec.pre6 enc Try.prog Try.f10 Rows.fnGrownBallRow.domain false) (Rows.fnGrownBallSpec.post enc Try.prog Try.f10 false true false false) := by
  refine returnsInHanded_of_change (C := Try.checked) own started (by kernel_rfl) Try.func10
    (ChangeSpec.witness6 (enc := enc) (C := Try.checked) false ⟨#[], #[.slice none 0 0], []⟩ 8 (by kernel_rfl) (by kernel_rfl) (by kernel_rfl) (by kernel_rfl)) ?_
  intro W base args ds gs before hval0 hW _ _
  have hval : ∀ (j : Nat) t v, Try.f10.params[j]? = some t → args[j]? = some v → Value.okWide Try.prog W .any base t v := hval0
  have hW' := hW
  obtain ⟨p, q, hA0, hV, rfl, _, _⟩ := hW
  have hA : DataW.TrodAll enc Try.prog W 0 (fun _ => true) true Try.f10.params.toList args.toList ds p := hA0
  rw [Try.params10] at hA hval
  obtain ⟨v0, d0, rfl, rfl, h0⟩ := trodAll_one hA
  obtain ⟨rfl, rfl⟩ := trodVars_none hV
  clear hA0 hval0
  simp only [List.append_nil] at hW'
  have hlt : ∀ x ∈ p, x.block < W.heap.size := fun x hx => by simpa using hW'.lt x hx
  have r0 := open_bytes (hval 0 22 v0 rfl rfl) h0 hlt
  obtain ⟨⟨bA, bn, bc⟩, rfl, rb, rn, rc⟩ := r0
  simp only at rb rn rc
  refine (walk bA bn bc W rb rn rc).mono fun e W' hg => ?_
  obtain ⟨he, hb⟩ := hg
  subst he
  exact ⟨_, rfl, _, _, _, [], p, [], hW', trodAll_mk1 (shut_bool Try.underlying4 _), trodAll_mk1 (kept_arg (by kernel_rfl) (of_decide_eq_true (by kernel_rfl)) h0 hb hlt), rfl, hb.frame _, fun h => by cases h⟩

theorem holds : Rows.FnGrownBallSaid :=
  OpenClaim.holds_of_wide 10 Try.f10 rfl rfl rfl rfl rfl rfl rfl ⟨rfl, rfl, rfl, rfl, rfl⟩ rfl rfl rfl rfl rfl (by kernel_rfl) Try.func10 (by kernel_rfl)
    (of_decide_eq_true (by kernel_rfl)) (by unfold Func.isWrapper; first | (rw [if_pos (by decide +kernel)]; kernel_rfl) | (rw [if_neg (by decide +kernel)]; exact ⟨rfl, rfl⟩))
    (fun os started H enc _ => lifted os started H enc)
end Go.Proofs.Ytfofmfkdkihhbaa.fnGrownBall
