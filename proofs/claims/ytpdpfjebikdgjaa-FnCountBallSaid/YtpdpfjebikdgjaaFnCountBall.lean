/-
  Proved: the law of CountBall (FnCountBall) returns true for every code, and the code reads afterwards as it read before. No conditions.
-/
import Derived.Test.YtpdpfjebikdgjaaDraws4
import Derived.Test.YtpdpfjebikdgjaaBallT
import Derived.Test.YtpdpfjebikdgjaaBallI
import Derived.Test.YtpdpfjebikdgjaaOpen
namespace Go.Proofs.Ytpdpfjebikdgjaa.fnCountBall
open Go.ChangeShapes Go.WideShapes Go.ChangeAt Go.RowKit

theorem impl_lit {n r way : Int} {w : World} (hk : countI r way = n) : Calls Try.prog 33 #[.int .i64 r, .int .i64 way] w (Gives (.int .i64 n) w) := by
  subst hk; exact implCount_any r way w
theorem spec_lit {n r way : Int} {w : World} (hk : countI r way = n) : Calls Try.prog 34 #[.int .i64 r, .int .i64 way] w (Gives (.int .i64 n) w) := by
  subst hk; exact specCount_any r way w
set_option maxHeartbeats 1600000 in
theorem walk (A : Option Addr) (n c : Nat) (w : World) (hb : Bytes w w.heap.size A n) (hn : n ≤ c) (hc : c ≤ 9223372036854775807) :
    Calls Try.prog 7 #[.slice A n c] w (Gives (.bool true) w) := by
  by_cases hbig : 1048576 < n
  · go_enter Try.func7, Try.ntmps7
    go_wp2
    go_ret
    exact ⟨rfl, Below.refl _ _⟩
  · go_enter Try.func7, Try.ntmps7
    go_wp2_with fail
    refine (drawCountBall_any A n c _ hb hn hc).mono ?_
    rintro e w1 ⟨r, way, rfl, ⟨hr1, hr2⟩, hw, bb⟩
    clear hb hn hc
    rcases hk0 : ballOk r way with _ | _
    · have hk : countI r way = -1 := count_no hk0
      have HC := Lib.hid hk
      clear hk hk0
      go_wp2_with fail
      refine (impl_lit (n := -1) HC.out).mono ?_
      rintro e w2 ⟨rfl, bn⟩
      have bb := below_step bb bn
      go_wp2_with fail
      refine (spec_lit (n := -1) HC.out).mono ?_
      rintro e w3 ⟨rfl, bn⟩
      have bb := below_step bb bn
      go_wp2_with fail
      refine (alive_any _).mono ?_
      rintro e w5 ⟨rfl, bn⟩
      have bb := below_step bb bn
      go_wp2
      go_ret
      exact ⟨rfl, bb⟩
    · obtain ⟨e1, e2⟩ := ball_cases hk0
      clear hk0 hr1 hr2 hw
      rcases e1 with rfl | rfl | rfl | rfl
      · rcases e2 with rfl | rfl | rfl
        · have hk : countI (0) 0 = 1 := by decide +kernel
          have HC := Lib.hid hk
          clear hk
          go_wp2_with fail
          refine (impl_lit (n := 1) HC.out).mono ?_
          rintro e w2 ⟨rfl, bn⟩
          have bb := below_step bb bn
          go_wp2_with fail
          refine (spec_lit (n := 1) HC.out).mono ?_
          rintro e w3 ⟨rfl, bn⟩
          have bb := below_step bb bn
          go_wp2
          go_ret
          exact ⟨rfl, bb⟩
        · have hk : countI (0) 1 = 1 := by decide +kernel
          have HC := Lib.hid hk
          clear hk
          go_wp2_with fail
          refine (impl_lit (n := 1) HC.out).mono ?_
          rintro e w2 ⟨rfl, bn⟩
          have bb := below_step bb bn
          go_wp2_with fail
          refine (spec_lit (n := 1) HC.out).mono ?_
          rintro e w3 ⟨rfl, bn⟩
          have bb := below_step bb bn
          go_wp2
          go_ret
          exact ⟨rfl, bb⟩
        · have hk : countI (0) 2 = 1 := by decide +kernel
          have HC := Lib.hid hk
          clear hk
          go_wp2_with fail
          refine (impl_lit (n := 1) HC.out).mono ?_
          rintro e w2 ⟨rfl, bn⟩
          have bb := below_step bb bn
          go_wp2_with fail
          refine (spec_lit (n := 1) HC.out).mono ?_
          rintro e w3 ⟨rfl, bn⟩
          have bb := below_step bb bn
          go_wp2
          go_ret
          exact ⟨rfl, bb⟩
      · rcases e2 with rfl | rfl | rfl
        · have hk : countI (1) 0 = 5 := by decide +kernel
          have HC := Lib.hid hk
          clear hk
          go_wp2_with fail
          refine (impl_lit (n := 5) HC.out).mono ?_
          rintro e w2 ⟨rfl, bn⟩
          have bb := below_step bb bn
          go_wp2_with fail
          refine (spec_lit (n := 5) HC.out).mono ?_
          rintro e w3 ⟨rfl, bn⟩
          have bb := below_step bb bn
          go_wp2
          go_ret
          exact ⟨rfl, bb⟩
        · have hk : countI (1) 1 = 9 := by decide +kernel
          have HC := Lib.hid hk
          clear hk
          go_wp2_with fail
          refine (impl_lit (n := 9) HC.out).mono ?_
          rintro e w2 ⟨rfl, bn⟩
          have bb := below_step bb bn
          go_wp2_with fail
          refine (spec_lit (n := 9) HC.out).mono ?_
          rintro e w3 ⟨rfl, bn⟩
          have bb := below_step bb bn
          go_wp2
          go_ret
          exact ⟨rfl, bb⟩
        · have hk : countI (1) 2 = 5 := by decide +kernel
          have HC := Lib.hid hk
          clear hk
          go_wp2_with fail
          refine (impl_lit (n := 5) HC.out).mono ?_
          rintro e w2 ⟨rfl, bn⟩
          have bb := below_step bb bn
          go_wp2_with fail
          refine (spec_lit (n := 5) HC.out).mono ?_
          rintro e w3 ⟨rfl, bn⟩
          have bb := below_step bb bn
          go_wp2
          go_ret
          exact ⟨rfl, bb⟩
      · rcases e2 with rfl | rfl | rfl
        · have hk : countI (2) 0 = 13 := by decide +kernel
          have HC := Lib.hid hk
          clear hk
          go_wp2_with fail
          refine (impl_lit (n := 13) HC.out).mono ?_
          rintro e w2 ⟨rfl, bn⟩
          have bb := below_step bb bn
          go_wp2_with fail
          refine (spec_lit (n := 13) HC.out).mono ?_
          rintro e w3 ⟨rfl, bn⟩
          have bb := below_step bb bn
          go_wp2
          go_ret
          exact ⟨rfl, bb⟩
        · have hk : countI (2) 1 = 25 := by decide +kernel
          have HC := Lib.hid hk
          clear hk
          go_wp2_with fail
          refine (impl_lit (n := 25) HC.out).mono ?_
          rintro e w2 ⟨rfl, bn⟩
          have bb := below_step bb bn
          go_wp2_with fail
          refine (spec_lit (n := 25) HC.out).mono ?_
          rintro e w3 ⟨rfl, bn⟩
          have bb := below_step bb bn
          go_wp2
          go_ret
          exact ⟨rfl, bb⟩
        · have hk : countI (2) 2 = 21 := by decide +kernel
          have HC := Lib.hid hk
          clear hk
          go_wp2_with fail
          refine (impl_lit (n := 21) HC.out).mono ?_
          rintro e w2 ⟨rfl, bn⟩
          have bb := below_step bb bn
          go_wp2_with fail
          refine (spec_lit (n := 21) HC.out).mono ?_
          rintro e w3 ⟨rfl, bn⟩
          have bb := below_step bb bn
          go_wp2
          go_ret
          exact ⟨rfl, bb⟩
      · rcases e2 with rfl | rfl | rfl
        · have hk : countI (3) 0 = 25 := by decide +kernel
          have HC := Lib.hid hk
          clear hk
          go_wp2_with fail
          refine (impl_lit (n := 25) HC.out).mono ?_
          rintro e w2 ⟨rfl, bn⟩
          have bb := below_step bb bn
          go_wp2_with fail
          refine (spec_lit (n := 25) HC.out).mono ?_
          rintro e w3 ⟨rfl, bn⟩
          have bb := below_step bb bn
          go_wp2
          go_ret
          exact ⟨rfl, bb⟩
        · have hk : countI (3) 1 = 49 := by decide +kernel
          have HC := Lib.hid hk
          clear hk
          go_wp2_with fail
          refine (impl_lit (n := 49) HC.out).mono ?_
          rintro e w2 ⟨rfl, bn⟩
          have bb := below_step bb bn
          go_wp2_with fail
          refine (spec_lit (n := 49) HC.out).mono ?_
          rintro e w3 ⟨rfl, bn⟩
          have bb := below_step bb bn
          go_wp2
          go_ret
          exact ⟨rfl, bb⟩
        · have hk : countI (3) 2 = 37 := by decide +kernel
          have HC := Lib.hid hk
          clear hk
          go_wp2_with fail
          refine (impl_lit (n := 37) HC.out).mono ?_
          rintro e w2 ⟨rfl, bn⟩
          have bb := below_step bb bn
          go_wp2_with fail
          refine (spec_lit (n := 37) HC.out).mono ?_
          rintro e w3 ⟨rfl, bn⟩
          have bb := below_step bb bn
          go_wp2
          go_ret
          exact ⟨rfl, bb⟩
set_option maxRecDepth 100000 in
theorem lifted (os : Os) (started : os.Started) (H : Type) (enc : TypeId × Value → H) :
    ReturnsInHanded {} Try.checked os 7 .any (Rows.fnCountBallSpec.pre6 enc Try.prog Try.f7 Rows.fnCountBallRow.domain false) (Rows.fnCountBallSpec.post enc Try.prog Try.f7 false true false false) := by
  refine returnsInHanded_of_change (C := Try.checked) own started (by kernel_rfl) Try.func7
    (ChangeSpec.witness6 (enc := enc) (C := Try.checked) false ⟨#[], #[.slice none 0 0], []⟩ 8 (by kernel_rfl) (by kernel_rfl) (by kernel_rfl) (by kernel_rfl)) ?_
  intro W base args ds gs before hval0 hW _ _
  have hval : ∀ (j : Nat) t v, Try.f7.params[j]? = some t → args[j]? = some v → Value.okWide Try.prog W .any base t v := hval0
  have hW' := hW
  obtain ⟨p, q, hA0, hV, rfl, _, _⟩ := hW
  have hA : DataW.TrodAll enc Try.prog W 0 (fun _ => true) true Try.f7.params.toList args.toList ds p := hA0
  rw [Try.params7] at hA hval
  obtain ⟨v0, d0, rfl, rfl, h0⟩ := trodAll_one hA
  obtain ⟨rfl, rfl⟩ := trodVars_none hV
  clear hA0 hval0
  simp only [List.append_nil] at hW'
  have hlt : ∀ x ∈ p, x.block < W.heap.size := fun x hx => by simpa using hW'.lt x hx
  have r0 := open_bytes (hval 0 22 v0 rfl rfl) h0 hlt
  obtain ⟨⟨bA, bn, bc⟩, rfl, rb, rn, rc⟩ := r0
  simp only at rb rn rc
  refine (walk bA bn bc W rb rn rc).mono fun e W' hg => ?_
  obtain ⟨he, hb⟩ := hg
  subst he
  exact ⟨_, rfl, _, _, _, [], p, [], hW', trodAll_mk1 (shut_bool Try.underlying4 _), trodAll_mk1 (kept_arg (by kernel_rfl) (of_decide_eq_true (by kernel_rfl)) h0 hb hlt), rfl, hb.frame _, fun h => by cases h⟩

theorem holds : Rows.FnCountBallSaid :=
  OpenClaim.holds_of_wide 7 Try.f7 rfl rfl rfl rfl rfl rfl rfl ⟨rfl, rfl, rfl, rfl, rfl⟩ rfl rfl rfl rfl rfl (by kernel_rfl) Try.func7 (by kernel_rfl)
    (of_decide_eq_true (by kernel_rfl)) (by unfold Func.isWrapper; first | (rw [if_pos (by decide +kernel)]; kernel_rfl) | (rw [if_neg (by decide +kernel)]; exact ⟨rfl, rfl⟩))
    (fun os started H enc _ => lifted os started H enc)
end Go.Proofs.Ytpdpfjebikdgjaa.fnCountBall
