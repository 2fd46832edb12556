/-
  Proved: the law of PatternOk (FnPatternOk) returns true for every code, and the code reads afterwards as it read before. No conditions.
-/
import Derived.Test.YtiifklgfdhhfoaaDrawsP
import Derived.Test.YtiifklgfdhhfoaaPattS
import Derived.Test.YtiifklgfdhhfoaaPattI
import Derived.Test.YtiifklgfdhhfoaaOpen
namespace Go.Proofs.Ytiifklgfdhhfoaa.fnPatternOk
open Go.ChangeShapes Go.WideShapes Go.ChangeAt Go.RowKit

theorem impl_lit {b : Bool} {t u : List Sp} {vt vu : Value} {w : World} (hk : patB t u = b) (ht : Reads w w.heap.size vt t) (hu : Reads w w.heap.size vu u) : Calls Try.prog 14 #[.agg #[vt, vu]] w (Gives (.bool b) w) := by
  subst hk; exact implPattern_any t u vt vu w ht hu
theorem spec_lit {b : Bool} {t u : List Sp} {vt vu : Value} {w : World} (hk : patB t u = b) (ht : Reads w w.heap.size vt t) (hu : Reads w w.heap.size vu u) (hlt : t.length ≤ 1100000) (hlu : u.length ≤ 1100000) : Calls Try.prog 15 #[.agg #[vt, vu]] w (Gives (.bool b) w) := by
  subst hk; exact specPattern_any t u vt vu w ht hu hlt hlu
set_option maxHeartbeats 1600000 in
theorem walk (A : Option Addr) (n c : Nat) (w : World) (hb : Bytes w w.heap.size A n) (hn : n ≤ c) (hc : c ≤ 9223372036854775807) :
    Calls Try.prog 3 #[.slice A n c] w (Gives (.bool true) w) := by
  by_cases hbig : 1048576 < n
  · go_enter Try.func3, Try.ntmps3
    go_wp2
    go_ret
    exact ⟨rfl, Below.refl _ _⟩
  · go_enter Try.func3, Try.ntmps3
    go_wp2_with fail
    refine (drawPatternOk_any A n c _ hb hn hc).mono ?_
    rintro e w1 ⟨vt, vu, t, u, rfl, D⟩
    have bb := D.below
    have ot := D.ot
    have ou := D.ou
    have hlt := D.lt
    have hlu := D.lu
    obtain ⟨At, ct, rfl, _, _⟩ := ot.reads.slice
    obtain ⟨Au, cu, rfl, _, _⟩ := ou.reads.slice
    clear D hb hn hc
    obtain ⟨W, hW⟩ : ∃ W, W = w1.alloc (.cells #[.slice At t.length ct, .slice Au u.length cu] 25) := ⟨_, rfl⟩
    have q0 : W.cell? ⟨w1.heap.size, 0, none⟩ = some (.slice At t.length ct) := by rw [hW]; simp [go_sem]
    have q1 : W.cell? ⟨w1.heap.size, 1, none⟩ = some (.slice Au u.length cu) := by rw [hW]; simp [go_sem]
    have s0 : w1.heap.size < W.heap.size := by rw [hW]; simp
    have bn : Below w1.heap.size w1 W := by rw [hW]; exact box_below _ _ _
    have bb := below_step bb bn
    have ot := ot.below bn
    have ou := ou.below bn
    clear bn
    have P1 := Lib.hid (show patB [(0, 0)] [] = true by decide)
    have P0 := Lib.hid (show patB [] [] = false by decide)
    rcases hk : patB t u with _ | _
    · go_wp2_with (first | (rw [← hW]; clear hW) | fail)
      refine (impl_lit hk ot.reads ou.reads).mono ?_
      rintro e w2 ⟨rfl, bn⟩
      have bb := below_step bb bn
      have ot := ot.below bn
      have ou := ou.below bn
      have q0 := (bn.cell (p := ⟨w1.heap.size, 0, none⟩) s0).trans q0
      have q1 := (bn.cell (p := ⟨w1.heap.size, 1, none⟩) s0).trans q1
      have s0 := Nat.lt_of_lt_of_le s0 bn.size
      clear bn
      go_wp2_with fail
      refine (spec_lit hk ot.reads ou.reads (by omega) (by omega)).mono ?_
      rintro e w3 ⟨rfl, bn⟩
      have bb := below_step bb bn
      have ot := ot.below bn
      have ou := ou.below bn
      have q0 := (bn.cell (p := ⟨w1.heap.size, 0, none⟩) s0).trans q0
      have q1 := (bn.cell (p := ⟨w1.heap.size, 1, none⟩) s0).trans q1
      have s0 := Nat.lt_of_lt_of_le s0 bn.size
      clear bn
      clear hk
      have l1 := litB w3 [(0, 0)] #[.int .i64 0, .int .i64 0] rfl (by simp)
      have bn := box_below w3 #[.int .i64 0, .int .i64 0] 29
      have bb := below_step bb bn
      clear bn
      go_wp2_with fail
      refine (impl_lit P1.out l1.reads (Reads.nil _ _)).mono ?_
      rintro e w4 ⟨rfl, bn⟩
      have bb := below_step bb bn
      clear l1 bn
      go_wp2_with fail
      refine (impl_lit P0.out (Reads.nil _ _) (Reads.nil _ _)).mono ?_
      rintro e w5 ⟨rfl, bn⟩
      have bb := below_step bb bn
      go_wp2_with fail
      refine (alive_any _).mono ?_
      rintro e w6 ⟨rfl, bn⟩
      go_wp2
      go_ret
      exact ⟨rfl, below_step bb bn⟩
    · have P2 := Lib.hid (patB_there hk)
      go_wp2_with (first | (rw [← hW]; clear hW) | fail)
      refine (impl_lit hk ot.reads ou.reads).mono ?_
      rintro e w2 ⟨rfl, bn⟩
      have bb := below_step bb bn
      have ot := ot.below bn
      have ou := ou.below bn
      have q0 := (bn.cell (p := ⟨w1.heap.size, 0, none⟩) s0).trans q0
      have q1 := (bn.cell (p := ⟨w1.heap.size, 1, none⟩) s0).trans q1
      have s0 := Nat.lt_of_lt_of_le s0 bn.size
      clear bn
      go_wp2_with fail
      refine (spec_lit hk ot.reads ou.reads (by omega) (by omega)).mono ?_
      rintro e w3 ⟨rfl, bn⟩
      have bb := below_step bb bn
      have ot := ot.below bn
      have ou := ou.below bn
      have q0 := (bn.cell (p := ⟨w1.heap.size, 0, none⟩) s0).trans q0
      have q1 := (bn.cell (p := ⟨w1.heap.size, 1, none⟩) s0).trans q1
      have s0 := Nat.lt_of_lt_of_le s0 bn.size
      clear bn
      clear hk
      have l1 := litB w3 [(0, 0)] #[.int .i64 0, .int .i64 0] rfl (by simp)
      have bn := box_below w3 #[.int .i64 0, .int .i64 0] 29
      have bb := below_step bb bn
      have ot := ot.below bn
      have ou := ou.below bn
      have q0 := (bn.cell (p := ⟨w1.heap.size, 0, none⟩) s0).trans q0
      have q1 := (bn.cell (p := ⟨w1.heap.size, 1, none⟩) s0).trans q1
      have s0 := Nat.lt_of_lt_of_le s0 bn.size
      clear bn
      go_wp2_with fail
      refine (impl_lit P1.out l1.reads (Reads.nil _ _)).mono ?_
      rintro e w4 ⟨rfl, bn⟩
      have bb := below_step bb bn
      have ot := ot.below bn
      have ou := ou.below bn
      have q0 := (bn.cell (p := ⟨w1.heap.size, 0, none⟩) s0).trans q0
      have q1 := (bn.cell (p := ⟨w1.heap.size, 1, none⟩) s0).trans q1
      have s0 := Nat.lt_of_lt_of_le s0 bn.size
      clear bn
      clear l1
      go_wp2_with fail
      refine (impl_lit P0.out (Reads.nil _ _) (Reads.nil _ _)).mono ?_
      rintro e w5 ⟨rfl, bn⟩
      have bb := below_step bb bn
      have ot := ot.below bn
      have ou := ou.below bn
      have q0 := (bn.cell (p := ⟨w1.heap.size, 0, none⟩) s0).trans q0
      have q1 := (bn.cell (p := ⟨w1.heap.size, 1, none⟩) s0).trans q1
      have s0 := Nat.lt_of_lt_of_le s0 bn.size
      clear bn
      go_wp2_with fail
      refine (impl_lit P2.out ot.reads (Reads.nil _ _)).mono ?_
      rintro e w6 ⟨rfl, bn⟩
      have bb := below_step bb bn
      have ot := ot.below bn
      have ou := ou.below bn
      have q0 := (bn.cell (p := ⟨w1.heap.size, 0, none⟩) s0).trans q0
      have q1 := (bn.cell (p := ⟨w1.heap.size, 1, none⟩) s0).trans q1
      have s0 := Nat.lt_of_lt_of_le s0 bn.size
      clear bn
      go_wp2_with fail
      refine (alive_any _).mono ?_
      rintro e w7 ⟨rfl, bn⟩
      go_wp2
      go_ret
      exact ⟨rfl, below_step bb bn⟩
set_option maxRecDepth 100000 in
theorem lifted (os : Os) (started : os.Started) (H : Type) (enc : TypeId × Value → H) :
    ReturnsInHanded {} Try.checked os 3 .any (Rows.fnPatternOkSpec.pre6 enc Try.prog Try.f3 Rows.fnPatternOkRow.domain false) (Rows.fnPatternOkSpec.post enc Try.prog Try.f3 false true false false) := by
  refine returnsInHanded_of_change (C := Try.checked) own started (by kernel_rfl) Try.func3
    (ChangeSpec.witness6 (enc := enc) (C := Try.checked) false ⟨#[], #[.slice none 0 0], []⟩ 8 (by kernel_rfl) (by kernel_rfl) (by kernel_rfl) (by kernel_rfl)) ?_
  intro W base args ds gs before hval0 hW _ _
  have hval : ∀ (j : Nat) t v, Try.f3.params[j]? = some t → args[j]? = some v → Value.okWide Try.prog W .any base t v := hval0
  have hW' := hW
  obtain ⟨p, q, hA0, hV, rfl, _, _⟩ := hW
  have hA : DataW.TrodAll enc Try.prog W 0 (fun _ => true) true Try.f3.params.toList args.toList ds p := hA0
  rw [Try.params3] at hA hval
  obtain ⟨v0, d0, rfl, rfl, h0⟩ := trodAll_one hA
  obtain ⟨rfl, rfl⟩ := trodVars_none hV
  clear hA0 hval0
  simp only [List.append_nil] at hW'
  have hlt : ∀ x ∈ p, x.block < W.heap.size := fun x hx => by simpa using hW'.lt x hx
  have r0 := open_bytes (hval 0 22 v0 rfl rfl) h0 hlt
  obtain ⟨⟨bA, bn, bc⟩, rfl, rb, rn, rc⟩ := r0
  simp only at rb rn rc
  refine (walk bA bn bc W rb rn rc).mono fun e W' hg => ?_
  obtain ⟨he, hb⟩ := hg
  subst he
  exact ⟨_, rfl, _, _, _, [], p, [], hW', trodAll_mk1 (shut_bool Try.underlying4 _), trodAll_mk1 (kept_arg (by kernel_rfl) (of_decide_eq_true (by kernel_rfl)) h0 hb hlt), rfl, hb.frame _, fun h => by cases h⟩

theorem holds : Rows.FnPatternOkSaid :=
  OpenClaim.holds_of_wide 3 Try.f3 rfl rfl rfl rfl rfl rfl rfl ⟨rfl, rfl, rfl, rfl, rfl⟩ rfl rfl rfl rfl rfl (by kernel_rfl) Try.func3 (by kernel_rfl)
    (of_decide_eq_true (by kernel_rfl)) (by unfold Func.isWrapper; first | (rw [if_pos (by decide +kernel)]; kernel_rfl) | (rw [if_neg (by decide +kernel)]; exact ⟨rfl, rfl⟩))
    (fun os started H enc _ => lifted os started H enc)
end Go.Proofs.Ytiifklgfdhhfoaa.fnPatternOk
