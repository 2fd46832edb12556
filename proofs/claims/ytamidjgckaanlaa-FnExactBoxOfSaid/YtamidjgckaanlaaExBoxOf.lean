/-
  Proved: the exact law of BoxOf (FnExactBoxOf) returns true for every input, and its argument reads afterwards as it read before. No conditions.
-/
import Derived.Test.YtamidjgckaanlaaCopy
import Derived.Test.YtamidjgckaanlaaBoxS
import Derived.Test.YtamidjgckaanlaaOpen
namespace Go.Proofs.Ytamidjgckaanlaa.exBoxOf
open Go.ChangeShapes Go.WideShapes Go.ChangeAt Go.RowKit

theorem impl_is {b : Bool} {ps : List Sp} {lx ly gx gy : Int} {v : Value} {w : World} (hB : boxR ps = ((lx, ly), (gx, gy))) (hk : boxOk ps = b) (h : Reads w w.heap.size v ps) :
    Calls Try.prog 30 #[v] w fun e w' => e = .returned (.tuple #[.agg #[.int .i64 lx, .int .i64 ly], .agg #[.int .i64 gx, .int .i64 gy], .bool b]) ∧ Below w.heap.size w w' := by
  have c := implBox_any ps v w h
  rw [hB, hk] at c
  exact c
theorem spec_is {b : Bool} {ps : List Sp} {lx ly gx gy : Int} {v : Value} {w : World} (hB : boxR ps = ((lx, ly), (gx, gy))) (hk : boxOk ps = b) (h : Reads w w.heap.size v ps) :
    Calls Try.prog 31 #[v] w fun e w' => e = .returned (.tuple #[.agg #[.int .i64 lx, .int .i64 ly], .agg #[.int .i64 gx, .int .i64 gy], .bool b]) ∧ Below w.heap.size w w' := by
  have c := specBox_any ps v w h
  rw [hB, hk] at c
  exact c
set_option maxHeartbeats 1600000 in
theorem walk (ps : List Sp) (v : Value) (w : World) (h : Reads w w.heap.size v ps) : Calls Try.prog 12 #[v] w (Gives (.bool true) w) := by
  obtain ⟨A, c, rfl, hc, hm⟩ := h.slice
  unfold maxLen at hm
  by_cases hl : 1048576 < ps.length
  · go_enter Try.func12, Try.ntmps12
    go_wp2_with fail
    refine (szSpotS_yes ps.length c A 1048576 _ (by omega) (by omega) (by omega) (by omega)).mono ?_
    rintro e w1 ⟨rfl, b1⟩
    go_wp2
    go_ret
    exact ⟨rfl, b1⟩
  · obtain ⟨lx, ly, gx, gy, hB⟩ : ∃ lx ly gx gy, boxR ps = ((lx, ly), (gx, gy)) := ⟨_, _, _, _, rfl⟩
    have HB := Lib.hid hB
    clear hB
    rcases hk : boxOk ps with _ | _
    all_goals
      have HK := Lib.hid hk
      clear hk
      go_enter Try.func12, Try.ntmps12
      go_wp2_with fail
      refine (szSpotS_no ps.length c A 1048576 _ (by omega) (by omega) (by omega) (by omega)).mono ?_
      rintro e w1 ⟨rfl, b1⟩
      have bb := b1
      go_wp2_with fail
      refine (toSpotS_any ps _ _ ((h.below bb).more bb.size) (by omega)).mono ?_
      rintro e w2 ⟨v2, rfl, o2, bn⟩
      have bb := below_step bb bn
      clear bn b1
      go_wp2_with fail
      refine (spec_is HB.out HK.out o2.reads).mono ?_
      rintro e w3 ⟨rfl, b3⟩
      have bb := below_step bb b3
      clear o2 b3
      obtain ⟨W3, hW3, b03, s3, l3, g3⟩ := two_boxes w3 (.int .i64 lx) (.int .i64 ly) (.int .i64 gx) (.int .i64 gy)
      have bb := below_step bb b03
      go_wp2_with (first | (rw [← hW3]; clear hW3) | fail)
      refine (toSpotS_any ps _ _ ((h.below bb).more bb.size) (by omega)).mono ?_
      rintro e w4 ⟨vx, rfl, ox, bn⟩
      have l4 := (bn.block w3.heap.size (by omega)).trans l3
      have g4 := (bn.block (w3.heap.size + 1) (by omega)).trans g3
      have bb := below_step bb bn
      have hs4 := bn.size
      clear bn l3 g3
      go_wp2_with fail
      refine (impl_is HB.out HK.out ox.reads).mono ?_
      rintro e w5 ⟨rfl, b5⟩
      have ox := ox.below b5
      have bb := below_step bb b5
      have l5 := (b5.block w3.heap.size (by omega)).trans l4
      have g5 := (b5.block (w3.heap.size + 1) (by omega)).trans g4
      have hs5 := b5.size
      clear b5 l4 g4
      obtain ⟨W5, hW5, b05, s5, l6, g6⟩ := two_boxes w5 (.int .i64 lx) (.int .i64 ly) (.int .i64 gx) (.int .i64 gy)
      have l5 := (b05.block w3.heap.size (by omega)).trans l5
      have g5 := (b05.block (w3.heap.size + 1) (by omega)).trans g5
      have bb := below_step bb b05
      have ox := ox.below b05
      obtain ⟨c0, c1⟩ := cells_of_row l5
      obtain ⟨c2, c3⟩ := cells_of_row g5
      obtain ⟨c4, c5⟩ := cells_of_row l6
      obtain ⟨c6, c7⟩ := cells_of_row g6
      go_wp2_with (first | (rw [← hW5]; clear hW5) | fail)
      refine (gives_is (show decide ((lx, ly) = (lx, ly)) = true by simp) (eqSpot_any _ _ _ _ _)).mono ?_
      rintro e w6 ⟨rfl, bn⟩
      have ox := ox.below bn
      have bb := below_step bb bn
      have g5 := (bn.block (w3.heap.size + 1) (by omega)).trans g5
      have g6 := (bn.block (w5.heap.size + 1) (by omega)).trans g6
      clear bn c0 c1 c2 c3 c4 c5 c6 c7
      obtain ⟨c2, c3⟩ := cells_of_row g5
      obtain ⟨c6, c7⟩ := cells_of_row g6
      go_wp2_with fail
      refine (gives_is (show decide ((gx, gy) = (gx, gy)) = true by simp) (eqSpot_any _ _ _ _ _)).mono ?_
      rintro e w7 ⟨rfl, bn⟩
      have ox := ox.below bn
      have bb := below_step bb bn
      clear bn
      go_wp2_with fail
      refine (toSpotS_any ps _ _ ((h.below bb).more bb.size) (by omega)).mono ?_
      rintro e w8 ⟨v8, rfl, o8, bn⟩
      have ox := ox.below bn
      have bb := below_step bb bn
      clear bn
      go_wp2_with fail
      refine (gives_is (show decide (ps = ps) = true by simp) (eqSpotS_any _ _ _ _ _ ox.reads o8.reads)).mono ?_
      rintro e w9 ⟨rfl, bn⟩
      go_wp2
      go_ret
      exact ⟨rfl, below_step bb bn⟩
set_option maxRecDepth 100000 in
theorem lifted (os : Os) (started : os.Started) (H : Type) (enc : TypeId × Value → H) :
    ReturnsInHanded {} Try.checked os 12 .any (Rows.fnExactBoxOfSpec.pre6 enc Try.prog Try.f12 Rows.fnExactBoxOfRow.domain false) (Rows.fnExactBoxOfSpec.post enc Try.prog Try.f12 false true false false) := by
  refine returnsInHanded_of_change (C := Try.checked) own started (by kernel_rfl) Try.func12
    (ChangeSpec.witness6 (enc := enc) (C := Try.checked) false ⟨#[], #[.slice none 0 0], []⟩ 8 (by kernel_rfl) (by kernel_rfl) (by kernel_rfl) (by kernel_rfl)) ?_
  intro W base args ds gs before hval0 hW _ _
  have hval : ∀ (j : Nat) t v, Try.f12.params[j]? = some t → args[j]? = some v → Value.okWide Try.prog W .any base t v := hval0
  have hW' := hW
  obtain ⟨p, q, hA0, hV, rfl, _, _⟩ := hW
  have hA : DataW.TrodAll enc Try.prog W 0 (fun _ => true) true Try.f12.params.toList args.toList ds p := hA0
  rw [Try.params12] at hA hval
  obtain ⟨v0, d0, rfl, rfl, h0⟩ := trodAll_one hA
  obtain ⟨rfl, rfl⟩ := trodVars_none hV
  clear hA0 hval0
  simp only [List.append_nil] at hW'
  have hlt : ∀ x ∈ p, x.block < W.heap.size := fun x hx => by simpa using hW'.lt x hx
  have r0 := open_lspots (hval 0 43 v0 rfl rfl) h0 hlt
  obtain ⟨ps0, r0⟩ := r0
  refine (walk ps0 v0 W r0).mono fun e W' hg => ?_
  obtain ⟨he, hb⟩ := hg
  subst he
  exact ⟨_, rfl, _, _, _, [], p, [], hW', trodAll_mk1 (shut_bool Try.underlying4 _), trodAll_mk1 (kept_arg (by kernel_rfl) (of_decide_eq_true (by kernel_rfl)) h0 hb hlt), rfl, hb.frame _, fun h => by cases h⟩

theorem holds : Rows.FnExactBoxOfSaid :=
  OpenClaim.holds_of_wide 12 Try.f12 rfl rfl rfl rfl rfl rfl rfl ⟨rfl, rfl, rfl, rfl, rfl⟩ rfl rfl rfl rfl rfl (by kernel_rfl) Try.func12 (by kernel_rfl)
    (of_decide_eq_true (by kernel_rfl)) (by unfold Func.isWrapper; first | (rw [if_pos (by decide +kernel)]; kernel_rfl) | (rw [if_neg (by decide +kernel)]; exact ⟨rfl, rfl⟩))
    (fun os started H enc _ => lifted os started H enc)
end Go.Proofs.Ytamidjgckaanlaa.exBoxOf
