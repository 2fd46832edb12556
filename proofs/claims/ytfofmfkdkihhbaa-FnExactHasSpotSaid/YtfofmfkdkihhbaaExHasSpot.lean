/-
  Proved: the exact law of HasSpot (FnExactHasSpot) returns true for every input, and its arguments read afterwards as they read before. No conditions.
-/
import Derived.Test.YtfofmfkdkihhbaaHas2
import Derived.Test.YtfofmfkdkihhbaaCopy
import Derived.Test.YtfofmfkdkihhbaaOpen
import Derived.Deep.RegionHeld3
namespace Go.Proofs.Ytfofmfkdkihhbaa.exHasSpot
open Go.ChangeShapes Go.WideShapes Go.ChangeAt Go.RowKit

set_option maxHeartbeats 400000 in
theorem walk (ps : List Sp) (v : Value) (ax ay : Int) (w : World) (h : Reads w w.heap.size v ps) : Calls Try.prog 4 #[v, .agg #[.int .i64 ax, .int .i64 ay]] w (Gives (.bool true) w) := by
  obtain ⟨A, c, rfl, hc, hm⟩ := h.slice
  unfold maxLen at hm
  have b0 := box_below w #[.int .i64 ax, .int .i64 ay] 33
  by_cases hl : 1048576 < ps.length
  · go_enter Try.func4, Try.ntmps4
    go_wp2_with fail
    refine (szSpotS_yes ps.length c A 1048576 _ (by omega) (by omega) (by omega) (by omega)).mono ?_
    rintro e w1 ⟨rfl, b1⟩
    go_wp2
    go_ret
    exact ⟨rfl, below_step b0 b1⟩
  · go_enter Try.func4, Try.ntmps4
    go_wp2_with fail
    refine (szSpotS_no ps.length c A 1048576 _ (by omega) (by omega) (by omega) (by omega)).mono ?_
    rintro e w1 ⟨rfl, b1⟩
    have r1 := (h.kept b0).kept b1
    have c1 : w1.cell? ⟨w.heap.size, 0, none⟩ = some (.int .i64 ax) := (b1.cell (p := ⟨w.heap.size, 0, none⟩) (by simp)).trans (by simp [go_sem])
    have d1 : w1.cell? ⟨w.heap.size, 1, none⟩ = some (.int .i64 ay) := (b1.cell (p := ⟨w.heap.size, 1, none⟩) (by simp)).trans (by simp [go_sem])
    have hs1 := b1.size
    simp only [World.size_alloc] at hs1
    have r1' := r1.kept (Below.refl w1.heap.size w1).drew
    rcases hq : hasB ps (ax, ay) with _ | _
    all_goals
      go_wp2_with fail
      go_region_held3 (fun w' => w'.cell? ⟨w.heap.size, 0, none⟩ = some (.int .i64 ax) ∧ w'.cell? ⟨w.heap.size, 1, none⟩ = some (.int .i64 ay)) (first | exact ⟨by assumption, by assumption⟩ | (simp [c1, d1]; done))
        (first
          | (go_at_call 17; refine (toSpotS_any ps _ _ r1' (by omega)).mono ?_; rintro e w2 ⟨v2, rfl, o2, b2⟩; have c2 := (b2.cell (p := ⟨w.heap.size, 0, none⟩) (by exact hs1)).trans c1; have d2 := (b2.cell (p := ⟨w.heap.size, 1, none⟩) (by exact hs1)).trans d1)
          | (go_at_call 18; refine (toSpot_any ax ay _).mono ?_; rintro e w3 ⟨rfl, b3⟩; have o3 := o2.below b3; have c3 := (b3.cell (p := ⟨w.heap.size, 0, none⟩) (Nat.le_trans hs1 b2.size)).trans c2; have d3 := (b3.cell (p := ⟨w.heap.size, 1, none⟩) (Nat.le_trans hs1 b2.size)).trans d2)
          | (go_at_call 13; refine (gives_is hq (specHas_any ps _ ax ay _ o3.reads)).mono ?_; rintro e w4 ⟨rfl, b4⟩; have c4 := (b4.cell (p := ⟨w.heap.size, 0, none⟩) (Nat.le_trans (Nat.le_trans hs1 b2.size) b3.size)).trans c3; have d4 := (b4.cell (p := ⟨w.heap.size, 1, none⟩) (Nat.le_trans (Nat.le_trans hs1 b2.size) b3.size)).trans d3))
      have hs4 := Nat.le_trans (Nat.le_trans (Nat.le_trans hs1 b2.size) b3.size) b4.size
      have r4 := ((r1'.kept b2).kept b3).kept b4
      have bb := below_step (below_step (below_step (below_step (below_step b0 b1) (Below.refl w1.heap.size w1).drew) b2) b3) b4
      clear c1 d1 c2 d2 c3 d3
      go_wp2_with fail
      refine (toSpotS_any ps _ _ r4 (by omega)).mono ?_
      rintro e w5 ⟨v5, rfl, o5, b5⟩
      have r5 := r4.kept b5
      have c5 := (b5.cell (p := ⟨w.heap.size, 0, none⟩) (by exact hs4)).trans c4
      have d5 := (b5.cell (p := ⟨w.heap.size, 1, none⟩) (by exact hs4)).trans d4
      clear c4 d4
      go_wp2_with fail
      refine (toSpot_any ax ay _).mono ?_
      rintro e w6 ⟨rfl, b6⟩
      have r6 := r5.kept b6
      have o6 := o5.below b6
      clear c5 d5
      go_wp2_with fail
      refine (gives_is hq (implHas_any ps _ ax ay _ o6.reads)).mono ?_
      rintro e w7 ⟨rfl, b7⟩
      have r7 := r6.kept b7
      have o7 := o6.below b7
      go_wp2_with fail
      refine (toSpotS_any ps _ _ r7 (by omega)).mono ?_
      rintro e w8 ⟨v8, rfl, o8, b8⟩
      have o9 := o7.below b8
      go_wp2_with fail
      refine (gives_is (show decide (ps = ps) = true by simp) (eqSpotS_any ps ps _ _ _ o9.reads o8.reads)).mono ?_
      rintro e w9 ⟨rfl, b9⟩
      go_wp2
      go_ret
      exact ⟨rfl, below_step (below_step (below_step (below_step (below_step bb b5) b6) b7) b8) b9⟩

set_option maxRecDepth 100000 in
theorem lifted (os : Os) (started : os.Started) (H : Type) (enc : TypeId × Value → H) :
    ReturnsInHanded {} Try.checked os 4 .any (Rows.fnExactHasSpotSpec.pre6 enc Try.prog Try.f4 Rows.fnExactHasSpotRow.domain false) (Rows.fnExactHasSpotSpec.post enc Try.prog Try.f4 false true false false) := by
  refine returnsInHanded_of_change (C := Try.checked) own started (by kernel_rfl) Try.func4
    (ChangeSpec.witness6 (enc := enc) (C := Try.checked) false ⟨#[], #[.slice none 0 0, .agg #[.int .i64 0, .int .i64 0]], []⟩ 8 (by kernel_rfl) (by kernel_rfl) (by kernel_rfl) (by kernel_rfl)) ?_
  intro W base args ds gs before hval0 hW _ _
  have hval : ∀ (j : Nat) t v, Try.f4.params[j]? = some t → args[j]? = some v → Value.okWide Try.prog W .any base t v := hval0
  have hW' := hW
  obtain ⟨p, q, hA0, hV, rfl, _, _⟩ := hW
  have hA : DataW.TrodAll enc Try.prog W 0 (fun _ => true) true Try.f4.params.toList args.toList ds p := hA0
  rw [Try.params4] at hA hval
  obtain ⟨v0, v1, d0, d1, p0, p1, rfl, rfl, rfl, h0, h1⟩ := trodAll_two hA
  obtain ⟨rfl, rfl⟩ := trodVars_none hV
  clear hA0 hval0
  simp only [List.append_nil] at hW'
  have hlt : ∀ x ∈ p0 ++ p1, x.block < W.heap.size := fun x hx => by simpa using hW'.lt x hx
  have hlt0 : ∀ x ∈ p0, x.block < W.heap.size := fun x hx => hlt x (List.mem_append_left _ hx)
  have hlt1 : ∀ x ∈ p1, x.block < W.heap.size := fun x hx => hlt x (List.mem_append_right _ hx)
  obtain ⟨ps0, r0⟩ := open_lspots (hval 0 32 v0 rfl rfl) h0 hlt0
  obtain ⟨a1, rfl⟩ := open_lspot (hval 1 33 v1 rfl rfl) h1
  refine (walk ps0 v0 a1.1 a1.2 W r0).mono fun e W' hg => ?_
  obtain ⟨he, hb⟩ := hg
  subst he
  exact ⟨_, rfl, _, _, _, [], p0 ++ p1, [], hW', trodAll_mk1 (shut_bool Try.underlying4 _), trodAll_mk2 (kept_arg (by kernel_rfl) (of_decide_eq_true (by kernel_rfl)) h0 hb hlt0) (kept_arg (by kernel_rfl) (of_decide_eq_true (by kernel_rfl)) h1 hb hlt1), rfl, hb.frame _, fun h => by cases h⟩

theorem holds : Rows.FnExactHasSpotSaid :=
  OpenClaim.holds_of_wide 4 Try.f4 rfl rfl rfl rfl rfl rfl rfl ⟨rfl, rfl, rfl, rfl, rfl⟩ rfl rfl rfl rfl rfl (by kernel_rfl) Try.func4 (by kernel_rfl)
    (of_decide_eq_true (by kernel_rfl)) (by unfold Func.isWrapper; first | (rw [if_pos (by decide +kernel)]; kernel_rfl) | (rw [if_neg (by decide +kernel)]; exact ⟨rfl, rfl⟩))
    (fun os started H enc _ => lifted os started H enc)
end Go.Proofs.Ytfofmfkdkihhbaa.exHasSpot
