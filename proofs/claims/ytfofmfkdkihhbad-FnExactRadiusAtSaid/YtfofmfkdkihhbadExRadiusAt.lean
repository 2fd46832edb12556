/-
  Proved: the exact law of RadiusAt (FnExactRadiusAt) returns true for every input, and its arguments read afterwards as they read before. No conditions.
-/
import Derived.Test.YtfofmfkdkihhbadRadS
import Derived.Test.YtfofmfkdkihhbadRadJ
import Derived.Test.YtfofmfkdkihhbadCopy
import Derived.Test.YtfofmfkdkihhbadOpen
namespace Go.Proofs.Ytfofmfkdkihhbad.exRadiusAt
open Go.ChangeShapes Go.WideShapes Go.ChangeAt Go.RowKit

set_option maxHeartbeats 800000 in
theorem walk (p : List Sp) (v : Value) (ax ay way : Int) (w : World) (h : Reads w w.heap.size v p) : Calls Try.prog 4 #[v, .agg #[.int .i64 ax, .int .i64 ay], .int .i64 way] w (Gives (.bool true) w) := by
  obtain ⟨A, c, rfl, hc, hm⟩ := h.slice
  unfold maxLen at hm
  have b0 := box_below w #[.int .i64 ax, .int .i64 ay] 33
  by_cases hl : 1048576 < p.length
  · go_enter Try.func4, Try.ntmps4
    go_wp2_with fail
    refine (szSpotS_yes p.length c A 1048576 _ (by omega) (by omega) (by omega) (by omega)).mono ?_
    rintro e w1 ⟨rfl, b1⟩
    go_wp2
    go_ret
    exact ⟨rfl, below_step b0 b1⟩
  · go_enter Try.func4, Try.ntmps4
    go_wp2_with fail
    refine (szSpotS_no p.length c A 1048576 _ (by omega) (by omega) (by omega) (by omega)).mono ?_
    rintro e wa ⟨rfl, b1⟩
    have bb := (below_step b0 b1).drew
    have c0 : wa.drew.cell? ⟨w.heap.size, 0, none⟩ = some (.int .i64 ax) := (b1.cell (p := ⟨w.heap.size, 0, none⟩) (by simp)).trans (by simp [go_sem])
    have c1 : wa.drew.cell? ⟨w.heap.size, 1, none⟩ = some (.int .i64 ay) := (b1.cell (p := ⟨w.heap.size, 1, none⟩) (by simp)).trans (by simp [go_sem])
    have t0 : w.heap.size < wa.drew.heap.size := by have h1 := b1.size; simp only [World.size_alloc] at h1; exact h1
    have r0 := h.kept bb
    clear b1
    go_wp2_with fail
    go_region_held3 (fun w' => w'.cell? ⟨w.heap.size, 0, none⟩ = some (.int .i64 ax) ∧ w'.cell? ⟨w.heap.size, 1, none⟩ = some (.int .i64 ay)) (refine ⟨?_, ?_⟩ <;> with_reducible assumption)
      (first
        | (go_at_call 16; refine (toSpotS_any p _ _ r0 (by omega)).mono ?_; rintro e w2 ⟨v2, rfl, o2, hb⟩; have bb := below_step bb hb; have r0 := r0.kept hb; have c0 := (hb.cell (p := ⟨w.heap.size, 0, none⟩) t0).trans c0; have c1 := (hb.cell (p := ⟨w.heap.size, 1, none⟩) t0).trans c1; have t0 := Nat.lt_of_lt_of_le t0 hb.size)
        | (go_at_call 17; refine (toSpot_any ax ay _).mono ?_; rintro e w4 ⟨rfl, hb⟩; have o2 := o2.below hb; have bb := below_step bb hb; have r0 := r0.kept hb; have c0 := (hb.cell (p := ⟨w.heap.size, 0, none⟩) t0).trans c0; have c1 := (hb.cell (p := ⟨w.heap.size, 1, none⟩) t0).trans c1; have t0 := Nat.lt_of_lt_of_le t0 hb.size)
        | (go_at_call 12; refine (specRadius_any p _ ax ay way _ o2.reads).mono ?_; rintro e w5 ⟨rfl, hb⟩; have bb := below_step bb hb; have r0 := r0.kept hb; have c0 := (hb.cell (p := ⟨w.heap.size, 0, none⟩) t0).trans c0; have c1 := (hb.cell (p := ⟨w.heap.size, 1, none⟩) t0).trans c1; have t0 := Nat.lt_of_lt_of_le t0 hb.size))
    go_wp2_with fail
    refine (toSpotS_any p _ _ r0 (by omega)).mono ?_
    rintro e w6 ⟨v6, rfl, o6, hb⟩
    have bb := below_step bb hb; have r0 := r0.kept hb; have c0 := (hb.cell (p := ⟨w.heap.size, 0, none⟩) t0).trans c0; have c1 := (hb.cell (p := ⟨w.heap.size, 1, none⟩) t0).trans c1; have t0 := Nat.lt_of_lt_of_le t0 hb.size
    go_wp2_with fail
    refine (toSpot_any ax ay _).mono ?_
    rintro e w8 ⟨rfl, hb⟩
    have o6 := o6.below hb
    have bb := below_step bb hb; have r0 := r0.kept hb; have c0 := (hb.cell (p := ⟨w.heap.size, 0, none⟩) t0).trans c0; have c1 := (hb.cell (p := ⟨w.heap.size, 1, none⟩) t0).trans c1; have t0 := Nat.lt_of_lt_of_le t0 hb.size
    go_wp2_with fail
    refine (implRadius_any p _ ax ay way _ o6.reads).mono ?_
    rintro e w9 ⟨rfl, hb⟩
    have o6 := o6.below hb
    have bb := below_step bb hb; have r0 := r0.kept hb; have c0 := (hb.cell (p := ⟨w.heap.size, 0, none⟩) t0).trans c0; have c1 := (hb.cell (p := ⟨w.heap.size, 1, none⟩) t0).trans c1; have t0 := Nat.lt_of_lt_of_le t0 hb.size
    clear c0 c1
    go_wp2_with fail
    refine (toSpotS_any p _ _ r0 (by omega)).mono ?_
    rintro e w10 ⟨v10, rfl, o10, hb⟩
    have o6 := o6.below hb
    have bb := below_step bb hb
    go_wp2_with fail
    refine (gives_is (show decide (p = p) = true by simp) (eqSpotS_any p p _ _ _ o6.reads o10.reads)).mono ?_
    rintro e w11 ⟨rfl, hb⟩
    have bb := below_step bb hb
    go_wp2
    go_ret
    exact ⟨rfl, bb⟩

set_option maxRecDepth 100000 in
theorem lifted (os : Os) (started : os.Started) (H : Type) (enc : TypeId × Value → H) :
    ReturnsInHanded {} Try.checked os 4 .any (Rows.fnExactRadiusAtSpec.pre6 enc Try.prog Try.f4 Rows.fnExactRadiusAtRow.domain false) (Rows.fnExactRadiusAtSpec.post enc Try.prog Try.f4 false true false false) := by
  refine returnsInHanded_of_change (C := Try.checked) own started (by kernel_rfl) Try.func4
    (ChangeSpec.witness6 (enc := enc) (C := Try.checked) false ⟨#[], #[.slice none 0 0, .agg #[.int .i64 0, .int .i64 0], .int .i64 0], []⟩ 8 (by kernel_rfl) (by kernel_rfl) (by kernel_rfl) (by kernel_rfl)) ?_
  intro W base args ds gs before hval0 hW _ _
  have hval : ∀ (j : Nat) t v, Try.f4.params[j]? = some t → args[j]? = some v → Value.okWide Try.prog W .any base t v := hval0
  have hW' := hW
  obtain ⟨p, q, hA0, hV, rfl, _, _⟩ := hW
  have hA : DataW.TrodAll enc Try.prog W 0 (fun _ => true) true Try.f4.params.toList args.toList ds p := hA0
  rw [Try.params4] at hA hval
  obtain ⟨v0, v1, v2, d0, d1, d2, p0, p1, p2, rfl, rfl, rfl, h0, h1, h2⟩ := trodAll_three hA
  obtain ⟨rfl, rfl⟩ := trodVars_none hV
  clear hA0 hval0
  simp only [List.append_nil] at hW'
  rw [List.append_assoc] at hW'
  have hlt : ∀ x ∈ p0 ++ p1 ++ p2, x.block < W.heap.size := fun x hx => by simpa using hW'.lt x (by simpa using hx)
  have hlt0 : ∀ x ∈ p0, x.block < W.heap.size := fun x hx => hlt x (List.mem_append_left _ (List.mem_append_left _ hx))
  have hlt1 : ∀ x ∈ p1, x.block < W.heap.size := fun x hx => hlt x (List.mem_append_left _ (List.mem_append_right _ hx))
  have hlt2 : ∀ x ∈ p2, x.block < W.heap.size := fun x hx => hlt x (List.mem_append_right _ hx)
  obtain ⟨ps0, r0⟩ := open_lspots (hval 0 32 v0 rfl rfl) h0 hlt0
  obtain ⟨a1, rfl⟩ := open_lspot (hval 1 33 v1 rfl rfl) h1
  obtain ⟨x2, rfl, _, _, _⟩ := open_int Try.underlying3 (hval 2 3 v2 rfl rfl) h2
  refine (walk ps0 v0 a1.1 a1.2 x2 W r0).mono fun e W' hg => ?_
  obtain ⟨he, hb⟩ := hg
  subst he
  exact ⟨_, rfl, _, _, _, [], p0 ++ (p1 ++ p2), [], hW', trodAll_mk1 (shut_bool Try.underlying4 _), trodAll_mk3 (kept_arg (by kernel_rfl) (of_decide_eq_true (by kernel_rfl)) h0 hb hlt0) (kept_arg (by kernel_rfl) (of_decide_eq_true (by kernel_rfl)) h1 hb hlt1) (kept_arg (by kernel_rfl) (of_decide_eq_true (by kernel_rfl)) h2 hb hlt2), rfl, hb.frame _, fun h => by cases h⟩

theorem holds : Rows.FnExactRadiusAtSaid :=
  OpenClaim.holds_of_wide 4 Try.f4 rfl rfl rfl rfl rfl rfl rfl ⟨rfl, rfl, rfl, rfl, rfl⟩ rfl rfl rfl rfl rfl (by kernel_rfl) Try.func4 (by kernel_rfl)
    (of_decide_eq_true (by kernel_rfl)) (by unfold Func.isWrapper; first | (rw [if_pos (by decide +kernel)]; kernel_rfl) | (rw [if_neg (by decide +kernel)]; exact ⟨rfl, rfl⟩))
    (fun os started H enc _ => lifted os started H enc)
end Go.Proofs.Ytfofmfkdkihhbad.exRadiusAt
