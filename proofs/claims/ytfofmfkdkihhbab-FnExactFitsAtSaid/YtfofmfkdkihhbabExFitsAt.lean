/-
  Proved: the exact law of FitsAt (FnExactFitsAt) returns true for every input, and its arguments read afterwards as they read before. No conditions.
-/
import Derived.Test.YtfofmfkdkihhbabShrinkT
import Derived.Test.YtfofmfkdkihhbabShrinkI
import Derived.Test.YtfofmfkdkihhbabCopy
import Derived.Test.YtfofmfkdkihhbabOpen
namespace Go.Proofs.Ytfofmfkdkihhbab.exFitsAt
open Go.ChangeShapes Go.WideShapes Go.ChangeAt Go.RowKit

theorem impl_is {b : Bool} {p q : List Sp} {v u : Value} {x y : Int} {w : World} (hk : fitsB p q (x, y) = b) (h : Reads w w.heap.size v p) (k : Reads w w.heap.size u q) : Calls Try.prog 32 #[v, u, .agg #[.int .i64 x, .int .i64 y]] w (Gives (.bool b) w) := by
  subst hk; exact implFits_any p q v u x y w h k
theorem spec_is {b : Bool} {p q : List Sp} {v u : Value} {x y : Int} {w : World} (hk : fitsB p q (x, y) = b) (h : Reads w w.heap.size v p) (k : Reads w w.heap.size u q) : Calls Try.prog 33 #[v, u, .agg #[.int .i64 x, .int .i64 y]] w (Gives (.bool b) w) := by
  subst hk; exact specFits_any p q v u x y w h k
set_option maxHeartbeats 1600000 in
theorem walk (p q : List Sp) (v v' : Value) (ax ay : Int) (w : World) (h : Reads w w.heap.size v p) (h' : Reads w w.heap.size v' q) : Calls Try.prog 10 #[v, v', .agg #[.int .i64 ax, .int .i64 ay]] w (Gives (.bool true) w) := by
  obtain ⟨A, c, rfl, hc, hm⟩ := h.slice
  obtain ⟨A', c', rfl, hc', hm'⟩ := h'.slice
  unfold maxLen at hm hm'
  have b0 := box_below w #[.int .i64 ax, .int .i64 ay] 44
  by_cases hl : 1048576 < p.length
  · go_enter Try.func10, Try.ntmps10
    go_wp2_with fail
    refine (szSpotS_yes p.length c A 1048576 _ (by omega) (by omega) (by omega) (by omega)).mono ?_
    rintro e w1 ⟨rfl, b1⟩
    go_wp2
    go_ret
    exact ⟨rfl, below_step b0 b1⟩
  by_cases hl' : 1048576 - (p.length : Int) < q.length
  · go_enter Try.func10, Try.ntmps10
    go_wp2_with fail
    refine (szSpotS_no p.length c A 1048576 _ (by omega) (by omega) (by omega) (by omega)).mono ?_
    rintro e w1 ⟨rfl, b1⟩
    go_wp2_with fail
    refine (szSpotS_yes q.length c' A' (1048576 - (p.length : Int)) _ (by omega) (by omega) (by omega) (by omega)).mono ?_
    rintro e w2 ⟨rfl, b2⟩
    go_wp2
    go_ret
    exact ⟨rfl, below_step (below_step b0 b1) b2⟩
  rcases hq : fitsB p q (ax, ay) with _ | _
  all_goals
    go_enter Try.func10, Try.ntmps10
    go_wp2_with fail
    refine (szSpotS_no p.length c A 1048576 _ (by omega) (by omega) (by omega) (by omega)).mono ?_
    rintro e w1 ⟨rfl, b1⟩
    go_wp2_with fail
    refine (szSpotS_no q.length c' A' (1048576 - (p.length : Int)) _ (by omega) (by omega) (by omega) (by omega)).mono ?_
    rintro e wa ⟨rfl, b2⟩
    have bb := (below_step (below_step b0 b1) b2).drew
    have c0 : wa.drew.cell? ⟨w.heap.size, 0, none⟩ = some (.int .i64 ax) := ((below_step b1 b2).cell (p := ⟨w.heap.size, 0, none⟩) (by simp)).trans (by simp [go_sem])
    have c1 : wa.drew.cell? ⟨w.heap.size, 1, none⟩ = some (.int .i64 ay) := ((below_step b1 b2).cell (p := ⟨w.heap.size, 1, none⟩) (by simp)).trans (by simp [go_sem])
    have t0 : w.heap.size < wa.drew.heap.size := by have h1 := b1.size; have h2 := b2.size; simp only [World.size_alloc] at h1; exact Nat.lt_of_lt_of_le h1 h2
    have r0 := h.kept bb
    have r1 := h'.kept bb
    have HQ := Lib.hid hq
    clear hq b1 b2
    go_wp2_with fail
    go_region_held3 (fun w' => w'.cell? ⟨w.heap.size, 0, none⟩ = some (.int .i64 ax) ∧ w'.cell? ⟨w.heap.size, 1, none⟩ = some (.int .i64 ay)) (refine ⟨?_, ?_⟩ <;> with_reducible assumption)
      (first
        | (go_at_call 21; (with_reducible refine (toSpotS_any p _ _ r0 (by omega)).mono ?_); rintro e w2 ⟨v2, rfl, o2, hb⟩; have bb := below_step bb hb; have r0 := r0.kept hb; have r1 := r1.kept hb; have c0 := (hb.cell (p := ⟨w.heap.size, 0, none⟩) t0).trans c0; have c1 := (hb.cell (p := ⟨w.heap.size, 1, none⟩) t0).trans c1; have t0 := Nat.lt_of_lt_of_le t0 hb.size)
        | (go_at_call 21; (with_reducible refine (toSpotS_any q _ _ r1 (by omega)).mono ?_); rintro e w3 ⟨v3, rfl, o3, hb⟩; have o2 := o2.below hb; have bb := below_step bb hb; have r0 := r0.kept hb; have r1 := r1.kept hb; have c0 := (hb.cell (p := ⟨w.heap.size, 0, none⟩) t0).trans c0; have c1 := (hb.cell (p := ⟨w.heap.size, 1, none⟩) t0).trans c1; have t0 := Nat.lt_of_lt_of_le t0 hb.size)
        | (go_at_call 35; refine (toSpot_any ax ay _).mono ?_; rintro e w4 ⟨rfl, hb⟩; have o2 := o2.below hb; have o3 := o3.below hb; have bb := below_step bb hb; have r0 := r0.kept hb; have r1 := r1.kept hb; have c0 := (hb.cell (p := ⟨w.heap.size, 0, none⟩) t0).trans c0; have c1 := (hb.cell (p := ⟨w.heap.size, 1, none⟩) t0).trans c1; have t0 := Nat.lt_of_lt_of_le t0 hb.size)
        | (go_at_call 33; refine (spec_is HQ.out o2.reads o3.reads).mono ?_; rintro e w5 ⟨rfl, hb⟩; have bb := below_step bb hb; have r0 := r0.kept hb; have r1 := r1.kept hb; have c0 := (hb.cell (p := ⟨w.heap.size, 0, none⟩) t0).trans c0; have c1 := (hb.cell (p := ⟨w.heap.size, 1, none⟩) t0).trans c1; have t0 := Nat.lt_of_lt_of_le t0 hb.size))
    go_wp2_with fail
    refine (toSpotS_any p _ _ r0 (by omega)).mono ?_
    rintro e w6 ⟨v6, rfl, o6, hb⟩
    have bb := below_step bb hb; have r0 := r0.kept hb; have r1 := r1.kept hb; have c0 := (hb.cell (p := ⟨w.heap.size, 0, none⟩) t0).trans c0; have c1 := (hb.cell (p := ⟨w.heap.size, 1, none⟩) t0).trans c1; have t0 := Nat.lt_of_lt_of_le t0 hb.size
    go_wp2_with fail
    refine (toSpotS_any q _ _ r1 (by omega)).mono ?_
    rintro e w7 ⟨v7, rfl, o7, hb⟩
    have o6 := o6.below hb
    have bb := below_step bb hb; have r0 := r0.kept hb; have r1 := r1.kept hb; have c0 := (hb.cell (p := ⟨w.heap.size, 0, none⟩) t0).trans c0; have c1 := (hb.cell (p := ⟨w.heap.size, 1, none⟩) t0).trans c1; have t0 := Nat.lt_of_lt_of_le t0 hb.size
    go_wp2_with fail
    refine (toSpot_any ax ay _).mono ?_
    rintro e w8 ⟨rfl, hb⟩
    have o6 := o6.below hb
    have o7 := o7.below hb
    have bb := below_step bb hb; have r0 := r0.kept hb; have r1 := r1.kept hb; have c0 := (hb.cell (p := ⟨w.heap.size, 0, none⟩) t0).trans c0; have c1 := (hb.cell (p := ⟨w.heap.size, 1, none⟩) t0).trans c1; have t0 := Nat.lt_of_lt_of_le t0 hb.size
    go_wp2_with fail
    refine (impl_is HQ.out o6.reads o7.reads).mono ?_
    rintro e w9 ⟨rfl, hb⟩
    have o6 := o6.below hb
    have o7 := o7.below hb
    have bb := below_step bb hb; have r0 := r0.kept hb; have r1 := r1.kept hb; have c0 := (hb.cell (p := ⟨w.heap.size, 0, none⟩) t0).trans c0; have c1 := (hb.cell (p := ⟨w.heap.size, 1, none⟩) t0).trans c1; have t0 := Nat.lt_of_lt_of_le t0 hb.size
    clear c0 c1
    go_wp2_with fail
    refine (toSpotS_any p _ _ r0 (by omega)).mono ?_
    rintro e w10 ⟨v10, rfl, o10, hb⟩
    have o6 := o6.below hb
    have o7 := o7.below hb
    have bb := below_step bb hb
    have r1 := r1.kept hb
    go_wp2_with fail
    refine (gives_is (show decide (p = p) = true by simp) (eqSpotS_any p p _ _ _ o6.reads o10.reads)).mono ?_
    rintro e w11 ⟨rfl, hb⟩
    have o7 := o7.below hb
    have bb := below_step bb hb
    have r1 := r1.kept hb
    go_wp2_with fail
    refine (toSpotS_any q _ _ r1 (by omega)).mono ?_
    rintro e w12 ⟨v12, rfl, o12, hb⟩
    have o7 := o7.below hb
    have bb := below_step bb hb
    go_wp2_with fail
    refine (gives_is (show decide (q = q) = true by simp) (eqSpotS_any q q _ _ _ o7.reads o12.reads)).mono ?_
    rintro e w13 ⟨rfl, hb⟩
    have bb := below_step bb hb
    go_wp2
    go_ret
    exact ⟨rfl, bb⟩

set_option maxRecDepth 100000 in
theorem lifted (os : Os) (started : os.Started) (H : Type) (enc : TypeId × Value → H) :
    ReturnsInHanded {} Try.checked os 10 .any (Rows.fnExactFitsAtSpec.pre6 enc Try.prog Try.f10 Rows.fnExactFitsAtRow.domain false) (Rows.fnExactFitsAtSpec.post enc Try.prog Try.f10 false true false false) := by
  refine returnsInHanded_of_change (C := Try.checked) own started (by kernel_rfl) Try.func10
    (ChangeSpec.witness6 (enc := enc) (C := Try.checked) false ⟨#[], #[.slice none 0 0, .slice none 0 0, .agg #[.int .i64 0, .int .i64 0]], []⟩ 8 (by kernel_rfl) (by kernel_rfl) (by kernel_rfl) (by kernel_rfl)) ?_
  intro W base args ds gs before hval0 hW _ _
  have hval : ∀ (j : Nat) t v, Try.f10.params[j]? = some t → args[j]? = some v → Value.okWide Try.prog W .any base t v := hval0
  have hW' := hW
  obtain ⟨p, q, hA0, hV, rfl, _, _⟩ := hW
  have hA : DataW.TrodAll enc Try.prog W 0 (fun _ => true) true Try.f10.params.toList args.toList ds p := hA0
  rw [Try.params10] at hA hval
  obtain ⟨v0, v1, v2, d0, d1, d2, p0, p1, p2, rfl, rfl, rfl, h0, h1, h2⟩ := trodAll_three hA
  obtain ⟨rfl, rfl⟩ := trodVars_none hV
  clear hA0 hval0
  simp only [List.append_nil] at hW'
  rw [List.append_assoc] at hW'
  have hlt : ∀ x ∈ p0 ++ p1 ++ p2, x.block < W.heap.size := fun x hx => by simpa using hW'.lt x (by simpa using hx)
  have hlt0 : ∀ x ∈ p0, x.block < W.heap.size := fun x hx => hlt x (List.mem_append_left _ (List.mem_append_left _ hx))
  have hlt1 : ∀ x ∈ p1, x.block < W.heap.size := fun x hx => hlt x (List.mem_append_left _ (List.mem_append_right _ hx))
  have hlt2 : ∀ x ∈ p2, x.block < W.heap.size := fun x hx => hlt x (List.mem_append_right _ hx)
  obtain ⟨ps0, r0⟩ := open_lspots (hval 0 34 v0 rfl rfl) h0 hlt0
  obtain ⟨ps1, r1⟩ := open_lspots (hval 1 34 v1 rfl rfl) h1 hlt1
  obtain ⟨a2, rfl⟩ := open_lspot (hval 2 44 v2 rfl rfl) h2
  refine (walk ps0 ps1 v0 v1 a2.1 a2.2 W r0 r1).mono fun e W' hg => ?_
  obtain ⟨he, hb⟩ := hg
  subst he
  exact ⟨_, rfl, _, _, _, [], p0 ++ (p1 ++ p2), [], hW', trodAll_mk1 (shut_bool Try.underlying4 _), trodAll_mk3 (kept_arg (by kernel_rfl) (of_decide_eq_true (by kernel_rfl)) h0 hb hlt0) (kept_arg (by kernel_rfl) (of_decide_eq_true (by kernel_rfl)) h1 hb hlt1) (kept_arg (by kernel_rfl) (of_decide_eq_true (by kernel_rfl)) h2 hb hlt2), rfl, hb.frame _, fun h => by cases h⟩

theorem holds : Rows.FnExactFitsAtSaid :=
  OpenClaim.holds_of_wide 10 Try.f10 rfl rfl rfl rfl rfl rfl rfl ⟨rfl, rfl, rfl, rfl, rfl⟩ rfl rfl rfl rfl rfl (by kernel_rfl) Try.func10 (by kernel_rfl)
    (of_decide_eq_true (by kernel_rfl)) (by unfold Func.isWrapper; first | (rw [if_pos (by decide +kernel)]; kernel_rfl) | (rw [if_neg (by decide +kernel)]; exact ⟨rfl, rfl⟩))
    (fun os started H enc _ => lifted os started H enc)
end Go.Proofs.Ytfofmfkdkihhbab.exFitsAt
