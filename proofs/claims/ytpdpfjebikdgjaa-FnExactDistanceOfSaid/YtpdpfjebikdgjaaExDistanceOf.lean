/-
  Proved: the exact law of DistanceOf (FnExactDistanceOf) returns true for every input. No conditions.
-/
import Derived.Test.YtpdpfjebikdgjaaBallT
import Derived.Test.YtpdpfjebikdgjaaBallI
import Derived.Test.YtpdpfjebikdgjaaCopy
import Derived.Test.YtpdpfjebikdgjaaOpen
namespace Go.Proofs.Ytpdpfjebikdgjaa.exDistanceOf
open Go.ChangeShapes Go.WideShapes Go.ChangeAt Go.RowKit

set_option maxHeartbeats 800000 in
theorem walk (ax ay bx by' way : Int) (w : World) : Calls Try.prog 8 #[.agg #[.int .i64 ax, .int .i64 ay], .agg #[.int .i64 bx, .int .i64 by'], .int .i64 way] w (Gives (.bool true) w) := by
  obtain ⟨W, hW⟩ : ∃ W, W = (w.alloc (.cells #[.int .i64 ax, .int .i64 ay] 48)).alloc (.cells #[.int .i64 bx, .int .i64 by'] 48) := ⟨_, rfl⟩
  have bb : Below w.heap.size w W.drew := by rw [hW]; exact ((box_below w _ _).alloc (by simp) _).drew
  have c0 : W.drew.cell? ⟨w.heap.size, 0, none⟩ = some (.int .i64 ax) := by rw [hW]; simp [go_sem, World.cell?_alloc_past]
  have c1 : W.drew.cell? ⟨w.heap.size, 1, none⟩ = some (.int .i64 ay) := by rw [hW]; simp [go_sem, World.cell?_alloc_past]
  have c2 : W.drew.cell? ⟨w.heap.size + 1, 0, none⟩ = some (.int .i64 bx) := by rw [hW]; simp [go_sem]
  have c3 : W.drew.cell? ⟨w.heap.size + 1, 1, none⟩ = some (.int .i64 by') := by rw [hW]; simp [go_sem]
  have t0 : w.heap.size < W.drew.heap.size := by rw [hW]; simp; omega
  have t1 : w.heap.size + 1 < W.drew.heap.size := by rw [hW]; simp
  go_enter Try.func8, Try.ntmps8
  go_wp2_with (first | (rw [← hW]; clear hW) | fail)
  go_region_held3 (fun w' => w'.cell? ⟨w.heap.size, 0, none⟩ = some (.int .i64 ax) ∧ w'.cell? ⟨w.heap.size, 1, none⟩ = some (.int .i64 ay) ∧ w'.cell? ⟨w.heap.size + 1, 0, none⟩ = some (.int .i64 bx) ∧ w'.cell? ⟨w.heap.size + 1, 1, none⟩ = some (.int .i64 by')) (refine ⟨?_, ?_, ?_, ?_⟩ <;> with_reducible assumption)
    (first
      | (go_at_call 35; refine (toSpot_any _ _ _).mono ?_; rintro e w4 ⟨rfl, hb⟩; have bb := below_step bb hb; have c0 := (hb.cell (p := ⟨w.heap.size, 0, none⟩) t0).trans c0; have c1 := (hb.cell (p := ⟨w.heap.size, 1, none⟩) t0).trans c1; have c2 := (hb.cell (p := ⟨w.heap.size + 1, 0, none⟩) t1).trans c2; have c3 := (hb.cell (p := ⟨w.heap.size + 1, 1, none⟩) t1).trans c3; have t0 := Nat.lt_of_lt_of_le t0 hb.size; have t1 := Nat.lt_of_lt_of_le t1 hb.size)
      | (go_at_call 15; refine (specDist_any ax ay bx by' way _).mono ?_; rintro e w5 ⟨rfl, hb⟩; have bb := below_step bb hb; have c0 := (hb.cell (p := ⟨w.heap.size, 0, none⟩) t0).trans c0; have c1 := (hb.cell (p := ⟨w.heap.size, 1, none⟩) t0).trans c1; have c2 := (hb.cell (p := ⟨w.heap.size + 1, 0, none⟩) t1).trans c2; have c3 := (hb.cell (p := ⟨w.heap.size + 1, 1, none⟩) t1).trans c3; have t0 := Nat.lt_of_lt_of_le t0 hb.size; have t1 := Nat.lt_of_lt_of_le t1 hb.size)
      | (go_at_call 14; refine (implDist_any ax ay bx by' way _).mono ?_; rintro e w5 ⟨rfl, hb⟩; have bb := below_step bb hb; have c0 := (hb.cell (p := ⟨w.heap.size, 0, none⟩) t0).trans c0; have c1 := (hb.cell (p := ⟨w.heap.size, 1, none⟩) t0).trans c1; have c2 := (hb.cell (p := ⟨w.heap.size + 1, 0, none⟩) t1).trans c2; have c3 := (hb.cell (p := ⟨w.heap.size + 1, 1, none⟩) t1).trans c3; have t0 := Nat.lt_of_lt_of_le t0 hb.size; have t1 := Nat.lt_of_lt_of_le t1 hb.size))
  have hb := (Below.refl w5.heap.size w5).drew
  have bb := below_step bb hb
  have c0 := (hb.cell (p := ⟨w.heap.size, 0, none⟩) t0).trans c0
  have c1 := (hb.cell (p := ⟨w.heap.size, 1, none⟩) t0).trans c1
  have c2 := (hb.cell (p := ⟨w.heap.size + 1, 0, none⟩) t1).trans c2
  have c3 := (hb.cell (p := ⟨w.heap.size + 1, 1, none⟩) t1).trans c3
  have t0 := Nat.lt_of_lt_of_le t0 hb.size
  have t1 := Nat.lt_of_lt_of_le t1 hb.size
  clear hb
  go_wp2_with fail
  go_region_held3 (fun w' => w'.cell? ⟨w.heap.size, 0, none⟩ = some (.int .i64 ax) ∧ w'.cell? ⟨w.heap.size, 1, none⟩ = some (.int .i64 ay) ∧ w'.cell? ⟨w.heap.size + 1, 0, none⟩ = some (.int .i64 bx) ∧ w'.cell? ⟨w.heap.size + 1, 1, none⟩ = some (.int .i64 by')) (refine ⟨?_, ?_, ?_, ?_⟩ <;> with_reducible assumption)
    (first
      | (go_at_call 35; refine (toSpot_any _ _ _).mono ?_; rintro e w4 ⟨rfl, hb⟩; have bb := below_step bb hb; have c0 := (hb.cell (p := ⟨w.heap.size, 0, none⟩) t0).trans c0; have c1 := (hb.cell (p := ⟨w.heap.size, 1, none⟩) t0).trans c1; have c2 := (hb.cell (p := ⟨w.heap.size + 1, 0, none⟩) t1).trans c2; have c3 := (hb.cell (p := ⟨w.heap.size + 1, 1, none⟩) t1).trans c3; have t0 := Nat.lt_of_lt_of_le t0 hb.size; have t1 := Nat.lt_of_lt_of_le t1 hb.size)
      | (go_at_call 15; refine (specDist_any ax ay bx by' way _).mono ?_; rintro e w5 ⟨rfl, hb⟩; have bb := below_step bb hb; have c0 := (hb.cell (p := ⟨w.heap.size, 0, none⟩) t0).trans c0; have c1 := (hb.cell (p := ⟨w.heap.size, 1, none⟩) t0).trans c1; have c2 := (hb.cell (p := ⟨w.heap.size + 1, 0, none⟩) t1).trans c2; have c3 := (hb.cell (p := ⟨w.heap.size + 1, 1, none⟩) t1).trans c3; have t0 := Nat.lt_of_lt_of_le t0 hb.size; have t1 := Nat.lt_of_lt_of_le t1 hb.size)
      | (go_at_call 14; refine (implDist_any ax ay bx by' way _).mono ?_; rintro e w5 ⟨rfl, hb⟩; have bb := below_step bb hb; have c0 := (hb.cell (p := ⟨w.heap.size, 0, none⟩) t0).trans c0; have c1 := (hb.cell (p := ⟨w.heap.size, 1, none⟩) t0).trans c1; have c2 := (hb.cell (p := ⟨w.heap.size + 1, 0, none⟩) t1).trans c2; have c3 := (hb.cell (p := ⟨w.heap.size + 1, 1, none⟩) t1).trans c3; have t0 := Nat.lt_of_lt_of_le t0 hb.size; have t1 := Nat.lt_of_lt_of_le t1 hb.size))
  go_wp2
  go_ret
  exact ⟨rfl, bb⟩

set_option maxRecDepth 100000 in
theorem lifted (os : Os) (started : os.Started) (H : Type) (enc : TypeId × Value → H) :
    ReturnsInHanded {} Try.checked os 8 .any (Rows.fnExactDistanceOfSpec.pre6 enc Try.prog Try.f8 Rows.fnExactDistanceOfRow.domain false) (Rows.fnExactDistanceOfSpec.post enc Try.prog Try.f8 false true false false) := by
  refine returnsInHanded_of_change (C := Try.checked) own started (by kernel_rfl) Try.func8
    (ChangeSpec.witness6 (enc := enc) (C := Try.checked) false ⟨#[], #[.agg #[.int .i64 0, .int .i64 0], .agg #[.int .i64 0, .int .i64 0], .int .i64 0], []⟩ 8 (by kernel_rfl) (by kernel_rfl) (by kernel_rfl) (by kernel_rfl)) ?_
  intro W base args ds gs before hval0 hW _ _
  have hval : ∀ (j : Nat) t v, Try.f8.params[j]? = some t → args[j]? = some v → Value.okWide Try.prog W .any base t v := hval0
  have hW' := hW
  obtain ⟨p, q, hA0, hV, rfl, _, _⟩ := hW
  have hA : DataW.TrodAll enc Try.prog W 0 (fun _ => true) true Try.f8.params.toList args.toList ds p := hA0
  rw [Try.params8] at hA hval
  obtain ⟨v0, v1, v2, d0, d1, d2, p0, p1, p2, rfl, rfl, rfl, h0, h1, h2⟩ := trodAll_three hA
  obtain ⟨rfl, rfl⟩ := trodVars_none hV
  clear hA0 hval0
  simp only [List.append_nil] at hW'
  rw [List.append_assoc] at hW'
  have hlt : ∀ x ∈ p0 ++ p1 ++ p2, x.block < W.heap.size := fun x hx => by simpa using hW'.lt x (by simpa using hx)
  have hlt0 : ∀ x ∈ p0, x.block < W.heap.size := fun x hx => hlt x (List.mem_append_left _ (List.mem_append_left _ hx))
  have hlt1 : ∀ x ∈ p1, x.block < W.heap.size := fun x hx => hlt x (List.mem_append_left _ (List.mem_append_right _ hx))
  have hlt2 : ∀ x ∈ p2, x.block < W.heap.size := fun x hx => hlt x (List.mem_append_right _ hx)
  obtain ⟨a0, rfl⟩ := open_lspot (hval 0 48 v0 rfl rfl) h0
  obtain ⟨a1, rfl⟩ := open_lspot (hval 1 48 v1 rfl rfl) h1
  obtain ⟨x2, rfl, _, _, _⟩ := open_int Try.underlying3 (hval 2 3 v2 rfl rfl) h2
  refine (walk a0.1 a0.2 a1.1 a1.2 x2 W).mono fun e W' hg => ?_
  obtain ⟨he, hb⟩ := hg
  subst he
  exact ⟨_, rfl, _, _, _, [], p0 ++ (p1 ++ p2), [], hW', trodAll_mk1 (shut_bool Try.underlying4 _), trodAll_mk3 (kept_arg (by kernel_rfl) (of_decide_eq_true (by kernel_rfl)) h0 hb hlt0) (kept_arg (by kernel_rfl) (of_decide_eq_true (by kernel_rfl)) h1 hb hlt1) (kept_arg (by kernel_rfl) (of_decide_eq_true (by kernel_rfl)) h2 hb hlt2), rfl, hb.frame _, fun h => by cases h⟩

theorem holds : Rows.FnExactDistanceOfSaid :=
  OpenClaim.holds_of_wide 8 Try.f8 rfl rfl rfl rfl rfl rfl rfl ⟨rfl, rfl, rfl, rfl, rfl⟩ rfl rfl rfl rfl rfl (by kernel_rfl) Try.func8 (by kernel_rfl)
    (of_decide_eq_true (by kernel_rfl)) (by unfold Func.isWrapper; first | (rw [if_pos (by decide +kernel)]; kernel_rfl) | (rw [if_neg (by decide +kernel)]; exact ⟨rfl, rfl⟩))
    (fun os started H enc _ => lifted os started H enc)
end Go.Proofs.Ytpdpfjebikdgjaa.exDistanceOf
