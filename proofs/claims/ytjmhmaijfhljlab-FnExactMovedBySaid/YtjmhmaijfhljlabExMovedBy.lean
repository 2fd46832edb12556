/-
  Proved: the exact law of MovedBy (FnExactMovedBy) returns true for every input, and its arguments read afterwards as they read before. No conditions.
-/
import Derived.Test.YtjmhmaijfhljlabMark
import Derived.Test.YtjmhmaijfhljlabMoveS
import Derived.Test.YtjmhmaijfhljlabOpen
import Derived.Deep.RegionHeld3
namespace Go.Proofs.Ytjmhmaijfhljlab.exMovedBy
open Go.ChangeShapes Go.WideShapes Go.ChangeAt Go.RowKit

theorem moveL_len (ps : List Sp) (a : Sp) : (moveL ps a).length ≤ ps.length := by
  unfold moveL; split
  · rw [length_moved]; exact Nat.le_refl _
  · simp
theorem impl_is {b : Bool} {ps : List Sp} {v : Value} {ax ay : Int} {w : World} (hk : moveOk ps (ax, ay) = b) (h : Reads w w.heap.size v ps) :
    Calls Try.prog 27 #[v, .agg #[.int .i64 ax, .int .i64 ay]] w (Gives2' (moveL ps (ax, ay)) b w) := by
  subst hk; exact implMoved_any ps v ax ay w h
theorem spec_is {b : Bool} {ps : List Sp} {v : Value} {ax ay : Int} {w : World} (hk : moveOk ps (ax, ay) = b) (h : Reads w w.heap.size v ps) (hl : ps.length ≤ 1100000) :
    Calls Try.prog 26 #[v, .agg #[.int .i64 ax, .int .i64 ay]] w (Gives2' (moveL ps (ax, ay)) b w) := by
  subst hk; exact specMoved_any ps v ax ay w h hl

set_option maxHeartbeats 1600000 in
theorem walk (ps : List Sp) (v : Value) (ax ay : Int) (w : World) (h : Reads w w.heap.size v ps) : Calls Try.prog 6 #[v, .agg #[.int .i64 ax, .int .i64 ay]] w (Gives (.bool true) w) := by
  obtain ⟨A, c, rfl, hc, hm⟩ := h.slice
  unfold maxLen at hm
  have b0 := box_below w #[.int .i64 ax, .int .i64 ay] 34
  by_cases hl : 1048576 < ps.length
  · go_enter Try.func6, Try.ntmps6
    go_wp2_with fail
    refine (szSpotS_yes ps.length c A 1048576 _ (by omega) (by omega) (by omega) (by omega)).mono ?_
    rintro e w1 ⟨rfl, b1⟩
    go_wp2
    go_ret
    exact ⟨rfl, below_step b0 b1⟩
  · clear b0
    have hT := moveL_len ps (ax, ay)
    obtain ⟨W, hW⟩ : ∃ W, W = w.alloc (.cells #[.int .i64 ax, .int .i64 ay] 34) := ⟨_, rfl⟩
    have b0 : Below w.heap.size w W := by rw [hW]; exact box_below w _ _
    have s0 : w.heap.size < W.heap.size := by rw [hW]; simp
    have a0 : W.cell? ⟨w.heap.size, 0, none⟩ = some (.int .i64 ax) := by rw [hW]; simp [go_sem]
    have a1 : W.cell? ⟨w.heap.size, 1, none⟩ = some (.int .i64 ay) := by rw [hW]; simp [go_sem]
    have CA := Lib.hid (show ∀ w', Below W.heap.size W w' → w'.cell? ⟨w.heap.size, 0, none⟩ = some (.int .i64 ax) ∧ w'.cell? ⟨w.heap.size, 1, none⟩ = some (.int .i64 ay) from fun w' hb => ⟨(hb.cell (p := ⟨w.heap.size, 0, none⟩) s0).trans a0, (hb.cell (p := ⟨w.heap.size, 1, none⟩) s0).trans a1⟩)
    have h0 := h.kept b0
    clear a0 a1
    go_enter Try.func6, Try.ntmps6
    go_wp2_with fail
    rw [← hW]
    clear hW
    refine (szSpotS_no ps.length c A 1048576 _ (by omega) (by omega) (by omega) (by omega)).mono ?_
    rintro e w1 ⟨rfl, bb⟩
    have hs1 := Nat.lt_of_lt_of_le s0 bb.size
    have r1' := ((h0.below bb).more bb.size).kept (Below.refl w1.heap.size w1).drew
    obtain ⟨c1, d1⟩ := CA.out _ bb
    rcases hk : moveOk ps (ax, ay) with _ | _
    all_goals
      go_wp2_with fail
      go_region_held3 (fun w' => w'.cell? ⟨w.heap.size, 0, none⟩ = some (.int .i64 ax) ∧ w'.cell? ⟨w.heap.size, 1, none⟩ = some (.int .i64 ay)) (first | exact ⟨by assumption, by assumption⟩ | (simp [c1, d1]; done))
        (first
          | (go_at_call 18; refine (toSpotS_any ps _ _ r1' (by omega)).mono ?_; rintro e w2 ⟨v2, rfl, o2, b2⟩; have c2 := (b2.cell (p := ⟨w.heap.size, 0, none⟩) (by exact hs1)).trans c1; have d2 := (b2.cell (p := ⟨w.heap.size, 1, none⟩) (by exact hs1)).trans d1)
          | (go_at_call 19; refine (toSpot_any ax ay _).mono ?_; rintro e w3 ⟨rfl, b3⟩; have o3 := o2.below b3; have c3 := (b3.cell (p := ⟨w.heap.size, 0, none⟩) (Nat.lt_of_lt_of_le hs1 b2.size)).trans c2; have d3 := (b3.cell (p := ⟨w.heap.size, 1, none⟩) (Nat.lt_of_lt_of_le hs1 b2.size)).trans d2)
          | (go_at_call 26; refine (spec_is hk o3.reads (by omega)).mono ?_; rintro e w4 ⟨vw, rfl, ow, b4⟩; have c4 := (b4.cell (p := ⟨w.heap.size, 0, none⟩) (Nat.lt_of_lt_of_le (Nat.lt_of_lt_of_le hs1 b2.size) b3.size)).trans c3; have d4 := (b4.cell (p := ⟨w.heap.size, 1, none⟩) (Nat.lt_of_lt_of_le (Nat.lt_of_lt_of_le hs1 b2.size) b3.size)).trans d3))
      have bb := below_step (below_step (below_step (below_step bb (Below.refl w1.heap.size w1).drew) b2) b3) b4
      clear c1 d1 c2 d2 c3 d3 c4 d4 r1' o2 o3 b2 b3 b4
      have hb3 := bb.size
      go_wp2_with fail
      refine (toSpotS_any ps _ _ ((h0.below bb).more bb.size) (by omega)).mono ?_
      rintro e w5 ⟨vx, rfl, ox, bn⟩
      have newx := Owns.ne ow ox (Nat.le_refl _)
      have ow := ow.below bn
      have bb := below_step bb bn
      clear bn
      obtain ⟨c1, d1⟩ := CA.out _ bb
      go_wp2_with fail
      refine (toSpot_any ax ay _).mono ?_
      rintro e w6 ⟨rfl, bn⟩
      have ow := ow.below bn
      have ox := ox.below bn
      have bb := below_step bb bn
      have hb4 := bb.size
      clear bn c1 d1
      go_wp2_with fail
      refine (impl_is hk ox.reads).mono ?_
      rintro e w7 ⟨vg, rfl, og, bn⟩
      have newg := Owns.ne ow og (Nat.le_refl _)
      have negx := Owns.ne' og ox (Nat.le_refl _)
      have ow := ow.below bn
      have ox := ox.below bn
      have bb := below_step bb bn
      clear bn
      go_wp2_with fail
      refine (gives_is (show decide (moveL ps (ax, ay) = moveL ps (ax, ay)) = true by simp) (eqSpotS_any _ _ _ _ _ og.reads ow.reads)).mono ?_
      rintro e wa ⟨rfl, bn⟩
      have ow := ow.below bn
      have ox := ox.below bn
      have og := og.below bn
      have bb := below_step bb bn
      clear bn
      go_wp2_with fail
      refine (toSpotS_any ps _ _ ((h0.below bb).more bb.size) (by omega)).mono ?_
      rintro e w8 ⟨v8, rfl, o8, bn⟩
      have ow := ow.below bn
      have ox := ox.below bn
      have og := og.below bn
      have bb := below_step bb bn
      clear bn
      go_wp2_with fail
      refine (gives_is (show decide (ps = ps) = true by simp) (eqSpotS_any _ _ _ _ _ ox.reads o8.reads)).mono ?_
      rintro e wb ⟨rfl, bn⟩
      clear o8
      have ow := ow.below bn
      have ox := ox.below bn
      have og := og.below bn
      have bb := below_step bb bn
      clear bn
      go_wp2_with fail
      refine (mark_any ps _ _ 1 _ ox (by omega) (by omega) (by omega)).mono ?_
      rintro e w9 ⟨rfl, ox9, g9⟩
      have bb9 := bb.grown g9 bb.size (fun k hk => Nat.le_trans hb3 (ox.lt k hk).1)
      have ow9 := ow.grown g9 newx
      have og9 := og.grown g9 negx
      clear bb ow og ox ox9 g9
      go_wp2_with fail
      refine (gives_is (show decide (moveL ps (ax, ay) = moveL ps (ax, ay)) = true by simp) (eqSpotS_any _ _ _ _ _ og9.reads ow9.reads)).mono ?_
      rintro e w10 ⟨rfl, b10⟩
      have ow10 := ow9.below b10
      have og10 := og9.below b10
      have bb10 := below_step bb9 b10
      clear b10 ow9 og9 bb9
      go_wp2_with fail
      refine (mark_any (moveL ps (ax, ay)) _ _ 1 _ og10 (by omega) (by omega) (by omega)).mono ?_
      rintro e w11 ⟨rfl, og11, g11⟩
      have bb11 := bb10.grown g11 bb10.size (fun k hk => Nat.le_trans hb4 (og10.lt k hk).1)
      have ow11 := ow10.grown g11 newg
      clear bb10 ow10 og10 g11
      go_wp2_with fail
      refine (held_any _ _ 1 _ og11.reads (by omega) (by omega) (by omega)).mono ?_
      rintro e w12 ⟨rfl, b12⟩
      have ow12 := ow11.below b12
      have og12 := og11.below b12
      have bb := below_step bb11 b12
      clear b12 ow11 og11 bb11
      obtain ⟨c1, d1⟩ := CA.out _ bb
      have hs12 := Nat.lt_of_lt_of_le s0 bb.size
      have r12 := ((h0.below bb).more bb.size).kept (Below.refl w12.heap.size w12).drew
      go_wp2_with fail
      go_region_held3 (fun w' => w'.cell? ⟨w.heap.size, 0, none⟩ = some (.int .i64 ax) ∧ w'.cell? ⟨w.heap.size, 1, none⟩ = some (.int .i64 ay)) (first | exact ⟨by assumption, by assumption⟩ | (simp [c1, d1]; done))
        (first
          | (go_at_call 18; refine (toSpotS_any ps _ _ r12 (by omega)).mono ?_; rintro e w13 ⟨v13, rfl, o13, b13⟩; have c2 := (b13.cell (p := ⟨w.heap.size, 0, none⟩) (by exact hs12)).trans c1; have d2 := (b13.cell (p := ⟨w.heap.size, 1, none⟩) (by exact hs12)).trans d1)
          | (go_at_call 19; refine (toSpot_any ax ay _).mono ?_; rintro e w14 ⟨rfl, b14⟩; have o14 := o13.below b14; have c3 := (b14.cell (p := ⟨w.heap.size, 0, none⟩) (Nat.lt_of_lt_of_le hs12 b13.size)).trans c2; have d3 := (b14.cell (p := ⟨w.heap.size, 1, none⟩) (Nat.lt_of_lt_of_le hs12 b13.size)).trans d2)
          | (go_at_call 27; refine (impl_is hk o14.reads).mono ?_; rintro e w15 ⟨vh, rfl, oh, b15⟩; have c4 := (b15.cell (p := ⟨w.heap.size, 0, none⟩) (Nat.lt_of_lt_of_le (Nat.lt_of_lt_of_le hs12 b13.size) b14.size)).trans c3; have d4 := (b15.cell (p := ⟨w.heap.size, 1, none⟩) (Nat.lt_of_lt_of_le (Nat.lt_of_lt_of_le hs12 b13.size) b14.size)).trans d3))
      have bh := below_step (below_step (below_step (Below.refl w12.heap.size w12).drew b13) b14) b15
      clear c1 d1 c2 d2 c3 d3 c4 d4 r12 o13 o14 b13 b14 b15
      have ow15 := ow12.below bh
      have og15 := og12.below bh
      have bb15 := below_step bb bh
      clear bh ow12 og12 bb
      go_wp2_with fail
      refine (gives_is (show decide (moveL ps (ax, ay) = moveL ps (ax, ay)) = true by simp) (eqSpotS_any _ _ _ _ _ oh.reads ow15.reads)).mono ?_
      rintro e w16 ⟨rfl, b16⟩
      have og16 := og15.below b16
      have bb16 := below_step bb15 b16
      clear b16 ow15 og15 bb15 oh
      go_wp2_with fail
      refine (held_any _ _ 1 _ og16.reads (by omega) (by omega) (by omega)).mono ?_
      rintro e w17 ⟨rfl, b17⟩
      have bb17 := below_step bb16 b17
      go_wp2
      go_ret
      exact ⟨rfl, below_step b0 bb17⟩
set_option maxRecDepth 100000 in
theorem lifted (os : Os) (started : os.Started) (H : Type) (enc : TypeId × Value → H) :
    ReturnsInHanded {} Try.checked os 6 .any (Rows.fnExactMovedBySpec.pre6 enc Try.prog Try.f6 Rows.fnExactMovedByRow.domain false) (Rows.fnExactMovedBySpec.post enc Try.prog Try.f6 false true false false) := by
  refine returnsInHanded_of_change (C := Try.checked) own started (by kernel_rfl) Try.func6
    (ChangeSpec.witness6 (enc := enc) (C := Try.checked) false ⟨#[], #[.slice none 0 0, .agg #[.int .i64 0, .int .i64 0]], []⟩ 8 (by kernel_rfl) (by kernel_rfl) (by kernel_rfl) (by kernel_rfl)) ?_
  intro W base args ds gs before hval0 hW _ _
  have hval : ∀ (j : Nat) t v, Try.f6.params[j]? = some t → args[j]? = some v → Value.okWide Try.prog W .any base t v := hval0
  have hW' := hW
  obtain ⟨p, q, hA0, hV, rfl, _, _⟩ := hW
  have hA : DataW.TrodAll enc Try.prog W 0 (fun _ => true) true Try.f6.params.toList args.toList ds p := hA0
  rw [Try.params6] at hA hval
  obtain ⟨v0, v1, d0, d1, p0, p1, rfl, rfl, rfl, h0, h1⟩ := trodAll_two hA
  obtain ⟨rfl, rfl⟩ := trodVars_none hV
  clear hA0 hval0
  simp only [List.append_nil] at hW'
  have hlt : ∀ x ∈ p0 ++ p1, x.block < W.heap.size := fun x hx => by simpa using hW'.lt x hx
  have hlt0 : ∀ x ∈ p0, x.block < W.heap.size := fun x hx => hlt x (List.mem_append_left _ hx)
  have hlt1 : ∀ x ∈ p1, x.block < W.heap.size := fun x hx => hlt x (List.mem_append_right _ hx)
  obtain ⟨ps0, r0⟩ := open_lspots (hval 0 33 v0 rfl rfl) h0 hlt0
  obtain ⟨a1, rfl⟩ := open_lspot (hval 1 34 v1 rfl rfl) h1
  refine (walk ps0 v0 a1.1 a1.2 W r0).mono fun e W' hg => ?_
  obtain ⟨he, hb⟩ := hg
  subst he
  exact ⟨_, rfl, _, _, _, [], p0 ++ p1, [], hW', trodAll_mk1 (shut_bool Try.underlying4 _), trodAll_mk2 (kept_arg (by kernel_rfl) (of_decide_eq_true (by kernel_rfl)) h0 hb hlt0) (kept_arg (by kernel_rfl) (of_decide_eq_true (by kernel_rfl)) h1 hb hlt1), rfl, hb.frame _, fun h => by cases h⟩

theorem holds : Rows.FnExactMovedBySaid :=
  OpenClaim.holds_of_wide 6 Try.f6 rfl rfl rfl rfl rfl rfl rfl ⟨rfl, rfl, rfl, rfl, rfl⟩ rfl rfl rfl rfl rfl (by kernel_rfl) Try.func6 (by kernel_rfl)
    (of_decide_eq_true (by kernel_rfl)) (by unfold Func.isWrapper; first | (rw [if_pos (by decide +kernel)]; kernel_rfl) | (rw [if_neg (by decide +kernel)]; exact ⟨rfl, rfl⟩))
    (fun os started H enc _ => lifted os started H enc)
end Go.Proofs.Ytjmhmaijfhljlab.exMovedBy
