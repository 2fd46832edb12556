/-
  Proved: the law of MovedBy (FnMovedBy) returns true for every code, and the code reads afterwards as it read before. No conditions.
-/
import Derived.Test.YtfofmfkdkihhbaaDraws1
import Derived.Test.YtfofmfkdkihhbaaHas2
import Derived.Test.YtfofmfkdkihhbaaMoveS
import Derived.Test.YtfofmfkdkihhbaaOpen
namespace Go.Proofs.Ytfofmfkdkihhbaa.fnMovedBy
open Go.ChangeShapes Go.WideShapes Go.ChangeAt Go.RowKit

theorem parts {p : List Sp} {x y : Int} (h : moveOk p (x, y) = true) : picB p = true ∧ wide (x, y) = true ∧ picB (moved p (x, y)) = true ∧ moveL p (x, y) = moved p (x, y) := by
  have h' := h
  unfold moveOk at h'
  simp only [Bool.and_eq_true] at h'
  exact ⟨h'.1.1, h'.1.2, h'.2, by unfold moveL; rw [h]; rfl⟩
theorem moved_back (p : List Sp) (x y : Int) : moved (moved p (x, y)) (-x, -y) = p := by
  unfold moved
  rw [List.map_map]
  conv => rhs; rw [← List.map_id p]
  refine List.map_congr_left fun b _ => ?_
  show ((b.1 + x + -x, b.2 + y + -y) : Sp) = b
  exact sp_ext (by simp only; omega) (by simp only; omega)
theorem back {p : List Sp} {x y : Int} (h : moveOk p (x, y) = true) : moveOk (moved p (x, y)) (-x, -y) = true ∧ moveL (moved p (x, y)) (-x, -y) = p := by
  obtain ⟨h1, h2, h3, _⟩ := parts h
  have hw : wide (-x, -y) = true := by
    unfold wide at h2 ⊢
    have h2 := of_decide_eq_true h2
    simp only at h2
    exact decide_eq_true ⟨by simp only; omega, by simp only; omega, by simp only; omega, by simp only; omega⟩
  have := move_yes h3 hw (by rw [moved_back]; exact h1)
  rw [moved_back] at this
  exact this
theorem has_moved {p : List Sp} {x y px py : Int} {k : Nat} (h : moveOk p (x, y) = true) (hk : p[k]? = some (px, py)) : hasB (moved p (x, y)) (px + x, py + y) = true := by
  rw [hasB_yes (parts h).2.2.1]
  exact decide_eq_true (List.mem_of_getElem? (moved_at (a := (x, y)) hk))

set_option maxHeartbeats 1600000 in
theorem walk (A : Option Addr) (n c : Nat) (w : World) (hb : Bytes w w.heap.size A n) (hn : n ≤ c) (hc : c ≤ 9223372036854775807) :
    Calls Try.prog 5 #[.slice A n c] w (Gives (.bool true) w) := by
  by_cases hbig : 1048576 < n
  · go_enter Try.func5, Try.ntmps5
    go_wp2
    go_ret
    exact ⟨rfl, Below.refl _ _⟩
  · go_enter Try.func5, Try.ntmps5
    go_wp2_with fail
    refine (drawMovedBy_any A n c _ hb hn hc).mono ?_
    rintro e w1 ⟨v, ps, x, y, rfl, D, hx1, hx2, hy1, hy2⟩
    have b1 := D.below
    have r1 := D.own.reads
    have hl := D.len
    clear D
    obtain ⟨W, hW⟩ : ∃ W, W = w1.alloc (.cells #[.int .i64 x, .int .i64 y] 25) := ⟨_, rfl⟩
    have bW : Below w1.heap.size w1 W := by rw [hW]; exact box_below w1 _ _
    have s1 : w1.heap.size < W.heap.size := by rw [hW]; simp
    have a0 : W.cell? ⟨w1.heap.size, 0, none⟩ = some (.int .i64 x) := by rw [hW]; simp [go_sem]
    have a1 : W.cell? ⟨w1.heap.size, 1, none⟩ = some (.int .i64 y) := by rw [hW]; simp [go_sem]
    obtain ⟨A1, c1', rfl, hc1, hm1, hA1, hr⟩ := r1.is
    unfold maxLen at hm1
    rcases hk : moveOk ps (x, y) with _ | _
    · have hL := moveL_no hk
      go_wp2_with fail
      rw [← hW]
      clear hW
      have cI := implMoved_any _ _ x y _ (r1.kept bW)
      rw [hk, hL] at cI
      refine cI.mono ?_
      rintro e w2 ⟨vg, rfl, og, b2⟩
      clear cI
      have bb2 := below_step bW b2
      have c0 := (b2.cell (p := ⟨w1.heap.size, 0, none⟩) s1).trans a0
      have c1 := (b2.cell (p := ⟨w1.heap.size, 1, none⟩) s1).trans a1
      have s2 := Nat.lt_of_lt_of_le s1 b2.size
      go_wp2_with fail
      have cI := specMoved_any _ _ x y _ (r1.kept bb2) (by first | omega | simp)
      rw [hk, hL] at cI
      refine cI.mono ?_
      rintro e w3 ⟨vs, rfl, os, b3⟩
      clear cI
      have bb3 := below_step bb2 b3
      have c0 := (b3.cell (p := ⟨w1.heap.size, 0, none⟩) s2).trans c0
      have c1 := (b3.cell (p := ⟨w1.heap.size, 1, none⟩) s2).trans c1
      have s3 := Nat.lt_of_lt_of_le s2 b3.size
      have og3 := og.below b3
      clear a0 a1 og
      go_wp2_with fail
      refine (gives_is (show decide ((([] : List Sp)) = (([] : List Sp))) = true by simp) (sameSpots_any _ _ _ _ _ og3.reads os.reads)).mono ?_
      rintro e w4 ⟨rfl, b4⟩
      have bb4 := below_step bb3 b4
      have c0 := (b4.cell (p := ⟨w1.heap.size, 0, none⟩) s3).trans c0
      have c1 := (b4.cell (p := ⟨w1.heap.size, 1, none⟩) s3).trans c1
      have s4 := Nat.lt_of_lt_of_le s3 b4.size
      have og4 := og3.below b4
      clear og3 os
      obtain ⟨A5, c5, rfl, _, _⟩ := og4.reads.slice
      clear hk hL
      go_wp2_with fail
      refine (alive_any _).mono ?_
      rintro e w5 ⟨rfl, b5⟩
      go_wp2
      go_ret
      exact ⟨rfl, below_step b1 (below_step bb4 b5)⟩
    · have HK := Lib.hid hk
      by_cases h0 : ps.length = 0
      · obtain rfl := List.eq_nil_of_length_eq_zero h0
        have hL := (parts hk).2.2.2
        go_wp2_with fail
        rw [← hW]
        clear hW
        have cI := implMoved_any _ _ x y _ (r1.kept bW)
        rw [hk, hL] at cI
        refine cI.mono ?_
        rintro e w2 ⟨vg, rfl, og, b2⟩
        clear cI
        have bb2 := below_step bW b2
        have c0 := (b2.cell (p := ⟨w1.heap.size, 0, none⟩) s1).trans a0
        have c1 := (b2.cell (p := ⟨w1.heap.size, 1, none⟩) s1).trans a1
        have s2 := Nat.lt_of_lt_of_le s1 b2.size
        go_wp2_with fail
        have cI := specMoved_any _ _ x y _ (r1.kept bb2) (by first | omega | simp)
        rw [hk, hL] at cI
        refine cI.mono ?_
        rintro e w3 ⟨vs, rfl, os, b3⟩
        clear cI
        have bb3 := below_step bb2 b3
        have c0 := (b3.cell (p := ⟨w1.heap.size, 0, none⟩) s2).trans c0
        have c1 := (b3.cell (p := ⟨w1.heap.size, 1, none⟩) s2).trans c1
        have s3 := Nat.lt_of_lt_of_le s2 b3.size
        have og3 := og.below b3
        clear a0 a1 og
        go_wp2_with fail
        refine (gives_is (show decide ((moved [] (x, y)) = (moved [] (x, y))) = true by simp) (sameSpots_any _ _ _ _ _ og3.reads os.reads)).mono ?_
        rintro e w4 ⟨rfl, b4⟩
        have bb4 := below_step bb3 b4
        have c0 := (b4.cell (p := ⟨w1.heap.size, 0, none⟩) s3).trans c0
        have c1 := (b4.cell (p := ⟨w1.heap.size, 1, none⟩) s3).trans c1
        have s4 := Nat.lt_of_lt_of_le s3 b4.size
        have og4 := og3.below b4
        clear og3 os
        clear hk hL
        go_wp2
        refine wp_loop_rounds 1 ?_
        rw [rounds_succ]
        have ogr := og4
        have HB := back HK.out
        go_wp2_with fail
        have cI := implMoved_any _ _ (-x) (-y) _ ogr.reads
        rw [HB.1, HB.2] at cI
        clear HB
        refine cI.mono ?_
        rintro e w5 ⟨vb, rfl, ob, b5⟩
        clear cI
        have bb5 := below_step bb4 b5
        go_wp2_with fail
        refine (gives_is (show decide ((([] : List Sp)) = (([] : List Sp))) = true by simp) (sameSpots_any _ _ _ _ _ ob.reads (r1.kept bb5))).mono ?_
        rintro e w6 ⟨rfl, b6⟩
        go_wp2_with fail
        refine (alive_any _).mono ?_
        rintro e w7 ⟨rfl, b7⟩
        go_wp2
        go_ret
        exact ⟨rfl, below_step b1 (below_step (below_step bb5 b6) b7)⟩
      · obtain ⟨b, off, rfl, hb', hcell⟩ := hr (by omega)
        have hL := (parts hk).2.2.2
        have hpin := (picB_pic (parts hk).1).2.1
        go_wp2_with fail
        rw [← hW]
        clear hW
        have cI := implMoved_any _ _ x y _ (r1.kept bW)
        rw [hk, hL] at cI
        refine cI.mono ?_
        rintro e w2 ⟨vg, rfl, og, b2⟩
        clear cI
        have bb2 := below_step bW b2
        have c0 := (b2.cell (p := ⟨w1.heap.size, 0, none⟩) s1).trans a0
        have c1 := (b2.cell (p := ⟨w1.heap.size, 1, none⟩) s1).trans a1
        have s2 := Nat.lt_of_lt_of_le s1 b2.size
        go_wp2_with fail
        have cI := specMoved_any _ _ x y _ (r1.kept bb2) (by first | omega | simp)
        rw [hk, hL] at cI
        refine cI.mono ?_
        rintro e w3 ⟨vs, rfl, os, b3⟩
        clear cI
        have bb3 := below_step bb2 b3
        have c0 := (b3.cell (p := ⟨w1.heap.size, 0, none⟩) s2).trans c0
        have c1 := (b3.cell (p := ⟨w1.heap.size, 1, none⟩) s2).trans c1
        have s3 := Nat.lt_of_lt_of_le s2 b3.size
        have og3 := og.below b3
        clear a0 a1 og
        go_wp2_with fail
        refine (gives_is (show decide ((moved ps (x, y)) = (moved ps (x, y))) = true by simp) (sameSpots_any _ _ _ _ _ og3.reads os.reads)).mono ?_
        rintro e w4 ⟨rfl, b4⟩
        have bb4 := below_step bb3 b4
        have c0 := (b4.cell (p := ⟨w1.heap.size, 0, none⟩) s3).trans c0
        have c1 := (b4.cell (p := ⟨w1.heap.size, 1, none⟩) s3).trans c1
        have s4 := Nat.lt_of_lt_of_le s3 b4.size
        have og4 := og3.below b4
        clear og3 os
        clear hk hL
        go_wp2
        go_loopw [9] (fun i wr => ∃ (k : Nat), k ≤ ps.length ∧ i = .int .i64 k ∧ Below w4.heap.size w4 wr) (fun i _ => ps.length - (intOf i).toNat)
        case atStart => exact ⟨0, Nat.zero_le _, rfl, Below.refl _ _⟩
        case round =>
          obtain ⟨k, hk, rfl, hbw⟩ := hrel
          have hbs := hbw.size
          by_cases hlt : k < ps.length
          · obtain ⟨⟨px, py⟩, hxy⟩ : ∃ a, ps[k]? = some a := ⟨_, List.getElem?_eq_getElem hlt⟩
            obtain ⟨e0, e1⟩ := hcell k px py hxy
            obtain ⟨i1, i2, i3, i4⟩ := hpin _ (List.mem_of_getElem? hxy)
            simp only at i1 i2 i3 i4
            have bbr := below_step bb4 hbw
            have f0 := cell_regrown ((bbr.cell (p := ⟨b, off + k * 2, none⟩) hb').trans e0)
            have f1 := cell_regrown ((bbr.cell (p := ⟨b, off + k * 2 + 1, none⟩) hb').trans e1)
            have g0 := cell_regrown ((hbw.cell (p := ⟨w1.heap.size, 0, none⟩) s4).trans c0)
            have g1 := cell_regrown ((hbw.cell (p := ⟨w1.heap.size, 1, none⟩) s4).trans c1)
            have HM := Lib.hid (has_moved HK.out hxy)
            have hwx : IntKind.i64.wrap (px + x) = px + x := IntWalk.i64_in _ (by omega)
            have hwy : IntKind.i64.wrap (py + y) = py + y := IntWalk.i64_in _ (by omega)
            have ogr := (og4.reads).kept hbw
            clear e0 e1 hxy
            go_wp2
            refine wp_region_quiet_below (by kernel_rfl) (by kernel_rfl) ?_
            repeat (go_big_quiet_step (first | (go_at_call 12; exact gives_regrown (fun w1 hw1 => gives_is HM.out (implHas_any _ _ _ _ w1 (ogr.kept hw1))) _ _)))
            refine wpQuiet_nil ?_
            intro wn hw'
            obtain ⟨⟨dq, osq⟩, hw''⟩ := hw'
            have hN : Below wr.heap.size wr wn := by rw [hw'']; exact below_regrown _ _ _
            clear hw'' dq osq
            go_wp2
            go_roundw
            case rel => exact ⟨k + 1, by omega, by go_num, hbw.trans (hN.mono hbs)⟩
            case measure => simp [intOf]; omega
          · have bbr := below_step bb4 hbw
            have ogr := og4.below hbw
            have c0 := (hbw.cell (p := ⟨w1.heap.size, 0, none⟩) s4).trans c0
            have c1 := (hbw.cell (p := ⟨w1.heap.size, 1, none⟩) s4).trans c1
            have HB := back HK.out
            go_wp2_with fail
            have cI := implMoved_any _ _ (-x) (-y) _ ogr.reads
            rw [HB.1, HB.2] at cI
            clear HB
            refine cI.mono ?_
            rintro e w5 ⟨vb, rfl, ob, b5⟩
            clear cI
            have bb5 := below_step bbr b5
            go_wp2_with fail
            refine (gives_is (show decide ((ps) = (ps)) = true by simp) (sameSpots_any _ _ _ _ _ ob.reads (r1.kept bb5))).mono ?_
            rintro e w6 ⟨rfl, b6⟩
            go_wp2_with fail
            refine (alive_any _).mono ?_
            rintro e w7 ⟨rfl, b7⟩
            go_wp2
            go_ret
            exact ⟨rfl, below_step b1 (below_step (below_step bb5 b6) b7)⟩
set_option maxRecDepth 100000 in
theorem lifted (os : Os) (started : os.Started) (H : Type) (enc : TypeId × Value → H) :
    ReturnsInHanded {} Try.checked os 5 .any (Rows.fnMovedBySpec.pre6 enc Try.prog Try.f5 Rows.fnMovedByRow.domain false) (Rows.fnMovedBySpec.post enc Try.prog Try.f5 false true false false) := by
  refine returnsInHanded_of_change (C := Try.checked) own started (by kernel_rfl) Try.func5
    (ChangeSpec.witness6 (enc := enc) (C := Try.checked) false ⟨#[], #[.slice none 0 0], []⟩ 8 (by kernel_rfl) (by kernel_rfl) (by kernel_rfl) (by kernel_rfl)) ?_
  intro W base args ds gs before hval0 hW _ _
  have hval : ∀ (j : Nat) t v, Try.f5.params[j]? = some t → args[j]? = some v → Value.okWide Try.prog W .any base t v := hval0
  have hW' := hW
  obtain ⟨p, q, hA0, hV, rfl, _, _⟩ := hW
  have hA : DataW.TrodAll enc Try.prog W 0 (fun _ => true) true Try.f5.params.toList args.toList ds p := hA0
  rw [Try.params5] at hA hval
  obtain ⟨v0, d0, rfl, rfl, h0⟩ := trodAll_one hA
  obtain ⟨rfl, rfl⟩ := trodVars_none hV
  clear hA0 hval0
  simp only [List.append_nil] at hW'
  have hlt : ∀ x ∈ p, x.block < W.heap.size := fun x hx => by simpa using hW'.lt x hx
  have r0 := open_bytes (hval 0 22 v0 rfl rfl) h0 hlt
  obtain ⟨⟨bA, bn, bc⟩, rfl, rb, rn, rc⟩ := r0
  simp only at rb rn rc
  refine (walk bA bn bc W rb rn rc).mono fun e W' hg => ?_
  obtain ⟨he, hb⟩ := hg
  subst he
  exact ⟨_, rfl, _, _, _, [], p, [], hW', trodAll_mk1 (shut_bool Try.underlying4 _), trodAll_mk1 (kept_arg (by kernel_rfl) (of_decide_eq_true (by kernel_rfl)) h0 hb hlt), rfl, hb.frame _, fun h => by cases h⟩

theorem holds : Rows.FnMovedBySaid :=
  OpenClaim.holds_of_wide 5 Try.f5 rfl rfl rfl rfl rfl rfl rfl ⟨rfl, rfl, rfl, rfl, rfl⟩ rfl rfl rfl rfl rfl (by kernel_rfl) Try.func5 (by kernel_rfl)
    (of_decide_eq_true (by kernel_rfl)) (by unfold Func.isWrapper; first | (rw [if_pos (by decide +kernel)]; kernel_rfl) | (rw [if_neg (by decide +kernel)]; exact ⟨rfl, rfl⟩))
    (fun os started H enc _ => lifted os started H enc)
end Go.Proofs.Ytfofmfkdkihhbaa.fnMovedBy
