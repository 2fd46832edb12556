/- MovedBy of the model. No conditions but those typed. -/
import Derived.Test.YtkiidmdgdjphjaaGreatMove
namespace Go.Proofs.YtkiidmdgdjphjaaGreat
open Go.RowKit Go.Sort

theorem moveOk_spec {p : List Sp} {ax ay : Int} : moveOk p (ax, ay) = (picB p && (picB (movedW p (ax, ay)) && (decide (-60 ≤ ax ∧ ax ≤ 60) && decide (-60 ≤ ay ∧ ay ≤ 60)))) := by
  rcases hp : picB p with _ | _
  · exact (move_no1 hp).1
  · rcases hw : wide (ax, ay) with _ | _
    · rw [(move_no2 hw).1]
      unfold wide at hw
      have hw := of_decide_eq_false hw
      simp only at hw
      have : (decide (-60 ≤ ax ∧ ax ≤ 60) && decide (-60 ≤ ay ∧ ay ≤ 60)) = false := by
        rw [← Bool.decide_and]; exact decide_eq_false (fun h => hw ⟨h.1.1, h.1.2, h.2.1, h.2.2⟩)
      rw [this]; simp
    · rw [moved_eq (picB_pic hp) hw]
      unfold moveOk
      rw [hp, hw]
      unfold wide at hw
      have hw := of_decide_eq_true hw
      simp only at hw
      rw [decide_eq_true (show -60 ≤ ax ∧ ax ≤ 60 from ⟨hw.1, hw.2.1⟩), decide_eq_true (show -60 ≤ ay ∧ ay ≤ 60 from ⟨hw.2.2.1, hw.2.2.2⟩)]
      simp
theorem moveL_spec {p : List Sp} {a : Sp} (h : moveOk p a = true) : moveL p a = movedW p a := by
  have h' := h
  unfold moveOk at h'
  simp only [Bool.and_eq_true] at h'
  rw [moved_eq (picB_pic h'.1.1) h'.1.2]
  unfold moveL; rw [h]; rfl
theorem moveL_no {p : List Sp} {a : Sp} (h : moveOk p a = false) : moveL p a = [] := by unfold moveL; rw [h]; rfl
theorem movedW_take {ps : List Sp} {a : Sp} {k : Nat} {x y : Int} (h : ps[k]? = some (x, y)) : (movedW ps a).take k ++ [(wrap64 (x + a.1), wrap64 (y + a.2))] = (movedW ps a).take (k + 1) := by
  rw [List.take_add_one, movedW_at h]; rfl

set_option maxHeartbeats 1600000 in
theorem specMoved_any (ps : List Sp) (v : Value) (ax ay : Int) (w : World) (h : Reads w w.heap.size v ps) (hsm : ps.length ≤ 1100000) :
    Calls Tryz.prog 43 #[v, .agg #[.int .i64 ax, .int .i64 ay]] w (Gives2' (moveL ps (ax, ay)) (moveOk ps (ax, ay)) w) := by
  obtain ⟨A, c, rfl, hc, hm, hA, hr⟩ := h.is
  unfold maxLen at hm
  obtain ⟨W, hW⟩ : ∃ W, W = w.alloc (.cells #[.int .i64 ax, .int .i64 ay] 53) := ⟨_, rfl⟩
  have b0 : Below w.heap.size w W := by rw [hW]; exact box_below w _ _
  have hWs : W.heap.size = w.heap.size + 1 := by rw [hW]; simp
  have a0 : W.cell? ⟨w.heap.size, 0, none⟩ = some (.int .i64 ax) := by rw [hW]; simp [go_sem]
  have a1 : W.cell? ⟨w.heap.size, 1, none⟩ = some (.int .i64 ay) := by rw [hW]; simp [go_sem]
  have s0 : w.heap.size < W.heap.size := by omega
  have hal : Below W.heap.size W (W.alloc (.cells #[] 53)) := (Below.refl _ _).alloc (Nat.le_refl _) _
  have oe : Owns (W.alloc (.cells #[] 53)) W.heap.size (.slice (some ⟨w.heap.size + 1, 0, none⟩) 0 0) [] := by
    have e := Owns.empty W W.heap.size (Nat.le_refl _)
    have h2 : (⟨W.heap.size, 0, none⟩ : Addr) = ⟨w.heap.size + 1, 0, none⟩ := by rw [hWs]
    rw [h2] at e
    exact e
  clear hWs
  have hrw := h.kept b0
  by_cases h0 : ps.length = 0
  · obtain rfl := List.eq_nil_of_length_eq_zero h0
    have bbe := below_step b0 hal
    have hre := hrw.kept hal
    have ae0 := (hal.cell (p := ⟨w.heap.size, 0, none⟩) s0).trans a0
    have ae1 := (hal.cell (p := ⟨w.heap.size, 1, none⟩) s0).trans a1
    have sze := Nat.lt_of_lt_of_le s0 hal.size
    go_enter Tryz.func43, Tryz.ntmps43
    go_wp2
    rw [← hW]
    clear hW
    refine wp_loop_rounds 1 ?_
    rw [rounds_succ]
    have oe' : Owns (W.alloc (.cells #[] 53)) W.heap.size (.slice (some ⟨w.heap.size + 1, 0, none⟩) 0 0) (movedW [] (ax, ay)) := oe
    rcases hp : picB ([] : List Sp) with _ | _
    · have HE := Lib.hid (show moveOk ([] : List Sp) (ax, ay) = false by rw [moveOk_spec, hp]; rfl)
      go_wp2_with fail
      refine (gives_is hp (specPicture_any _ _ _ hre)).mono ?_
      rintro e w4 ⟨rfl, b4⟩
      have bb4 := below_step bbe b4
      clear hp
      have hle := (bb4).size
      go_wp2
      go_ret2
      exact ⟨_, by rw [HE.out]; rfl, by rw [moveL_no HE.out]; exact Owns.empty _ _ hle, (bb4).alloc hle _⟩
    rcases hm : picB (movedW ([] : List Sp) (ax, ay)) with _ | _
    · have HE := Lib.hid (show moveOk ([] : List Sp) (ax, ay) = false by rw [moveOk_spec, hp, hm]; rfl)
      go_wp2_with fail
      refine (gives_is hp (specPicture_any _ _ _ hre)).mono ?_
      rintro e w4 ⟨rfl, b4⟩
      have bb4 := below_step bbe b4
      have own4 := (oe').below b4
      go_wp2_with fail
      refine (gives_is hm (specPicture_any _ _ _ own4.reads)).mono ?_
      rintro e w5 ⟨rfl, b5⟩
      have bb5 := below_step bb4 b5
      clear hp hm
      have hle := (bb5).size
      go_wp2
      go_ret2
      exact ⟨_, by rw [HE.out]; rfl, by rw [moveL_no HE.out]; exact Owns.empty _ _ hle, (bb5).alloc hle _⟩
    rcases hx : decide (-60 ≤ ax ∧ ax ≤ 60) with _ | _
    · have HE := Lib.hid (show moveOk ([] : List Sp) (ax, ay) = false by rw [moveOk_spec, hp, hm, hx]; rfl)
      go_wp2_with fail
      refine (gives_is hp (specPicture_any _ _ _ hre)).mono ?_
      rintro e w4 ⟨rfl, b4⟩
      have bb4 := below_step bbe b4
      have own4 := (oe').below b4
      have a04 := (b4.cell (p := ⟨w.heap.size, 0, none⟩) sze).trans ae0
      have a14 := (b4.cell (p := ⟨w.heap.size, 1, none⟩) sze).trans ae1
      have hsz4 := Nat.lt_of_lt_of_le sze b4.size
      go_wp2_with fail
      refine (gives_is hm (specPicture_any _ _ _ own4.reads)).mono ?_
      rintro e w5 ⟨rfl, b5⟩
      have bb5 := below_step bb4 b5
      have own5 := own4.below b5
      have a05 := (b5.cell (p := ⟨w.heap.size, 0, none⟩) hsz4).trans a04
      have a15 := (b5.cell (p := ⟨w.heap.size, 1, none⟩) hsz4).trans a14
      have hsz5 := Nat.lt_of_lt_of_le hsz4 b5.size
      clear hp hm
      go_wp2_with fail
      refine (gives_is hx (l1In_any _ _ _ _)).mono ?_
      rintro e w6 ⟨rfl, b6⟩
      have bb6 := below_step bb5 b6
      have a16 := (b6.cell (p := ⟨w.heap.size, 1, none⟩) hsz5).trans a15
      clear hx
      have hle := (bb6).size
      go_wp2
      go_ret2
      exact ⟨_, by rw [HE.out]; rfl, by rw [moveL_no HE.out]; exact Owns.empty _ _ hle, (bb6).alloc hle _⟩
    rcases hy : decide (-60 ≤ ay ∧ ay ≤ 60) with _ | _
    · have HE := Lib.hid (show moveOk ([] : List Sp) (ax, ay) = false by rw [moveOk_spec, hp, hm, hx, hy]; rfl)
      go_wp2_with fail
      refine (gives_is hp (specPicture_any _ _ _ hre)).mono ?_
      rintro e w4 ⟨rfl, b4⟩
      have bb4 := below_step bbe b4
      have own4 := (oe').below b4
      have a04 := (b4.cell (p := ⟨w.heap.size, 0, none⟩) sze).trans ae0
      have a14 := (b4.cell (p := ⟨w.heap.size, 1, none⟩) sze).trans ae1
      have hsz4 := Nat.lt_of_lt_of_le sze b4.size
      go_wp2_with fail
      refine (gives_is hm (specPicture_any _ _ _ own4.reads)).mono ?_
      rintro e w5 ⟨rfl, b5⟩
      have bb5 := below_step bb4 b5
      have own5 := own4.below b5
      have a05 := (b5.cell (p := ⟨w.heap.size, 0, none⟩) hsz4).trans a04
      have a15 := (b5.cell (p := ⟨w.heap.size, 1, none⟩) hsz4).trans a14
      have hsz5 := Nat.lt_of_lt_of_le hsz4 b5.size
      clear hp hm
      go_wp2_with fail
      refine (gives_is hx (l1In_any _ _ _ _)).mono ?_
      rintro e w6 ⟨rfl, b6⟩
      have bb6 := below_step bb5 b6
      have a16 := (b6.cell (p := ⟨w.heap.size, 1, none⟩) hsz5).trans a15
      go_wp2_with fail
      refine (gives_is hy (l1In_any _ _ _ _)).mono ?_
      rintro e w7 ⟨rfl, b7⟩
      have bb7 := below_step bb6 b7
      clear hx hy
      have hle := (bb7).size
      go_wp2
      go_ret2
      exact ⟨_, by rw [HE.out]; rfl, by rw [moveL_no HE.out]; exact Owns.empty _ _ hle, (bb7).alloc hle _⟩
    · have HE := Lib.hid (show moveOk ([] : List Sp) (ax, ay) = true by rw [moveOk_spec, hp, hm, hx, hy]; rfl)
      go_wp2_with fail
      refine (gives_is hp (specPicture_any _ _ _ hre)).mono ?_
      rintro e w4 ⟨rfl, b4⟩
      have bb4 := below_step bbe b4
      have own4 := (oe').below b4
      have a04 := (b4.cell (p := ⟨w.heap.size, 0, none⟩) sze).trans ae0
      have a14 := (b4.cell (p := ⟨w.heap.size, 1, none⟩) sze).trans ae1
      have hsz4 := Nat.lt_of_lt_of_le sze b4.size
      go_wp2_with fail
      refine (gives_is hm (specPicture_any _ _ _ own4.reads)).mono ?_
      rintro e w5 ⟨rfl, b5⟩
      have bb5 := below_step bb4 b5
      have own5 := own4.below b5
      have a05 := (b5.cell (p := ⟨w.heap.size, 0, none⟩) hsz4).trans a04
      have a15 := (b5.cell (p := ⟨w.heap.size, 1, none⟩) hsz4).trans a14
      have hsz5 := Nat.lt_of_lt_of_le hsz4 b5.size
      clear hp hm
      go_wp2_with fail
      refine (gives_is hx (l1In_any _ _ _ _)).mono ?_
      rintro e w6 ⟨rfl, b6⟩
      have bb6 := below_step bb5 b6
      have a16 := (b6.cell (p := ⟨w.heap.size, 1, none⟩) hsz5).trans a15
      go_wp2_with fail
      refine (gives_is hy (l1In_any _ _ _ _)).mono ?_
      rintro e w7 ⟨rfl, b7⟩
      have bb7 := below_step bb6 b7
      clear hx hy
      go_wp2
      go_ret2
      exact ⟨_, by rw [HE.out]; rfl, by rw [moveL_spec HE.out]; exact (((own5.below b6).below b7).base (by omega)), bb7⟩
  · obtain ⟨b, off, rfl, hb, hcell⟩ := hr (by omega)
    have hd1 : 1 ≤ ps.length := by omega
    go_enter Tryz.func43, Tryz.ntmps43
    go_wp2
    rw [← hW]
    clear hW
    go_loopw [6, 7] (fun v i wr => ∃ (k : Nat), k ≤ ps.length ∧ i = .int .i64 k ∧ Owns wr W.heap.size v ((movedW ps (ax, ay)).take k) ∧ Below W.heap.size W wr) (fun _ i _ => ps.length - (intOf i).toNat)
    case atStart => exact ⟨0, Nat.zero_le _, rfl, by rw [List.take_zero]; exact oe, hal⟩
    case round =>
      obtain ⟨k, hk, rfl, hown, hbw⟩ := hrel
      have hbs := hbw.size
      by_cases hlt : k < ps.length
      · obtain ⟨⟨x, y⟩, hxy⟩ : ∃ a, ps[k]? = some a := ⟨_, List.getElem?_eq_getElem hlt⟩
        obtain ⟨c0, c1⟩ := hcell _ x y hxy
        obtain ⟨X, hX⟩ : ∃ X, wrap64 (x + ax) = X := ⟨_, rfl⟩
        obtain ⟨Y, hY⟩ : ∃ Y, wrap64 (y + ay) = Y := ⟨_, rfl⟩
        have hT := Lib.hid (movedW_take (a := (ax, ay)) hxy)
        simp only [hX, hY] at hT
        have hwx : IntKind.i64.wrap (x + ax) = X := by simp only [IntKind.wrap_i64, ← hX, wrap64]
        have hwy : IntKind.i64.wrap (y + ay) = Y := by simp only [IntKind.wrap_i64, ← hY, wrap64]
        clear hxy hX hY
        have bbr := below_step b0 hbw
        have d0 := (bbr.cell (p := ⟨b, off + k * 2, none⟩) hb).trans c0
        have d1 := (bbr.cell (p := ⟨b, off + k * 2 + 1, none⟩) hb).trans c1
        have f0 := (hbw.cell (p := ⟨w.heap.size, 0, none⟩) s0).trans a0
        have f1 := (hbw.cell (p := ⟨w.heap.size, 1, none⟩) s0).trans a1
        have hm0 : (0 : Int) ≤ (k : Int) := Int.natCast_nonneg _
        have hm1 : (k : Int) < (ps.length : Int) := by omega
        have bal := (hbw.alloc hbs (.cells #[.int .i64 X, .int .i64 Y] 53)).drew
        have own2 : Owns (wr.alloc (.cells #[.int .i64 X, .int .i64 Y] 53)).drew W.heap.size u6 ((movedW ps (ax, ay)).take k) := (hown.below ((Below.refl wr.heap.size wr).alloc (Nat.le_refl _) _)).below (Below.refl _ _).drew
        have hq1 : ((movedW ps (ax, ay)).take k).length + [(X, Y)].length ≤ 8000000000000 := by simp; omega
        have hq2 : W.heap.size ≤ (wr.alloc (.cells #[.int .i64 X, .int .i64 Y] 53)).drew.heap.size := by simp; omega
        go_wp2_with fail
        go_region_held3 (fun w' => w'.cell? ⟨b, off + k * 2, none⟩ = some (.int .i64 x) ∧ w'.cell? ⟨b, off + k * 2 + 1, none⟩ = some (.int .i64 y) ∧ w'.cell? ⟨w.heap.size, 0, none⟩ = some (.int .i64 ax) ∧ w'.cell? ⟨w.heap.size, 1, none⟩ = some (.int .i64 ay)) (first | go_keep | exact ⟨by assumption, by assumption, by assumption, by assumption⟩)
          ((refine step_append_spots (qs := [(X, Y)]) own2 (Reads.one (g := wr.heap.size) (by simp [go_sem]) (by simp [go_sem])) hq1 hq2 (by rfl) _ _ (by rfl) (by rfl) (by rfl) ?_; intro v2 w2 o2 g2 _; have bz := own2.below_app bal hq2 g2; have e0 := ((below_step b0 bz).cell (p := ⟨b, off + k * 2, none⟩) hb).trans c0; have e1 := ((below_step b0 bz).cell (p := ⟨b, off + k * 2 + 1, none⟩) hb).trans c1; have e2 := (bz.cell (p := ⟨w.heap.size, 0, none⟩) s0).trans a0; have e3 := (bz.cell (p := ⟨w.heap.size, 1, none⟩) s0).trans a1))
        go_wp2
        go_roundw
        case rel => exact ⟨k + 1, by omega, by go_num, by rw [← hT.out]; exact o2, bz⟩
        case measure => simp [intOf]; omega
      · rw [List.take_of_length_le (by rw [length_movedW]; omega)] at hown
        have bbr := below_step b0 hbw
        have hrr := (hrw.below hbw).more hbs
        have f0 := (hbw.cell (p := ⟨w.heap.size, 0, none⟩) s0).trans a0
        have f1 := (hbw.cell (p := ⟨w.heap.size, 1, none⟩) s0).trans a1
        have szr := Nat.lt_of_lt_of_le s0 hbs
        rcases hp : picB ps with _ | _
        · have HE := Lib.hid (show moveOk ps (ax, ay) = false by rw [moveOk_spec, hp]; rfl)
          go_wp2_with fail
          refine (gives_is hp (specPicture_any _ _ _ hrr)).mono ?_
          rintro e w4 ⟨rfl, b4⟩
          have bb4 := below_step bbr b4
          clear hp
          have hle := (bb4).size
          go_wp2
          go_ret2
          exact ⟨_, by rw [HE.out]; rfl, by rw [moveL_no HE.out]; exact Owns.empty _ _ hle, (bb4).alloc hle _⟩
        rcases hm : picB (movedW ps (ax, ay)) with _ | _
        · have HE := Lib.hid (show moveOk ps (ax, ay) = false by rw [moveOk_spec, hp, hm]; rfl)
          go_wp2_with fail
          refine (gives_is hp (specPicture_any _ _ _ hrr)).mono ?_
          rintro e w4 ⟨rfl, b4⟩
          have bb4 := below_step bbr b4
          have own4 := (hown).below b4
          go_wp2_with fail
          refine (gives_is hm (specPicture_any _ _ _ own4.reads)).mono ?_
          rintro e w5 ⟨rfl, b5⟩
          have bb5 := below_step bb4 b5
          clear hp hm
          have hle := (bb5).size
          go_wp2
          go_ret2
          exact ⟨_, by rw [HE.out]; rfl, by rw [moveL_no HE.out]; exact Owns.empty _ _ hle, (bb5).alloc hle _⟩
        rcases hx : decide (-60 ≤ ax ∧ ax ≤ 60) with _ | _
        · have HE := Lib.hid (show moveOk ps (ax, ay) = false by rw [moveOk_spec, hp, hm, hx]; rfl)
          go_wp2_with fail
          refine (gives_is hp (specPicture_any _ _ _ hrr)).mono ?_
          rintro e w4 ⟨rfl, b4⟩
          have bb4 := below_step bbr b4
          have own4 := (hown).below b4
          have a04 := (b4.cell (p := ⟨w.heap.size, 0, none⟩) szr).trans f0
          have a14 := (b4.cell (p := ⟨w.heap.size, 1, none⟩) szr).trans f1
          have hsz4 := Nat.lt_of_lt_of_le szr b4.size
          go_wp2_with fail
          refine (gives_is hm (specPicture_any _ _ _ own4.reads)).mono ?_
          rintro e w5 ⟨rfl, b5⟩
          have bb5 := below_step bb4 b5
          have own5 := own4.below b5
          have a05 := (b5.cell (p := ⟨w.heap.size, 0, none⟩) hsz4).trans a04
          have a15 := (b5.cell (p := ⟨w.heap.size, 1, none⟩) hsz4).trans a14
          have hsz5 := Nat.lt_of_lt_of_le hsz4 b5.size
          clear hp hm
          go_wp2_with fail
          refine (gives_is hx (l1In_any _ _ _ _)).mono ?_
          rintro e w6 ⟨rfl, b6⟩
          have bb6 := below_step bb5 b6
          have a16 := (b6.cell (p := ⟨w.heap.size, 1, none⟩) hsz5).trans a15
          clear hx
          have hle := (bb6).size
          go_wp2
          go_ret2
          exact ⟨_, by rw [HE.out]; rfl, by rw [moveL_no HE.out]; exact Owns.empty _ _ hle, (bb6).alloc hle _⟩
        rcases hy : decide (-60 ≤ ay ∧ ay ≤ 60) with _ | _
        · have HE := Lib.hid (show moveOk ps (ax, ay) = false by rw [moveOk_spec, hp, hm, hx, hy]; rfl)
          go_wp2_with fail
          refine (gives_is hp (specPicture_any _ _ _ hrr)).mono ?_
          rintro e w4 ⟨rfl, b4⟩
          have bb4 := below_step bbr b4
          have own4 := (hown).below b4
          have a04 := (b4.cell (p := ⟨w.heap.size, 0, none⟩) szr).trans f0
          have a14 := (b4.cell (p := ⟨w.heap.size, 1, none⟩) szr).trans f1
          have hsz4 := Nat.lt_of_lt_of_le szr b4.size
          go_wp2_with fail
          refine (gives_is hm (specPicture_any _ _ _ own4.reads)).mono ?_
          rintro e w5 ⟨rfl, b5⟩
          have bb5 := below_step bb4 b5
          have own5 := own4.below b5
          have a05 := (b5.cell (p := ⟨w.heap.size, 0, none⟩) hsz4).trans a04
          have a15 := (b5.cell (p := ⟨w.heap.size, 1, none⟩) hsz4).trans a14
          have hsz5 := Nat.lt_of_lt_of_le hsz4 b5.size
          clear hp hm
          go_wp2_with fail
          refine (gives_is hx (l1In_any _ _ _ _)).mono ?_
          rintro e w6 ⟨rfl, b6⟩
          have bb6 := below_step bb5 b6
          have a16 := (b6.cell (p := ⟨w.heap.size, 1, none⟩) hsz5).trans a15
          go_wp2_with fail
          refine (gives_is hy (l1In_any _ _ _ _)).mono ?_
          rintro e w7 ⟨rfl, b7⟩
          have bb7 := below_step bb6 b7
          clear hx hy
          have hle := (bb7).size
          go_wp2
          go_ret2
          exact ⟨_, by rw [HE.out]; rfl, by rw [moveL_no HE.out]; exact Owns.empty _ _ hle, (bb7).alloc hle _⟩
        · have HE := Lib.hid (show moveOk ps (ax, ay) = true by rw [moveOk_spec, hp, hm, hx, hy]; rfl)
          go_wp2_with fail
          refine (gives_is hp (specPicture_any _ _ _ hrr)).mono ?_
          rintro e w4 ⟨rfl, b4⟩
          have bb4 := below_step bbr b4
          have own4 := (hown).below b4
          have a04 := (b4.cell (p := ⟨w.heap.size, 0, none⟩) szr).trans f0
          have a14 := (b4.cell (p := ⟨w.heap.size, 1, none⟩) szr).trans f1
          have hsz4 := Nat.lt_of_lt_of_le szr b4.size
          go_wp2_with fail
          refine (gives_is hm (specPicture_any _ _ _ own4.reads)).mono ?_
          rintro e w5 ⟨rfl, b5⟩
          have bb5 := below_step bb4 b5
          have own5 := own4.below b5
          have a05 := (b5.cell (p := ⟨w.heap.size, 0, none⟩) hsz4).trans a04
          have a15 := (b5.cell (p := ⟨w.heap.size, 1, none⟩) hsz4).trans a14
          have hsz5 := Nat.lt_of_lt_of_le hsz4 b5.size
          clear hp hm
          go_wp2_with fail
          refine (gives_is hx (l1In_any _ _ _ _)).mono ?_
          rintro e w6 ⟨rfl, b6⟩
          have bb6 := below_step bb5 b6
          have a16 := (b6.cell (p := ⟨w.heap.size, 1, none⟩) hsz5).trans a15
          go_wp2_with fail
          refine (gives_is hy (l1In_any _ _ _ _)).mono ?_
          rintro e w7 ⟨rfl, b7⟩
          have bb7 := below_step bb6 b7
          clear hx hy
          go_wp2
          go_ret2
          exact ⟨_, by rw [HE.out]; rfl, by rw [moveL_spec HE.out]; exact (((own5.below b6).below b7).base (by omega)), bb7⟩
end Go.Proofs.YtkiidmdgdjphjaaGreat
