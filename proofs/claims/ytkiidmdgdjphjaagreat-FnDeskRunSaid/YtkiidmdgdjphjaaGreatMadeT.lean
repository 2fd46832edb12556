/- Texts of one kind, merged: MadeS, MadeT. No conditions but those that stand in each theorem. -/
import Derived.Test.YtkiidmdgdjphjaaGreatDeskG
import Derived.Test.YtkiidmdgdjphjaaGreatUnionS
import Derived.Test.YtkiidmdgdjphjaaGreatMoveS
import Derived.Test.YtkiidmdgdjphjaaGreatBallT
import Derived.Test.YtkiidmdgdjphjaaGreatShrinkT
import Derived.Test.YtkiidmdgdjphjaaGreatSieveS
import Derived.Test.YtkiidmdgdjphjaaGreatBothS
import Derived.Deep.RegionLaw
namespace Go.Proofs.YtkiidmdgdjphjaaGreat
/-! ### MadeS -/
section
open Go.RowKit Go.Sort

set_option maxRecDepth 100000 in
set_option maxHeartbeats 1600000 in
theorem madeS0 (x y : Int) (p : List Sp) (v : Value) (w : World) (h : Reads w w.heap.size v p) (hp : picB p = true) : Calls Tryz.prog 23 #[v, .agg #[.int .i64 0, .int .i64 x, .int .i64 y]] w (MadePost p ((0, x), y) w) := by
  obtain ⟨A, c, rfl, _, _⟩ := h.slice
  have hl := (picB_pic hp).1
  obtain ⟨W, hW⟩ : ∃ W, W = (w.alloc (.cells #[.int .i64 0, .int .i64 x, .int .i64 y] 28)).alloc (.cells #[.int .i64 x, .int .i64 y] 53) := ⟨_, rfl⟩
  have b0 : Below w.heap.size w W := by rw [hW]; exact (box_below w _ _).alloc (by simp) _
  have r0 : W.heap[w.heap.size]? = some (.cells #[.int .i64 0, .int .i64 x, .int .i64 y] 28 (0, 0)) := by rw [hW]; exact two0 w _ _
  have r1 : W.heap[w.heap.size + 1]? = some (.cells #[.int .i64 x, .int .i64 y] 53 (0, 0)) := by rw [hW]; exact two1 w _ _
  have s0 : W.heap.size = w.heap.size + 2 := by rw [hW]; simp
  obtain ⟨k0, k1, k2⟩ := cells3_of r0
  obtain ⟨c0, c1⟩ := cells_of_row r1
  go_enter Tryz.func23, Tryz.ntmps23
  have bal := box_below W #[.int .i64 x, .int .i64 y] 53
  have bb := below_step b0 bal
  go_wp2_with (first | (rw [← hW]; clear hW) | fail)
  refine (specUnion_any p [(x, y)] _ _ _ (h.kept bb) (Reads.one (g := w.heap.size + 2) (by rw [← s0]; simp [go_sem]) (by rw [← s0]; simp [go_sem])) (by omega) (by simp)).mono ?_
  rintro e w2 hg
  have hm := made_of2 (a := ((0, x), y)) bb hg (made0 p x y) (unionL_le _ _)
  obtain ⟨v2, rfl, o2, b2⟩ := hg
  go_wp2
  go_ret2
  exact hm
set_option maxRecDepth 100000 in
set_option maxHeartbeats 1600000 in
theorem madeS2 (x y : Int) (p : List Sp) (v : Value) (w : World) (h : Reads w w.heap.size v p) (hp : picB p = true) : Calls Tryz.prog 23 #[v, .agg #[.int .i64 2, .int .i64 x, .int .i64 y]] w (MadePost p ((2, x), y) w) := by
  obtain ⟨A, c, rfl, _, _⟩ := h.slice
  have hl := (picB_pic hp).1
  obtain ⟨W, hW⟩ : ∃ W, W = (w.alloc (.cells #[.int .i64 2, .int .i64 x, .int .i64 y] 28)).alloc (.cells #[.int .i64 x, .int .i64 y] 53) := ⟨_, rfl⟩
  have b0 : Below w.heap.size w W := by rw [hW]; exact (box_below w _ _).alloc (by simp) _
  have r0 : W.heap[w.heap.size]? = some (.cells #[.int .i64 2, .int .i64 x, .int .i64 y] 28 (0, 0)) := by rw [hW]; exact two0 w _ _
  have r1 : W.heap[w.heap.size + 1]? = some (.cells #[.int .i64 x, .int .i64 y] 53 (0, 0)) := by rw [hW]; exact two1 w _ _
  have s0 : W.heap.size = w.heap.size + 2 := by rw [hW]; simp
  obtain ⟨k0, k1, k2⟩ := cells3_of r0
  obtain ⟨c0, c1⟩ := cells_of_row r1
  go_enter Tryz.func23, Tryz.ntmps23
  go_wp2_with (first | (rw [← hW]; clear hW) | fail)
  refine (specMoved_any p _ x y _ (h.kept b0) (by omega)).mono ?_
  rintro e w2 hg
  have hm := made_of2 (a := ((2, x), y)) b0 hg (made2 p x y) (moveL_le _ _)
  obtain ⟨v2, rfl, o2, b2⟩ := hg
  go_wp2
  go_ret2
  exact hm
set_option maxRecDepth 100000 in
set_option maxHeartbeats 1600000 in
theorem madeS3 (x y : Int) (hx : x = 0) (hy : y = 0) (p : List Sp) (v : Value) (w : World) (h : Reads w w.heap.size v p) (hp : picB p = true) : Calls Tryz.prog 23 #[v, .agg #[.int .i64 3, .int .i64 x, .int .i64 y]] w (MadePost p ((3, x), y) w) := by
  have HX := Lib.hid (And.intro hx hy)
  have hx1 : (x == 0) = true := by rw [hx]; rfl
  have hy1 : (y == 0) = true := by rw [hy]; rfl
  clear hx hy
  obtain ⟨A, c, rfl, _, _⟩ := h.slice
  have hl := (picB_pic hp).1
  obtain ⟨W, hW⟩ : ∃ W, W = (w.alloc (.cells #[.int .i64 3, .int .i64 x, .int .i64 y] 28)).alloc (.cells #[.int .i64 x, .int .i64 y] 53) := ⟨_, rfl⟩
  have b0 : Below w.heap.size w W := by rw [hW]; exact (box_below w _ _).alloc (by simp) _
  have r0 : W.heap[w.heap.size]? = some (.cells #[.int .i64 3, .int .i64 x, .int .i64 y] 28 (0, 0)) := by rw [hW]; exact two0 w _ _
  have r1 : W.heap[w.heap.size + 1]? = some (.cells #[.int .i64 x, .int .i64 y] 53 (0, 0)) := by rw [hW]; exact two1 w _ _
  have s0 : W.heap.size = w.heap.size + 2 := by rw [hW]; simp
  obtain ⟨k0, k1, k2⟩ := cells3_of r0
  obtain ⟨c0, c1⟩ := cells_of_row r1
  go_enter Tryz.func23, Tryz.ntmps23
  go_wp2_with (first | (rw [← hW]; clear hW) | fail)
  refine (specTurned_any p _ _ (h.kept b0) (by omega)).mono ?_
  rintro e w2 ⟨v2, rfl, o2, b2⟩
  have hm : MadePost p ((3, x), y) w (.returned (.tuple #[v2, .bool true])) w2 := .inl ⟨_, v2, by rw [made3, if_pos HX.out], rfl, o2.base b0.size, below_step b0 b2⟩
  obtain ⟨A2, c2, rfl, _, _⟩ := o2.reads.slice
  go_wp2
  go_ret2
  exact hm
set_option maxRecDepth 100000 in
set_option maxHeartbeats 1600000 in
theorem madeS6 (x : Int) (p : List Sp) (v : Value) (w : World) (h : Reads w w.heap.size v p) (hp : picB p = true) : Calls Tryz.prog 23 #[v, .agg #[.int .i64 6, .int .i64 x, .int .i64 0]] w (MadePost p ((6, x), 0) w) := by
  obtain ⟨A, c, rfl, _, _⟩ := h.slice
  have hl := (picB_pic hp).1
  obtain ⟨W, hW⟩ : ∃ W, W = (w.alloc (.cells #[.int .i64 6, .int .i64 x, .int .i64 0] 28)).alloc (.cells #[.int .i64 x, .int .i64 0] 53) := ⟨_, rfl⟩
  have b0 : Below w.heap.size w W := by rw [hW]; exact (box_below w _ _).alloc (by simp) _
  have r0 : W.heap[w.heap.size]? = some (.cells #[.int .i64 6, .int .i64 x, .int .i64 0] 28 (0, 0)) := by rw [hW]; exact two0 w _ _
  have r1 : W.heap[w.heap.size + 1]? = some (.cells #[.int .i64 x, .int .i64 0] 53 (0, 0)) := by rw [hW]; exact two1 w _ _
  have s0 : W.heap.size = w.heap.size + 2 := by rw [hW]; simp
  obtain ⟨k0, k1, k2⟩ := cells3_of r0
  obtain ⟨c0, c1⟩ := cells_of_row r1
  go_enter Tryz.func23, Tryz.ntmps23
  go_wp2_with (first | (rw [← hW]; clear hW) | fail)
  refine (specSieved_any p _ x _ (h.kept b0)).mono ?_
  rintro e w2 hg
  have hm := made_of2 (a := ((6, x), 0)) b0 hg (by rw [made6]; cases sieveOk p x <;> simp) (sieveR_le _ _)
  obtain ⟨v2, rfl, o2, b2⟩ := hg
  go_wp2
  go_ret2
  exact hm
set_option maxRecDepth 100000 in
set_option maxHeartbeats 1600000 in
theorem madeS7 (x y : Int) (hx : x = 0) (hy : y = 0) (p : List Sp) (v : Value) (w : World) (h : Reads w w.heap.size v p) (hp : picB p = true) : Calls Tryz.prog 23 #[v, .agg #[.int .i64 7, .int .i64 x, .int .i64 y]] w (MadePost p ((7, x), y) w) := by
  have HX := Lib.hid (And.intro hx hy)
  have hx1 : (x == 0) = true := by rw [hx]; rfl
  have hy1 : (y == 0) = true := by rw [hy]; rfl
  clear hx hy
  obtain ⟨A, c, rfl, _, _⟩ := h.slice
  have hl := (picB_pic hp).1
  obtain ⟨W, hW⟩ : ∃ W, W = (w.alloc (.cells #[.int .i64 7, .int .i64 x, .int .i64 y] 28)).alloc (.cells #[.int .i64 x, .int .i64 y] 53) := ⟨_, rfl⟩
  have b0 : Below w.heap.size w W := by rw [hW]; exact (box_below w _ _).alloc (by simp) _
  have r0 : W.heap[w.heap.size]? = some (.cells #[.int .i64 7, .int .i64 x, .int .i64 y] 28 (0, 0)) := by rw [hW]; exact two0 w _ _
  have r1 : W.heap[w.heap.size + 1]? = some (.cells #[.int .i64 x, .int .i64 y] 53 (0, 0)) := by rw [hW]; exact two1 w _ _
  have s0 : W.heap.size = w.heap.size + 2 := by rw [hW]; simp
  obtain ⟨k0, k1, k2⟩ := cells3_of r0
  obtain ⟨c0, c1⟩ := cells_of_row r1
  go_enter Tryz.func23, Tryz.ntmps23
  go_wp2_with (first | (rw [← hW]; clear hW) | fail)
  refine (specBoth_any p _ _ (h.kept b0) (by omega)).mono ?_
  rintro e w2 hg
  have hm := made_of2 (a := ((7, x), y)) b0 hg (by rw [made7]; cases bothOk p <;> simp [HX.out]) (bothR_le' _)
  obtain ⟨v2, rfl, o2, b2⟩ := hg
  go_wp2
  go_ret2
  exact hm
set_option maxRecDepth 100000 in
set_option maxHeartbeats 1600000 in
theorem madeS4 (x : Int) (p : List Sp) (v : Value) (w : World) (h : Reads w w.heap.size v p) (hp : picB p = true) (hx : 0 ≤ x ∧ x ≤ 1) : Calls Tryz.prog 23 #[v, .agg #[.int .i64 4, .int .i64 x, .int .i64 0]] w (MadePost p ((4, x), 0) w) := by
  obtain ⟨A, c, rfl, _, _⟩ := h.slice
  have hl := (picB_pic hp).1
  obtain ⟨W, hW⟩ : ∃ W, W = (w.alloc (.cells #[.int .i64 4, .int .i64 x, .int .i64 0] 28)).alloc (.cells #[.int .i64 x, .int .i64 0] 53) := ⟨_, rfl⟩
  have b0 : Below w.heap.size w W := by rw [hW]; exact (box_below w _ _).alloc (by simp) _
  have r0 : W.heap[w.heap.size]? = some (.cells #[.int .i64 4, .int .i64 x, .int .i64 0] 28 (0, 0)) := by rw [hW]; exact two0 w _ _
  have r1 : W.heap[w.heap.size + 1]? = some (.cells #[.int .i64 x, .int .i64 0] 53 (0, 0)) := by rw [hW]; exact two1 w _ _
  have s0 : W.heap.size = w.heap.size + 2 := by rw [hW]; simp
  obtain ⟨k0, k1, k2⟩ := cells3_of r0
  obtain ⟨c0, c1⟩ := cells_of_row r1
  go_enter Tryz.func23, Tryz.ntmps23
  go_wp2_with (first | (rw [← hW]; clear hW) | fail)
  refine (l1In_is (c := true) (decide_eq_true hx)).mono ?_
  rintro e w1 ⟨rfl, b1⟩
  have bb := below_step b0 b1
  have k0 := (b1.cell (p := ⟨w.heap.size, 0, none⟩) (by simp only []; omega)).trans k0
  have k1 := (b1.cell (p := ⟨w.heap.size, 1, none⟩) (by simp only []; omega)).trans k1
  have k2 := (b1.cell (p := ⟨w.heap.size, 2, none⟩) (by simp only []; omega)).trans k2
  go_wp2_with fail
  refine (specGrown_any p _ 1 x _ (h.kept bb)).mono ?_
  rintro e w2 hg
  have hm := made_of2 (a := ((4, x), 0)) bb hg (by rw [made4]; cases grownBallOk p 1 x <;> simp [hx]) (grownBallR_le _ _ _)
  obtain ⟨v2, rfl, o2, b2⟩ := hg
  go_wp2
  go_ret2
  exact hm
set_option maxRecDepth 100000 in
set_option maxHeartbeats 1600000 in
theorem madeS5 (x : Int) (p : List Sp) (v : Value) (w : World) (h : Reads w w.heap.size v p) (hp : picB p = true) (hx : 0 ≤ x ∧ x ≤ 1) : Calls Tryz.prog 23 #[v, .agg #[.int .i64 5, .int .i64 x, .int .i64 0]] w (MadePost p ((5, x), 0) w) := by
  obtain ⟨A, c, rfl, _, _⟩ := h.slice
  have hl := (picB_pic hp).1
  obtain ⟨W, hW⟩ : ∃ W, W = (w.alloc (.cells #[.int .i64 5, .int .i64 x, .int .i64 0] 28)).alloc (.cells #[.int .i64 x, .int .i64 0] 53) := ⟨_, rfl⟩
  have b0 : Below w.heap.size w W := by rw [hW]; exact (box_below w _ _).alloc (by simp) _
  have r0 : W.heap[w.heap.size]? = some (.cells #[.int .i64 5, .int .i64 x, .int .i64 0] 28 (0, 0)) := by rw [hW]; exact two0 w _ _
  have r1 : W.heap[w.heap.size + 1]? = some (.cells #[.int .i64 x, .int .i64 0] 53 (0, 0)) := by rw [hW]; exact two1 w _ _
  have s0 : W.heap.size = w.heap.size + 2 := by rw [hW]; simp
  obtain ⟨k0, k1, k2⟩ := cells3_of r0
  obtain ⟨c0, c1⟩ := cells_of_row r1
  go_enter Tryz.func23, Tryz.ntmps23
  go_wp2_with (first | (rw [← hW]; clear hW) | fail)
  refine (l1In_is (c := true) (decide_eq_true hx)).mono ?_
  rintro e w1 ⟨rfl, b1⟩
  have bb := below_step b0 b1
  have k0 := (b1.cell (p := ⟨w.heap.size, 0, none⟩) (by simp only []; omega)).trans k0
  have k1 := (b1.cell (p := ⟨w.heap.size, 1, none⟩) (by simp only []; omega)).trans k1
  have k2 := (b1.cell (p := ⟨w.heap.size, 2, none⟩) (by simp only []; omega)).trans k2
  go_wp2_with fail
  refine (specBall_any 1 x _).mono ?_
  rintro e w2 ⟨v2, rfl, o2, b2⟩
  have bb := below_step bb b2
  go_wp2_with fail
  refine (specShrunk_any p (ballL 1 x) _ _ _ (h.kept bb) o2.reads).mono ?_
  rintro e w3 hg
  have hm := made_of2 (a := ((5, x), 0)) bb hg (by rw [made5]; cases shrinkOk p (ballL 1 x) <;> simp [hx]) (shrinkR_le _ _)
  obtain ⟨v3, rfl, o3, b3⟩ := hg
  go_wp2
  go_ret2
  exact hm
/-! what is not told -/
set_option maxRecDepth 100000 in
set_option maxHeartbeats 1600000 in
theorem madeS_out (k x y : Int) (hk : ¬ (0 ≤ k ∧ k ≤ 7)) (p : List Sp) (v : Value) (w : World) (h : Reads w w.heap.size v p) (hp : picB p = true) (hm : madeV p ((k, x), y) = none) : Calls Tryz.prog 23 #[v, .agg #[.int .i64 k, .int .i64 x, .int .i64 y]] w (MadePost p ((k, x), y) w) := by
  have e0 : (k == 0) = false := by rw [beq_eq_false_iff_ne]; omega
  have e1 : (k == 1) = false := by rw [beq_eq_false_iff_ne]; omega
  have e2 : (k == 2) = false := by rw [beq_eq_false_iff_ne]; omega
  have e3 : (k == 3) = false := by rw [beq_eq_false_iff_ne]; omega
  have e4 : (k == 4) = false := by rw [beq_eq_false_iff_ne]; omega
  have e5 : (k == 5) = false := by rw [beq_eq_false_iff_ne]; omega
  have e6 : (k == 6) = false := by rw [beq_eq_false_iff_ne]; omega
  have e7 : (k == 7) = false := by rw [beq_eq_false_iff_ne]; omega
  have HM := Lib.hid hm
  clear hm hk
  obtain ⟨A, c, rfl, _, _⟩ := h.slice
  have hl := (picB_pic hp).1
  obtain ⟨W, hW⟩ : ∃ W, W = (w.alloc (.cells #[.int .i64 k, .int .i64 x, .int .i64 y] 28)).alloc (.cells #[.int .i64 x, .int .i64 y] 53) := ⟨_, rfl⟩
  have b0 : Below w.heap.size w W := by rw [hW]; exact (box_below w _ _).alloc (by simp) _
  have r0 : W.heap[w.heap.size]? = some (.cells #[.int .i64 k, .int .i64 x, .int .i64 y] 28 (0, 0)) := by rw [hW]; exact two0 w _ _
  have r1 : W.heap[w.heap.size + 1]? = some (.cells #[.int .i64 x, .int .i64 y] 53 (0, 0)) := by rw [hW]; exact two1 w _ _
  have s0 : W.heap.size = w.heap.size + 2 := by rw [hW]; simp
  obtain ⟨k0, k1, k2⟩ := cells3_of r0
  obtain ⟨c0, c1⟩ := cells_of_row r1
  go_enter Tryz.func23, Tryz.ntmps23
  have hm : ∀ w', Below w.heap.size w w' → MadePost p _ w (.returned (.tuple #[.slice A p.length c, .bool false])) w' := fun w' hb => .inr ⟨_, p, HM.out, rfl, h.kept hb, hl, hb⟩
  go_wp2_with (first | (rw [← hW]; clear hW) | fail)
  go_ret2
  exact hm _ b0
set_option maxRecDepth 100000 in
set_option maxHeartbeats 1600000 in
theorem madeS3n (x y : Int) (b1 b2 : Bool) (hx1 : (x == 0) = b1) (hy1 : (y == 0) = b2) (hn : (b1 && b2) = false) (p : List Sp) (v : Value) (w : World) (h : Reads w w.heap.size v p) (hp : picB p = true) (hm : madeV p ((3, x), y) = none) : Calls Tryz.prog 23 #[v, .agg #[.int .i64 3, .int .i64 x, .int .i64 y]] w (MadePost p ((3, x), y) w) := by
  have HM := Lib.hid hm
  clear hm
  cases b1 with
  | false =>
    clear hn
    obtain ⟨A, c, rfl, _, _⟩ := h.slice
    have hl := (picB_pic hp).1
    obtain ⟨W, hW⟩ : ∃ W, W = (w.alloc (.cells #[.int .i64 3, .int .i64 x, .int .i64 y] 28)).alloc (.cells #[.int .i64 x, .int .i64 y] 53) := ⟨_, rfl⟩
    have b0 : Below w.heap.size w W := by rw [hW]; exact (box_below w _ _).alloc (by simp) _
    have r0 : W.heap[w.heap.size]? = some (.cells #[.int .i64 3, .int .i64 x, .int .i64 y] 28 (0, 0)) := by rw [hW]; exact two0 w _ _
    have r1 : W.heap[w.heap.size + 1]? = some (.cells #[.int .i64 x, .int .i64 y] 53 (0, 0)) := by rw [hW]; exact two1 w _ _
    have s0 : W.heap.size = w.heap.size + 2 := by rw [hW]; simp
    obtain ⟨k0, k1, k2⟩ := cells3_of r0
    obtain ⟨c0, c1⟩ := cells_of_row r1
    go_enter Tryz.func23, Tryz.ntmps23
    have hm : ∀ w', Below w.heap.size w w' → MadePost p _ w (.returned (.tuple #[.slice A p.length c, .bool false])) w' := fun w' hb => .inr ⟨_, p, HM.out, rfl, h.kept hb, hl, hb⟩
    go_wp2_with (first | (rw [← hW]; clear hW) | fail)
    go_ret2
    exact hm _ b0
  | true => cases b2 with
    | true => cases hn
    | false =>
      clear hn
      obtain ⟨A, c, rfl, _, _⟩ := h.slice
      have hl := (picB_pic hp).1
      obtain ⟨W, hW⟩ : ∃ W, W = (w.alloc (.cells #[.int .i64 3, .int .i64 x, .int .i64 y] 28)).alloc (.cells #[.int .i64 x, .int .i64 y] 53) := ⟨_, rfl⟩
      have b0 : Below w.heap.size w W := by rw [hW]; exact (box_below w _ _).alloc (by simp) _
      have r0 : W.heap[w.heap.size]? = some (.cells #[.int .i64 3, .int .i64 x, .int .i64 y] 28 (0, 0)) := by rw [hW]; exact two0 w _ _
      have r1 : W.heap[w.heap.size + 1]? = some (.cells #[.int .i64 x, .int .i64 y] 53 (0, 0)) := by rw [hW]; exact two1 w _ _
      have s0 : W.heap.size = w.heap.size + 2 := by rw [hW]; simp
      obtain ⟨k0, k1, k2⟩ := cells3_of r0
      obtain ⟨c0, c1⟩ := cells_of_row r1
      go_enter Tryz.func23, Tryz.ntmps23
      have hm : ∀ w', Below w.heap.size w w' → MadePost p _ w (.returned (.tuple #[.slice A p.length c, .bool false])) w' := fun w' hb => .inr ⟨_, p, HM.out, rfl, h.kept hb, hl, hb⟩
      go_wp2_with (first | (rw [← hW]; clear hW) | fail)
      go_ret2
      exact hm _ b0
set_option maxRecDepth 100000 in
set_option maxHeartbeats 1600000 in
theorem madeS7n (x y : Int) (b1 b2 : Bool) (hx1 : (x == 0) = b1) (hy1 : (y == 0) = b2) (hn : (b1 && b2) = false) (p : List Sp) (v : Value) (w : World) (h : Reads w w.heap.size v p) (hp : picB p = true) (hm : madeV p ((7, x), y) = none) : Calls Tryz.prog 23 #[v, .agg #[.int .i64 7, .int .i64 x, .int .i64 y]] w (MadePost p ((7, x), y) w) := by
  have HM := Lib.hid hm
  clear hm
  cases b1 with
  | false =>
    clear hn
    obtain ⟨A, c, rfl, _, _⟩ := h.slice
    have hl := (picB_pic hp).1
    obtain ⟨W, hW⟩ : ∃ W, W = (w.alloc (.cells #[.int .i64 7, .int .i64 x, .int .i64 y] 28)).alloc (.cells #[.int .i64 x, .int .i64 y] 53) := ⟨_, rfl⟩
    have b0 : Below w.heap.size w W := by rw [hW]; exact (box_below w _ _).alloc (by simp) _
    have r0 : W.heap[w.heap.size]? = some (.cells #[.int .i64 7, .int .i64 x, .int .i64 y] 28 (0, 0)) := by rw [hW]; exact two0 w _ _
    have r1 : W.heap[w.heap.size + 1]? = some (.cells #[.int .i64 x, .int .i64 y] 53 (0, 0)) := by rw [hW]; exact two1 w _ _
    have s0 : W.heap.size = w.heap.size + 2 := by rw [hW]; simp
    obtain ⟨k0, k1, k2⟩ := cells3_of r0
    obtain ⟨c0, c1⟩ := cells_of_row r1
    go_enter Tryz.func23, Tryz.ntmps23
    have hm : ∀ w', Below w.heap.size w w' → MadePost p _ w (.returned (.tuple #[.slice A p.length c, .bool false])) w' := fun w' hb => .inr ⟨_, p, HM.out, rfl, h.kept hb, hl, hb⟩
    go_wp2_with (first | (rw [← hW]; clear hW) | fail)
    go_ret2
    exact hm _ b0
  | true => cases b2 with
    | true => cases hn
    | false =>
      clear hn
      obtain ⟨A, c, rfl, _, _⟩ := h.slice
      have hl := (picB_pic hp).1
      obtain ⟨W, hW⟩ : ∃ W, W = (w.alloc (.cells #[.int .i64 7, .int .i64 x, .int .i64 y] 28)).alloc (.cells #[.int .i64 x, .int .i64 y] 53) := ⟨_, rfl⟩
      have b0 : Below w.heap.size w W := by rw [hW]; exact (box_below w _ _).alloc (by simp) _
      have r0 : W.heap[w.heap.size]? = some (.cells #[.int .i64 7, .int .i64 x, .int .i64 y] 28 (0, 0)) := by rw [hW]; exact two0 w _ _
      have r1 : W.heap[w.heap.size + 1]? = some (.cells #[.int .i64 x, .int .i64 y] 53 (0, 0)) := by rw [hW]; exact two1 w _ _
      have s0 : W.heap.size = w.heap.size + 2 := by rw [hW]; simp
      obtain ⟨k0, k1, k2⟩ := cells3_of r0
      obtain ⟨c0, c1⟩ := cells_of_row r1
      go_enter Tryz.func23, Tryz.ntmps23
      have hm : ∀ w', Below w.heap.size w w' → MadePost p _ w (.returned (.tuple #[.slice A p.length c, .bool false])) w' := fun w' hb => .inr ⟨_, p, HM.out, rfl, h.kept hb, hl, hb⟩
      go_wp2_with (first | (rw [← hW]; clear hW) | fail)
      go_ret2
      exact hm _ b0
set_option maxRecDepth 100000 in
set_option maxHeartbeats 1600000 in
theorem madeS6n (x y : Int) (hn : (y == 0) = false) (p : List Sp) (v : Value) (w : World) (h : Reads w w.heap.size v p) (hp : picB p = true) (hm : madeV p ((6, x), y) = none) : Calls Tryz.prog 23 #[v, .agg #[.int .i64 6, .int .i64 x, .int .i64 y]] w (MadePost p ((6, x), y) w) := by
  have HM := Lib.hid hm
  clear hm
  obtain ⟨A, c, rfl, _, _⟩ := h.slice
  have hl := (picB_pic hp).1
  obtain ⟨W, hW⟩ : ∃ W, W = (w.alloc (.cells #[.int .i64 6, .int .i64 x, .int .i64 y] 28)).alloc (.cells #[.int .i64 x, .int .i64 y] 53) := ⟨_, rfl⟩
  have b0 : Below w.heap.size w W := by rw [hW]; exact (box_below w _ _).alloc (by simp) _
  have r0 : W.heap[w.heap.size]? = some (.cells #[.int .i64 6, .int .i64 x, .int .i64 y] 28 (0, 0)) := by rw [hW]; exact two0 w _ _
  have r1 : W.heap[w.heap.size + 1]? = some (.cells #[.int .i64 x, .int .i64 y] 53 (0, 0)) := by rw [hW]; exact two1 w _ _
  have s0 : W.heap.size = w.heap.size + 2 := by rw [hW]; simp
  obtain ⟨k0, k1, k2⟩ := cells3_of r0
  obtain ⟨c0, c1⟩ := cells_of_row r1
  go_enter Tryz.func23, Tryz.ntmps23
  have hm : ∀ w', Below w.heap.size w w' → MadePost p _ w (.returned (.tuple #[.slice A p.length c, .bool false])) w' := fun w' hb => .inr ⟨_, p, HM.out, rfl, h.kept hb, hl, hb⟩
  go_wp2_with (first | (rw [← hW]; clear hW) | fail)
  go_ret2
  exact hm _ b0
set_option maxRecDepth 100000 in
set_option maxHeartbeats 1600000 in
theorem madeS4n (x y : Int) (hx : decide (0 ≤ x ∧ x ≤ 1) = false) (p : List Sp) (v : Value) (w : World) (h : Reads w w.heap.size v p) (hp : picB p = true) (hm : madeV p ((4, x), y) = none) : Calls Tryz.prog 23 #[v, .agg #[.int .i64 4, .int .i64 x, .int .i64 y]] w (MadePost p ((4, x), y) w) := by
  have HM := Lib.hid hm
  clear hm
  obtain ⟨A, c, rfl, _, _⟩ := h.slice
  have hl := (picB_pic hp).1
  obtain ⟨W, hW⟩ : ∃ W, W = (w.alloc (.cells #[.int .i64 4, .int .i64 x, .int .i64 y] 28)).alloc (.cells #[.int .i64 x, .int .i64 y] 53) := ⟨_, rfl⟩
  have b0 : Below w.heap.size w W := by rw [hW]; exact (box_below w _ _).alloc (by simp) _
  have r0 : W.heap[w.heap.size]? = some (.cells #[.int .i64 4, .int .i64 x, .int .i64 y] 28 (0, 0)) := by rw [hW]; exact two0 w _ _
  have r1 : W.heap[w.heap.size + 1]? = some (.cells #[.int .i64 x, .int .i64 y] 53 (0, 0)) := by rw [hW]; exact two1 w _ _
  have s0 : W.heap.size = w.heap.size + 2 := by rw [hW]; simp
  obtain ⟨k0, k1, k2⟩ := cells3_of r0
  obtain ⟨c0, c1⟩ := cells_of_row r1
  go_enter Tryz.func23, Tryz.ntmps23
  have hm : ∀ w', Below w.heap.size w w' → MadePost p _ w (.returned (.tuple #[.slice A p.length c, .bool false])) w' := fun w' hb => .inr ⟨_, p, HM.out, rfl, h.kept hb, hl, hb⟩
  go_wp2_with (first | (rw [← hW]; clear hW) | fail)
  refine (l1In_is (c := false) hx).mono ?_
  rintro e w1 ⟨rfl, b1⟩
  have bb := below_step b0 b1
  have k0 := (b1.cell (p := ⟨w.heap.size, 0, none⟩) (by simp only []; omega)).trans k0
  have k1 := (b1.cell (p := ⟨w.heap.size, 1, none⟩) (by simp only []; omega)).trans k1
  have k2 := (b1.cell (p := ⟨w.heap.size, 2, none⟩) (by simp only []; omega)).trans k2
  go_wp2_with fail
  go_ret2
  exact hm _ bb
set_option maxRecDepth 100000 in
set_option maxHeartbeats 1600000 in
theorem madeS4m (x y : Int) (hx : decide (0 ≤ x ∧ x ≤ 1) = true) (hy : (y == 0) = false) (p : List Sp) (v : Value) (w : World) (h : Reads w w.heap.size v p) (hp : picB p = true) (hm : madeV p ((4, x), y) = none) : Calls Tryz.prog 23 #[v, .agg #[.int .i64 4, .int .i64 x, .int .i64 y]] w (MadePost p ((4, x), y) w) := by
  have HM := Lib.hid hm
  clear hm
  obtain ⟨A, c, rfl, _, _⟩ := h.slice
  have hl := (picB_pic hp).1
  obtain ⟨W, hW⟩ : ∃ W, W = (w.alloc (.cells #[.int .i64 4, .int .i64 x, .int .i64 y] 28)).alloc (.cells #[.int .i64 x, .int .i64 y] 53) := ⟨_, rfl⟩
  have b0 : Below w.heap.size w W := by rw [hW]; exact (box_below w _ _).alloc (by simp) _
  have r0 : W.heap[w.heap.size]? = some (.cells #[.int .i64 4, .int .i64 x, .int .i64 y] 28 (0, 0)) := by rw [hW]; exact two0 w _ _
  have r1 : W.heap[w.heap.size + 1]? = some (.cells #[.int .i64 x, .int .i64 y] 53 (0, 0)) := by rw [hW]; exact two1 w _ _
  have s0 : W.heap.size = w.heap.size + 2 := by rw [hW]; simp
  obtain ⟨k0, k1, k2⟩ := cells3_of r0
  obtain ⟨c0, c1⟩ := cells_of_row r1
  go_enter Tryz.func23, Tryz.ntmps23
  have hm : ∀ w', Below w.heap.size w w' → MadePost p _ w (.returned (.tuple #[.slice A p.length c, .bool false])) w' := fun w' hb => .inr ⟨_, p, HM.out, rfl, h.kept hb, hl, hb⟩
  go_wp2_with (first | (rw [← hW]; clear hW) | fail)
  refine (l1In_is (c := true) hx).mono ?_
  rintro e w1 ⟨rfl, b1⟩
  have bb := below_step b0 b1
  have k0 := (b1.cell (p := ⟨w.heap.size, 0, none⟩) (by simp only []; omega)).trans k0
  have k1 := (b1.cell (p := ⟨w.heap.size, 1, none⟩) (by simp only []; omega)).trans k1
  have k2 := (b1.cell (p := ⟨w.heap.size, 2, none⟩) (by simp only []; omega)).trans k2
  go_wp2_with fail
  go_ret2
  exact hm _ bb
set_option maxRecDepth 100000 in
set_option maxHeartbeats 1600000 in
theorem madeS5n (x y : Int) (hx : decide (0 ≤ x ∧ x ≤ 1) = false) (p : List Sp) (v : Value) (w : World) (h : Reads w w.heap.size v p) (hp : picB p = true) (hm : madeV p ((5, x), y) = none) : Calls Tryz.prog 23 #[v, .agg #[.int .i64 5, .int .i64 x, .int .i64 y]] w (MadePost p ((5, x), y) w) := by
  have HM := Lib.hid hm
  clear hm
  obtain ⟨A, c, rfl, _, _⟩ := h.slice
  have hl := (picB_pic hp).1
  obtain ⟨W, hW⟩ : ∃ W, W = (w.alloc (.cells #[.int .i64 5, .int .i64 x, .int .i64 y] 28)).alloc (.cells #[.int .i64 x, .int .i64 y] 53) := ⟨_, rfl⟩
  have b0 : Below w.heap.size w W := by rw [hW]; exact (box_below w _ _).alloc (by simp) _
  have r0 : W.heap[w.heap.size]? = some (.cells #[.int .i64 5, .int .i64 x, .int .i64 y] 28 (0, 0)) := by rw [hW]; exact two0 w _ _
  have r1 : W.heap[w.heap.size + 1]? = some (.cells #[.int .i64 x, .int .i64 y] 53 (0, 0)) := by rw [hW]; exact two1 w _ _
  have s0 : W.heap.size = w.heap.size + 2 := by rw [hW]; simp
  obtain ⟨k0, k1, k2⟩ := cells3_of r0
  obtain ⟨c0, c1⟩ := cells_of_row r1
  go_enter Tryz.func23, Tryz.ntmps23
  have hm : ∀ w', Below w.heap.size w w' → MadePost p _ w (.returned (.tuple #[.slice A p.length c, .bool false])) w' := fun w' hb => .inr ⟨_, p, HM.out, rfl, h.kept hb, hl, hb⟩
  go_wp2_with (first | (rw [← hW]; clear hW) | fail)
  refine (l1In_is (c := false) hx).mono ?_
  rintro e w1 ⟨rfl, b1⟩
  have bb := below_step b0 b1
  have k0 := (b1.cell (p := ⟨w.heap.size, 0, none⟩) (by simp only []; omega)).trans k0
  have k1 := (b1.cell (p := ⟨w.heap.size, 1, none⟩) (by simp only []; omega)).trans k1
  have k2 := (b1.cell (p := ⟨w.heap.size, 2, none⟩) (by simp only []; omega)).trans k2
  go_wp2_with fail
  go_ret2
  exact hm _ bb
set_option maxRecDepth 100000 in
set_option maxHeartbeats 1600000 in
theorem madeS5m (x y : Int) (hx : decide (0 ≤ x ∧ x ≤ 1) = true) (hy : (y == 0) = false) (p : List Sp) (v : Value) (w : World) (h : Reads w w.heap.size v p) (hp : picB p = true) (hm : madeV p ((5, x), y) = none) : Calls Tryz.prog 23 #[v, .agg #[.int .i64 5, .int .i64 x, .int .i64 y]] w (MadePost p ((5, x), y) w) := by
  have HM := Lib.hid hm
  clear hm
  obtain ⟨A, c, rfl, _, _⟩ := h.slice
  have hl := (picB_pic hp).1
  obtain ⟨W, hW⟩ : ∃ W, W = (w.alloc (.cells #[.int .i64 5, .int .i64 x, .int .i64 y] 28)).alloc (.cells #[.int .i64 x, .int .i64 y] 53) := ⟨_, rfl⟩
  have b0 : Below w.heap.size w W := by rw [hW]; exact (box_below w _ _).alloc (by simp) _
  have r0 : W.heap[w.heap.size]? = some (.cells #[.int .i64 5, .int .i64 x, .int .i64 y] 28 (0, 0)) := by rw [hW]; exact two0 w _ _
  have r1 : W.heap[w.heap.size + 1]? = some (.cells #[.int .i64 x, .int .i64 y] 53 (0, 0)) := by rw [hW]; exact two1 w _ _
  have s0 : W.heap.size = w.heap.size + 2 := by rw [hW]; simp
  obtain ⟨k0, k1, k2⟩ := cells3_of r0
  obtain ⟨c0, c1⟩ := cells_of_row r1
  go_enter Tryz.func23, Tryz.ntmps23
  have hm : ∀ w', Below w.heap.size w w' → MadePost p _ w (.returned (.tuple #[.slice A p.length c, .bool false])) w' := fun w' hb => .inr ⟨_, p, HM.out, rfl, h.kept hb, hl, hb⟩
  go_wp2_with (first | (rw [← hW]; clear hW) | fail)
  refine (l1In_is (c := true) hx).mono ?_
  rintro e w1 ⟨rfl, b1⟩
  have bb := below_step b0 b1
  have k0 := (b1.cell (p := ⟨w.heap.size, 0, none⟩) (by simp only []; omega)).trans k0
  have k1 := (b1.cell (p := ⟨w.heap.size, 1, none⟩) (by simp only []; omega)).trans k1
  have k2 := (b1.cell (p := ⟨w.heap.size, 2, none⟩) (by simp only []; omega)).trans k2
  go_wp2_with fail
  go_ret2
  exact hm _ bb
end
/-! ### MadeT -/
section
open Go.RowKit Go.Sort

theorem less_succ {p : List Sp} {k : Nat} {a b : Sp} (h : p[k]? = some a) : lessL (p.take (k + 1)) [b] = lessL (p.take k) [b] ++ (if a = b then [] else [a]) := by
  unfold lessL
  rw [List.take_add_one, h, List.filter_append]
  congr 1
  by_cases e : a = b <;> simp [e]
set_option maxRecDepth 100000 in
set_option maxHeartbeats 1600000 in
theorem madeS1 (x y : Int) (p : List Sp) (v : Value) (w : World) (h : Reads w w.heap.size v p) (hp : picB p = true) : Calls Tryz.prog 23 #[v, .agg #[.int .i64 1, .int .i64 x, .int .i64 y]] w (MadePost p ((1, x), y) w) := by
  obtain ⟨Ai, ci, ev, hc, hm, hA, hr⟩ := h.is
  unfold maxLen at hm
  obtain ⟨A, c, rfl, _, _⟩ := h.slice
  have hl := (picB_pic hp).1
  obtain ⟨W, hW⟩ : ∃ W, W = (w.alloc (.cells #[.int .i64 1, .int .i64 x, .int .i64 y] 28)).alloc (.cells #[.int .i64 x, .int .i64 y] 53) := ⟨_, rfl⟩
  have b0 : Below w.heap.size w W := by rw [hW]; exact (box_below w _ _).alloc (by simp) _
  have r0 : W.heap[w.heap.size]? = some (.cells #[.int .i64 1, .int .i64 x, .int .i64 y] 28 (0, 0)) := by rw [hW]; exact two0 w _ _
  have r1 : W.heap[w.heap.size + 1]? = some (.cells #[.int .i64 x, .int .i64 y] 53 (0, 0)) := by rw [hW]; exact two1 w _ _
  have s0 : W.heap.size = w.heap.size + 2 := by rw [hW]; simp
  obtain ⟨k0, k1, k2⟩ := cells3_of r0
  obtain ⟨c0, c1⟩ := cells_of_row r1
  go_enter Tryz.func23, Tryz.ntmps23
  cases ev
  go_wp2_with (first | (rw [← hW]; clear hW) | fail)
  have bal : Below W.heap.size W (W.alloc (.cells #[] 53)) := (Below.refl _ _).alloc (Nat.le_refl _) _
  have oE := Owns.empty W W.heap.size (Nat.le_refl _)
  rw [s0] at oE
  go_loopw [7, 8] (fun v i wr => ∃ k : Nat, k ≤ p.length ∧ i = .int .i64 k ∧ Owns wr (w.heap.size + 2) v (lessL (p.take k) [(x, y)]) ∧ Below W.heap.size W wr) (fun _ i _ => p.length - (intOf i).toNat)
  case atStart => exact ⟨0, Nat.zero_le _, rfl, oE, bal⟩
  case round =>
    obtain ⟨k, hk, rfl, hown, hbw⟩ := hrel
    have hs := hbw.size
    have c0 := (hbw.cell (p := ⟨w.heap.size + 1, 0, none⟩) (by simp only []; omega)).trans c0
    have c1 := (hbw.cell (p := ⟨w.heap.size + 1, 1, none⟩) (by simp only []; omega)).trans c1
    by_cases hlt : k < p.length
    · obtain ⟨⟨u, z⟩, hxy⟩ : ∃ a, p[k]? = some a := ⟨_, List.getElem?_eq_getElem hlt⟩
      obtain ⟨b, off, rfl, hb', hcell⟩ := hr (by omega)
      obtain ⟨e1, e2⟩ := hcell k u z hxy
      have bb := below_step b0 hbw
      have d1 := (bb.cell (p := ⟨b, off + k * 2, none⟩) hb').trans e1
      have d2 := (bb.cell (p := ⟨b, off + k * 2 + 1, none⟩) hb').trans e2
      have htl : (p.take k).length ≤ p.length := List.length_take_le' _ _
      have hln : (lessL (p.take k) [(x, y)]).length ≤ 60 := Nat.le_trans (List.length_filter_le _ _) (by omega)
      have hT := Lib.hid (less_succ (b := (x, y)) hxy)
      have hm3 : (0 : Int) ≤ (k : Int) := Int.natCast_nonneg _
      have hm4 : (k : Int) < (p.length : Int) := by omega
      have hm5 : (k : Int) < (ci : Int) := by omega
      clear hxy
      by_cases he : (u, z) = (x, y)
      · have hT' := hT.out
        rw [if_pos he, List.append_nil] at hT'
        replace hT' := Lib.hid hT'
        have f1 : (u == x) = true := by cases he; simp
        have f2 : (z == y) = true := by cases he; simp
        clear he hT
        go_wp2_with fail
        go_region_law (first | fail)
        all_goals
          go_wp2
          go_roundw
          case rel => exact ⟨k + 1, by omega, by go_num, by rw [hT'.out]; exact hown.drew, hbw.drew⟩
          case measure => simp [intOf]; omega
      · have hT' := hT.out
        rw [if_neg he] at hT'
        replace hT' := Lib.hid hT'
        have hq1 : (lessL (p.take k) [(x, y)]).length + [(u, z)].length ≤ 5000000000000 := by rw [List.length_singleton]; omega
        have f3 : (u == x) = false ∨ ((u == x) = true ∧ (z == y) = false) := by
          by_cases h1 : u = x
          · right
            refine ⟨by rw [h1]; simp, ?_⟩
            rw [beq_eq_false_iff_ne]; intro h2; exact he (by rw [h1, h2])
          · left; rw [beq_eq_false_iff_ne]; exact h1
        clear he hT
        rcases f3 with f1 | ⟨f1, f2⟩
        · go_wp2_with fail
          go_region_law (first | fail)
          all_goals
            have hdr : Below (w.heap.size + 2) W (wr.drew.alloc (.cells #[.int .i64 u, .int .i64 z] 53)) := by rw [← s0]; exact hbw.drew.alloc (by simp; omega) _
            have owd := hown.below ((Below.refl wr.heap.size wr).drew)
            have hsd : w.heap.size + 2 ≤ wr.drew.heap.size := by simp; omega
            have D1 : wr.drew.cell? ⟨b, off + k * 2, none⟩ = some (.int .i64 u) := by simpa using d1
            have D2 : wr.drew.cell? ⟨b, off + k * 2 + 1, none⟩ = some (.int .i64 z) := by simpa using d2
            have bal3 := box_below wr.drew #[.int .i64 u, .int .i64 z] 53
            have own2 := owd.below bal3
            have hq2 : w.heap.size + 2 ≤ (wr.drew.alloc (.cells #[.int .i64 u, .int .i64 z] 53)).heap.size := by simp; omega
            have hz0 : (wr.drew.alloc (.cells #[.int .i64 u, .int .i64 z] 53)).cell? ⟨wr.heap.size, 0, none⟩ = some (.int .i64 u) := by simp [go_sem]
            have hz1 : (wr.drew.alloc (.cells #[.int .i64 u, .int .i64 z] 53)).cell? ⟨wr.heap.size, 1, none⟩ = some (.int .i64 z) := by simp [go_sem]
            go_wp2_with (at_builtin; refine wpList_append_spots (qs := [(u, z)]) own2 (Reads.one (g := wr.heap.size) hz0 hz1) (by simp; omega) hq2 rfl _ _ rfl rfl rfl ?_)
            intro v5 w5 o5 g5 _
            have bz := own2.below_app hdr hq2 g5
            go_wp2
            go_roundw
            case rel => exact ⟨k + 1, by omega, by go_num, by rw [hT'.out]; exact o5, by rw [s0]; exact bz⟩
            case measure => simp [intOf]; omega
        · go_wp2_with fail
          go_region_law (first | fail)
          all_goals
            have hdr : Below (w.heap.size + 2) W (wr.drew.alloc (.cells #[.int .i64 u, .int .i64 z] 53)) := by rw [← s0]; exact hbw.drew.alloc (by simp; omega) _
            have owd := hown.below ((Below.refl wr.heap.size wr).drew)
            have hsd : w.heap.size + 2 ≤ wr.drew.heap.size := by simp; omega
            have D1 : wr.drew.cell? ⟨b, off + k * 2, none⟩ = some (.int .i64 u) := by simpa using d1
            have D2 : wr.drew.cell? ⟨b, off + k * 2 + 1, none⟩ = some (.int .i64 z) := by simpa using d2
            have bal3 := box_below wr.drew #[.int .i64 u, .int .i64 z] 53
            have own2 := owd.below bal3
            have hq2 : w.heap.size + 2 ≤ (wr.drew.alloc (.cells #[.int .i64 u, .int .i64 z] 53)).heap.size := by simp; omega
            have hz0 : (wr.drew.alloc (.cells #[.int .i64 u, .int .i64 z] 53)).cell? ⟨wr.heap.size, 0, none⟩ = some (.int .i64 u) := by simp [go_sem]
            have hz1 : (wr.drew.alloc (.cells #[.int .i64 u, .int .i64 z] 53)).cell? ⟨wr.heap.size, 1, none⟩ = some (.int .i64 z) := by simp [go_sem]
            go_wp2_with (at_builtin; refine wpList_append_spots (qs := [(u, z)]) own2 (Reads.one (g := wr.heap.size) hz0 hz1) (by simp; omega) hq2 rfl _ _ rfl rfl rfl ?_)
            intro v5 w5 o5 g5 _
            have bz := own2.below_app hdr hq2 g5
            go_wp2
            go_roundw
            case rel => exact ⟨k + 1, by omega, by go_num, by rw [hT'.out]; exact o5, by rw [s0]; exact bz⟩
            case measure => simp [intOf]; omega
    · rw [List.take_of_length_le (by omega)] at hown
      obtain ⟨A2, c2, e7, _, _⟩ := hown.reads.slice
      subst e7
      have hm : MadePost p ((1, x), y) w (.returned (.tuple #[.slice A2 (lessL p [(x, y)]).length c2, .bool true])) wr := .inl ⟨_, _, made1 p x y, rfl, hown.base (by omega), below_step b0 hbw⟩
      have hm4 : ¬ (k : Int) < (p.length : Int) := by omega
      go_wp2_with fail
      go_ret2
      exact hm
/-- what a deed makes of a picture, in the model -/
theorem madeS_any (k x y : Int) (p : List Sp) (v : Value) (w : World) (h : Reads w w.heap.size v p) (hp : picB p = true) : Calls Tryz.prog 23 #[v, .agg #[.int .i64 k, .int .i64 x, .int .i64 y]] w (MadePost p ((k, x), y) w) := by
  by_cases hk : 0 ≤ k ∧ k ≤ 7
  · obtain ⟨n, rfl⟩ : ∃ n : Nat, k = n := ⟨k.toNat, by omega⟩
    rcases (show n = 0 ∨ n = 1 ∨ n = 2 ∨ n = 3 ∨ n = 4 ∨ n = 5 ∨ n = 6 ∨ n = 7 by omega) with rfl | rfl | rfl | rfl | rfl | rfl | rfl | rfl
    · exact madeS0 x y p v w h hp
    · exact madeS1 x y p v w h hp
    · exact madeS2 x y p v w h hp
    · by_cases hxy : x = 0 ∧ y = 0
      · exact madeS3 x y hxy.1 hxy.2 p v w h hp
      · exact madeS3n x y _ _ rfl rfl (by rw [Bool.and_eq_false_iff, beq_eq_false_iff_ne, beq_eq_false_iff_ne]; omega) p v w h hp ((made3 p x y).trans (if_neg hxy))
    · by_cases hx : 0 ≤ x ∧ x ≤ 1
      · by_cases hy : y = 0
        · subst hy; exact madeS4 x p v w h hp hx
        · exact madeS4m x y (decide_eq_true hx) (by rw [beq_eq_false_iff_ne]; exact hy) p v w h hp ((made4 p x y).trans (if_neg fun k => hy k.2.1))
      · exact madeS4n x y (decide_eq_false hx) p v w h hp ((made4 p x y).trans (if_neg fun k => hx k.1))
    · by_cases hx : 0 ≤ x ∧ x ≤ 1
      · by_cases hy : y = 0
        · subst hy; exact madeS5 x p v w h hp hx
        · exact madeS5m x y (decide_eq_true hx) (by rw [beq_eq_false_iff_ne]; exact hy) p v w h hp ((made5 p x y).trans (if_neg fun k => hy k.2.1))
      · exact madeS5n x y (decide_eq_false hx) p v w h hp ((made5 p x y).trans (if_neg fun k => hx k.1))
    · by_cases hy : y = 0
      · subst hy; exact madeS6 x p v w h hp
      · exact madeS6n x y (by rw [beq_eq_false_iff_ne]; exact hy) p v w h hp ((made6 p x y).trans (if_neg fun k => hy k.1))
    · by_cases hxy : x = 0 ∧ y = 0
      · exact madeS7 x y hxy.1 hxy.2 p v w h hp
      · exact madeS7n x y _ _ rfl rfl (by rw [Bool.and_eq_false_iff, beq_eq_false_iff_ne, beq_eq_false_iff_ne]; omega) p v w h hp ((made7 p x y).trans (if_neg fun k => hxy k.1))
  · exact madeS_out k x y hk p v w h hp (by
      unfold madeV
      rw [if_neg (by simp only []; omega), if_neg (by simp only []; omega), if_neg (by simp only []; omega), if_neg (by simp only []; omega), if_neg (by simp only []; omega), if_neg (by simp only []; omega), if_neg (by simp only []; omega), if_neg (by simp only []; omega)])
end
end Go.Proofs.YtkiidmdgdjphjaaGreat
