/- Texts of one kind, merged: DeskI, DeskA, DeskE, DeskF. No conditions but those that stand in each theorem. -/
import Derived.Test.YtkiidmdgdjphjaaGreatDeskG
import Derived.Test.YtkiidmdgdjphjaaGreatNamed
import Derived.Test.YtkiidmdgdjphjaaGreatUnion
import Derived.Test.YtkiidmdgdjphjaaGreatMergeF
import Derived.Test.YtkiidmdgdjphjaaGreatGrownI
import Derived.Test.YtkiidmdgdjphjaaGreatShrunkI
import Derived.Test.YtkiidmdgdjphjaaGreatSieveI
import Derived.Test.YtkiidmdgdjphjaaGreatRowsI
import Derived.Lib.AppendZerosOnto
import Derived.Deep.Upon
import Derived.Test.YtkiidmdgdjphjaaGreatDeedL
namespace Go.Proofs.YtkiidmdgdjphjaaGreat
/-! ### DeskI -/
section
open Go.RowKit Go.Sort

theorem spotOf_any (k x y : Int) (w : World) : Calls Tryz.prog 60 #[.agg #[.int .i64 k, .int .i64 x, .int .i64 y]] w (Gives (.agg #[.int .i64 x, .int .i64 y]) w) := by
  go_enter Tryz.func60, Tryz.ntmps60
  go_wp2
  refine bodyPost_ret (v := .agg #[.int .i64 x, .int .i64 y]) (by simp [results, Tryz.results60, go_sem]) rfl ⟨rfl, ?_⟩
  exact (box_below w _ _).alloc (by simp) _
set_option maxHeartbeats 1600000 in
theorem changed0 (x y : Int) (p : List Sp) (v : Value) (w : World) (h : Reads w w.heap.size v p) : Calls Tryz.prog 38 #[.agg #[.int .i64 0, .int .i64 x, .int .i64 y], v] w (MadePost p ((0, x), y) w) := by
  obtain ⟨A, c, rfl, _, _⟩ := h.slice
  have b0 := box_below w #[.int .i64 0, .int .i64 x, .int .i64 y] 28
  go_enter Tryz.func38, Tryz.ntmps38
  go_wp2_with fail
  refine (spotOf_any _ _ _ _).mono ?_
  rintro e w1 ⟨rfl, b1⟩
  have bal := box_below w1 #[.int .i64 x, .int .i64 y] 53
  have bb := below_step (below_step b0 b1) bal
  go_wp2_with fail
  refine (implUnion_any p [(x, y)] _ _ _ (h.kept bb) (Reads.one (g := w1.heap.size) (by simp [go_sem]) (by simp [go_sem]))).mono ?_
  rintro e w2 hg
  have hm := made_of2 (a := ((0, x), y)) bb hg (made0 p x y) (unionL_le _ _)
  obtain ⟨v2, rfl, o2, b2⟩ := hg
  go_wp2
  go_ret2
  exact hm
set_option maxHeartbeats 1600000 in
theorem changed1 (x y : Int) (p : List Sp) (v : Value) (w : World) (h : Reads w w.heap.size v p) (hp : picB p = true) : Calls Tryz.prog 38 #[.agg #[.int .i64 1, .int .i64 x, .int .i64 y], v] w (MadePost p ((1, x), y) w) := by
  obtain ⟨A, c, rfl, _, _⟩ := h.slice
  have hs := (picB_pic hp).2.2
  have hl := (picB_pic hp).1
  have b0 := box_below w #[.int .i64 1, .int .i64 x, .int .i64 y] 28
  go_enter Tryz.func38, Tryz.ntmps38
  go_wp2_with fail
  refine (spotOf_any _ _ _ _).mono ?_
  rintro e w1 ⟨rfl, b1⟩
  have bal := box_below w1 #[.int .i64 x, .int .i64 y] 53
  have bb := below_step (below_step b0 b1) bal
  go_wp2_with fail
  refine (lessAll_any p [(x, y)] _ _ _ (h.kept bb) (Reads.one (g := w1.heap.size) (by simp [go_sem]) (by simp [go_sem])) hs (List.pairwise_singleton _ _) (by simp only [List.length_singleton]; omega)).mono ?_
  rintro e w2 ⟨v2, rfl, o2, b2⟩
  have hm : MadePost p ((1, x), y) w (.returned (.tuple #[v2, .bool true])) w2 := .inl ⟨_, v2, made1 p x y, rfl, o2.base bb.size, below_step bb b2⟩
  obtain ⟨A2, c2, rfl, _, _⟩ := o2.reads.slice
  go_wp2
  go_ret2
  exact hm
set_option maxHeartbeats 1600000 in
theorem changed2 (x y : Int) (p : List Sp) (v : Value) (w : World) (h : Reads w w.heap.size v p) : Calls Tryz.prog 38 #[.agg #[.int .i64 2, .int .i64 x, .int .i64 y], v] w (MadePost p ((2, x), y) w) := by
  obtain ⟨A, c, rfl, _, _⟩ := h.slice
  have b0 := box_below w #[.int .i64 2, .int .i64 x, .int .i64 y] 28
  go_enter Tryz.func38, Tryz.ntmps38
  go_wp2_with fail
  refine (spotOf_any _ _ _ _).mono ?_
  rintro e w1 ⟨rfl, b1⟩
  have bb := below_step b0 b1
  go_wp2_with fail
  refine (implMoved_any p _ x y _ (h.kept bb)).mono ?_
  rintro e w2 hg
  have hm := made_of2 (a := ((2, x), y)) bb hg (made2 p x y) (moveL_le _ _)
  obtain ⟨v2, rfl, o2, b2⟩ := hg
  go_wp2
  go_ret2
  exact hm
set_option maxHeartbeats 1600000 in
theorem changed3 (p : List Sp) (v : Value) (w : World) (h : Reads w w.heap.size v p) : Calls Tryz.prog 38 #[.agg #[.int .i64 3, .int .i64 0, .int .i64 0], v] w (MadePost p ((3, 0), 0) w) := by
  obtain ⟨A, c, rfl, _, _⟩ := h.slice
  have b0 := box_below w #[.int .i64 3, .int .i64 0, .int .i64 0] 28
  go_enter Tryz.func38, Tryz.ntmps38
  go_wp2_with fail
  refine (implTurned_any p _ _ (h.kept b0)).mono ?_
  rintro e w2 ⟨v2, rfl, o2, b2⟩
  have hm : MadePost p ((3, 0), 0) w (.returned (.tuple #[v2, .bool true])) w2 := .inl ⟨_, v2, made3 p 0 0, rfl, o2.base b0.size, below_step b0 b2⟩
  obtain ⟨A2, c2, rfl, _, _⟩ := o2.reads.slice
  go_wp2
  go_ret2
  exact hm
set_option maxHeartbeats 1600000 in
theorem changed6 (x : Int) (p : List Sp) (v : Value) (w : World) (h : Reads w w.heap.size v p) : Calls Tryz.prog 38 #[.agg #[.int .i64 6, .int .i64 x, .int .i64 0], v] w (MadePost p ((6, x), 0) w) := by
  obtain ⟨A, c, rfl, _, _⟩ := h.slice
  have b0 := box_below w #[.int .i64 6, .int .i64 x, .int .i64 0] 28
  go_enter Tryz.func38, Tryz.ntmps38
  go_wp2_with fail
  refine (implSieved_any p _ x _ (h.kept b0)).mono ?_
  rintro e w2 hg
  have hm := made_of2 (a := ((6, x), 0)) b0 hg (by rw [made6]; cases sieveOk p x <;> simp) (sieveR_le _ _)
  obtain ⟨v2, rfl, o2, b2⟩ := hg
  go_wp2
  go_ret2
  exact hm
set_option maxHeartbeats 1600000 in
theorem changed7 (p : List Sp) (v : Value) (w : World) (h : Reads w w.heap.size v p) (hp : picB p = true) : Calls Tryz.prog 38 #[.agg #[.int .i64 7, .int .i64 0, .int .i64 0], v] w (MadePost p ((7, 0), 0) w) := by
  obtain ⟨A, c, rfl, _, _⟩ := h.slice
  have hl := (picB_pic hp).1
  have b0 := box_below w #[.int .i64 7, .int .i64 0, .int .i64 0] 28
  go_enter Tryz.func38, Tryz.ntmps38
  go_wp2_with fail
  refine (implBoth_any p _ _ (h.kept b0) (by omega)).mono ?_
  rintro e w2 hg
  have hm := made_of2 (a := ((7, 0), 0)) b0 hg (by rw [made7]; cases bothOk p <;> simp) (bothR_le' _)
  obtain ⟨v2, rfl, o2, b2⟩ := hg
  go_wp2
  go_ret2
  exact hm
theorem summedD_no {way : Int} (w : World) (h : ¬ (0 ≤ way ∧ way ≤ 1)) : Calls Tryz.prog 83 #[.int .i64 way] w (GivesNone w) := by
  by_cases h2 : 2 ≤ way
  · clear h
    go_enter Tryz.func83, Tryz.ntmps83
    go_wp2
    go_ret2
    exact ⟨rfl, Below.refl _ _⟩
  · have hd := distanceIn_no w (show wayOk way = false by unfold wayOk; rw [decide_eq_false_iff_not]; omega)
    clear h
    go_enter Tryz.func83, Tryz.ntmps83
    go_wp2_with fail
    refine hd.mono ?_
    rintro e w1 ⟨rfl, b1⟩
    go_wp2
    go_ret2
    exact ⟨rfl, b1⟩
theorem summedD_yes {way : Int} (w : World) (h : 0 ≤ way ∧ way ≤ 1) : Calls Tryz.prog 83 #[.int .i64 way] w (GivesTell (tellF way) w) := by
  have hd := distanceIn_yes w (show wayOk way = true by unfold wayOk; rw [decide_eq_true_eq]; omega)
  have hlt : way < 2 := by omega
  have HW := Lib.hid h
  clear h
  go_enter Tryz.func83, Tryz.ntmps83
  go_wp2_with fail
  refine hd.mono ?_
  rintro e w1 ⟨rfl, b1⟩
  go_wp2
  go_ret2
  exact ⟨rfl, b1⟩
set_option maxHeartbeats 1600000 in
theorem byBall4 (x : Int) (p : List Sp) (v : Value) (w : World) (h : Reads w w.heap.size v p) : Calls Tryz.prog 64 #[.agg #[.int .i64 4, .int .i64 x, .int .i64 0], v] w (MadePost p ((4, x), 0) w) := by
  by_cases hx : 0 ≤ x ∧ x ≤ 1
  · obtain ⟨A, c, rfl, _, _⟩ := h.slice
    have b0 := box_below w #[.int .i64 4, .int .i64 x, .int .i64 0] 28
    go_enter Tryz.func64, Tryz.ntmps64
    go_wp2_with fail
    refine (summedD_yes _ hx).mono ?_
    rintro e w1 ⟨rfl, b1⟩
    have bb := below_step b0 b1
    have q0 := (b1.cell (p := ⟨w.heap.size, 0, none⟩) (by simp)).trans (show _ = some (Value.int .i64 4) by simp [go_sem])
    have q1 := (b1.cell (p := ⟨w.heap.size, 1, none⟩) (by simp)).trans (show _ = some (Value.int .i64 x) by simp [go_sem])
    go_wp2_with fail
    refine (implGrown_any p _ 1 x _ (h.kept bb)).mono ?_
    rintro e w2 hg
    have hm := made_of2 (a := ((4, x), 0)) bb hg (by rw [made4]; cases grownBallOk p 1 x <;> simp [hx]) (grownBallR_le _ _ _)
    obtain ⟨v2, rfl, o2, b2⟩ := hg
    go_wp2
    go_ret2
    exact hm
  · obtain ⟨A, c, rfl, _, _⟩ := h.slice
    have b0 := box_below w #[.int .i64 4, .int .i64 x, .int .i64 0] 28
    go_enter Tryz.func64, Tryz.ntmps64
    go_wp2_with fail
    refine (summedD_no _ hx).mono ?_
    rintro e w1 ⟨rfl, b1⟩
    have bb := below_step b0 b1
    go_wp2
    go_ret2
    exact .inr ⟨_, [], by rw [made4, if_neg (fun k => hx k.1)], rfl, Reads.nil _ _, by simp, bb⟩
set_option maxHeartbeats 1600000 in
theorem byBall5 (x : Int) (p : List Sp) (v : Value) (w : World) (h : Reads w w.heap.size v p) : Calls Tryz.prog 64 #[.agg #[.int .i64 5, .int .i64 x, .int .i64 0], v] w (MadePost p ((5, x), 0) w) := by
  by_cases hx : 0 ≤ x ∧ x ≤ 1
  · obtain ⟨A, c, rfl, _, _⟩ := h.slice
    have b0 := box_below w #[.int .i64 5, .int .i64 x, .int .i64 0] 28
    go_enter Tryz.func64, Tryz.ntmps64
    go_wp2_with fail
    refine (summedD_yes _ hx).mono ?_
    rintro e w1 ⟨rfl, b1⟩
    have bb := below_step b0 b1
    have q0 := (b1.cell (p := ⟨w.heap.size, 0, none⟩) (by simp)).trans (show _ = some (Value.int .i64 5) by simp [go_sem])
    have q1 := (b1.cell (p := ⟨w.heap.size, 1, none⟩) (by simp)).trans (show _ = some (Value.int .i64 x) by simp [go_sem])
    go_wp2_with fail
    refine (implBall_any 1 x _).mono ?_
    rintro e w2 ⟨v2, rfl, o2, b2⟩
    have bb := below_step bb b2
    go_wp2_with fail
    refine (implShrunk_any p (ballL 1 x) _ _ _ (h.kept bb) o2.reads).mono ?_
    rintro e w3 hg
    have hm := made_of2 (a := ((5, x), 0)) bb hg (by rw [made5]; cases shrinkOk p (ballL 1 x) <;> simp [hx]) (shrinkR_le _ _)
    obtain ⟨v3, rfl, o3, b3⟩ := hg
    go_wp2
    go_ret2
    exact hm
  · obtain ⟨A, c, rfl, _, _⟩ := h.slice
    have b0 := box_below w #[.int .i64 5, .int .i64 x, .int .i64 0] 28
    go_enter Tryz.func64, Tryz.ntmps64
    go_wp2_with fail
    refine (summedD_no _ hx).mono ?_
    rintro e w1 ⟨rfl, b1⟩
    have bb := below_step b0 b1
    go_wp2
    go_ret2
    exact .inr ⟨_, [], by rw [made5, if_neg (fun k => hx k.1)], rfl, Reads.nil _ _, by simp, bb⟩
set_option maxHeartbeats 1600000 in
theorem changed4 (x : Int) (p : List Sp) (v : Value) (w : World) (h : Reads w w.heap.size v p) : Calls Tryz.prog 38 #[.agg #[.int .i64 4, .int .i64 x, .int .i64 0], v] w (MadePost p ((4, x), 0) w) := by
  obtain ⟨A, c, rfl, _, _⟩ := h.slice
  have b0 := box_below w #[.int .i64 4, .int .i64 x, .int .i64 0] 28
  go_enter Tryz.func38, Tryz.ntmps38
  go_wp2_with fail
  refine (byBall4 x p _ _ (h.kept b0)).mono ?_
  rintro e w1 hg
  have hm := hg.after b0
  obtain ⟨v2, b2, rfl⟩ := hg.tuple
  go_wp2
  go_ret2
  exact hm
set_option maxHeartbeats 1600000 in
theorem changed5 (x : Int) (p : List Sp) (v : Value) (w : World) (h : Reads w w.heap.size v p) : Calls Tryz.prog 38 #[.agg #[.int .i64 5, .int .i64 x, .int .i64 0], v] w (MadePost p ((5, x), 0) w) := by
  obtain ⟨A, c, rfl, _, _⟩ := h.slice
  have b0 := box_below w #[.int .i64 5, .int .i64 x, .int .i64 0] 28
  go_enter Tryz.func38, Tryz.ntmps38
  go_wp2_with fail
  refine (byBall5 x p _ _ (h.kept b0)).mono ?_
  rintro e w1 hg
  have hm := hg.after b0
  obtain ⟨v2, b2, rfl⟩ := hg.tuple
  go_wp2
  go_ret2
  exact hm
/-- of what is named, what is made -/
theorem changed_any (n : Nat) (x y : Int) (p : List Sp) (v : Value) (w : World) (hn : n ≤ 7) (hk : namedB n x y = true) (hp : picB p = true) (h : Reads w w.heap.size v p) : Calls Tryz.prog 38 #[.agg #[.int .i64 (n : Int), .int .i64 x, .int .i64 y], v] w (MadePost p (((n : Int), x), y) w) := by
  have hk := of_decide_eq_true hk
  rcases (show n = 0 ∨ n = 1 ∨ n = 2 ∨ n = 3 ∨ n = 4 ∨ n = 5 ∨ n = 6 ∨ n = 7 by omega) with rfl | rfl | rfl | rfl | rfl | rfl | rfl | rfl
  · exact changed0 x y p v w h
  · exact changed1 x y p v w h hp
  · exact changed2 x y p v w h
  · obtain rfl : x = 0 := hk.1 (Nat.le_refl _)
    obtain rfl : y = 0 := hk.2 (Nat.zero_le _)
    exact changed3 p v w h
  · obtain rfl : y = 0 := hk.2 (Nat.le_refl _)
    exact changed4 x p v w h
  · obtain rfl : y = 0 := hk.2 (Nat.le_refl _)
    exact changed5 x p v w h
  · obtain rfl : y = 0 := hk.2 (Nat.le_refl _)
    exact changed6 x p v w h
  · obtain rfl : x = 0 := hk.1 (Nat.le_refl _)
    obtain rfl : y = 0 := hk.2 (Nat.zero_le _)
    exact changed7 p v w h hp
end
/-! ### DeskA -/
section
open Go.RowKit Go.Sort

/-- a slice of slices that holds these -/
def VRd (w : World) (B : Nat) (v : Value) (vs : List Value) : Prop := ∃ A c, v = .slice A vs.length c ∧ vs.length ≤ c ∧ c ≤ maxLen ∧ (A = none → vs.length = 0) ∧
  (0 < vs.length → ∃ b off, A = some ⟨b, off, none⟩ ∧ b < B ∧ ∀ (k : Nat) u, vs[k]? = some u → w.cell? ⟨b, off + k, none⟩ = some u)
theorem VRd.below {w w' : World} {B : Nat} {v : Value} {vs : List Value} (h : VRd w B v vs) (hb : Below B w w') : VRd w' B v vs := by
  obtain ⟨A, c, h1, h2, h3, h4, h5⟩ := h
  refine ⟨A, c, h1, h2, h3, h4, fun hl => ?_⟩
  obtain ⟨b, off, h7, h8, h9⟩ := h5 hl
  exact ⟨b, off, h7, h8, fun k u hk => (hb.cell (p := ⟨b, off + k, none⟩) h8).trans (h9 k u hk)⟩
theorem VRd.more {w : World} {B B' : Nat} {v : Value} {vs : List Value} (h : VRd w B v vs) (hB : B ≤ B') : VRd w B' v vs := by
  obtain ⟨A, c, h1, h2, h3, h4, h5⟩ := h
  refine ⟨A, c, h1, h2, h3, h4, fun hl => ?_⟩
  obtain ⟨b, off, h7, h8, h9⟩ := h5 hl
  exact ⟨b, off, h7, by omega, h9⟩
theorem VRd.kept {w w' : World} {v : Value} {vs : List Value} (h : VRd w w.heap.size v vs) (hb : Below w.heap.size w w') : VRd w' w'.heap.size v vs := (h.below hb).more hb.size
theorem VRd.one {w : World} {g : Nat} {x : Value} (h : w.cell? ⟨g, 0, none⟩ = some x) : VRd w w.heap.size (.slice (some ⟨g, 0, none⟩) 1 1) [x] :=
  ⟨_, 1, rfl, Nat.le_refl _, by simp [maxLen], fun e => (by cases e), fun _ => ⟨g, 0, rfl, World.block_lt_of_cell? w _ h, fun k u hk => by
    match k, hk with
    | 0, hk => cases hk; exact h⟩⟩
theorem parts_vrd {w : World} {B : Nat} {v : Value} {ls : List (List Sp)} (h : PReads w B v ls) : ∃ vs : List Value, vs.length = ls.length ∧ VRd w B v vs ∧ ∀ (k : Nat) p, ls[k]? = some p → ∃ u, vs[k]? = some u ∧ Reads w B u p := by
  obtain ⟨A, c, vs, h1, h2, h3, h4, h5, h6⟩ := h.is
  refine ⟨vs, h4, ⟨A, c, by rw [h4]; exact h1, by omega, h3, fun e => ?_, fun hl => h5 (by omega)⟩, h6⟩
  subst e
  rcases Nat.eq_zero_or_pos vs.length with h0 | h0
  · exact h0
  · obtain ⟨b, off, e, _⟩ := h5 (by omega)
    cases e
theorem vrd_parts {w : World} {B : Nat} {v : Value} {vs : List Value} {ls : List (List Sp)} (h : VRd w B v vs) (hl : vs.length = ls.length) (ho : ∀ (k : Nat) p, ls[k]? = some p → ∃ u, vs[k]? = some u ∧ Reads w B u p) : PReads w B v ls := by
  obtain ⟨A, c, h1, h2, h3, _, h5⟩ := h
  exact ⟨A, c, vs, by rw [← hl]; exact h1, by omega, h3, hl, fun h0 => h5 (by omega), ho⟩
theorem VRd.of {w : World} {base : Nat} {v : Value} {vs : List Value} (h : VOwns 23 w base v vs) : VRd w w.heap.size v vs := by
  obtain ⟨A, c, rfl, h3, h4, h5⟩ := h.shape
  refine ⟨A, c, rfl, h3, h4, fun e => ?_, fun h0 => ?_⟩
  · subst e
    rcases Nat.eq_zero_or_pos vs.length with h0 | h0
    · exact h0
    · obtain ⟨g, e, _⟩ := h5 h0
      cases e
  · obtain ⟨g, rfl, h6, h7⟩ := h5 h0
    exact ⟨g, 0, rfl, h7, fun k u hk => by rw [Nat.zero_add]; exact (h.cell (List.getElem?_eq_some_iff.1 hk).1).trans hk⟩
theorem slices_one : ∀ (vs : List Value), (∀ u ∈ vs, ∃ A n c, u = Value.slice A n c) → ∀ u ∈ vs, u.oneCell' = true := fun vs h u hu => by
  obtain ⟨A, n, c, rfl⟩ := h u hu
  rfl
theorem run_append_vals {w : World} {base B : Nat} {v x : Value} {vs us : List Value} (ty : TypeId) (hown : VOwns 23 w base v vs) (hx : VRd w B x us) (h1 : ∀ u ∈ us, u.oneCell' = true) (hl : vs.length + us.length ≤ 4000000000000) (hbase : base ≤ w.heap.size) :
    ∃ v' w', (Builtin.append_ #[24, 24] ty #[v, x]).run Tryz.prog w = .ok v' w' ∧ VOwns 23 w' base v' (vs ++ us) ∧ w.grownBy w' v.ownBlock := by
  obtain ⟨i0, hi, hz0, hz1, hz2⟩ := info_parts infoPart
  obtain ⟨A, c, rfl, h2, h3, h4, h5⟩ := hx
  cases A with
  | none =>
    have h0 := h4 rfl
    have e : us = [] := List.eq_nil_of_length_eq_zero h0
    subst e
    have hs : Src Tryz.prog i0.size 24 (.slice none 0 c) 0 [] w := ⟨.inl ⟨_, Tryz.underlying24⟩, fun _ => rfl, run_firstCells_none w i0.size 0 0 c, run_firstCells_none w.drew i0.size 0 0 c, by simp, fun u hu => by cases hu⟩
    obtain ⟨A', c', rfl, h6, h7, _⟩ := hown.shape
    refine ⟨_, w, run_append_nothing w _ _ ty _ i0 Tryz.underlying24 hi A' vs.length c' h6 _ hs, ?_, World.grownBy.refl w _⟩
    rw [List.append_nil]; exact hown
  | some ad =>
    have hcell : ∀ (j : Nat) u, us[j]? = some u → w.cell? (ad.add j) = some u := fun j u hj => by
      obtain ⟨b, off, e, _, h6⟩ := h5 (by have := (List.getElem?_eq_some_iff.1 hj).1; omega)
      cases e
      rw [Addr.add_lit]
      exact h6 j u hj
    obtain ⟨v', w', r1, r2, r3, _⟩ := run_append_own_at (P := Tryz.prog) w base 24 ty 23 i0 _ 1 24 Tryz.underlying24 hi hz0 hz1 hz2 rfl (by decide) v _ _ hown ad us.length c us (by rw [Nat.mul_one]) hcell h1 (by simp only [maxLen]; omega) (by omega) hbase
    refine ⟨v', w', r1, ?_, r3⟩
    unfold VOwns
    rw [List.length_append]; exact r2
theorem wpList_append_vals {w : World} {ops : Array Oper} {rest : List Oper} {o : Oper} {a : Act} {Q : Exit → Act → World → Prop} {base B : Nat} {vs us : List Value} {v x : Value}
    (hown : VOwns 23 w base v vs) (hx : VRd w B x us) (h1 : ∀ u ∈ us, u.oneCell' = true) (hl : vs.length + us.length ≤ 4000000000000) (hbase : base ≤ w.heap.size)
    (hgd : o.guard = none) (s t : Operand) (ho : o.op = .call { callee := .builtin .append, args := #[s, t], argTypes := #[24, 24] })
    (hs : a.eval s = v) (ht : a.eval t = x)
    (h : ∀ v' w', VOwns 23 w' base v' (vs ++ us) → w.grownBy w' v.ownBlock → wpList Tryz.prog ops Q rest (a.put o.dst v') w') : wpList Tryz.prog ops Q (o :: rest) a w := by
  refine wpList_plain hgd fun K hK => ?_
  obtain ⟨v', w', hrun, h2, h3⟩ := run_append_vals o.type hown hx h1 hl hbase
  unfold Oper.wp execOp
  simp only [ho, resolve, invoke, builtin, Sem.run_bind, Sem.run_pure, Result.andThen_ok, List.map_toArray, List.map_cons, List.map_nil, hs, ht, hrun]
  exact hK _ _ (h v' w' h2 h3)
theorem wpList_zeros_parts {w : World} {ops : Array Oper} {rest : List Oper} {o : Oper} {a : Act} {Q : Exit → Act → World → Prop}
    (n : Nat) (h0 : 0 < n) (hn : n ≤ 1000000) (hgd : o.guard = none) (s t : Operand) (ho : o.op = .call { callee := .builtin .append, args := #[s, t], argTypes := #[24, 3] })
    (hs : a.eval s = .slice none 0 0) (ht : a.eval t = .int .i64 n)
    (h : ∀ (cap : Nat) w', n ≤ cap → cap ≤ maxLen → VOwns 23 w' w.heap.size (.slice (some ⟨w.heap.size, 0, none⟩) 0 cap) [] → Below w.heap.size w w' → wpList Tryz.prog ops Q rest (a.put o.dst (.slice (some ⟨w.heap.size, 0, none⟩) n cap)) w') : wpList Tryz.prog ops Q (o :: rest) a w := by
  refine wpList_plain hgd fun K hK => ?_
  obtain ⟨i0, hi, hz0, hz1, hz2⟩ := info_parts infoPart
  have hrun := Lib.run_append_grow_zeros (P := Tryz.prog) w 24 3 o.type 23 i0 _ .i64 .i64 Tryz.underlying24 Tryz.underlying3 hi hz0 none 0 0 [] (run_firstCells_none w.drew i0.size 0 0 0) n h0 (by rw [hz1]; decide) (by omega) (by omega) (by rw [hz2]; omega) (by
    have : Builtin.nextslicecap (0 + n) 0 = n := by simp [Builtin.nextslicecap]; omega
    rw [this, hz2]; omega)
  have hge := grownCap_ge w (0 + n) 0 23
  have hle := grownCap_le_maxLen w (0 + n) 0 23 (by simp only [maxLen]; omega)
  simp only [Nat.zero_add] at hrun hge hle
  unfold Oper.wp execOp
  simp only [ho, resolve, invoke, builtin, Sem.run_bind, Sem.run_pure, Result.andThen_ok, List.map_toArray, List.map_cons, List.map_nil, hs, ht, hrun]
  refine hK _ _ (h (grownCap w n 0 23) _ hge hle (World.ownsRow_made w.drew _ _ (Nat.le_refl _) hle ?_) ((Below.refl w.heap.size w).drew.alloc (Nat.le_refl _) _))
  simp [Builtin.zeroCells, Value.cells]
  omega
def GivesV (vs : List Value) (w : World) (e : Ending) (w' : World) : Prop := ∃ v', e = .returned v' ∧ VOwns 23 w' w.heap.size v' vs ∧ Below w.heap.size w w'
set_option maxRecDepth 100000 in
theorem growV_any (n : Nat) (w : World) (h0 : 0 < n) (hn : n ≤ 1000000) :
    Calls Tryz.prog 67 #[.slice none 0 0, .int .i64 n] w (GivesV [] w) := by
  go_enter Tryz.func67, Tryz.ntmps67
  go_wp2_with (at_builtin; refine wpList_zeros_parts n h0 hn rfl (.tmp 20) (.tmp 21) rfl rfl rfl ?_)
  intro cap w1 hc1 hc2 o1 b1
  unfold maxLen at hc2
  go_wp2
  go_ret
  exact ⟨_, rfl, o1, b1⟩
set_option maxRecDepth 100000 in
set_option maxHeartbeats 1600000 in
theorem concatV_any (G : Nat) (s1 s2 : Value) (v1 v2 : List Value) (w : World) (c0 : w.cell? ⟨G, 0, none⟩ = some s1) (c1 : w.cell? ⟨G, 1, none⟩ = some s2) (h1 : VRd w w.heap.size s1 v1) (h2 : VRd w w.heap.size s2 v2) (o1 : ∀ u ∈ v1, u.oneCell' = true) (o2 : ∀ u ∈ v2, u.oneCell' = true) (hl : v1.length + v2.length ≤ 1000000) (hp : 0 < v2.length) :
    Calls Tryz.prog 40 #[.slice (some ⟨G, 0, none⟩) 2 2] w (GivesV (v1 ++ v2) w) := by
  have hG := World.block_lt_of_cell? w _ c0
  obtain ⟨A1, d1, e1, hc1, hm1, _⟩ := id h1
  obtain ⟨A2, d2, e2, hc2, hm2, _⟩ := id h2
  unfold maxLen at hm1 hm2
  subst e1 e2
  go_enter Tryz.func40, Tryz.ntmps40
  go_wp2
  go_loopw [3, 11] (fun s i wr => ((i = .int .i64 0 ∧ s = .int .i64 0) ∨ (i = .int .i64 1 ∧ s = .int .i64 v1.length) ∨ (i = .int .i64 2 ∧ s = .int .i64 ((v1.length + v2.length : Nat) : Int))) ∧ Below w.heap.size w wr) (fun _ i _ => 2 - (intOf i).toNat)
  case atStart => exact ⟨.inl ⟨rfl, rfl⟩, Below.refl _ _⟩
  case round =>
    obtain ⟨hs, hbw⟩ := hrel
    have f0 := (hbw.cell (p := ⟨G, 0, none⟩) hG).trans c0
    have f1 := (hbw.cell (p := ⟨G, 1, none⟩) hG).trans c1
    rcases hs with ⟨rfl, rfl⟩ | ⟨rfl, rfl⟩ | ⟨rfl, rfl⟩
    · go_wp2
      go_roundw
      case rel => exact ⟨.inr (.inl ⟨rfl, rfl⟩), hbw⟩
      case measure => decide
    · go_wp2
      go_roundw
      case rel => exact ⟨.inr (.inr ⟨rfl, by go_num⟩), hbw⟩
      case measure => decide
    · go_wp2_with fail
      refine (growV_any (v1.length + v2.length) wr (by omega) hl).mono ?_
      rintro e w1 ⟨v3, rfl, o3, b3⟩
      have bb3 := below_step hbw b3
      have o3 := o3.lower (base' := w.heap.size) hbw.size
      clear b3 hbw f0 f1
      go_wp2
      go_loopw [6, 27] (fun o i wr => ((i = .int .i64 0 ∧ VOwns 23 wr w.heap.size o []) ∨ (i = .int .i64 1 ∧ VOwns 23 wr w.heap.size o v1) ∨ (i = .int .i64 2 ∧ VOwns 23 wr w.heap.size o (v1 ++ v2))) ∧ Below w.heap.size w wr) (fun _ i _ => 2 - (intOf i).toNat)
      case atStart => exact ⟨.inl ⟨rfl, o3⟩, bb3⟩
      case round =>
        clear o3 bb3
        obtain ⟨hs, hbw⟩ := hrel
        have f0 := (hbw.cell (p := ⟨G, 0, none⟩) hG).trans c0
        have f1 := (hbw.cell (p := ⟨G, 1, none⟩) hG).trans c1
        rcases hs with ⟨rfl, hown⟩ | ⟨rfl, hown⟩ | ⟨rfl, hown⟩
        · go_wp2_with (at_builtin; refine wpList_append_vals hown (h1.kept hbw) o1 (by simp only [List.length_nil]; omega) hbw.size rfl (.tmp 31) (.tmp 32) rfl rfl rfl ?_)
          intro v4 w4 o4 g4
          have b4 := hown.below_app hbw hbw.size g4
          go_wp2
          go_roundw
          case rel => exact ⟨.inr (.inl ⟨rfl, o4⟩), b4⟩
          case measure => decide
        · go_wp2_with (at_builtin; refine wpList_append_vals hown (h2.kept hbw) o2 (by omega) hbw.size rfl (.tmp 31) (.tmp 32) rfl rfl rfl ?_)
          intro v4 w4 o4 g4
          have b4 := hown.below_app hbw hbw.size g4
          go_wp2
          go_roundw
          case rel => exact ⟨.inr (.inr ⟨rfl, o4⟩), b4⟩
          case measure => decide
        · go_wp2
          go_ret
          exact ⟨_, rfl, hown, hbw⟩
/-- the desk's slice of slices doesn't lie in the block r -/
def FarD (r : Nat) (v : Value) (d : Dk) : Prop := d.2.length = 0 ∨ ∀ n A k c, v = .agg #[n, .slice (some A) k c] → A.block ≠ r
/-- a desk that may share memory, and a truth -/
def GivesD (v : Value) (d x : Dk) (b : Bool) (w : World) (e : Ending) (w' : World) : Prop := ∃ v', e = .returned (.tuple #[v', .bool b]) ∧ DeskR w' w'.heap.size v' x ∧ Below w.heap.size w w' ∧ ∀ r, r < w.heap.size → FarD r v d → FarD r v' x
/-- a desk all of whose memory lay there before -/
def GivesDB (B : Nat) (v : Value) (d x : Dk) (b : Bool) (w : World) (e : Ending) (w' : World) : Prop := ∃ v', e = .returned (.tuple #[v', .bool b]) ∧ DeskR w' B v' x ∧ Below w.heap.size w w' ∧ ∀ r, FarD r v d → FarD r v' x
theorem PReads.takeP {w : World} {B n c k : Nat} {A : Option Addr} {ls : List (List Sp)} (h : PReads w B (.slice A n c) ls) (hk : k ≤ ls.length) : PReads w B (.slice A k c) (ls.take k) := by
  obtain ⟨A', c', vs, h1, h2, h3, h4, h5, h6⟩ := h.is
  cases h1
  have e : (ls.take k).length = k := by rw [List.length_take]; omega
  refine ⟨A, c, vs.take k, by rw [e], by omega, h3, by rw [List.length_take, e]; omega, fun h0 => ?_, fun j p hj => ?_⟩
  · obtain ⟨b, off, h7, h8, h9⟩ := h5 (by omega)
    refine ⟨b, off, h7, h8, fun j u hj => h9 j u ?_⟩
    rw [List.getElem?_take] at hj
    split at hj
    · exact hj
    · cases hj
  · rw [List.getElem?_take] at hj
    split at hj
    · rename_i hjk
      obtain ⟨u, h7, h8⟩ := h6 j p hj
      exact ⟨u, by rw [List.getElem?_take_of_lt hjk]; exact h7, h8⟩
    · cases hj
theorem do_unnamed {d : Dk} {n : Nat} {x y : Int} (hn : n ≤ 8) (h : namedB n x y = false) : doV d (((n : Int), x), y) = none := by
  have h := of_decide_eq_false h
  rcases (show n = 0 ∨ n = 1 ∨ n = 2 ∨ n = 3 ∨ n = 4 ∨ n = 5 ∨ n = 6 ∨ n = 7 ∨ n = 8 by omega) with rfl | rfl | rfl | rfl | rfl | rfl | rfl | rfl | rfl
  · exact absurd (show _ ∧ _ from ⟨fun k => absurd k (by decide), fun k => absurd k (by decide)⟩) h
  · exact absurd (show _ ∧ _ from ⟨fun k => absurd k (by decide), fun k => absurd k (by decide)⟩) h
  · exact absurd (show _ ∧ _ from ⟨fun k => absurd k (by decide), fun k => absurd k (by decide)⟩) h
  · have h2 : ¬ (x = 0 ∧ y = 0) := fun k => h ⟨fun _ => k.1, fun _ => k.2⟩
    exact do_none (show (3 : Int) ≠ 8 by decide) (by show (if x = 0 ∧ y = 0 then _ else _) = _; rw [if_neg h2])
  · have h2 : ¬ y = 0 := fun k => h ⟨fun k => absurd k (by decide), fun _ => k⟩
    exact do_none (show (4 : Int) ≠ 8 by decide) (by show (if (0 ≤ x ∧ x ≤ 1) ∧ y = 0 ∧ _ then _ else _) = _; rw [if_neg fun k => h2 k.2.1])
  · have h2 : ¬ y = 0 := fun k => h ⟨fun k => absurd k (by decide), fun _ => k⟩
    exact do_none (show (5 : Int) ≠ 8 by decide) (by show (if (0 ≤ x ∧ x ≤ 1) ∧ y = 0 ∧ _ then _ else _) = _; rw [if_neg fun k => h2 k.2.1])
  · have h2 : ¬ y = 0 := fun k => h ⟨fun k => absurd k (by decide), fun _ => k⟩
    exact do_none (show (6 : Int) ≠ 8 by decide) (by show (if y = 0 ∧ _ then _ else _) = _; rw [if_neg fun k => h2 k.1])
  · have h2 : ¬ (x = 0 ∧ y = 0) := fun k => h ⟨fun _ => k.1, fun _ => k.2⟩
    exact do_none (show (7 : Int) ≠ 8 by decide) (by show (if (x = 0 ∧ y = 0) ∧ _ then _ else _) = _; rw [if_neg fun k => h2 k.1])
  · have h2 : ¬ (x = 0 ∧ y = 0) := fun k => h ⟨fun _ => k.1, fun _ => k.2⟩
    unfold doV
    rw [show isBack ((((8 : Nat) : Int), x), y) = false from decide_eq_false fun e => h2 (by cases e; exact ⟨rfl, rfl⟩)]
    rfl
theorem VRd.drop {w : World} {B n c k b off : Nat} {vs : List Value} (h : VRd w B (.slice (some ⟨b, off, none⟩) n c) vs) (hk : k ≤ vs.length) : VRd w B (.slice (some ⟨b, off + k, none⟩) (n - k) (c - k)) (vs.drop k) := by
  obtain ⟨A', c', h1, h2, h3, _, h4⟩ := h
  cases h1
  refine ⟨_, _, by rw [List.length_drop], by rw [List.length_drop]; omega, by omega, fun e => (by cases e), fun h0 => ?_⟩
  rw [List.length_drop] at h0
  obtain ⟨g, off', h5, h6, h8⟩ := h4 (by omega)
  cases h5
  refine ⟨b, off + k, rfl, h6, fun j u hj => ?_⟩
  rw [List.getElem?_drop] at hj
  rw [Nat.add_assoc]
  exact h8 _ u hj
set_option maxRecDepth 100000 in
set_option maxHeartbeats 1600000 in
theorem back_no (B : Nat) (d : Dk) (v : Value) (w : World) (h : DeskR w B v d) (hB : B ≤ w.heap.size) (hl : d.2.length = 0) : Calls Tryz.prog 37 #[v] w (GivesDB B v d d false w) := by
  have h0 := h
  obtain ⟨n, p, rfl, rn, rp⟩ := h
  obtain ⟨An, cn, rfl, _, _⟩ := rn.slice
  obtain ⟨A, c, rfl, _, _⟩ := rp.slice
  rw [hl] at h0 ⊢
  have b0 : Below w.heap.size w ((w.alloc (.cells #[.slice An d.1.length cn, .slice A 0 c] 26)).alloc (.cells #[.slice An d.1.length cn, .slice A 0 c] 26)) := (box_below w _ _).alloc (by simp) _
  have hO := h0.below (b0.mono hB)
  clear hl
  go_enter Tryz.func37, Tryz.ntmps37
  go_wp2
  exact bodyPost_ret (v := .tuple #[.agg #[.slice An d.1.length cn, .slice A 0 c], .bool false]) (by simp [results, Tryz.results37, go_sem]) rfl ⟨_, rfl, hO, b0, fun _ h => h⟩
set_option maxRecDepth 100000 in
set_option maxHeartbeats 1600000 in
theorem back_yes (B : Nat) (d : Dk) (v : Value) (w : World) (h : DeskR w B v d) (hB : B ≤ w.heap.size) (hl : d.2.length ≠ 0) : Calls Tryz.prog 37 #[v] w (GivesDB B v d (d.2.getD (d.2.length - 1) [], d.2.take (d.2.length - 1)) true w) := by
  obtain ⟨n, p, rfl, rn, rp⟩ := h
  obtain ⟨An, cn, rfl, _, _⟩ := rn.slice
  have rp0 := rp
  obtain ⟨A, c, vs, rfl, hc, hm, hvl, hcell, hin⟩ := rp.is
  obtain ⟨m, hm1⟩ : ∃ m, d.2.length = m + 1 := ⟨d.2.length - 1, by omega⟩
  obtain ⟨b, off, rfl, hb, hcv⟩ := hcell (by omega)
  obtain ⟨q, hq⟩ : ∃ a, d.2[m]? = some a := ⟨_, List.getElem?_eq_getElem (by omega)⟩
  obtain ⟨u, hu, hru⟩ := hin m _ hq
  obtain ⟨Au, cu, rfl, _, _⟩ := hru.slice
  have d0 := hcv m _ hu
  have e1 : d.2.getD (d.2.length - 1) [] = q := by rw [hm1, Nat.add_sub_cancel, List.getD_eq_getElem?_getD, hq]; rfl
  rw [e1, hm1, Nat.add_sub_cancel]
  have rt := rp0.takeP (k := m) (by omega)
  rw [hm1] at hc
  unfold maxLen at hm
  have hmm : (m : Int) + 1 ≤ (c : Int) := by omega
  have bW := (box_below w #[.slice An d.1.length cn, .slice (some ⟨b, off, none⟩) (m + 1) c] 26)
  have b0 : Below w.heap.size w ((w.alloc (.cells #[.slice An d.1.length cn, .slice (some ⟨b, off, none⟩) (m + 1) c] 26)).alloc (.cells #[.slice none 0 0, .slice none 0 0] 26)) := bW.alloc (by simp) _
  clear hin hcell hq hu hvl e1 rp0 rp
  go_enter Tryz.func37, Tryz.ntmps37
  go_wp2
  have q1 : ((w.alloc (.cells #[.slice An d.1.length cn, .slice (some ⟨b, off, none⟩) (m + 1) c] 26)).alloc (.cells #[.slice none 0 0, .slice none 0 0] 26)).cell? ⟨w.heap.size, 1, none⟩ = some (.slice (some ⟨b, off, none⟩) (m + 1) c) := by simp [go_sem, World.cell?_alloc_past]
  have d0 := (b0.cell (p := ⟨b, off + m, none⟩) (by simp only []; omega)).trans d0
  have r1 : ((w.alloc (.cells #[.slice An d.1.length cn, .slice (some ⟨b, off, none⟩) (m + 1) c] 26)).alloc (.cells #[.slice none 0 0, .slice none 0 0] 26)).heap[w.heap.size + 1]? = some (.cells #[.slice none 0 0, .slice none 0 0] 26 (0, 0)) := second_block w _ _
  generalize ((w.alloc (.cells #[.slice An d.1.length cn, .slice (some ⟨b, off, none⟩) (m + 1) c] 26)).alloc _) = W at q1 d0 r1 b0 ⊢
  obtain ⟨d10, d11⟩ := cells_of_row r1
  have f10 := frozen_of_row W _ 0 _ _ r1
  have f11 := frozen_of_row W _ 1 _ _ r1
  have hm3 : (0 : Int) ≤ (m : Int) := Int.natCast_nonneg _
  have hm4 : (m : Int) < (m : Int) + 1 := by omega
  have hm5 : (m : Int) ≤ (c : Int) := by omega
  have bb := ((b0.setCell (p := ⟨w.heap.size + 1, 0, none⟩) (by simp only []; omega) (.slice Au q.length cu)).setCell (p := ⟨w.heap.size + 1, 1, none⟩) (by simp only []; omega) (.slice (some ⟨b, off, none⟩) m c)).drew
  have hO : DeskR ((W.setCell ⟨w.heap.size + 1, 0, none⟩ (.slice Au q.length cu)).setCell ⟨w.heap.size + 1, 1, none⟩ (.slice (some ⟨b, off, none⟩) m c)).drew B (.agg #[.slice Au q.length cu, .slice (some ⟨b, off, none⟩) m c]) (q, d.2.take m) := ⟨_, _, rfl, hru.below (bb.mono hB), rt.below (bb.mono hB)⟩
  go_region_law (first | fail)
  all_goals
    go_wp2
    exact bodyPost_ret (v := .tuple #[.agg #[.slice Au q.length cu, .slice (some ⟨b, off, none⟩) m c], .bool true]) (by simp [results, Tryz.results37, go_sem, *]) rfl ⟨_, rfl, hO, bb, fun r h => .inr fun n A k c' e => by cases e; exact h.elim (fun k => by simp only [hm1] at k; omega) fun k => k _ _ _ _ rfl⟩
set_option maxRecDepth 100000 in
set_option maxHeartbeats 1600000 in
theorem after_out (d : Dk) (k x y : Int) (v : Value) (w : World) (h : DeskR w w.heap.size v d) (hk : ¬ (0 ≤ k ∧ k ≤ 8)) : Calls Tryz.prog 20 #[v, .agg #[.int .i64 k, .int .i64 x, .int .i64 y]] w (GivesD v d d false w) := by
  have hD0 := h
  obtain ⟨nv, pv, rfl, rn, rp⟩ := h
  have hNn := rn
  have hPp := rp
  obtain ⟨An, cn, rfl, _, _⟩ := rn.slice
  obtain ⟨Ap, cp, rfl, _, hmp⟩ := rp.slice
  obtain ⟨W, hW⟩ : ∃ W, W = ((w.alloc (.cells #[.slice An d.1.length cn, .slice Ap d.2.length cp] 26)).alloc (.cells #[.int .i64 k, .int .i64 x, .int .i64 y] 28)).alloc (.cells #[.slice none 0 0, .slice none 0 0] 26) := ⟨_, rfl⟩
  have b0 : Below w.heap.size w W := by rw [hW]; exact ((box_below w _ _).alloc (by simp) _).alloc (by simp; omega) _
  have r0 : W.heap[w.heap.size]? = some (.cells #[.slice An d.1.length cn, .slice Ap d.2.length cp] 26 (0, 0)) := by rw [hW]; exact three0 w _ _ _
  have r1 : W.heap[w.heap.size + 1]? = some (.cells #[.int .i64 k, .int .i64 x, .int .i64 y] 28 (0, 0)) := by rw [hW]; exact three1 w _ _ _
  have r2 : W.heap[w.heap.size + 1 + 1]? = some (.cells #[.slice none 0 0, .slice none 0 0] 26 (0, 0)) := by rw [hW]; exact three2 w _ _ _
  have s0 : W.heap.size = w.heap.size + 3 := by rw [hW]; simp
  obtain ⟨c0, c1⟩ := cells_of_row r0
  obtain ⟨k0, k1, k2⟩ := cells3_of r1
  go_enter Tryz.func20, Tryz.ntmps20
  go_wp2_with (first | (rw [← hW]; clear hW) | fail)
  refine (named_out k x y _ hk).mono ?_
  rintro e w1 ⟨rfl, b1⟩
  have c0 := (b1.cell (p := ⟨w.heap.size, 0, none⟩) (by simp only []; omega)).trans c0
  have c1 := (b1.cell (p := ⟨w.heap.size, 1, none⟩) (by simp only []; omega)).trans c1
  have r2 := (b1.block (w.heap.size + 1 + 1) (by omega)).trans r2
  obtain ⟨d10, d11⟩ := cells_of_row r2
  have f10 := frozen_of_row w1 _ 0 _ _ r2
  have f11 := frozen_of_row w1 _ 1 _ _ r2
  have bb := ((below_step b0 b1).setCell (p := ⟨w.heap.size + 1 + 1, 0, none⟩) (by simp only []; omega) (.slice An d.1.length cn)).setCell (p := ⟨w.heap.size + 1 + 1, 1, none⟩) (by simp only []; omega) (.slice Ap d.2.length cp)
  have hD := hD0.kept bb
  go_wp2
  exact bodyPost_ret (v := .tuple #[.agg #[.slice An d.1.length cn, .slice Ap d.2.length cp], .bool false]) (by simp [results, Tryz.results20, go_sem, *]) rfl ⟨_, rfl, hD, bb, fun _ _ h => h⟩
theorem named_yes {n : Nat} {x y : Int} {w : World} (hn : n ≤ 8) (h : namedB n x y = true) : Calls Tryz.prog 36 #[.agg #[.int .i64 (n : Int), .int .i64 x, .int .i64 y]] w (NamedPost n x y w) :=
  (named_in n x y w hn).mono fun e w' hg => by
    rcases hg with ⟨_, k⟩ | ⟨k, _⟩
    · exact k
    · rw [h] at k; cases k
theorem named_no {n : Nat} {x y : Int} {w : World} (hn : n ≤ 8) (h : namedB n x y = false) : Calls Tryz.prog 36 #[.agg #[.int .i64 (n : Int), .int .i64 x, .int .i64 y]] w (GivesNot3 w) :=
  (named_in n x y w hn).mono fun e w' hg => by
    rcases hg with ⟨k, _⟩ | ⟨_, k⟩
    · rw [h] at k; cases k
    · exact k
set_option maxRecDepth 100000 in
set_option maxHeartbeats 1600000 in
theorem after_unnamed (d : Dk) (n : Nat) (x y : Int) (v : Value) (w : World) (h : DeskR w w.heap.size v d) (hn : n ≤ 8) (hk : namedB n x y = false) : Calls Tryz.prog 20 #[v, .agg #[.int .i64 (n : Int), .int .i64 x, .int .i64 y]] w (GivesD v d d false w) := by
  have hD0 := h
  obtain ⟨nv, pv, rfl, rn, rp⟩ := h
  have hNn := rn
  have hPp := rp
  obtain ⟨An, cn, rfl, _, _⟩ := rn.slice
  obtain ⟨Ap, cp, rfl, _, hmp⟩ := rp.slice
  obtain ⟨W, hW⟩ : ∃ W, W = ((w.alloc (.cells #[.slice An d.1.length cn, .slice Ap d.2.length cp] 26)).alloc (.cells #[.int .i64 (n : Int), .int .i64 x, .int .i64 y] 28)).alloc (.cells #[.slice none 0 0, .slice none 0 0] 26) := ⟨_, rfl⟩
  have b0 : Below w.heap.size w W := by rw [hW]; exact ((box_below w _ _).alloc (by simp) _).alloc (by simp; omega) _
  have r0 : W.heap[w.heap.size]? = some (.cells #[.slice An d.1.length cn, .slice Ap d.2.length cp] 26 (0, 0)) := by rw [hW]; exact three0 w _ _ _
  have r1 : W.heap[w.heap.size + 1]? = some (.cells #[.int .i64 (n : Int), .int .i64 x, .int .i64 y] 28 (0, 0)) := by rw [hW]; exact three1 w _ _ _
  have r2 : W.heap[w.heap.size + 1 + 1]? = some (.cells #[.slice none 0 0, .slice none 0 0] 26 (0, 0)) := by rw [hW]; exact three2 w _ _ _
  have s0 : W.heap.size = w.heap.size + 3 := by rw [hW]; simp
  obtain ⟨c0, c1⟩ := cells_of_row r0
  obtain ⟨k0, k1, k2⟩ := cells3_of r1
  go_enter Tryz.func20, Tryz.ntmps20
  go_wp2_with (first | (rw [← hW]; clear hW) | fail)
  refine (named_no hn hk).mono ?_
  rintro e w1 ⟨rfl, b1⟩
  have c0 := (b1.cell (p := ⟨w.heap.size, 0, none⟩) (by simp only []; omega)).trans c0
  have c1 := (b1.cell (p := ⟨w.heap.size, 1, none⟩) (by simp only []; omega)).trans c1
  have r2 := (b1.block (w.heap.size + 1 + 1) (by omega)).trans r2
  obtain ⟨d10, d11⟩ := cells_of_row r2
  have f10 := frozen_of_row w1 _ 0 _ _ r2
  have f11 := frozen_of_row w1 _ 1 _ _ r2
  have bb := ((below_step b0 b1).setCell (p := ⟨w.heap.size + 1 + 1, 0, none⟩) (by simp only []; omega) (.slice An d.1.length cn)).setCell (p := ⟨w.heap.size + 1 + 1, 1, none⟩) (by simp only []; omega) (.slice Ap d.2.length cp)
  have hD := hD0.kept bb
  go_wp2
  exact bodyPost_ret (v := .tuple #[.agg #[.slice An d.1.length cn, .slice Ap d.2.length cp], .bool false]) (by simp [results, Tryz.results20, go_sem, *]) rfl ⟨_, rfl, hD, bb, fun _ _ h => h⟩
set_option maxRecDepth 100000 in
set_option maxHeartbeats 1600000 in
theorem after_back (d : Dk) (b : Bool) (z : Dk) (v : Value) (w : World) (h : DeskR w w.heap.size v d) (hz : doV d ((8, 0), 0) = if b then some z else none) (hzd : b = false → z = d) : Calls Tryz.prog 20 #[v, .agg #[.int .i64 8, .int .i64 0, .int .i64 0]] w (GivesD v d z b w) := by
  have HB : ∀ W (v' : Value), DeskR W w.heap.size v' d → w.heap.size ≤ W.heap.size → Calls Tryz.prog 37 #[v'] W (GivesDB w.heap.size v' d z b W) := fun W v' hr hB => by
    by_cases hl : d.2.length = 0
    · rw [do_b0 hl] at hz
      cases b with
      | true => cases hz
      | false => rw [hzd rfl]; exact back_no _ d v' W hr hB hl
    · rw [do_b1 hl] at hz
      cases b with
      | true => cases hz; exact back_yes _ d v' W hr hB hl
      | false => cases hz
  have HB := Lib.hid HB
  have hn : 8 ≤ 8 := Nat.le_refl _
  have hk : namedB 8 0 0 = true := by decide
  clear hz hzd
  have hD0 := h
  obtain ⟨nv, pv, rfl, rn, rp⟩ := h
  have hNn := rn
  have hPp := rp
  obtain ⟨An, cn, rfl, _, _⟩ := rn.slice
  obtain ⟨Ap, cp, rfl, _, hmp⟩ := rp.slice
  obtain ⟨W, hW⟩ : ∃ W, W = ((w.alloc (.cells #[.slice An d.1.length cn, .slice Ap d.2.length cp] 26)).alloc (.cells #[.int .i64 8, .int .i64 0, .int .i64 0] 28)).alloc (.cells #[.slice none 0 0, .slice none 0 0] 26) := ⟨_, rfl⟩
  have b0 : Below w.heap.size w W := by rw [hW]; exact ((box_below w _ _).alloc (by simp) _).alloc (by simp; omega) _
  have r0 : W.heap[w.heap.size]? = some (.cells #[.slice An d.1.length cn, .slice Ap d.2.length cp] 26 (0, 0)) := by rw [hW]; exact three0 w _ _ _
  have r1 : W.heap[w.heap.size + 1]? = some (.cells #[.int .i64 8, .int .i64 0, .int .i64 0] 28 (0, 0)) := by rw [hW]; exact three1 w _ _ _
  have r2 : W.heap[w.heap.size + 1 + 1]? = some (.cells #[.slice none 0 0, .slice none 0 0] 26 (0, 0)) := by rw [hW]; exact three2 w _ _ _
  have s0 : W.heap.size = w.heap.size + 3 := by rw [hW]; simp
  obtain ⟨c0, c1⟩ := cells_of_row r0
  obtain ⟨k0, k1, k2⟩ := cells3_of r1
  go_enter Tryz.func20, Tryz.ntmps20
  go_wp2_with (first | (rw [← hW]; clear hW) | fail)
  refine (named_yes (x := 0) (y := 0) hn hk).mono ?_
  rintro e w1 ⟨g1, rfl, _, _, b1⟩
  have c0 := (b1.cell (p := ⟨w.heap.size, 0, none⟩) (by simp only []; omega)).trans c0
  have c1 := (b1.cell (p := ⟨w.heap.size, 1, none⟩) (by simp only []; omega)).trans c1
  have k0 := (b1.cell (p := ⟨w.heap.size + 1, 0, none⟩) (by simp only []; omega)).trans k0
  have k1 := (b1.cell (p := ⟨w.heap.size + 1, 1, none⟩) (by simp only []; omega)).trans k1
  have k2 := (b1.cell (p := ⟨w.heap.size + 1, 2, none⟩) (by simp only []; omega)).trans k2
  have r2 := (b1.block (w.heap.size + 1 + 1) (by omega)).trans r2
  have bb := below_step b0 b1
  have hz1 := b1.size
  have hD1 := hD0.below bb
  go_wp2_with fail
  refine (HB.out _ _ hD1 bb.size).mono ?_
  rintro e w2 ⟨v2, rfl, ⟨n2, p2, rfl, rn2, rp2⟩, b2, hfar⟩
  have r2 := (b2.block (w.heap.size + 1 + 1) (by omega)).trans r2
  obtain ⟨d10, d11⟩ := cells_of_row r2
  have f10 := frozen_of_row w2 _ 0 _ _ r2
  have f11 := frozen_of_row w2 _ 1 _ _ r2
  have hz2 := b2.size
  obtain ⟨An2, cn2, rfl, _, _⟩ := rn2.slice
  obtain ⟨Ap2, cp2, rfl, _, _⟩ := rp2.slice
  have b3 := ((Below.refl w.heap.size w2).setCell (p := ⟨w.heap.size + 1 + 1, 0, none⟩) (by simp only []; omega) (.slice An2 z.1.length cn2)).setCell (p := ⟨w.heap.size + 1 + 1, 1, none⟩) (by simp only []; omega) (.slice Ap2 z.2.length cp2)
  have b4 := (below_step bb b2).trans b3
  have hR0 : DeskR w2 w.heap.size (.agg #[.slice An2 z.1.length cn2, .slice Ap2 z.2.length cp2]) z := ⟨_, _, rfl, rn2, rp2⟩
  have hR := hR0.keep b3 (Nat.le_trans bb.size hz2)
  go_wp2
  exact bodyPost_ret (v := .tuple #[.agg #[.slice An2 z.1.length cn2, .slice Ap2 z.2.length cp2], .bool b]) (by simp [results, Tryz.results20, go_sem, *]) rfl ⟨_, rfl, hR, b4, fun r _ h => hfar r h⟩
theorem Reads.beside {w : World} {B : Nat} {v x : Value} {ps : List Sp} {a : Addr} (h : Reads w B v ps) (hc : ∃ A n c, w.cell? a = some (.slice A n c)) : Reads (w.setCell a x) B v ps := by
  obtain ⟨A, c, h1, h2, h3, h4, h5⟩ := h.is
  obtain ⟨A', n', c', ha⟩ := hc
  refine ⟨A, c, h1, h2, h3, h4, fun h0 => ?_⟩
  obtain ⟨b, off, h6, h7, h8⟩ := h5 h0
  refine ⟨b, off, h6, h7, fun k x y hk => ?_⟩
  obtain ⟨h9, h10⟩ := h8 k x y hk
  refine ⟨(World.cell?_setCell_other w _ _ _ fun e => ?_).trans h9, (World.cell?_setCell_other w _ _ _ fun e => ?_).trans h10⟩
  · rw [e, h9] at ha; cases ha
  · rw [e, h10] at ha; cases ha
theorem desk_made {w : World} {r b off n c cm : Nat} {Am : Option Addr} {m : List Sp} {ls : List (List Sp)} {vs : List Value} (rm : Reads w w.heap.size (.slice Am m.length cm) m) (hv : VRd w w.heap.size (.slice (some ⟨b, off, none⟩) n c) vs) (hbr : r ≠ b)
    (hl : vs.length = ls.length) (ho : ∀ (k : Nat) p, ls[k]? = some p → ∃ u, vs[k]? = some u ∧ Reads w w.heap.size u p) (d10 : w.cell? ⟨r, 0, none⟩ = some (.slice none 0 0)) (d11 : w.cell? ⟨r, 1, none⟩ = some (.slice none 0 0)) :
    DeskR ((w.setCell ⟨r, 0, none⟩ (.slice Am m.length cm)).setCell ⟨r, 1, none⟩ (.slice (some ⟨b, off, none⟩) n c)) ((w.setCell ⟨r, 0, none⟩ (.slice Am m.length cm)).setCell ⟨r, 1, none⟩ (.slice (some ⟨b, off, none⟩) n c)).heap.size (.agg #[.slice Am m.length cm, .slice (some ⟨b, off, none⟩) n c]) (m, ls) := by
  obtain ⟨X, hX⟩ : ∃ X, X = Value.slice Am m.length cm := ⟨_, rfl⟩
  obtain ⟨Y, hY⟩ : ∃ Y, Y = Value.slice (some ⟨b, off, none⟩) n c := ⟨_, rfl⟩
  rw [← hX] at rm ⊢
  rw [← hY] at hv ⊢
  rw [World.size_setCell, World.size_setCell]
  have K : ∀ (v : Value) (p : List Sp), Reads w w.heap.size v p → Reads ((w.setCell ⟨r, 0, none⟩ X).setCell ⟨r, 1, none⟩ Y) w.heap.size v p := fun v p h =>
    (h.beside ⟨_, _, _, d10⟩).beside ⟨_, _, _, (World.cell?_setCell_other w _ _ _ (by simp)).trans d11⟩
  obtain ⟨A, c', h1, h2, h3, h4, h5⟩ := hv
  refine ⟨X, Y, rfl, K _ _ rm, A, c', vs, by rw [← hl]; exact h1, by rw [← hl]; exact h2, h3, hl, fun h0 => ?_, fun k p hk => ?_⟩
  · obtain ⟨b', off', h6, h7, h8⟩ := h5 (by rw [hl]; exact h0)
    refine ⟨b', off', h6, h7, fun k u hk => ?_⟩
    rw [hY, h6] at h1
    cases h1
    exact ((World.cell?_setCell_far _ _ _ _ hbr).trans (World.cell?_setCell_far _ _ _ _ hbr)).trans (h8 k u hk)
  · obtain ⟨u, h6, h7⟩ := ho k p hk
    exact ⟨u, h6, K _ _ h7⟩
set_option maxRecDepth 100000 in
set_option maxHeartbeats 1600000 in
theorem after_made (d : Dk) (n : Nat) (x y : Int) (v : Value) (w : World) (h : DeskR w w.heap.size v d) (hd : deskB d = true) (hn : n ≤ 7) (hk : namedB n x y = true) : Calls Tryz.prog 20 #[v, .agg #[.int .i64 (n : Int), .int .i64 x, .int .i64 y]] w (GivesD v d (doR d (((n : Int), x), y)) (doOk d (((n : Int), x), y)) w) := by
  have HD := Lib.hid hd
  have hp := (deskB_iff.1 hd).now
  have hn8 : n ≤ 8 := by omega
  have hn9 : decide ((n : Int) = 8) = false := decide_eq_false (by omega)
  clear hd
  obtain ⟨G, hG⟩ : ∃ G, G = GivesD v d (doR d (((n : Int), x), y)) (doOk d (((n : Int), x), y)) w := ⟨_, rfl⟩
  rw [← hG]
  have hG := Lib.hid hG
  have hD0 := h
  obtain ⟨nv, pv, rfl, rn, rp⟩ := h
  have hNn := rn
  have hPp := rp
  obtain ⟨An, cn, rfl, _, _⟩ := rn.slice
  obtain ⟨Ap, cp, rfl, _, hmp⟩ := rp.slice
  obtain ⟨W, hW⟩ : ∃ W, W = ((w.alloc (.cells #[.slice An d.1.length cn, .slice Ap d.2.length cp] 26)).alloc (.cells #[.int .i64 (n : Int), .int .i64 x, .int .i64 y] 28)).alloc (.cells #[.slice none 0 0, .slice none 0 0] 26) := ⟨_, rfl⟩
  have b0 : Below w.heap.size w W := by rw [hW]; exact ((box_below w _ _).alloc (by simp) _).alloc (by simp; omega) _
  have r0 : W.heap[w.heap.size]? = some (.cells #[.slice An d.1.length cn, .slice Ap d.2.length cp] 26 (0, 0)) := by rw [hW]; exact three0 w _ _ _
  have r1 : W.heap[w.heap.size + 1]? = some (.cells #[.int .i64 (n : Int), .int .i64 x, .int .i64 y] 28 (0, 0)) := by rw [hW]; exact three1 w _ _ _
  have r2 : W.heap[w.heap.size + 1 + 1]? = some (.cells #[.slice none 0 0, .slice none 0 0] 26 (0, 0)) := by rw [hW]; exact three2 w _ _ _
  have s0 : W.heap.size = w.heap.size + 3 := by rw [hW]; simp
  obtain ⟨c0, c1⟩ := cells_of_row r0
  obtain ⟨k0, k1, k2⟩ := cells3_of r1
  go_enter Tryz.func20, Tryz.ntmps20
  go_wp2_with (first | (rw [← hW]; clear hW) | fail)
  refine (named_yes hn8 hk).mono ?_
  rintro e w1 ⟨g1, rfl, _, _, b1⟩
  have c0 := (b1.cell (p := ⟨w.heap.size, 0, none⟩) (by simp only []; omega)).trans c0
  have c1 := (b1.cell (p := ⟨w.heap.size, 1, none⟩) (by simp only []; omega)).trans c1
  have k0 := (b1.cell (p := ⟨w.heap.size + 1, 0, none⟩) (by simp only []; omega)).trans k0
  have k1 := (b1.cell (p := ⟨w.heap.size + 1, 1, none⟩) (by simp only []; omega)).trans k1
  have k2 := (b1.cell (p := ⟨w.heap.size + 1, 2, none⟩) (by simp only []; omega)).trans k2
  have r2 := (b1.block (w.heap.size + 1 + 1) (by omega)).trans r2
  have bb := below_step b0 b1
  have hz1 := b1.size
  have hN := hNn.kept bb
  go_wp2_with fail
  refine (changed_any n x y d.1 _ _ hn hk hp hN).mono ?_
  rintro e w2 hg
  rcases hg with ⟨m, v2, hm, rfl, om, b2⟩ | ⟨v2, q, hm, rfl, rq, hq, b2⟩
  · have rm := om.reads
    clear om
    have b3 := below_step bb b2
    obtain ⟨Am, cm, rfl, hm1, hm2⟩ := rm.slice
    have c0 := (b2.cell (p := ⟨w.heap.size, 0, none⟩) (by simp only []; omega)).trans c0
    have c1 := (b2.cell (p := ⟨w.heap.size, 1, none⟩) (by simp only []; omega)).trans c1
    have r2 := (b2.block (w.heap.size + 1 + 1) (by omega)).trans r2
    have hz2 := b2.size
    go_wp2_with fail
    refine (equalS_any m d.1 _ _ _ rm (hNn.kept b3)).mono ?_
    rintro e w3 ⟨rfl, b4⟩
    have b5 := below_step b3 b4
    have rm3 := rm.kept b4
    have c0 := (b4.cell (p := ⟨w.heap.size, 0, none⟩) (by simp only []; omega)).trans c0
    have c1 := (b4.cell (p := ⟨w.heap.size, 1, none⟩) (by simp only []; omega)).trans c1
    have r2 := (b4.block (w.heap.size + 1 + 1) (by omega)).trans r2
    have hz3 := b4.size
    by_cases he : m = d.1
    · obtain ⟨d10, d11⟩ := cells_of_row r2
      have f10 := frozen_of_row w3 _ 0 _ _ r2
      have f11 := frozen_of_row w3 _ 1 _ _ r2
      obtain ⟨eo, er⟩ := do_no (do_same (d := d) (a := (((n : Int), x), y)) (by simp only []; omega) hm he)
      have he := decide_eq_true he
      have b6 := (b5.setCell (p := ⟨w.heap.size + 1 + 1, 0, none⟩) (by simp only []; omega) (.slice An d.1.length cn)).setCell (p := ⟨w.heap.size + 1 + 1, 1, none⟩) (by simp only []; omega) (.slice Ap d.2.length cp)
      have hD := hD0.kept b6
      go_wp2
      rw [hG.out, eo, er]
      exact bodyPost_ret (v := .tuple #[.agg #[.slice An d.1.length cn, .slice Ap d.2.length cp], .bool false]) (by simp [results, Tryz.results20, go_sem, *]) rfl ⟨_, rfl, hD, b6, fun _ _ h => h⟩
    · obtain ⟨eo, er⟩ := do_yes (do_new (d := d) (a := (((n : Int), x), y)) (by simp only []; omega) hm he)
      have he := decide_eq_false he
      obtain ⟨v1, hv1, hvr, hin⟩ := parts_vrd (hPp.kept b5)
      have hfew := (deskB_iff.1 HD.out).few
      obtain ⟨bN, hbN⟩ : ∃ x, x = Value.slice An d.1.length cn := ⟨_, rfl⟩
      have hW4 : Below w3.heap.size w3 ((w3.alloc (.cells #[bN] 23)).alloc (.cells #[.slice Ap d.2.length cp, .slice (some ⟨w3.heap.size, 0, none⟩) 1 1] 24)) := (box_below w3 _ _).alloc (by simp) _
      have q0 := cells_of_row (heap_alloc_new (w3.alloc (.cells #[bN] 23)) (.cells #[.slice Ap d.2.length cp, .slice (some ⟨w3.heap.size, 0, none⟩) 1 1] 24))
      have q2 : ((w3.alloc (.cells #[bN] 23)).alloc (.cells #[.slice Ap d.2.length cp, .slice (some ⟨w3.heap.size, 0, none⟩) 1 1] 24)).cell? ⟨w3.heap.size, 0, none⟩ = some bN := by simp [go_sem, World.cell?_alloc_past]
      rw [World.size_alloc] at q0
      obtain ⟨W4, hW⟩ : ∃ W4, W4 = ((w3.alloc (.cells #[bN] 23)).alloc (.cells #[.slice Ap d.2.length cp, .slice (some ⟨w3.heap.size, 0, none⟩) 1 1] 24)) := ⟨_, rfl⟩
      have hWs : W4.heap.size = w3.heap.size + 2 := by rw [hW]; simp
      rw [← hW] at hW4 q0 q2
      rw [hbN] at hW
      go_wp2_with (first | (rw [← hW]; clear hW) | fail)
      refine (concatV_any _ _ _ v1 [bN] W4 q0.1 q0.2 (hvr.kept hW4) ((VRd.one q2).more (by omega)) (slices_one _ fun u hu => ?_) (slices_one _ fun u hu => ?_) (by rw [hv1]; simp; omega) (by simp)).mono ?_
      · obtain ⟨k, hk, rfl⟩ := List.getElem_of_mem hu
        obtain ⟨u, h6, h7⟩ := hin k (d.2[k]'(by omega)) (List.getElem?_eq_getElem _)
        obtain ⟨A', c', h8, _⟩ := h7.slice
        rw [List.getElem?_eq_getElem hk] at h6
        cases h6
        exact ⟨_, _, _, h8⟩
      · rw [List.mem_singleton.1 hu, hbN]
        exact ⟨_, _, _, rfl⟩
      rintro e w5 ⟨v5, rfl, o5, b5'⟩
      have hv5 := VRd.of o5
      have hz5 := b5'.size
      obtain ⟨A5, c5, rfl, h51, h52, h53⟩ := o5.shape
      have e5 : (v1 ++ [bN]).length = d.2.length + 1 := by rw [List.length_append, hv1]; rfl
      rw [e5] at h51 h53 hv5 ⊢
      obtain ⟨g5, rfl, hg5, hg6⟩ := h53 (by omega)
      have bz := below_step hW4 b5'
      have r2 := (bz.block (w.heap.size + 1 + 1) (by omega)).trans r2
      obtain ⟨d10, d11⟩ := cells_of_row r2
      have f10 := frozen_of_row w5 _ 0 _ _ r2
      have f11 := frozen_of_row w5 _ 1 _ _ r2
      have b6 := below_step b5 bz
      have rm5 := rm3.kept bz
      have hin5 : ∀ (k : Nat) p, (d.2 ++ [d.1])[k]? = some p → ∃ u, (v1 ++ [bN])[k]? = some u ∧ Reads w5 w5.heap.size u p := fun k p hk => by
        by_cases hkl : k < d.2.length
        · rw [List.getElem?_append_left hkl] at hk
          obtain ⟨u, h6, h7⟩ := hin k p hk
          exact ⟨u, by rw [List.getElem?_append_left (by omega)]; exact h6, h7.kept bz⟩
        · rw [List.getElem?_append_right (by omega)] at hk
          refine ⟨bN, ?_, ?_⟩
          · have : k - d.2.length = 0 := by have := (List.getElem?_eq_some_iff.1 hk).1; simp at this; omega
            rw [List.getElem?_append_right (by omega), hv1, this]; rfl
          · have : k - d.2.length = 0 := by have := (List.getElem?_eq_some_iff.1 hk).1; simp at this; omega
            rw [this] at hk
            cases hk
            rw [hbN]
            exact hNn.kept b6
      clear hin hvr q0 q2 hW4 c0 c1
      have hj : (max 0 ((d.2.length : Int) + 1 - 8)).toNat = d.2.length + 1 - 8 := by omega
      have hR := desk_made (m := m) (ls := pastR d.2 d.1) (r := w.heap.size + 1 + 1) (vs := (v1 ++ [bN]).drop (d.2.length + 1 - 8)) rm5 (hv5.drop (k := d.2.length + 1 - 8) (by rw [e5]; omega)) (by omega) (by rw [pastR_length, List.length_drop, e5]; omega) (fun k p hk => by
        unfold pastR at hk
        rw [List.getElem?_drop] at hk ⊢
        exact hin5 _ p hk) d10 d11
      have b7 := (b6.setCell (p := ⟨w.heap.size + 1 + 1, 0, none⟩) (by simp only []; omega) (.slice Am m.length cm)).setCell (p := ⟨w.heap.size + 1 + 1, 1, none⟩) (by simp only []; omega) (.slice (some ⟨g5, 0 + (d.2.length + 1 - 8), none⟩) (d.2.length + 1 - (d.2.length + 1 - 8)) (c5 - (d.2.length + 1 - 8)))
      rw [Nat.zero_add] at hR b7
      clear hin5 o5 h53 hv5
      go_wp2_with fail
      rw [hG.out, eo, er]
      exact bodyPost_ret (v := .tuple #[.agg #[.slice Am m.length cm, .slice (some ⟨g5, d.2.length + 1 - 8, none⟩) (d.2.length + 1 - (d.2.length + 1 - 8)) (c5 - (d.2.length + 1 - 8))], .bool true]) (by simp [results, Tryz.results20, go_sem, *]) rfl ⟨_, rfl, hR, b7, fun r hr _ => .inr fun n A k c e => by cases e; simp only []; omega⟩
  · have c0 := (b2.cell (p := ⟨w.heap.size, 0, none⟩) (by simp only []; omega)).trans c0
    have c1 := (b2.cell (p := ⟨w.heap.size, 1, none⟩) (by simp only []; omega)).trans c1
    have r2 := (b2.block (w.heap.size + 1 + 1) (by omega)).trans r2
    obtain ⟨d10, d11⟩ := cells_of_row r2
    have f10 := frozen_of_row w2 _ 0 _ _ r2
    have f11 := frozen_of_row w2 _ 1 _ _ r2
    obtain ⟨eo, er⟩ := do_no (do_none (d := d) (a := (((n : Int), x), y)) (by simp only []; omega) hm)
    have b3 := ((below_step bb b2).setCell (p := ⟨w.heap.size + 1 + 1, 0, none⟩) (by simp only []; omega) (.slice An d.1.length cn)).setCell (p := ⟨w.heap.size + 1 + 1, 1, none⟩) (by simp only []; omega) (.slice Ap d.2.length cp)
    have hD := hD0.kept b3
    go_wp2
    rw [hG.out, eo, er]
    exact bodyPost_ret (v := .tuple #[.agg #[.slice An d.1.length cn, .slice Ap d.2.length cp], .bool false]) (by simp [results, Tryz.results20, go_sem, *]) rfl ⟨_, rfl, hD, b3, fun _ _ h => h⟩
theorem after_any (d : Dk) (k x y : Int) (v : Value) (w : World) (h : DeskR w w.heap.size v d) (hd : deskB d = true) : Calls Tryz.prog 20 #[v, .agg #[.int .i64 k, .int .i64 x, .int .i64 y]] w (GivesD v d (doR d ((k, x), y)) (doOk d ((k, x), y)) w) := by
  by_cases hk : 0 ≤ k ∧ k ≤ 8
  · obtain ⟨n, rfl⟩ : ∃ n : Nat, k = n := ⟨k.toNat, by omega⟩
    have hn : n ≤ 8 := by omega
    cases hb : namedB n x y with
    | false =>
      obtain ⟨e1, e2⟩ := do_no (do_unnamed (d := d) hn hb)
      rw [e1, e2]
      exact after_unnamed d n x y v w h hn hb
    | true =>
      by_cases h8 : n = 8
      · subst h8
        have hq := of_decide_eq_true hb
        obtain ⟨rfl, rfl⟩ : x = 0 ∧ y = 0 := ⟨hq.1 (by decide), hq.2 (by decide)⟩
        have hz : doV d (((8 : Int), 0), 0) = if doOk d (((8 : Int), 0), 0) then some (doR d (((8 : Int), 0), 0)) else none := by
          cases e : doOk d (((8 : Int), 0), 0) with
          | true => exact do_is e
          | false => unfold doOk at e; cases e2 : doV d (((8 : Int), 0), 0) with
            | none => rfl
            | some z => rw [e2] at e; cases e
        exact after_back d _ _ v w h hz (fun e => do_not e)
      · exact after_made d n x y v w h hd (by omega) hb
  · obtain ⟨e1, e2⟩ := do_no (do_out (d := d) (x := x) (y := y) hk)
    rw [e1, e2]
    exact after_out d k x y v w h hk
/-- a desk's boxes written anew -/
theorem DeskR.beside {w : World} {B r : Nat} {v X Y : Value} {d : Dk} (h : DeskR w B v d) (hf : FarD r v d) (d10 : ∃ A n c, w.cell? ⟨r, 0, none⟩ = some (.slice A n c)) (d11 : ∃ A n c, w.cell? ⟨r, 1, none⟩ = some (.slice A n c)) : DeskR ((w.setCell ⟨r, 0, none⟩ X).setCell ⟨r, 1, none⟩ Y) B v d := by
  obtain ⟨n, p, rfl, rn, rp⟩ := h
  have K : ∀ (v : Value) (p : List Sp), Reads w B v p → Reads ((w.setCell ⟨r, 0, none⟩ X).setCell ⟨r, 1, none⟩ Y) B v p := fun v p h =>
    (h.beside d10).beside (by obtain ⟨A, n, c, d⟩ := d11; exact ⟨A, n, c, (World.cell?_setCell_other w _ _ _ (by simp)).trans d⟩)
  obtain ⟨A, c, vs, h1, h2, h3, h4, h5, h6⟩ := rp.is
  refine ⟨n, p, rfl, K _ _ rn, A, c, vs, h1, h2, h3, h4, fun h0 => ?_, fun k p hk => ?_⟩
  · obtain ⟨b, off, rfl, h8, h9⟩ := h5 h0
    refine ⟨b, off, rfl, h8, fun k u hk => ?_⟩
    have hbr : r ≠ b := fun e => hf.elim (fun k => by omega) fun k => k n _ _ _ (by rw [h1]) e.symm
    exact ((World.cell?_setCell_far _ _ _ _ hbr).trans (World.cell?_setCell_far _ _ _ _ hbr)).trans (h9 k u hk)
  · obtain ⟨u, h6, h7⟩ := h6 k p hk
    exact ⟨u, h6, K _ _ h7⟩
theorem DeskR.far {w : World} {B r : Nat} {v : Value} {d : Dk} (h : DeskR w B v d) (hr : B ≤ r) : FarD r v d := by
  obtain ⟨n, p, rfl, rn, rp⟩ := h
  obtain ⟨A, c, vs, h1, h2, h3, h4, h5, h6⟩ := rp.is
  rcases Nat.eq_zero_or_pos d.2.length with h0 | h0
  · exact .inl h0
  · obtain ⟨b, off, rfl, h8, _⟩ := h5 h0
    exact .inr fun n' A' k c' e => by rw [h1] at e; cases e; simp only []; omega
end
/-! ### DeskE -/
section
open Go.RowKit Go.Sort

set_option maxRecDepth 100000 in
set_option maxHeartbeats 1600000 in
theorem implDeskDo_no (d : Dk) (k x y : Int) (v : Value) (w : World) (h : DeskR w w.heap.size v d) (hd : deskB d = false) : Calls Tryz.prog 6 #[v, .agg #[.int .i64 k, .int .i64 x, .int .i64 y]] w (GivesDesk2 ([], []) false w) := by
  have hD0 := h
  obtain ⟨nv, pv, rfl, rn, rp⟩ := h
  have hNn := rn
  have hPp := rp
  obtain ⟨An, cn, rfl, _, _⟩ := rn.slice
  obtain ⟨Ap, cp, rfl, _, hmp⟩ := rp.slice
  obtain ⟨W, hW⟩ : ∃ W, W = ((w.alloc (.cells #[.slice An d.1.length cn, .slice Ap d.2.length cp] 26)).alloc (.cells #[.int .i64 k, .int .i64 x, .int .i64 y] 28)).alloc (.cells #[.slice none 0 0, .slice none 0 0] 26) := ⟨_, rfl⟩
  have b0 : Below w.heap.size w W := by rw [hW]; exact ((box_below w _ _).alloc (by simp) _).alloc (by simp; omega) _
  have r0 : W.heap[w.heap.size]? = some (.cells #[.slice An d.1.length cn, .slice Ap d.2.length cp] 26 (0, 0)) := by rw [hW]; exact three0 w _ _ _
  have r1 : W.heap[w.heap.size + 1]? = some (.cells #[.int .i64 k, .int .i64 x, .int .i64 y] 28 (0, 0)) := by rw [hW]; exact three1 w _ _ _
  have r2 : W.heap[w.heap.size + 1 + 1]? = some (.cells #[.slice none 0 0, .slice none 0 0] 26 (0, 0)) := by rw [hW]; exact three2 w _ _ _
  have s0 : W.heap.size = w.heap.size + 3 := by rw [hW]; simp
  obtain ⟨c0, c1⟩ := cells_of_row r0
  obtain ⟨k0, k1, k2⟩ := cells3_of r1
  have hDk := hD0.kept b0
  go_enter Tryz.func6, Tryz.ntmps6
  go_wp2_with (first | (rw [← hW]; clear hW) | fail)
  refine (implDeskOk_any d _ _ hDk).mono ?_
  rintro e w1 ⟨rfl, b1⟩
  have r2 := (b1.block (w.heap.size + 1 + 1) (by omega)).trans r2
  have bb := below_step b0 b1
  have hz1 := b1.size
  obtain ⟨d10, d11⟩ := cells_of_row r2
  have f10 := frozen_of_row w1 _ 0 _ _ r2
  have f11 := frozen_of_row w1 _ 1 _ _ r2
  have b6 := (bb.setCell (p := ⟨w.heap.size + 1 + 1, 0, none⟩) (by simp only []; omega) (.slice none 0 0)).setCell (p := ⟨w.heap.size + 1 + 1, 1, none⟩) (by simp only []; omega) (.slice none 0 0)
  have hO := DeskO.zero ((w1.setCell ⟨w.heap.size + 1 + 1, 0, none⟩ (.slice none 0 0)).setCell ⟨w.heap.size + 1 + 1, 1, none⟩ (.slice none 0 0)) w.heap.size ((w1.setCell ⟨w.heap.size + 1 + 1, 0, none⟩ (.slice none 0 0)).setCell ⟨w.heap.size + 1 + 1, 1, none⟩ (.slice none 0 0)).heap.size b6.size (Nat.le_refl _)
  go_wp2
  exact bodyPost_ret (v := .tuple #[.agg #[.slice none 0 0, .slice none 0 0], .bool false]) (by simp [results, Tryz.results6, go_sem, *]) rfl ⟨_, rfl, hO, b6⟩
set_option maxRecDepth 100000 in
set_option maxHeartbeats 1600000 in
theorem implDeskDo_yes (d : Dk) (k x y : Int) (v : Value) (w : World) (h : DeskR w w.heap.size v d) (hd : deskB d = true) : Calls Tryz.prog 6 #[v, .agg #[.int .i64 k, .int .i64 x, .int .i64 y]] w (GivesDesk2 (doR d ((k, x), y)) (doOk d ((k, x), y)) w) := by
  have hD0 := h
  obtain ⟨nv, pv, rfl, rn, rp⟩ := h
  have hNn := rn
  have hPp := rp
  obtain ⟨An, cn, rfl, _, _⟩ := rn.slice
  obtain ⟨Ap, cp, rfl, _, hmp⟩ := rp.slice
  obtain ⟨W, hW⟩ : ∃ W, W = ((w.alloc (.cells #[.slice An d.1.length cn, .slice Ap d.2.length cp] 26)).alloc (.cells #[.int .i64 k, .int .i64 x, .int .i64 y] 28)).alloc (.cells #[.slice none 0 0, .slice none 0 0] 26) := ⟨_, rfl⟩
  have b0 : Below w.heap.size w W := by rw [hW]; exact ((box_below w _ _).alloc (by simp) _).alloc (by simp; omega) _
  have r0 : W.heap[w.heap.size]? = some (.cells #[.slice An d.1.length cn, .slice Ap d.2.length cp] 26 (0, 0)) := by rw [hW]; exact three0 w _ _ _
  have r1 : W.heap[w.heap.size + 1]? = some (.cells #[.int .i64 k, .int .i64 x, .int .i64 y] 28 (0, 0)) := by rw [hW]; exact three1 w _ _ _
  have r2 : W.heap[w.heap.size + 1 + 1]? = some (.cells #[.slice none 0 0, .slice none 0 0] 26 (0, 0)) := by rw [hW]; exact three2 w _ _ _
  have s0 : W.heap.size = w.heap.size + 3 := by rw [hW]; simp
  obtain ⟨c0, c1⟩ := cells_of_row r0
  obtain ⟨k0, k1, k2⟩ := cells3_of r1
  have hDk := hD0.kept b0
  obtain ⟨z, hz⟩ : ∃ z, z = doR d ((k, x), y) := ⟨_, rfl⟩
  obtain ⟨b, hb⟩ : ∃ b, b = doOk d ((k, x), y) := ⟨_, rfl⟩
  have hzd : deskB z = true := by rw [hz]; exact desk_doR _ hd
  have HA : ∀ W (v : Value), DeskR W W.heap.size v d → Calls Tryz.prog 20 #[v, .agg #[.int .i64 k, .int .i64 x, .int .i64 y]] W (GivesD v d z b W) := fun W v h => by rw [hz, hb]; exact after_any d k x y v W h hd
  have HA := Lib.hid HA
  rw [← hz, ← hb]
  clear hz hb
  go_enter Tryz.func6, Tryz.ntmps6
  go_wp2_with (first | (rw [← hW]; clear hW) | fail)
  refine (implDeskOk_any d _ _ hDk).mono ?_
  rintro e w1 ⟨rfl, b1⟩
  have c0 := (b1.cell (p := ⟨w.heap.size, 0, none⟩) (by simp only []; omega)).trans c0
  have c1 := (b1.cell (p := ⟨w.heap.size, 1, none⟩) (by simp only []; omega)).trans c1
  have k0 := (b1.cell (p := ⟨w.heap.size + 1, 0, none⟩) (by simp only []; omega)).trans k0
  have k1 := (b1.cell (p := ⟨w.heap.size + 1, 1, none⟩) (by simp only []; omega)).trans k1
  have k2 := (b1.cell (p := ⟨w.heap.size + 1, 2, none⟩) (by simp only []; omega)).trans k2
  have r2 := (b1.block (w.heap.size + 1 + 1) (by omega)).trans r2
  have bb := below_step b0 b1
  have hz1 := b1.size
  have hDk := hDk.kept b1
  go_wp2_with fail
  refine (HA.out _ _ hDk).mono ?_
  rintro e w2 ⟨v2, rfl, ⟨n2, p2, rfl, rn2, rp2⟩, b2, _⟩
  obtain ⟨An2, cn2, rfl, _, _⟩ := rn2.slice
  obtain ⟨Ap2, cp2, rfl, _, _⟩ := rp2.slice
  have hR2 : DeskR w2 w2.heap.size (.agg #[.slice An2 z.1.length cn2, .slice Ap2 z.2.length cp2]) z := ⟨_, _, rfl, rn2, rp2⟩
  have bx := box_below w2 #[.slice An2 z.1.length cn2, .slice Ap2 z.2.length cp2] 26
  have r2 := ((below_step b2 bx).block (w.heap.size + 1 + 1) (by omega)).trans r2
  have b3 := below_step (below_step bb b2) bx
  have hR3 := hR2.kept bx
  have hz2 := b2.size
  clear hDk rn2 rp2
  obtain ⟨l1, l2, l3⟩ := desk_lens hzd
  obtain ⟨W3, hW3⟩ : ∃ W3, W3 = w2.alloc (.cells #[.slice An2 z.1.length cn2, .slice Ap2 z.2.length cp2] 26) := ⟨_, rfl⟩
  have hs3 : W3.heap.size = w2.heap.size + 1 := by rw [hW3]; simp
  rw [← hW3] at b3 hR3 r2 bx
  obtain ⟨q0, q1⟩ := cells_of_row (show W3.heap[w2.heap.size]? = some (.cells #[.slice An2 z.1.length cn2, .slice Ap2 z.2.length cp2] 26 (0, 0)) by rw [hW3]; exact heap_alloc_new w2 _)
  go_wp2_with (first | (rw [← hW3]; clear hW3) | fail)
  refine (copied_any z _ _ hR3 l1 l2 l3).mono ?_
  rintro e w4 ⟨v4, rfl, ho4, b4⟩
  obtain ⟨n4, p4, vs4, rfl, vz4, iz4, _⟩ := id ho4
  have r2 := (b4.block (w.heap.size + 1 + 1) (by omega)).trans r2
  obtain ⟨d10, d11⟩ := cells_of_row r2
  have f10 := frozen_of_row w4 _ 0 _ _ r2
  have f11 := frozen_of_row w4 _ 1 _ _ r2
  have rd4 := ho4.rd
  obtain ⟨n4', p4', e4, rn4, rp4⟩ := rd4
  cases e4
  obtain ⟨An4, cn4, rfl, _, _⟩ := rn4.slice
  obtain ⟨Ap4, cp4, rfl, _, _⟩ := rp4.slice
  have b6 := ((below_step b3 b4).setCell (p := ⟨w.heap.size + 1 + 1, 0, none⟩) (by simp only []; omega) (.slice An4 z.1.length cn4)).setCell (p := ⟨w.heap.size + 1 + 1, 1, none⟩) (by simp only []; omega) (.slice Ap4 z.2.length cp4)
  have hO := ho4.boxed (w := w) (r := w.heap.size + 1 + 1) (X := .slice An4 z.1.length cn4) (Y := .slice Ap4 z.2.length cp4) (by omega) (by omega)
  clear vz4 iz4 rn4 rp4 ho4
  go_wp2
  exact bodyPost_ret (v := .tuple #[.agg #[.slice An4 z.1.length cn4, .slice Ap4 z.2.length cp4], .bool b]) (by simp [results, Tryz.results6, go_sem, *]) rfl ⟨_, rfl, hO, b6⟩
theorem implDeskDo_any (d : Dk) (k x y : Int) (v : Value) (w : World) (h : DeskR w w.heap.size v d) : Calls Tryz.prog 6 #[v, .agg #[.int .i64 k, .int .i64 x, .int .i64 y]] w (GivesDesk2 (deskDoR d ((k, x), y)) (deskDoOk d ((k, x), y)) w) := by
  cases hd : deskB d with
  | false => rw [(deskDo_no hd).1, (deskDo_no hd).2]; exact implDeskDo_no d k x y v w h hd
  | true => rw [(deskDo_yes hd).1, (deskDo_yes hd).2]; exact implDeskDo_yes d k x y v w h hd
end
/-! ### DeskF -/
section
open Go.RowKit Go.Sort

set_option maxRecDepth 100000 in
set_option maxHeartbeats 1600000 in
theorem implRun_no1 (d : Dk) (v vl : Value) (w : World) (h : DeskR w w.heap.size v d) (hd : deskB d = false) : Calls Tryz.prog 13 #[v, vl] w (GivesDeskN ([], []) 0 w) := by
  have hD0 := h
  obtain ⟨nv, pv, rfl, rn, rp⟩ := h
  obtain ⟨An, cn, rfl, _, _⟩ := rn.slice
  obtain ⟨Ap, cp, rfl, _, _⟩ := rp.slice
  obtain ⟨W, hW⟩ : ∃ W, W = (w.alloc (.cells #[.slice An d.1.length cn, .slice Ap d.2.length cp] 26)).alloc (.cells #[.slice none 0 0, .slice none 0 0] 26) := ⟨_, rfl⟩
  have b0 : Below w.heap.size w W := by rw [hW]; exact (box_below w _ _).alloc (by simp) _
  have r0 : W.heap[w.heap.size]? = some (.cells #[.slice An d.1.length cn, .slice Ap d.2.length cp] 26 (0, 0)) := by rw [hW]; exact two0 w _ _
  have r1 : W.heap[w.heap.size + 1]? = some (.cells #[.slice none 0 0, .slice none 0 0] 26 (0, 0)) := by rw [hW]; exact two1 w _ _
  have s0 : W.heap.size = w.heap.size + 2 := by rw [hW]; simp
  obtain ⟨c0, c1⟩ := cells_of_row r0
  have hDk := hD0.kept b0
  go_enter Tryz.func13, Tryz.ntmps13
  go_wp2_with (first | (rw [← hW]; clear hW) | fail)
  refine (implDeskOk_any d _ _ hDk).mono ?_
  rintro e w1 ⟨rfl, b1⟩
  have r1 := (b1.block (w.heap.size + 1) (by omega)).trans r1
  have bb := below_step b0 b1
  have hz1 := b1.size
  obtain ⟨d10, d11⟩ := cells_of_row r1
  have f10 := frozen_of_row w1 _ 0 _ _ r1
  have f11 := frozen_of_row w1 _ 1 _ _ r1
  have b6 := (bb.setCell (p := ⟨w.heap.size + 1, 0, none⟩) (by simp only []; omega) (.slice none 0 0)).setCell (p := ⟨w.heap.size + 1, 1, none⟩) (by simp only []; omega) (.slice none 0 0)
  have hO := DeskO.zero ((w1.setCell ⟨w.heap.size + 1, 0, none⟩ (.slice none 0 0)).setCell ⟨w.heap.size + 1, 1, none⟩ (.slice none 0 0)) w.heap.size ((w1.setCell ⟨w.heap.size + 1, 0, none⟩ (.slice none 0 0)).setCell ⟨w.heap.size + 1, 1, none⟩ (.slice none 0 0)).heap.size b6.size (Nat.le_refl _)
  go_wp2
  exact bodyPost_ret (v := .tuple #[.agg #[.slice none 0 0, .slice none 0 0], .int .i64 0]) (by simp [results, Tryz.results13, go_sem, *]) rfl ⟨_, rfl, hO, b6⟩
set_option maxRecDepth 100000 in
set_option maxHeartbeats 1600000 in
theorem implRun_no2 (d : Dk) (l : List Dd) (v vl : Value) (w : World) (h : DeskR w w.heap.size v d) (hl : CReads w w.heap.size vl l) (hd : deskB d = true) (hn : 40 < l.length) : Calls Tryz.prog 13 #[v, vl] w (GivesDeskN ([], []) 0 w) := by
  obtain ⟨Al, cl, rfl, hl1, hl2⟩ := hl.slice
  unfold maxLen at hl2
  have hn1 : decide ((40 : Int) < (l.length : Int)) = true := decide_eq_true (by omega)
  have hn2 : (40 : Int) < (l.length : Int) := by omega
  have hD0 := h
  obtain ⟨nv, pv, rfl, rn, rp⟩ := h
  obtain ⟨An, cn, rfl, _, _⟩ := rn.slice
  obtain ⟨Ap, cp, rfl, _, _⟩ := rp.slice
  obtain ⟨W, hW⟩ : ∃ W, W = (w.alloc (.cells #[.slice An d.1.length cn, .slice Ap d.2.length cp] 26)).alloc (.cells #[.slice none 0 0, .slice none 0 0] 26) := ⟨_, rfl⟩
  have b0 : Below w.heap.size w W := by rw [hW]; exact (box_below w _ _).alloc (by simp) _
  have r0 : W.heap[w.heap.size]? = some (.cells #[.slice An d.1.length cn, .slice Ap d.2.length cp] 26 (0, 0)) := by rw [hW]; exact two0 w _ _
  have r1 : W.heap[w.heap.size + 1]? = some (.cells #[.slice none 0 0, .slice none 0 0] 26 (0, 0)) := by rw [hW]; exact two1 w _ _
  have s0 : W.heap.size = w.heap.size + 2 := by rw [hW]; simp
  obtain ⟨c0, c1⟩ := cells_of_row r0
  have hDk := hD0.kept b0
  go_enter Tryz.func13, Tryz.ntmps13
  go_wp2_with (first | (rw [← hW]; clear hW) | fail)
  refine (implDeskOk_any d _ _ hDk).mono ?_
  rintro e w1 ⟨rfl, b1⟩
  have r1 := (b1.block (w.heap.size + 1) (by omega)).trans r1
  have bb := below_step b0 b1
  have hz1 := b1.size
  obtain ⟨d10, d11⟩ := cells_of_row r1
  have f10 := frozen_of_row w1 _ 0 _ _ r1
  have f11 := frozen_of_row w1 _ 1 _ _ r1
  have b6 := (bb.setCell (p := ⟨w.heap.size + 1, 0, none⟩) (by simp only []; omega) (.slice none 0 0)).setCell (p := ⟨w.heap.size + 1, 1, none⟩) (by simp only []; omega) (.slice none 0 0)
  have hO := DeskO.zero ((w1.setCell ⟨w.heap.size + 1, 0, none⟩ (.slice none 0 0)).setCell ⟨w.heap.size + 1, 1, none⟩ (.slice none 0 0)) w.heap.size ((w1.setCell ⟨w.heap.size + 1, 0, none⟩ (.slice none 0 0)).setCell ⟨w.heap.size + 1, 1, none⟩ (.slice none 0 0)).heap.size b6.size (Nat.le_refl _)
  go_wp2
  exact bodyPost_ret (v := .tuple #[.agg #[.slice none 0 0, .slice none 0 0], .int .i64 0]) (by simp [results, Tryz.results13, go_sem, *]) rfl ⟨_, rfl, hO, b6⟩
set_option maxRecDepth 100000 in
set_option maxHeartbeats 1600000 in
theorem implRun_yes (d : Dk) (l : List Dd) (v vl : Value) (w : World) (h : DeskR w w.heap.size v d) (hl : CReads w w.heap.size vl l) (hd : deskB d = true) (hn : l.length ≤ 40) : Calls Tryz.prog 13 #[v, vl] w (GivesDeskN (runR d l) (runN d l) w) := by
  obtain ⟨Al, cl, rfl, hl1, hl2, hl3, hl4⟩ := hl.is
  unfold maxLen at hl2
  have hn1 : decide ((40 : Int) < (l.length : Int)) = false := decide_eq_false (by omega)
  have hn2 : ¬ (40 : Int) < (l.length : Int) := by omega
  have hD0 := h
  obtain ⟨nv, pv, rfl, rn, rp⟩ := h
  obtain ⟨An, cn, rfl, _, _⟩ := rn.slice
  obtain ⟨Ap, cp, rfl, _, _⟩ := rp.slice
  obtain ⟨W, hW⟩ : ∃ W, W = (w.alloc (.cells #[.slice An d.1.length cn, .slice Ap d.2.length cp] 26)).alloc (.cells #[.slice none 0 0, .slice none 0 0] 26) := ⟨_, rfl⟩
  have b0 : Below w.heap.size w W := by rw [hW]; exact (box_below w _ _).alloc (by simp) _
  have r0 : W.heap[w.heap.size]? = some (.cells #[.slice An d.1.length cn, .slice Ap d.2.length cp] 26 (0, 0)) := by rw [hW]; exact two0 w _ _
  have r1 : W.heap[w.heap.size + 1]? = some (.cells #[.slice none 0 0, .slice none 0 0] 26 (0, 0)) := by rw [hW]; exact two1 w _ _
  have s0 : W.heap.size = w.heap.size + 2 := by rw [hW]; simp
  obtain ⟨c0, c1⟩ := cells_of_row r0
  have hDk := hD0.kept b0
  go_enter Tryz.func13, Tryz.ntmps13
  go_wp2_with (first | (rw [← hW]; clear hW) | fail)
  refine (implDeskOk_any d _ _ hDk).mono ?_
  rintro e w1 ⟨rfl, b1⟩
  have r0 := (b1.block w.heap.size (by omega)).trans r0
  have r1 := (b1.block (w.heap.size + 1) (by omega)).trans r1
  obtain ⟨c0, c1⟩ := cells_of_row r0
  have f0 := frozen_of_row w1 _ 0 _ _ r0
  have f1 := frozen_of_row w1 _ 1 _ _ r0
  have bb := below_step b0 b1
  have hz1 := b1.size
  have hDk := hDk.kept b1
  have hF : FarD w.heap.size (.agg #[.slice An d.1.length cn, .slice Ap d.2.length cp]) d := hD0.far (Nat.le_refl _)
  go_wp2
  go_loopw [6, 22] (fun c i wr => ∃ (k : Nat) (s1 s2 : Value), k ≤ l.length ∧ i = .int .i64 k ∧ c = .int .i64 (runN d (l.take k) : Nat) ∧ wr.cell? ⟨w.heap.size, 0, none⟩ = some s1 ∧ wr.cell? ⟨w.heap.size, 1, none⟩ = some s2 ∧ wr.frozen? ⟨w.heap.size, 0, none⟩ = false ∧ wr.frozen? ⟨w.heap.size, 1, none⟩ = false ∧
    DeskR wr wr.heap.size (.agg #[s1, s2]) (runR d (l.take k)) ∧ FarD w.heap.size (.agg #[s1, s2]) (runR d (l.take k)) ∧ wr.heap[w.heap.size + 1]? = some (.cells #[.slice none 0 0, .slice none 0 0] 26 (0, 0)) ∧ w1.heap.size ≤ wr.heap.size ∧ Below w.heap.size w wr) (fun _ i _ => l.length - (intOf i).toNat)
  case atStart => exact ⟨0, _, _, Nat.zero_le _, rfl, rfl, c0, c1, f0, f1, hDk, hF, r1, Nat.le_refl _, bb⟩
  case round =>
    clear c0 c1 f0 f1 hDk hF r1 r0 bb b1 b0 hD0 rn rp
    obtain ⟨k, s1, s2, hk, rfl, rfl, c0, c1, f0, f1, hz, hF, r1, hws, hbw⟩ := hrel
    obtain ⟨z, hzz⟩ : ∃ z, z = runR d (l.take k) := ⟨_, rfl⟩
    have hzd : deskB z = true := by rw [hzz]; exact desk_runR _ hd
    obtain ⟨N, hN⟩ : ∃ N, N = runN d (l.take k) := ⟨_, rfl⟩
    have hNle : N ≤ 40 := by have := runN_le d (l.take k); rw [List.length_take] at this; omega
    rw [← hzz] at hz hF
    rw [← hN]
    replace hzz := Lib.hid hzz
    replace hN := Lib.hid hN
    obtain ⟨n1, p1, e1, rn1, rp1⟩ := id hz
    cases e1
    obtain ⟨An1, cn1, rfl, _, _⟩ := rn1.slice
    obtain ⟨Ap1, cp1, rfl, _, _⟩ := rp1.slice
    clear rn1 rp1
    by_cases hlt : k < l.length
    · obtain ⟨⟨⟨kd, x⟩, y⟩, ha⟩ : ∃ a, l[k]? = some a := ⟨_, List.getElem?_eq_getElem hlt⟩
      obtain ⟨g, off, rfl, hg, hcv⟩ := hl4 (by omega)
      have t3 := (hcv _ _ _ _ ha).below hbw hg
      obtain ⟨t0, t1, t2⟩ := t3
      have hm3 : (0 : Int) ≤ (k : Int) := Int.natCast_nonneg _
      have hm4 : (k : Int) < (l.length : Int) := by omega
      have hm5 : (k : Int) < (cl : Int) := by omega
      obtain ⟨z2, hz2⟩ : ∃ z2, z2 = doR z ((kd, x), y) := ⟨_, rfl⟩
      obtain ⟨bo, hbo⟩ : ∃ bo, bo = doOk z ((kd, x), y) := ⟨_, rfl⟩
      have HA : ∀ W (v : Value), DeskR W W.heap.size v z → Calls Tryz.prog 20 #[v, .agg #[.int .i64 kd, .int .i64 x, .int .i64 y]] W (GivesD v z z2 bo W) := fun W v h => by rw [hz2, hbo]; exact after_any z kd x y v W h hzd
      replace HA := Lib.hid HA
      have HT : l.take (k + 1) = l.take k ++ [((kd, x), y)] := by rw [List.take_add_one, ha]; rfl
      have HR : z2 = runR d (l.take (k + 1)) := by rw [HT, runR_snoc, ← hzz.out, hz2]
      have HNN : N + (if bo then 1 else 0) = runN d (l.take (k + 1)) := by rw [HT, runN_snoc, ← hzz.out, hbo, hN.out]
      replace HR := Lib.hid HR
      replace HNN := Lib.hid HNN
      clear hz2 hbo HT ha hcv hl4
      obtain ⟨W2, hW2⟩ : ∃ W2, W2 = wr.alloc (.cells #[.int .i64 kd, .int .i64 x, .int .i64 y] 28) := ⟨_, rfl⟩
      have bx : Below wr.heap.size wr W2 := by rw [hW2]; exact box_below wr _ _
      have rd2 : W2.heap[wr.heap.size]? = some (.cells #[.int .i64 kd, .int .i64 x, .int .i64 y] 28 (0, 0)) := by rw [hW2]; exact heap_alloc_new wr _
      obtain ⟨k0, k1, k2⟩ := cells3_of rd2
      have hs2 : W2.heap.size = wr.heap.size + 1 := by rw [hW2]; simp
      have hz := hz.kept bx
      have C0 := (bx.cell (p := ⟨w.heap.size, 0, none⟩) (by simp only []; omega)).trans c0
      have C1 := (bx.cell (p := ⟨w.heap.size, 1, none⟩) (by simp only []; omega)).trans c1
      have F0 := (bx.frozen (p := ⟨w.heap.size, 0, none⟩) (by simp only []; omega)).trans f0
      have F1 := (bx.frozen (p := ⟨w.heap.size, 1, none⟩) (by simp only []; omega)).trans f1
      go_wp2_with (first | (rw [← hW2]; clear hW2) | fail)
      refine (HA.out _ _ hz).mono ?_
      rintro e w3 ⟨v3, rfl, hz3, b3, far3⟩
      have hF3 := far3 w.heap.size (by omega) hF
      obtain ⟨n3, p3, e3, rn3, rp3⟩ := id hz3
      subst e3
      obtain ⟨An3, cn3, rfl, _, _⟩ := rn3.slice
      obtain ⟨Ap3, cp3, rfl, _, _⟩ := rp3.slice
      clear rn3 rp3 far3 hF hz
      have hs3 := b3.size
      have C0 := (b3.cell (p := ⟨w.heap.size, 0, none⟩) (by simp only []; omega)).trans C0
      have C1 := (b3.cell (p := ⟨w.heap.size, 1, none⟩) (by simp only []; omega)).trans C1
      have F0 := (b3.frozen (p := ⟨w.heap.size, 0, none⟩) (by simp only []; omega)).trans F0
      have F1 := (b3.frozen (p := ⟨w.heap.size, 1, none⟩) (by simp only []; omega)).trans F1
      have r1 := ((below_step bx b3).block (w.heap.size + 1) (by omega)).trans r1
      have bb := below_step hbw (below_step bx b3)
      obtain ⟨W4, hW4⟩ : ∃ W4, W4 = w3.alloc (.cells #[.slice An3 z2.1.length cn3, .slice Ap3 z2.2.length cp3] 26) := ⟨_, rfl⟩
      have bx4 : Below w3.heap.size w3 W4 := by rw [hW4]; exact box_below w3 _ _
      have rd4 : W4.heap[w3.heap.size]? = some (.cells #[.slice An3 z2.1.length cn3, .slice Ap3 z2.2.length cp3] 26 (0, 0)) := by rw [hW4]; exact heap_alloc_new w3 _
      obtain ⟨q0, q1⟩ := cells_of_row rd4
      have hs4 : W4.heap.size = w3.heap.size + 1 := by rw [hW4]; simp
      have hz4 := hz3.kept bx4
      have C0 := (bx4.cell (p := ⟨w.heap.size, 0, none⟩) (by simp only []; omega)).trans C0
      have C1 := (bx4.cell (p := ⟨w.heap.size, 1, none⟩) (by simp only []; omega)).trans C1
      have F0 := (bx4.frozen (p := ⟨w.heap.size, 0, none⟩) (by simp only []; omega)).trans F0
      have F1 := (bx4.frozen (p := ⟨w.heap.size, 1, none⟩) (by simp only []; omega)).trans F1
      have r1 := (bx4.block (w.heap.size + 1) (by omega)).trans r1
      have bb := below_step bb bx4
      have hz5 := (hz4.beside (X := .slice An3 z2.1.length cn3) (Y := .slice Ap3 z2.2.length cp3) hF3 ⟨_, _, _, C0⟩ ⟨_, _, _, C1⟩)
      have b6 := (bb.setCell (p := ⟨w.heap.size, 0, none⟩) (Nat.le_refl _) (.slice An3 z2.1.length cn3)).setCell (p := ⟨w.heap.size, 1, none⟩) (Nat.le_refl _) (.slice Ap3 z2.2.length cp3)
      have g0 : ((W4.setCell ⟨w.heap.size, 0, none⟩ (.slice An3 z2.1.length cn3)).setCell ⟨w.heap.size, 1, none⟩ (.slice Ap3 z2.2.length cp3)).cell? ⟨w.heap.size, 0, none⟩ = some (.slice An3 z2.1.length cn3) :=
        (World.cell?_setCell_other _ _ _ _ (by simp)).trans (World.cell?_setCell_same' _ _ _ (by rw [C0]; rfl))
      have g1 : ((W4.setCell ⟨w.heap.size, 0, none⟩ (.slice An3 z2.1.length cn3)).setCell ⟨w.heap.size, 1, none⟩ (.slice Ap3 z2.2.length cp3)).cell? ⟨w.heap.size, 1, none⟩ = some (.slice Ap3 z2.2.length cp3) :=
        World.cell?_setCell_same' _ _ _ (by rw [World.cell?_setCell_other _ _ _ _ (by simp), C1]; rfl)
      have r6 : ((W4.setCell ⟨w.heap.size, 0, none⟩ (.slice An3 z2.1.length cn3)).setCell ⟨w.heap.size, 1, none⟩ (.slice Ap3 z2.2.length cp3)).heap[w.heap.size + 1]? = some (.cells #[.slice none 0 0, .slice none 0 0] 26 (0, 0)) := (set2_other (by omega)).trans r1
      have p0 : ((W4.setCell ⟨w.heap.size, 0, none⟩ (.slice An3 z2.1.length cn3)).setCell ⟨w.heap.size, 1, none⟩ (.slice Ap3 z2.2.length cp3)).frozen? ⟨w.heap.size, 0, none⟩ = false := by rw [World.frozen?_setCell, World.frozen?_setCell]; exact F0
      have p1 : ((W4.setCell ⟨w.heap.size, 0, none⟩ (.slice An3 z2.1.length cn3)).setCell ⟨w.heap.size, 1, none⟩ (.slice Ap3 z2.2.length cp3)).frozen? ⟨w.heap.size, 1, none⟩ = false := by rw [World.frozen?_setCell, World.frozen?_setCell]; exact F1
      have sz6 : ((W4.setCell ⟨w.heap.size, 0, none⟩ (.slice An3 z2.1.length cn3)).setCell ⟨w.heap.size, 1, none⟩ (.slice Ap3 z2.2.length cp3)).heap.size = W4.heap.size := by rw [World.size_setCell, World.size_setCell]
      have hR1 : ∃ k' s1 s2, k' ≤ l.length ∧ Value.int .i64 ((k : Int) + 1) = .int .i64 (k' : Nat) ∧ Value.int .i64 ((N + (if bo then 1 else 0) : Nat) : Int) = .int .i64 (runN d (l.take k') : Nat) ∧ ((W4.setCell ⟨w.heap.size, 0, none⟩ (.slice An3 z2.1.length cn3)).setCell ⟨w.heap.size, 1, none⟩ (.slice Ap3 z2.2.length cp3)).cell? ⟨w.heap.size, 0, none⟩ = some s1 ∧ ((W4.setCell ⟨w.heap.size, 0, none⟩ (.slice An3 z2.1.length cn3)).setCell ⟨w.heap.size, 1, none⟩ (.slice Ap3 z2.2.length cp3)).cell? ⟨w.heap.size, 1, none⟩ = some s2 ∧ ((W4.setCell ⟨w.heap.size, 0, none⟩ (.slice An3 z2.1.length cn3)).setCell ⟨w.heap.size, 1, none⟩ (.slice Ap3 z2.2.length cp3)).frozen? ⟨w.heap.size, 0, none⟩ = false ∧ ((W4.setCell ⟨w.heap.size, 0, none⟩ (.slice An3 z2.1.length cn3)).setCell ⟨w.heap.size, 1, none⟩ (.slice Ap3 z2.2.length cp3)).frozen? ⟨w.heap.size, 1, none⟩ = false ∧
          DeskR ((W4.setCell ⟨w.heap.size, 0, none⟩ (.slice An3 z2.1.length cn3)).setCell ⟨w.heap.size, 1, none⟩ (.slice Ap3 z2.2.length cp3)) ((W4.setCell ⟨w.heap.size, 0, none⟩ (.slice An3 z2.1.length cn3)).setCell ⟨w.heap.size, 1, none⟩ (.slice Ap3 z2.2.length cp3)).heap.size (.agg #[s1, s2]) (runR d (l.take k')) ∧ FarD w.heap.size (.agg #[s1, s2]) (runR d (l.take k')) ∧ ((W4.setCell ⟨w.heap.size, 0, none⟩ (.slice An3 z2.1.length cn3)).setCell ⟨w.heap.size, 1, none⟩ (.slice Ap3 z2.2.length cp3)).heap[w.heap.size + 1]? = some (.cells #[.slice none 0 0, .slice none 0 0] 26 (0, 0)) ∧ w1.heap.size ≤ ((W4.setCell ⟨w.heap.size, 0, none⟩ (.slice An3 z2.1.length cn3)).setCell ⟨w.heap.size, 1, none⟩ (.slice Ap3 z2.2.length cp3)).heap.size ∧ Below w.heap.size w ((W4.setCell ⟨w.heap.size, 0, none⟩ (.slice An3 z2.1.length cn3)).setCell ⟨w.heap.size, 1, none⟩ (.slice Ap3 z2.2.length cp3)) :=
        ⟨k + 1, _, _, hlt, rfl, by rw [HNN.out], g0, g1, p0, p1, by rw [← HR.out, sz6]; exact hz5, by rw [← HR.out]; exact hF3, r6, by rw [sz6]; omega, b6⟩
      replace hR1 := Lib.hid hR1
      clear g0 g1 p0 p1 hz5 hz4 hz3 hF3 r6 b6
      cases bo with
      | true =>
        go_wp2_with (first | (rw [← hW4]; clear hW4) | fail)
        go_roundw
        case rel => exact hR1.out
        case measure => simp only [intOf]; omega
      | false =>
        go_wp2_with (first | (rw [← hW4]; clear hW4) | fail)
        go_roundw
        case rel => exact hR1.out
        case measure => simp only [intOf]; omega
    · obtain rfl : k = l.length := by omega
      have hRn : z = runR d l := by rw [hzz.out, List.take_length]
      have hNn : N = runN d l := by rw [hN.out, List.take_length]
      obtain ⟨l1, l2, l3⟩ := desk_lens hzd
      replace hRn := Lib.hid hRn
      replace hNn := Lib.hid hNn
      clear hzz hN
      go_wp2_with fail
      refine (copied_any z _ _ hz l1 l2 l3).mono ?_
      rintro e w4 ⟨v4, rfl, ho4, b4⟩
      have r2 := (b4.block (w.heap.size + 1) (by omega)).trans r1
      obtain ⟨d10, d11⟩ := cells_of_row r2
      have f10 := frozen_of_row w4 _ 0 _ _ r2
      have f11 := frozen_of_row w4 _ 1 _ _ r2
      obtain ⟨n4', p4', e4, rn4, rp4⟩ := ho4.rd
      subst e4
      obtain ⟨An4, cn4, rfl, _, _⟩ := rn4.slice
      obtain ⟨Ap4, cp4, rfl, _, _⟩ := rp4.slice
      have b6 := ((below_step hbw b4).setCell (p := ⟨w.heap.size + 1, 0, none⟩) (by simp only []; omega) (.slice An4 z.1.length cn4)).setCell (p := ⟨w.heap.size + 1, 1, none⟩) (by simp only []; omega) (.slice Ap4 z.2.length cp4)
      have hO := ho4.boxed (w := w) (r := w.heap.size + 1) (X := .slice An4 z.1.length cn4) (Y := .slice Ap4 z.2.length cp4) (by omega) (by omega)
      clear rn4 rp4 ho4
      go_wp2
      exact bodyPost_ret (v := .tuple #[.agg #[.slice An4 z.1.length cn4, .slice Ap4 z.2.length cp4], .int .i64 (N : Int)]) (by simp [results, Tryz.results13, go_sem, *]) rfl ⟨_, by rw [← hNn.out], by rw [← hRn.out]; exact hO, b6⟩
theorem implDeskRun_any (d : Dk) (l : List Dd) (v vl : Value) (w : World) (h : DeskR w w.heap.size v d) (hl : CReads w w.heap.size vl l) : Calls Tryz.prog 13 #[v, vl] w (GivesDeskN (deskRunR d l) (deskRunN d l) w) := by
  cases hr : runB d l with
  | false =>
    rw [(run_no hr).1, (run_no hr).2]
    cases hd : deskB d with
    | false => exact implRun_no1 d v vl w h hd
    | true =>
      unfold runB at hr
      rw [hd, Bool.true_and] at hr
      exact implRun_no2 d l v vl w h hl hd (by have := of_decide_eq_false hr; omega)
  | true =>
    rw [(run_yes hr).1, (run_yes hr).2]
    exact implRun_yes d l v vl w h hl (run_parts hr).1 (run_parts hr).2
end
end Go.Proofs.YtkiidmdgdjphjaaGreat
