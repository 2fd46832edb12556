/- Texts of one kind, merged: Tell, BallJ, BallI. No conditions but those that stand in each theorem. -/
import Derived.Test.YtkiidmdgdjphjaaGreatBallT
import Derived.Test.YtkiidmdgdjphjaaGreatPicWalk
import Derived.Laws.EntriesVeiled
import Derived.Test.YtkiidmdgdjphjaaGreatBetwI
import Derived.Test.YtkiidmdgdjphjaaGreatBox
import Derived.RegionTactic
import Derived.WalkSpells
import Derived.Lib.SliceRun
namespace Go.Proofs.YtkiidmdgdjphjaaGreat
/-! ### Tell -/
section
open Go.RowKit Go.Sort

def tellI (x y way : Int) : Int := if way = 0 then x + y else if way = 1 then maxI x y else maxI (maxI x y) ((2 * (x + y) + 2) / 3)
theorem farI_tell (a b : Sp) (way : Int) : farI a b way = tellI (absI (a.1 - b.1)) (absI (a.2 - b.2)) way := rfl
theorem tellI_0 (x y : Int) : tellI x y 0 = x + y := rfl
theorem tellI_1 (x y : Int) : tellI x y 1 = max x y := by unfold tellI; rw [if_neg (by decide), if_pos rfl, maxI_is]
theorem tellI_2 (x y : Int) : tellI x y 2 = max (max x y) ((2 * (x + y) + 2) / 3) := by unfold tellI; rw [if_neg (by decide), if_neg (by decide), maxI_is, maxI_is]
theorem apart_any (x y : Int) (w : World) (h : -1000 ≤ x ∧ x ≤ 1000) (k : -1000 ≤ y ∧ y ≤ 1000) : Calls Tryz.prog 136 #[.int .i64 x, .int .i64 y] w (Gives (.int .i64 (absI (x - y))) w) := by
  obtain ⟨h1, h2⟩ := h
  obtain ⟨k1, k2⟩ := k
  rw [absI_is]
  go_enter Tryz.func136, Tryz.ntmps136
  go_wp2
  all_goals go_ret
  all_goals exact ⟨ret_int (by omega), Below.refl _ _⟩
theorem twoThirds_any (n : Int) (w : World) (h : 0 ≤ n ∧ n ≤ 10000) : Calls Tryz.prog 131 #[.int .i64 n] w (Gives (.int .i64 ((2 * n + 2) / 3)) w) := by
  obtain ⟨h1, h2⟩ := h
  go_enter Tryz.func131, Tryz.ntmps131
  go_wp2
  go_ret
  exact ⟨ret_int (by omega), Below.refl _ _⟩
/-- a way to tell distances: the function that does it -/
def TellIs (F : FuncId) (way : Int) : Prop := ∀ (x y : Int) (w : World), 0 ≤ x → x ≤ 2000 → 0 ≤ y → y ≤ 2000 → Calls Tryz.prog F #[.int .i64 x, .int .i64 y] w (Gives (.int .i64 (tellI x y way)) w)
theorem tell_0 : TellIs 128 0 := by
  intro x y w h1 h2 h3 h4
  rw [tellI_0]
  go_enter Tryz.func128, Tryz.ntmps128
  go_wp2
  go_ret
  exact ⟨ret_int (by omega), Below.refl _ _⟩
theorem tell_1 : TellIs 129 1 := by
  intro x y w h1 h2 h3 h4
  rw [tellI_1]
  go_enter Tryz.func129, Tryz.ntmps129
  go_wp2
  all_goals go_ret
  all_goals exact ⟨ret_int (by omega), Below.refl _ _⟩
theorem tell_2 : TellIs 130 2 := by
  intro x y w h1 h2 h3 h4
  rw [tellI_2]
  obtain ⟨t, ht⟩ : ∃ t, t = (2 * (x + y) + 2) / 3 := ⟨_, rfl⟩
  have H := Lib.hid ht
  have t0 : 0 ≤ t := by omega
  have t1 : t ≤ 10000 := by omega
  rw [← ht]
  clear ht
  have hc := twoThirds_any (x + y) w (by omega)
  rw [← H.out] at hc
  go_enter Tryz.func130, Tryz.ntmps130
  go_wp2_with fail
  refine hc.mono ?_
  rintro e w1 ⟨rfl, b1⟩
  go_wp2
  all_goals go_ret
  all_goals exact ⟨ret_int (by omega), b1⟩

/-- the functions, way by way -/
def tellF (way : Int) : FuncId := if way = 0 then 128 else if way = 1 then 129 else 130
theorem tellF_0 : tellF 0 = 128 := rfl
theorem tellF_1 : tellF 1 = 129 := rfl
theorem tellF_2 : tellF 2 = 130 := rfl
theorem way_cases {way : Int} (h : wayOk way = true) : way = 0 ∨ way = 1 ∨ way = 2 := by
  have : 0 ≤ way ∧ way ≤ 2 := of_decide_eq_true h
  omega
theorem tellF_is {way : Int} (h : wayOk way = true) : TellIs (tellF way) way := by
  have : 0 ≤ way ∧ way ≤ 2 := of_decide_eq_true h
  obtain rfl | rfl | rfl : way = 0 ∨ way = 1 ∨ way = 2 := by omega
  · exact tell_0
  · exact tell_1
  · exact tell_2
set_option maxHeartbeats 400000 in
theorem between_any (x y u v way : Int) (w : World) (hw : wayOk way = true) (h : -1000 ≤ x ∧ x ≤ 1000 ∧ -1000 ≤ y ∧ y ≤ 1000) (k : -1000 ≤ u ∧ u ≤ 1000 ∧ -1000 ≤ v ∧ v ≤ 1000) :
    Calls Tryz.prog 122 #[.func (.func (tellF way)) #[] #[], .agg #[.int .i64 x, .int .i64 y], .agg #[.int .i64 u, .int .i64 v]] w (Gives (.int .i64 (farI (x, y) (u, v) way)) w) := by
  obtain ⟨h1, h2, h3, h4⟩ := h
  obtain ⟨k1, k2, k3, k4⟩ := k
  rw [farI_tell]
  simp only []
  obtain ⟨dx, hdx⟩ : ∃ dx, dx = absI (x - u) := ⟨_, rfl⟩
  obtain ⟨dy, hdy⟩ : ∃ dy, dy = absI (y - v) := ⟨_, rfl⟩
  have p0 : 0 ≤ dx ∧ dx ≤ 2000 := by rw [hdx]; unfold absI; split <;> omega
  have p1 : 0 ≤ dy ∧ dy ≤ 2000 := by rw [hdy]; unfold absI; split <;> omega
  have cx := fun w1 => apart_any x u w1 (by omega) (by omega)
  have cy := fun w1 => apart_any y v w1 (by omega) (by omega)
  rw [← hdx] at cx ⊢
  rw [← hdy] at cy ⊢
  have CX := Lib.hid cx
  have CY := Lib.hid cy
  clear cx cy hdx hdy
  have b0 : Below w.heap.size w ((w.alloc (.cells #[.int .i64 x, .int .i64 y] 53)).alloc (.cells #[.int .i64 u, .int .i64 v] 53)) := (box_below w _ _).alloc (by simp) _
  obtain ⟨W, hW⟩ : ∃ W, W = (w.alloc (.cells #[.int .i64 x, .int .i64 y] 53)).alloc (.cells #[.int .i64 u, .int .i64 v] 53) := ⟨_, rfl⟩
  have q0 := cell_regrown (show W.cell? ⟨w.heap.size, 0, none⟩ = some (.int .i64 x) by rw [hW]; simp [go_sem, World.cell?_alloc_past])
  have q1 := cell_regrown (show W.cell? ⟨w.heap.size, 1, none⟩ = some (.int .i64 y) by rw [hW]; simp [go_sem, World.cell?_alloc_past])
  have q2 := cell_regrown (show W.cell? ⟨w.heap.size + 1, 0, none⟩ = some (.int .i64 u) by rw [hW]; simp [go_sem])
  have q3 := cell_regrown (show W.cell? ⟨w.heap.size + 1, 1, none⟩ = some (.int .i64 v) by rw [hW]; simp [go_sem])
  rw [← hW] at b0
  obtain rfl | rfl | rfl := way_cases hw
  · rw [tellF_0]
    have HF := Lib.hid (fun w1 => tell_0 dx dy w1 p0.1 p0.2 p1.1 p1.2)
    go_enter Tryz.func122, Tryz.ntmps122
    go_wp2_with fail
    rw [← hW]
    clear hW
    go_wp2
    refine wp_region_quiet_below (by kernel_rfl) (by kernel_rfl) ?_
    repeat (go_big_quiet_step (first | (go_at_call 136; with_reducible exact gives_regrown (fun w1 _ => CX.out w1) _ _) | (go_at_call 136; with_reducible exact gives_regrown (fun w1 _ => CY.out w1) _ _) | (with_reducible exact gives_regrown (fun w1 _ => HF.out w1) _ _)))
    refine wpQuiet_nil ?_
    intro _ hw'
    obtain ⟨⟨dq, osq⟩, hw''⟩ := hw'
    subst hw''
    go_wp2
    go_ret
    exact ⟨rfl, below_step b0 (below_regrown _ _ _)⟩
  · rw [tellF_1]
    have HF := Lib.hid (fun w1 => tell_1 dx dy w1 p0.1 p0.2 p1.1 p1.2)
    go_enter Tryz.func122, Tryz.ntmps122
    go_wp2_with fail
    rw [← hW]
    clear hW
    go_wp2
    refine wp_region_quiet_below (by kernel_rfl) (by kernel_rfl) ?_
    repeat (go_big_quiet_step (first | (go_at_call 136; with_reducible exact gives_regrown (fun w1 _ => CX.out w1) _ _) | (go_at_call 136; with_reducible exact gives_regrown (fun w1 _ => CY.out w1) _ _) | (with_reducible exact gives_regrown (fun w1 _ => HF.out w1) _ _)))
    refine wpQuiet_nil ?_
    intro _ hw'
    obtain ⟨⟨dq, osq⟩, hw''⟩ := hw'
    subst hw''
    go_wp2
    go_ret
    exact ⟨rfl, below_step b0 (below_regrown _ _ _)⟩
  · rw [tellF_2]
    have HF := Lib.hid (fun w1 => tell_2 dx dy w1 p0.1 p0.2 p1.1 p1.2)
    go_enter Tryz.func122, Tryz.ntmps122
    go_wp2_with fail
    rw [← hW]
    clear hW
    go_wp2
    refine wp_region_quiet_below (by kernel_rfl) (by kernel_rfl) ?_
    repeat (go_big_quiet_step (first | (go_at_call 136; with_reducible exact gives_regrown (fun w1 _ => CX.out w1) _ _) | (go_at_call 136; with_reducible exact gives_regrown (fun w1 _ => CY.out w1) _ _) | (with_reducible exact gives_regrown (fun w1 _ => HF.out w1) _ _)))
    refine wpQuiet_nil ?_
    intro _ hw'
    obtain ⟨⟨dq, osq⟩, hw''⟩ := hw'
    subst hw''
    go_wp2
    go_ret
    exact ⟨rfl, below_step b0 (below_regrown _ _ _)⟩

def GivesTell (F : FuncId) (w : World) (e : Ending) (w' : World) : Prop := e = .returned (.tuple #[.func (.func F) #[] #[], .bool true]) ∧ Below w.heap.size w w'
def GivesNone (w : World) (e : Ending) (w' : World) : Prop := e = .returned (.tuple #[.nilFunc, .bool false]) ∧ Below w.heap.size w w'
def GivesThree (w : World) (e : Ending) (w' : World) : Prop := e = .returned (.agg #[.func (.func 128) #[] #[], .func (.func 129) #[] #[], .func (.func 130) #[] #[]]) ∧ Below w.heap.size w w'
theorem distances_any (w : World) : Calls Tryz.prog 110 #[] w (GivesThree w) := by
  go_enter Tryz.func110, Tryz.ntmps110
  go_wp2
  refine bodyPost_ret (v := .agg #[.func (.func 128) #[] #[], .func (.func 129) #[] #[], .func (.func 130) #[] #[]]) (by simp [results, Tryz.results110, go_sem]) rfl ⟨rfl, ?_⟩
  exact (Below.refl _ _).alloc (Nat.le_refl _) _
theorem distanceIn_no {way : Int} (w : World) (h : wayOk way = false) : Calls Tryz.prog 97 #[.int .i64 way] w (GivesNone w) := by
  have h' : ¬ (0 ≤ way ∧ way ≤ 2) := of_decide_eq_false h
  clear h
  by_cases h1 : way < 0
  · clear h'
    go_enter Tryz.func97, Tryz.ntmps97
    go_wp2
    go_ret2
    exact ⟨rfl, Below.refl _ _⟩
  · have h2 : 3 ≤ way := by omega
    clear h'
    go_enter Tryz.func97, Tryz.ntmps97
    go_wp2
    go_ret2
    exact ⟨rfl, Below.refl _ _⟩
theorem distanceIn_yes {way : Int} (w : World) (h : wayOk way = true) : Calls Tryz.prog 97 #[.int .i64 way] w (GivesTell (tellF way) w) := by
  obtain rfl | rfl | rfl := way_cases h
  · have i0 : ∀ w, (Instr.index 119 (.agg #[.func (.func 128) #[] #[], .func (.func 129) #[] #[], .func (.func 130) #[] #[]]) (.int .i64 0)).run Tryz.prog w = .ok (.func (.func 128) #[] #[]) w := fun _ => by kernel_rfl
    go_enter Tryz.func97, Tryz.ntmps97
    go_wp2_with fail
    refine (distances_any _).mono ?_
    rintro e w1 ⟨rfl, b1⟩
    go_wp2
    go_ret2
    exact ⟨rfl, b1⟩
  · have i0 : ∀ w, (Instr.index 119 (.agg #[.func (.func 128) #[] #[], .func (.func 129) #[] #[], .func (.func 130) #[] #[]]) (.int .i64 1)).run Tryz.prog w = .ok (.func (.func 129) #[] #[]) w := fun _ => by kernel_rfl
    go_enter Tryz.func97, Tryz.ntmps97
    go_wp2_with fail
    refine (distances_any _).mono ?_
    rintro e w1 ⟨rfl, b1⟩
    go_wp2
    go_ret2
    exact ⟨rfl, b1⟩
  · have i0 : ∀ w, (Instr.index 119 (.agg #[.func (.func 128) #[] #[], .func (.func 129) #[] #[], .func (.func 130) #[] #[]]) (.int .i64 2)).run Tryz.prog w = .ok (.func (.func 130) #[] #[]) w := fun _ => by kernel_rfl
    go_enter Tryz.func97, Tryz.ntmps97
    go_wp2_with fail
    refine (distances_any _).mono ?_
    rintro e w1 ⟨rfl, b1⟩
    go_wp2
    go_ret2
    exact ⟨rfl, b1⟩
end
/-! ### BallJ -/
section
open Go.RowKit Go.Sort

/-- the inner closure: whether a spot is near enough -/
theorem ballIn_any (T R : Nat) (x y r way : Int) (w : World) (hw : wayOk way = true) (hx : -100 ≤ x ∧ x ≤ 100 ∧ -100 ≤ y ∧ y ≤ 100)
    (hT : T < w.heap.size) (hR : R < w.heap.size) (cT : w.cell? ⟨T, 0, none⟩ = some (.func (.func (tellF way)) #[] #[])) (cR : w.cell? ⟨R, 0, none⟩ = some (.int .i64 r)) :
    Calls Tryz.prog 121 #[.agg #[.int .i64 x, .int .i64 y], .pointer (some ⟨T, 0, none⟩), .pointer (some ⟨R, 0, none⟩)] w (Gives (.bool (inBall r way (x, y))) w) := by
  have b0 := box_below w #[.int .i64 x, .int .i64 y] 53
  have f0 := cell_regrown ((b0.cell (p := ⟨T, 0, none⟩) hT).trans cT)
  have f1 := cell_regrown ((b0.cell (p := ⟨R, 0, none⟩) hR).trans cR)
  have f3 := cell_regrown (w := w.alloc (Obj.cells #[Value.int IntKind.i64 x, Value.int IntKind.i64 y] 53)) (a := ⟨w.heap.size, 0, none⟩) (v := .int .i64 x) (by simp [go_sem])
  have f4 := cell_regrown (w := w.alloc (Obj.cells #[Value.int IntKind.i64 x, Value.int IntKind.i64 y] 53)) (a := ⟨w.heap.size, 1, none⟩) (v := .int .i64 y) (by simp [go_sem])
  have cc := Lib.hid (fun w1 => between_any x y 0 0 way w1 hw (by omega) (by omega))
  have fn := farI_nonneg (x, y) (0, 0) way
  have e : inBall r way (x, y) = decide (farI (x, y) (0, 0) way ≤ r) := rfl
  rw [e]
  clear e
  generalize farI (x, y) (0, 0) way = d at *
  clear cT cR hw
  go_enter Tryz.func121, Tryz.ntmps121
  go_wp2
  refine wp_region_quiet_below (by kernel_rfl) (by kernel_rfl) ?_
  repeat (go_big_quiet_step (first | (go_at_call 122; with_reducible exact gives_regrown (fun w1 _ => cc.out w1) _ _)))
  refine wpQuiet_nil ?_
  intro _ hw'
  obtain ⟨⟨dq, osq⟩, hw''⟩ := hw'
  subst hw''
  go_wp2
  go_ret
  exact ⟨rfl, b0.trans ((below_regrown _ _ _).mono (by simp))⟩

structure Maker (M T : Nat) (way : Int) (w : World) : Prop where
  m : M < w.heap.size
  t : T < w.heap.size
  ne : M ≠ T
  row : w.heap[M]? = some (.cells #[.slice none 0 0, .slice none 0 0, .slice none 0 0, .slice none 0 0] 125 (0, 0))
  tell : w.cell? ⟨T, 0, none⟩ = some (.func (.func (tellF way)) #[] #[])
def MakerPost (way : Int) (w : World) (e : Ending) (w' : World) : Prop := ∃ M T : Nat, e = .returned (.func (.func 120) #[] #[.pointer (some ⟨M, 0, none⟩), .pointer (some ⟨T, 0, none⟩)]) ∧ w.heap.size ≤ M ∧ Maker M T way w' ∧ Below w.heap.size w w'
theorem ballsBy_any (way : Int) (w : World) : Calls Tryz.prog 102 #[.func (.func (tellF way)) #[] #[]] w (MakerPost way w) := by
  go_enter Tryz.func102, Tryz.ntmps102
  go_wp2
  go_ret
  have b1 := box_below w #[.func (.func (tellF way)) #[] #[]] 99
  refine ⟨w.heap.size + 1, w.heap.size, rfl, by omega, ⟨by simp, by simp; omega, by omega, ?_, ?_⟩, b1.alloc (by simp) _⟩
  · have := heap_alloc_new (w.alloc (.cells #[.func (.func (tellF way)) #[] #[]] 99)) (.cells #[.slice none 0 0, .slice none 0 0, .slice none 0 0, .slice none 0 0] 125)
    rw [World.size_alloc] at this; exact this
  · simp [go_sem, World.cell?_alloc_past]
theorem Owns.setOther {w : World} {base : Nat} {v : Value} {ps : List Sp} (h : Owns w base v ps) {a : Addr} (ha : a.block < base) (x : Value) : Owns (w.setCell a x) base v ps := by
  refine ⟨h.1, ?_⟩
  rcases h.2 with h0 | ⟨g, cap, cur, rfl, h1, hg, h2⟩
  · exact .inl h0
  · exact .inr ⟨g, cap, cur, rfl, h1, (heap_setCell_other _ _ _ _ (by omega)).trans hg, h2⟩
theorem keep1 {w : World} {g n k o : Nat} {a v : Value} (h : k ≠ g) (hc : w.cell? ⟨k, o, none⟩ = some v) : (w.setCell ⟨g, n, none⟩ a).cell? ⟨k, o, none⟩ = some v := by
  rw [World.cell?_setCell_far _ _ _ _ (fun e => h e.symm), hc]
set_option maxHeartbeats 800000 in
set_option maxRecDepth 100000 in
theorem maker_any (M T : Nat) (r way : Int) (w : World) (hw : wayOk way = true) (hr : 0 ≤ r ∧ r ≤ 3) (hM : Maker M T way w) :
    Calls Tryz.prog 120 #[.int .i64 r, .pointer (some ⟨M, 0, none⟩), .pointer (some ⟨T, 0, none⟩)] w fun e w' => ∃ v', e = .returned v' ∧ Owns w' w.heap.size v' (ballL r way) ∧ Below M w w' := by
  obtain rfl | rfl | rfl | rfl : r = 0 ∨ r = 1 ∨ r = 2 ∨ r = 3 := by omega
  · have rowM := (cell_of_row w _ 0 _ _ _ hM.row).trans (show _ = some (Value.slice none 0 0) from rfl)
    have hMs := hM.m
    have hnil : ∀ W, (binOp .eql 23 (.slice none 0 0) (.slice none 0 0)).run Tryz.prog W = .ok (.bool true) W := fun W => Lib.run_eql_slice_nil W _ _ none 0 0 0 0 Tryz.underlying23
    have b0 := box_below w #[.int .i64 0] 3
    obtain ⟨W, hW⟩ : ∃ W, W = w.alloc (.cells #[.int .i64 0] 3) := ⟨_, rfl⟩
    have q0 : W.cell? ⟨w.heap.size, 0, none⟩ = some (.int .i64 0) := by rw [hW]; simp [go_sem]
    have s0 : w.heap.size < W.heap.size := by rw [hW]; simp
    rw [← hW] at b0
    have m0 := (b0.cell (p := ⟨M, 0, none⟩) hMs).trans rowM
    have mf := frozen_of_row W _ 0 _ _ ((b0.block M hMs).trans hM.row)
    have t0 := (b0.cell (p := ⟨T, 0, none⟩) hM.t).trans hM.tell
    clear rowM
    have hwr : IntKind.i64.wrap 0 = 0 := by decide
    go_enter Tryz.func120, Tryz.ntmps120
    go_wp2_with (first | (rw [← hW]; clear hW) | fail)
    go_wp2
    go_region_held3 (fun w' => w'.cell? ⟨w.heap.size, 0, none⟩ = some (.int .i64 0)) (go_keep) (fail)
    · obtain ⟨w2, hw2⟩ : ∃ w2, w2 = ((W.alloc (.cells #[.int .i64 0, .int .i64 0] 53)).alloc (.cells #[.int .i64 0, .int .i64 0] 53)).drew := ⟨_, rfl⟩
      have b2 : Below W.heap.size W w2 := by rw [hw2]; exact (((Below.refl _ _).alloc (Nat.le_refl _) _).alloc (by simp) _).drew
      have l2 : w2.heap[W.heap.size]? = some (.cells #[.int .i64 (0), .int .i64 (0)] 53 (0, 0)) := by rw [hw2]; exact first_block _ _ _
      have g2 : w2.heap[W.heap.size + 1]? = some (.cells #[.int .i64 0, .int .i64 0] 53 (0, 0)) := by rw [hw2]; exact second_block _ _ _
      rw [← hw2]
      clear hw2 hwr
      obtain ⟨c0, c1⟩ := cells_of_row l2
      obtain ⟨c2, c3⟩ := cells_of_row g2
      have c0 : w2.drew.cell? ⟨W.heap.size, 0, none⟩ = some (.int .i64 (0)) := c0
      have c1 : w2.drew.cell? ⟨W.heap.size, 1, none⟩ = some (.int .i64 (0)) := c1
      have c2 : w2.drew.cell? ⟨W.heap.size + 1, 0, none⟩ = some (.int .i64 0) := c2
      have c3 : w2.drew.cell? ⟨W.heap.size + 1, 1, none⟩ = some (.int .i64 0) := c3
      have q2 : w2.drew.cell? ⟨w.heap.size, 0, none⟩ = some (.int .i64 0) := (b2.cell (p := ⟨w.heap.size, 0, none⟩) s0).trans q0
      have hMW : M < W.heap.size := Nat.lt_trans hMs s0
      have m2 : w2.drew.cell? ⟨M, 0, none⟩ = some (.slice none 0 0) := (b2.cell (p := ⟨M, 0, none⟩) hMW).trans m0
      have mf2 : w2.drew.frozen? ⟨M, 0, none⟩ = false := (b2.frozen (p := ⟨M, 0, none⟩) hMW).trans mf
      have t2 : w2.drew.cell? ⟨T, 0, none⟩ = some (.func (.func (tellF way)) #[] #[]) := (b2.cell (p := ⟨T, 0, none⟩) (Nat.lt_of_lt_of_le hM.t b0.size)).trans t0
      have bb : Below w.heap.size w w2.drew := (below_step b0 b2).drew
      have hLs : W.heap.size < w2.drew.heap.size := (Array.getElem?_eq_some_iff.1 l2).1
      have hGs : W.heap.size + 1 < w2.drew.heap.size := (Array.getElem?_eq_some_iff.1 g2).1
      have hRs : w.heap.size < w2.drew.heap.size := Nat.lt_of_lt_of_le s0 b2.size
      have hTs : T < w2.drew.heap.size := Nat.lt_of_lt_of_le hM.t bb.size
      have hM2 : M < w2.drew.heap.size := Nat.lt_of_lt_of_le hMs bb.size
      have hne : M ≠ w.heap.size := Nat.ne_of_lt hMs
      have hne2 := hne.symm
      have hneL : W.heap.size ≠ M := by omega
      have hneG : W.heap.size + 1 ≠ M := by omega
      clear l2 g2 b2 m0 mf t0 q0 b0
      go_wp2_with fail
      go_region_held3 (fun w' => w'.cell? ⟨w.heap.size, 0, none⟩ = some (.int .i64 0) ∧ w'.cell? ⟨W.heap.size, 0, none⟩ = some (.int .i64 (0)) ∧ w'.cell? ⟨W.heap.size, 1, none⟩ = some (.int .i64 (0)) ∧ w'.cell? ⟨W.heap.size + 1, 0, none⟩ = some (.int .i64 0) ∧ w'.cell? ⟨W.heap.size + 1, 1, none⟩ = some (.int .i64 0)) (first | (refine ⟨?_, ?_, ?_, ?_, ?_⟩ <;> with_reducible assumption) | (refine ⟨keep1 ?_ ?_, keep1 ?_ ?_, keep1 ?_ ?_, keep1 ?_ ?_, keep1 ?_ ?_⟩ <;> with_reducible assumption))
        ((go_at_call 100; refine (betwBall_any (inBall 0 way) w.heap.size T (0) (0) 0 0 w2.drew (by decide) (by decide) (by decide) (by decide) (by decide) (by decide) (by decide) (by decide) (fun x y w1 hx1 hx2 hy1 hy2 hb1 => ballIn_any T w.heap.size x y 0 way w1 hw ⟨hx1, hx2, hy1, hy2⟩ (Nat.lt_of_lt_of_le hTs hb1.size) (Nat.lt_of_lt_of_le hRs hb1.size) ((hb1.cell (p := ⟨T, 0, none⟩) hTs).trans t2) ((hb1.cell (p := ⟨w.heap.size, 0, none⟩) hRs).trans q2))).mono ?_; rintro e w3 ⟨v3, rfl, o3, hb⟩; obtain ⟨A3, c3', rfl, _, _⟩ := o3.reads.slice; have bw3 := bb.trans (hb.mono bb.size); have q2 := (hb.cell (p := ⟨w.heap.size, 0, none⟩) hRs).trans q2; have c0 := (hb.cell (p := ⟨W.heap.size, 0, none⟩) hLs).trans c0; have c1 := (hb.cell (p := ⟨W.heap.size, 1, none⟩) hLs).trans c1; have c2 := (hb.cell (p := ⟨W.heap.size + 1, 0, none⟩) hGs).trans c2; have c3 := (hb.cell (p := ⟨W.heap.size + 1, 1, none⟩) hGs).trans c3; have m2 := (hb.cell (p := ⟨M, 0, none⟩) hM2).trans m2; have mf2 := (hb.frozen (p := ⟨M, 0, none⟩) hM2).trans mf2))
      go_wp2
      go_ret
      have HL : betw (inBall 0 way) (0, 0) (0, 0) = ballL 0 way := (ball_yes (ballOk_yes (by decide) hw)).symm
      exact ⟨_, rfl, by rw [← HL]; exact (o3.setOther (a := ⟨M, 0, none⟩) hM2 _).base (Nat.le_of_lt hRs), (bw3.mono (Nat.le_of_lt hMs)).setCell (p := ⟨M, 0, none⟩) (Nat.le_refl _) _⟩
    · obtain ⟨w2, hw2⟩ : ∃ w2, w2 = ((W.alloc (.cells #[.int .i64 0, .int .i64 0] 53)).alloc (.cells #[.int .i64 0, .int .i64 0] 53)).drew := ⟨_, rfl⟩
      have b2 : Below W.heap.size W w2 := by rw [hw2]; exact (((Below.refl _ _).alloc (Nat.le_refl _) _).alloc (by simp) _).drew
      have l2 : w2.heap[W.heap.size + 1]? = some (.cells #[.int .i64 (0), .int .i64 (0)] 53 (0, 0)) := by rw [hw2]; exact second_block _ _ _
      have g2 : w2.heap[W.heap.size]? = some (.cells #[.int .i64 0, .int .i64 0] 53 (0, 0)) := by rw [hw2]; exact first_block _ _ _
      rw [← hw2]
      clear hw2 hwr
      obtain ⟨c0, c1⟩ := cells_of_row l2
      obtain ⟨c2, c3⟩ := cells_of_row g2
      have c0 : w2.drew.cell? ⟨W.heap.size + 1, 0, none⟩ = some (.int .i64 (0)) := c0
      have c1 : w2.drew.cell? ⟨W.heap.size + 1, 1, none⟩ = some (.int .i64 (0)) := c1
      have c2 : w2.drew.cell? ⟨W.heap.size, 0, none⟩ = some (.int .i64 0) := c2
      have c3 : w2.drew.cell? ⟨W.heap.size, 1, none⟩ = some (.int .i64 0) := c3
      have q2 : w2.drew.cell? ⟨w.heap.size, 0, none⟩ = some (.int .i64 0) := (b2.cell (p := ⟨w.heap.size, 0, none⟩) s0).trans q0
      have hMW : M < W.heap.size := Nat.lt_trans hMs s0
      have m2 : w2.drew.cell? ⟨M, 0, none⟩ = some (.slice none 0 0) := (b2.cell (p := ⟨M, 0, none⟩) hMW).trans m0
      have mf2 : w2.drew.frozen? ⟨M, 0, none⟩ = false := (b2.frozen (p := ⟨M, 0, none⟩) hMW).trans mf
      have t2 : w2.drew.cell? ⟨T, 0, none⟩ = some (.func (.func (tellF way)) #[] #[]) := (b2.cell (p := ⟨T, 0, none⟩) (Nat.lt_of_lt_of_le hM.t b0.size)).trans t0
      have bb : Below w.heap.size w w2.drew := (below_step b0 b2).drew
      have hLs : W.heap.size + 1 < w2.drew.heap.size := (Array.getElem?_eq_some_iff.1 l2).1
      have hGs : W.heap.size < w2.drew.heap.size := (Array.getElem?_eq_some_iff.1 g2).1
      have hRs : w.heap.size < w2.drew.heap.size := Nat.lt_of_lt_of_le s0 b2.size
      have hTs : T < w2.drew.heap.size := Nat.lt_of_lt_of_le hM.t bb.size
      have hM2 : M < w2.drew.heap.size := Nat.lt_of_lt_of_le hMs bb.size
      have hne : M ≠ w.heap.size := Nat.ne_of_lt hMs
      have hne2 := hne.symm
      have hneL : W.heap.size + 1 ≠ M := by omega
      have hneG : W.heap.size ≠ M := by omega
      clear l2 g2 b2 m0 mf t0 q0 b0
      go_wp2_with fail
      go_region_held3 (fun w' => w'.cell? ⟨w.heap.size, 0, none⟩ = some (.int .i64 0) ∧ w'.cell? ⟨W.heap.size + 1, 0, none⟩ = some (.int .i64 (0)) ∧ w'.cell? ⟨W.heap.size + 1, 1, none⟩ = some (.int .i64 (0)) ∧ w'.cell? ⟨W.heap.size, 0, none⟩ = some (.int .i64 0) ∧ w'.cell? ⟨W.heap.size, 1, none⟩ = some (.int .i64 0)) (first | (refine ⟨?_, ?_, ?_, ?_, ?_⟩ <;> with_reducible assumption) | (refine ⟨keep1 ?_ ?_, keep1 ?_ ?_, keep1 ?_ ?_, keep1 ?_ ?_, keep1 ?_ ?_⟩ <;> with_reducible assumption))
        ((go_at_call 100; refine (betwBall_any (inBall 0 way) w.heap.size T (0) (0) 0 0 w2.drew (by decide) (by decide) (by decide) (by decide) (by decide) (by decide) (by decide) (by decide) (fun x y w1 hx1 hx2 hy1 hy2 hb1 => ballIn_any T w.heap.size x y 0 way w1 hw ⟨hx1, hx2, hy1, hy2⟩ (Nat.lt_of_lt_of_le hTs hb1.size) (Nat.lt_of_lt_of_le hRs hb1.size) ((hb1.cell (p := ⟨T, 0, none⟩) hTs).trans t2) ((hb1.cell (p := ⟨w.heap.size, 0, none⟩) hRs).trans q2))).mono ?_; rintro e w3 ⟨v3, rfl, o3, hb⟩; obtain ⟨A3, c3', rfl, _, _⟩ := o3.reads.slice; have bw3 := bb.trans (hb.mono bb.size); have q2 := (hb.cell (p := ⟨w.heap.size, 0, none⟩) hRs).trans q2; have c0 := (hb.cell (p := ⟨W.heap.size + 1, 0, none⟩) hLs).trans c0; have c1 := (hb.cell (p := ⟨W.heap.size + 1, 1, none⟩) hLs).trans c1; have c2 := (hb.cell (p := ⟨W.heap.size, 0, none⟩) hGs).trans c2; have c3 := (hb.cell (p := ⟨W.heap.size, 1, none⟩) hGs).trans c3; have m2 := (hb.cell (p := ⟨M, 0, none⟩) hM2).trans m2; have mf2 := (hb.frozen (p := ⟨M, 0, none⟩) hM2).trans mf2))
      go_wp2
      go_ret
      have HL : betw (inBall 0 way) (0, 0) (0, 0) = ballL 0 way := (ball_yes (ballOk_yes (by decide) hw)).symm
      exact ⟨_, rfl, by rw [← HL]; exact (o3.setOther (a := ⟨M, 0, none⟩) hM2 _).base (Nat.le_of_lt hRs), (bw3.mono (Nat.le_of_lt hMs)).setCell (p := ⟨M, 0, none⟩) (Nat.le_refl _) _⟩
  · have rowM := (cell_of_row w _ 1 _ _ _ hM.row).trans (show _ = some (Value.slice none 0 0) from rfl)
    have hMs := hM.m
    have hnil : ∀ W, (binOp .eql 23 (.slice none 0 0) (.slice none 0 0)).run Tryz.prog W = .ok (.bool true) W := fun W => Lib.run_eql_slice_nil W _ _ none 0 0 0 0 Tryz.underlying23
    have b0 := box_below w #[.int .i64 1] 3
    obtain ⟨W, hW⟩ : ∃ W, W = w.alloc (.cells #[.int .i64 1] 3) := ⟨_, rfl⟩
    have q0 : W.cell? ⟨w.heap.size, 0, none⟩ = some (.int .i64 1) := by rw [hW]; simp [go_sem]
    have s0 : w.heap.size < W.heap.size := by rw [hW]; simp
    rw [← hW] at b0
    have m0 := (b0.cell (p := ⟨M, 1, none⟩) hMs).trans rowM
    have mf := frozen_of_row W _ 1 _ _ ((b0.block M hMs).trans hM.row)
    have t0 := (b0.cell (p := ⟨T, 0, none⟩) hM.t).trans hM.tell
    clear rowM
    have hwr : IntKind.i64.wrap (-1) = (-1) := by decide
    go_enter Tryz.func120, Tryz.ntmps120
    go_wp2_with (first | (rw [← hW]; clear hW) | fail)
    go_wp2
    go_region_held3 (fun w' => w'.cell? ⟨w.heap.size, 0, none⟩ = some (.int .i64 1)) (go_keep) (fail)
    · obtain ⟨w2, hw2⟩ : ∃ w2, w2 = ((W.alloc (.cells #[.int .i64 (-1), .int .i64 (-1)] 53)).alloc (.cells #[.int .i64 1, .int .i64 1] 53)).drew := ⟨_, rfl⟩
      have b2 : Below W.heap.size W w2 := by rw [hw2]; exact (((Below.refl _ _).alloc (Nat.le_refl _) _).alloc (by simp) _).drew
      have l2 : w2.heap[W.heap.size]? = some (.cells #[.int .i64 ((-1)), .int .i64 ((-1))] 53 (0, 0)) := by rw [hw2]; exact first_block _ _ _
      have g2 : w2.heap[W.heap.size + 1]? = some (.cells #[.int .i64 1, .int .i64 1] 53 (0, 0)) := by rw [hw2]; exact second_block _ _ _
      rw [← hw2]
      clear hw2 hwr
      obtain ⟨c0, c1⟩ := cells_of_row l2
      obtain ⟨c2, c3⟩ := cells_of_row g2
      have c0 : w2.drew.cell? ⟨W.heap.size, 0, none⟩ = some (.int .i64 ((-1))) := c0
      have c1 : w2.drew.cell? ⟨W.heap.size, 1, none⟩ = some (.int .i64 ((-1))) := c1
      have c2 : w2.drew.cell? ⟨W.heap.size + 1, 0, none⟩ = some (.int .i64 1) := c2
      have c3 : w2.drew.cell? ⟨W.heap.size + 1, 1, none⟩ = some (.int .i64 1) := c3
      have q2 : w2.drew.cell? ⟨w.heap.size, 0, none⟩ = some (.int .i64 1) := (b2.cell (p := ⟨w.heap.size, 0, none⟩) s0).trans q0
      have hMW : M < W.heap.size := Nat.lt_trans hMs s0
      have m2 : w2.drew.cell? ⟨M, 1, none⟩ = some (.slice none 0 0) := (b2.cell (p := ⟨M, 1, none⟩) hMW).trans m0
      have mf2 : w2.drew.frozen? ⟨M, 1, none⟩ = false := (b2.frozen (p := ⟨M, 1, none⟩) hMW).trans mf
      have t2 : w2.drew.cell? ⟨T, 0, none⟩ = some (.func (.func (tellF way)) #[] #[]) := (b2.cell (p := ⟨T, 0, none⟩) (Nat.lt_of_lt_of_le hM.t b0.size)).trans t0
      have bb : Below w.heap.size w w2.drew := (below_step b0 b2).drew
      have hLs : W.heap.size < w2.drew.heap.size := (Array.getElem?_eq_some_iff.1 l2).1
      have hGs : W.heap.size + 1 < w2.drew.heap.size := (Array.getElem?_eq_some_iff.1 g2).1
      have hRs : w.heap.size < w2.drew.heap.size := Nat.lt_of_lt_of_le s0 b2.size
      have hTs : T < w2.drew.heap.size := Nat.lt_of_lt_of_le hM.t bb.size
      have hM2 : M < w2.drew.heap.size := Nat.lt_of_lt_of_le hMs bb.size
      have hne : M ≠ w.heap.size := Nat.ne_of_lt hMs
      have hne2 := hne.symm
      have hneL : W.heap.size ≠ M := by omega
      have hneG : W.heap.size + 1 ≠ M := by omega
      clear l2 g2 b2 m0 mf t0 q0 b0
      go_wp2_with fail
      go_region_held3 (fun w' => w'.cell? ⟨w.heap.size, 0, none⟩ = some (.int .i64 1) ∧ w'.cell? ⟨W.heap.size, 0, none⟩ = some (.int .i64 ((-1))) ∧ w'.cell? ⟨W.heap.size, 1, none⟩ = some (.int .i64 ((-1))) ∧ w'.cell? ⟨W.heap.size + 1, 0, none⟩ = some (.int .i64 1) ∧ w'.cell? ⟨W.heap.size + 1, 1, none⟩ = some (.int .i64 1)) (first | (refine ⟨?_, ?_, ?_, ?_, ?_⟩ <;> with_reducible assumption) | (refine ⟨keep1 ?_ ?_, keep1 ?_ ?_, keep1 ?_ ?_, keep1 ?_ ?_, keep1 ?_ ?_⟩ <;> with_reducible assumption))
        ((go_at_call 100; refine (betwBall_any (inBall 1 way) w.heap.size T ((-1)) ((-1)) 1 1 w2.drew (by decide) (by decide) (by decide) (by decide) (by decide) (by decide) (by decide) (by decide) (fun x y w1 hx1 hx2 hy1 hy2 hb1 => ballIn_any T w.heap.size x y 1 way w1 hw ⟨hx1, hx2, hy1, hy2⟩ (Nat.lt_of_lt_of_le hTs hb1.size) (Nat.lt_of_lt_of_le hRs hb1.size) ((hb1.cell (p := ⟨T, 0, none⟩) hTs).trans t2) ((hb1.cell (p := ⟨w.heap.size, 0, none⟩) hRs).trans q2))).mono ?_; rintro e w3 ⟨v3, rfl, o3, hb⟩; obtain ⟨A3, c3', rfl, _, _⟩ := o3.reads.slice; have bw3 := bb.trans (hb.mono bb.size); have q2 := (hb.cell (p := ⟨w.heap.size, 0, none⟩) hRs).trans q2; have c0 := (hb.cell (p := ⟨W.heap.size, 0, none⟩) hLs).trans c0; have c1 := (hb.cell (p := ⟨W.heap.size, 1, none⟩) hLs).trans c1; have c2 := (hb.cell (p := ⟨W.heap.size + 1, 0, none⟩) hGs).trans c2; have c3 := (hb.cell (p := ⟨W.heap.size + 1, 1, none⟩) hGs).trans c3; have m2 := (hb.cell (p := ⟨M, 1, none⟩) hM2).trans m2; have mf2 := (hb.frozen (p := ⟨M, 1, none⟩) hM2).trans mf2))
      go_wp2
      go_ret
      have HL : betw (inBall 1 way) ((-1), (-1)) (1, 1) = ballL 1 way := (ball_yes (ballOk_yes (by decide) hw)).symm
      exact ⟨_, rfl, by rw [← HL]; exact (o3.setOther (a := ⟨M, 1, none⟩) hM2 _).base (Nat.le_of_lt hRs), (bw3.mono (Nat.le_of_lt hMs)).setCell (p := ⟨M, 1, none⟩) (Nat.le_refl _) _⟩
    · obtain ⟨w2, hw2⟩ : ∃ w2, w2 = ((W.alloc (.cells #[.int .i64 1, .int .i64 1] 53)).alloc (.cells #[.int .i64 (-1), .int .i64 (-1)] 53)).drew := ⟨_, rfl⟩
      have b2 : Below W.heap.size W w2 := by rw [hw2]; exact (((Below.refl _ _).alloc (Nat.le_refl _) _).alloc (by simp) _).drew
      have l2 : w2.heap[W.heap.size + 1]? = some (.cells #[.int .i64 ((-1)), .int .i64 ((-1))] 53 (0, 0)) := by rw [hw2]; exact second_block _ _ _
      have g2 : w2.heap[W.heap.size]? = some (.cells #[.int .i64 1, .int .i64 1] 53 (0, 0)) := by rw [hw2]; exact first_block _ _ _
      rw [← hw2]
      clear hw2 hwr
      obtain ⟨c0, c1⟩ := cells_of_row l2
      obtain ⟨c2, c3⟩ := cells_of_row g2
      have c0 : w2.drew.cell? ⟨W.heap.size + 1, 0, none⟩ = some (.int .i64 ((-1))) := c0
      have c1 : w2.drew.cell? ⟨W.heap.size + 1, 1, none⟩ = some (.int .i64 ((-1))) := c1
      have c2 : w2.drew.cell? ⟨W.heap.size, 0, none⟩ = some (.int .i64 1) := c2
      have c3 : w2.drew.cell? ⟨W.heap.size, 1, none⟩ = some (.int .i64 1) := c3
      have q2 : w2.drew.cell? ⟨w.heap.size, 0, none⟩ = some (.int .i64 1) := (b2.cell (p := ⟨w.heap.size, 0, none⟩) s0).trans q0
      have hMW : M < W.heap.size := Nat.lt_trans hMs s0
      have m2 : w2.drew.cell? ⟨M, 1, none⟩ = some (.slice none 0 0) := (b2.cell (p := ⟨M, 1, none⟩) hMW).trans m0
      have mf2 : w2.drew.frozen? ⟨M, 1, none⟩ = false := (b2.frozen (p := ⟨M, 1, none⟩) hMW).trans mf
      have t2 : w2.drew.cell? ⟨T, 0, none⟩ = some (.func (.func (tellF way)) #[] #[]) := (b2.cell (p := ⟨T, 0, none⟩) (Nat.lt_of_lt_of_le hM.t b0.size)).trans t0
      have bb : Below w.heap.size w w2.drew := (below_step b0 b2).drew
      have hLs : W.heap.size + 1 < w2.drew.heap.size := (Array.getElem?_eq_some_iff.1 l2).1
      have hGs : W.heap.size < w2.drew.heap.size := (Array.getElem?_eq_some_iff.1 g2).1
      have hRs : w.heap.size < w2.drew.heap.size := Nat.lt_of_lt_of_le s0 b2.size
      have hTs : T < w2.drew.heap.size := Nat.lt_of_lt_of_le hM.t bb.size
      have hM2 : M < w2.drew.heap.size := Nat.lt_of_lt_of_le hMs bb.size
      have hne : M ≠ w.heap.size := Nat.ne_of_lt hMs
      have hne2 := hne.symm
      have hneL : W.heap.size + 1 ≠ M := by omega
      have hneG : W.heap.size ≠ M := by omega
      clear l2 g2 b2 m0 mf t0 q0 b0
      go_wp2_with fail
      go_region_held3 (fun w' => w'.cell? ⟨w.heap.size, 0, none⟩ = some (.int .i64 1) ∧ w'.cell? ⟨W.heap.size + 1, 0, none⟩ = some (.int .i64 ((-1))) ∧ w'.cell? ⟨W.heap.size + 1, 1, none⟩ = some (.int .i64 ((-1))) ∧ w'.cell? ⟨W.heap.size, 0, none⟩ = some (.int .i64 1) ∧ w'.cell? ⟨W.heap.size, 1, none⟩ = some (.int .i64 1)) (first | (refine ⟨?_, ?_, ?_, ?_, ?_⟩ <;> with_reducible assumption) | (refine ⟨keep1 ?_ ?_, keep1 ?_ ?_, keep1 ?_ ?_, keep1 ?_ ?_, keep1 ?_ ?_⟩ <;> with_reducible assumption))
        ((go_at_call 100; refine (betwBall_any (inBall 1 way) w.heap.size T ((-1)) ((-1)) 1 1 w2.drew (by decide) (by decide) (by decide) (by decide) (by decide) (by decide) (by decide) (by decide) (fun x y w1 hx1 hx2 hy1 hy2 hb1 => ballIn_any T w.heap.size x y 1 way w1 hw ⟨hx1, hx2, hy1, hy2⟩ (Nat.lt_of_lt_of_le hTs hb1.size) (Nat.lt_of_lt_of_le hRs hb1.size) ((hb1.cell (p := ⟨T, 0, none⟩) hTs).trans t2) ((hb1.cell (p := ⟨w.heap.size, 0, none⟩) hRs).trans q2))).mono ?_; rintro e w3 ⟨v3, rfl, o3, hb⟩; obtain ⟨A3, c3', rfl, _, _⟩ := o3.reads.slice; have bw3 := bb.trans (hb.mono bb.size); have q2 := (hb.cell (p := ⟨w.heap.size, 0, none⟩) hRs).trans q2; have c0 := (hb.cell (p := ⟨W.heap.size + 1, 0, none⟩) hLs).trans c0; have c1 := (hb.cell (p := ⟨W.heap.size + 1, 1, none⟩) hLs).trans c1; have c2 := (hb.cell (p := ⟨W.heap.size, 0, none⟩) hGs).trans c2; have c3 := (hb.cell (p := ⟨W.heap.size, 1, none⟩) hGs).trans c3; have m2 := (hb.cell (p := ⟨M, 1, none⟩) hM2).trans m2; have mf2 := (hb.frozen (p := ⟨M, 1, none⟩) hM2).trans mf2))
      go_wp2
      go_ret
      have HL : betw (inBall 1 way) ((-1), (-1)) (1, 1) = ballL 1 way := (ball_yes (ballOk_yes (by decide) hw)).symm
      exact ⟨_, rfl, by rw [← HL]; exact (o3.setOther (a := ⟨M, 1, none⟩) hM2 _).base (Nat.le_of_lt hRs), (bw3.mono (Nat.le_of_lt hMs)).setCell (p := ⟨M, 1, none⟩) (Nat.le_refl _) _⟩
  · have rowM := (cell_of_row w _ 2 _ _ _ hM.row).trans (show _ = some (Value.slice none 0 0) from rfl)
    have hMs := hM.m
    have hnil : ∀ W, (binOp .eql 23 (.slice none 0 0) (.slice none 0 0)).run Tryz.prog W = .ok (.bool true) W := fun W => Lib.run_eql_slice_nil W _ _ none 0 0 0 0 Tryz.underlying23
    have b0 := box_below w #[.int .i64 2] 3
    obtain ⟨W, hW⟩ : ∃ W, W = w.alloc (.cells #[.int .i64 2] 3) := ⟨_, rfl⟩
    have q0 : W.cell? ⟨w.heap.size, 0, none⟩ = some (.int .i64 2) := by rw [hW]; simp [go_sem]
    have s0 : w.heap.size < W.heap.size := by rw [hW]; simp
    rw [← hW] at b0
    have m0 := (b0.cell (p := ⟨M, 2, none⟩) hMs).trans rowM
    have mf := frozen_of_row W _ 2 _ _ ((b0.block M hMs).trans hM.row)
    have t0 := (b0.cell (p := ⟨T, 0, none⟩) hM.t).trans hM.tell
    clear rowM
    have hwr : IntKind.i64.wrap (-2) = (-2) := by decide
    go_enter Tryz.func120, Tryz.ntmps120
    go_wp2_with (first | (rw [← hW]; clear hW) | fail)
    go_wp2
    go_region_held3 (fun w' => w'.cell? ⟨w.heap.size, 0, none⟩ = some (.int .i64 2)) (go_keep) (fail)
    · obtain ⟨w2, hw2⟩ : ∃ w2, w2 = ((W.alloc (.cells #[.int .i64 (-2), .int .i64 (-2)] 53)).alloc (.cells #[.int .i64 2, .int .i64 2] 53)).drew := ⟨_, rfl⟩
      have b2 : Below W.heap.size W w2 := by rw [hw2]; exact (((Below.refl _ _).alloc (Nat.le_refl _) _).alloc (by simp) _).drew
      have l2 : w2.heap[W.heap.size]? = some (.cells #[.int .i64 ((-2)), .int .i64 ((-2))] 53 (0, 0)) := by rw [hw2]; exact first_block _ _ _
      have g2 : w2.heap[W.heap.size + 1]? = some (.cells #[.int .i64 2, .int .i64 2] 53 (0, 0)) := by rw [hw2]; exact second_block _ _ _
      rw [← hw2]
      clear hw2 hwr
      obtain ⟨c0, c1⟩ := cells_of_row l2
      obtain ⟨c2, c3⟩ := cells_of_row g2
      have c0 : w2.drew.cell? ⟨W.heap.size, 0, none⟩ = some (.int .i64 ((-2))) := c0
      have c1 : w2.drew.cell? ⟨W.heap.size, 1, none⟩ = some (.int .i64 ((-2))) := c1
      have c2 : w2.drew.cell? ⟨W.heap.size + 1, 0, none⟩ = some (.int .i64 2) := c2
      have c3 : w2.drew.cell? ⟨W.heap.size + 1, 1, none⟩ = some (.int .i64 2) := c3
      have q2 : w2.drew.cell? ⟨w.heap.size, 0, none⟩ = some (.int .i64 2) := (b2.cell (p := ⟨w.heap.size, 0, none⟩) s0).trans q0
      have hMW : M < W.heap.size := Nat.lt_trans hMs s0
      have m2 : w2.drew.cell? ⟨M, 2, none⟩ = some (.slice none 0 0) := (b2.cell (p := ⟨M, 2, none⟩) hMW).trans m0
      have mf2 : w2.drew.frozen? ⟨M, 2, none⟩ = false := (b2.frozen (p := ⟨M, 2, none⟩) hMW).trans mf
      have t2 : w2.drew.cell? ⟨T, 0, none⟩ = some (.func (.func (tellF way)) #[] #[]) := (b2.cell (p := ⟨T, 0, none⟩) (Nat.lt_of_lt_of_le hM.t b0.size)).trans t0
      have bb : Below w.heap.size w w2.drew := (below_step b0 b2).drew
      have hLs : W.heap.size < w2.drew.heap.size := (Array.getElem?_eq_some_iff.1 l2).1
      have hGs : W.heap.size + 1 < w2.drew.heap.size := (Array.getElem?_eq_some_iff.1 g2).1
      have hRs : w.heap.size < w2.drew.heap.size := Nat.lt_of_lt_of_le s0 b2.size
      have hTs : T < w2.drew.heap.size := Nat.lt_of_lt_of_le hM.t bb.size
      have hM2 : M < w2.drew.heap.size := Nat.lt_of_lt_of_le hMs bb.size
      have hne : M ≠ w.heap.size := Nat.ne_of_lt hMs
      have hne2 := hne.symm
      have hneL : W.heap.size ≠ M := by omega
      have hneG : W.heap.size + 1 ≠ M := by omega
      clear l2 g2 b2 m0 mf t0 q0 b0
      go_wp2_with fail
      go_region_held3 (fun w' => w'.cell? ⟨w.heap.size, 0, none⟩ = some (.int .i64 2) ∧ w'.cell? ⟨W.heap.size, 0, none⟩ = some (.int .i64 ((-2))) ∧ w'.cell? ⟨W.heap.size, 1, none⟩ = some (.int .i64 ((-2))) ∧ w'.cell? ⟨W.heap.size + 1, 0, none⟩ = some (.int .i64 2) ∧ w'.cell? ⟨W.heap.size + 1, 1, none⟩ = some (.int .i64 2)) (first | (refine ⟨?_, ?_, ?_, ?_, ?_⟩ <;> with_reducible assumption) | (refine ⟨keep1 ?_ ?_, keep1 ?_ ?_, keep1 ?_ ?_, keep1 ?_ ?_, keep1 ?_ ?_⟩ <;> with_reducible assumption))
        ((go_at_call 100; refine (betwBall_any (inBall 2 way) w.heap.size T ((-2)) ((-2)) 2 2 w2.drew (by decide) (by decide) (by decide) (by decide) (by decide) (by decide) (by decide) (by decide) (fun x y w1 hx1 hx2 hy1 hy2 hb1 => ballIn_any T w.heap.size x y 2 way w1 hw ⟨hx1, hx2, hy1, hy2⟩ (Nat.lt_of_lt_of_le hTs hb1.size) (Nat.lt_of_lt_of_le hRs hb1.size) ((hb1.cell (p := ⟨T, 0, none⟩) hTs).trans t2) ((hb1.cell (p := ⟨w.heap.size, 0, none⟩) hRs).trans q2))).mono ?_; rintro e w3 ⟨v3, rfl, o3, hb⟩; obtain ⟨A3, c3', rfl, _, _⟩ := o3.reads.slice; have bw3 := bb.trans (hb.mono bb.size); have q2 := (hb.cell (p := ⟨w.heap.size, 0, none⟩) hRs).trans q2; have c0 := (hb.cell (p := ⟨W.heap.size, 0, none⟩) hLs).trans c0; have c1 := (hb.cell (p := ⟨W.heap.size, 1, none⟩) hLs).trans c1; have c2 := (hb.cell (p := ⟨W.heap.size + 1, 0, none⟩) hGs).trans c2; have c3 := (hb.cell (p := ⟨W.heap.size + 1, 1, none⟩) hGs).trans c3; have m2 := (hb.cell (p := ⟨M, 2, none⟩) hM2).trans m2; have mf2 := (hb.frozen (p := ⟨M, 2, none⟩) hM2).trans mf2))
      go_wp2
      go_ret
      have HL : betw (inBall 2 way) ((-2), (-2)) (2, 2) = ballL 2 way := (ball_yes (ballOk_yes (by decide) hw)).symm
      exact ⟨_, rfl, by rw [← HL]; exact (o3.setOther (a := ⟨M, 2, none⟩) hM2 _).base (Nat.le_of_lt hRs), (bw3.mono (Nat.le_of_lt hMs)).setCell (p := ⟨M, 2, none⟩) (Nat.le_refl _) _⟩
    · obtain ⟨w2, hw2⟩ : ∃ w2, w2 = ((W.alloc (.cells #[.int .i64 2, .int .i64 2] 53)).alloc (.cells #[.int .i64 (-2), .int .i64 (-2)] 53)).drew := ⟨_, rfl⟩
      have b2 : Below W.heap.size W w2 := by rw [hw2]; exact (((Below.refl _ _).alloc (Nat.le_refl _) _).alloc (by simp) _).drew
      have l2 : w2.heap[W.heap.size + 1]? = some (.cells #[.int .i64 ((-2)), .int .i64 ((-2))] 53 (0, 0)) := by rw [hw2]; exact second_block _ _ _
      have g2 : w2.heap[W.heap.size]? = some (.cells #[.int .i64 2, .int .i64 2] 53 (0, 0)) := by rw [hw2]; exact first_block _ _ _
      rw [← hw2]
      clear hw2 hwr
      obtain ⟨c0, c1⟩ := cells_of_row l2
      obtain ⟨c2, c3⟩ := cells_of_row g2
      have c0 : w2.drew.cell? ⟨W.heap.size + 1, 0, none⟩ = some (.int .i64 ((-2))) := c0
      have c1 : w2.drew.cell? ⟨W.heap.size + 1, 1, none⟩ = some (.int .i64 ((-2))) := c1
      have c2 : w2.drew.cell? ⟨W.heap.size, 0, none⟩ = some (.int .i64 2) := c2
      have c3 : w2.drew.cell? ⟨W.heap.size, 1, none⟩ = some (.int .i64 2) := c3
      have q2 : w2.drew.cell? ⟨w.heap.size, 0, none⟩ = some (.int .i64 2) := (b2.cell (p := ⟨w.heap.size, 0, none⟩) s0).trans q0
      have hMW : M < W.heap.size := Nat.lt_trans hMs s0
      have m2 : w2.drew.cell? ⟨M, 2, none⟩ = some (.slice none 0 0) := (b2.cell (p := ⟨M, 2, none⟩) hMW).trans m0
      have mf2 : w2.drew.frozen? ⟨M, 2, none⟩ = false := (b2.frozen (p := ⟨M, 2, none⟩) hMW).trans mf
      have t2 : w2.drew.cell? ⟨T, 0, none⟩ = some (.func (.func (tellF way)) #[] #[]) := (b2.cell (p := ⟨T, 0, none⟩) (Nat.lt_of_lt_of_le hM.t b0.size)).trans t0
      have bb : Below w.heap.size w w2.drew := (below_step b0 b2).drew
      have hLs : W.heap.size + 1 < w2.drew.heap.size := (Array.getElem?_eq_some_iff.1 l2).1
      have hGs : W.heap.size < w2.drew.heap.size := (Array.getElem?_eq_some_iff.1 g2).1
      have hRs : w.heap.size < w2.drew.heap.size := Nat.lt_of_lt_of_le s0 b2.size
      have hTs : T < w2.drew.heap.size := Nat.lt_of_lt_of_le hM.t bb.size
      have hM2 : M < w2.drew.heap.size := Nat.lt_of_lt_of_le hMs bb.size
      have hne : M ≠ w.heap.size := Nat.ne_of_lt hMs
      have hne2 := hne.symm
      have hneL : W.heap.size + 1 ≠ M := by omega
      have hneG : W.heap.size ≠ M := by omega
      clear l2 g2 b2 m0 mf t0 q0 b0
      go_wp2_with fail
      go_region_held3 (fun w' => w'.cell? ⟨w.heap.size, 0, none⟩ = some (.int .i64 2) ∧ w'.cell? ⟨W.heap.size + 1, 0, none⟩ = some (.int .i64 ((-2))) ∧ w'.cell? ⟨W.heap.size + 1, 1, none⟩ = some (.int .i64 ((-2))) ∧ w'.cell? ⟨W.heap.size, 0, none⟩ = some (.int .i64 2) ∧ w'.cell? ⟨W.heap.size, 1, none⟩ = some (.int .i64 2)) (first | (refine ⟨?_, ?_, ?_, ?_, ?_⟩ <;> with_reducible assumption) | (refine ⟨keep1 ?_ ?_, keep1 ?_ ?_, keep1 ?_ ?_, keep1 ?_ ?_, keep1 ?_ ?_⟩ <;> with_reducible assumption))
        ((go_at_call 100; refine (betwBall_any (inBall 2 way) w.heap.size T ((-2)) ((-2)) 2 2 w2.drew (by decide) (by decide) (by decide) (by decide) (by decide) (by decide) (by decide) (by decide) (fun x y w1 hx1 hx2 hy1 hy2 hb1 => ballIn_any T w.heap.size x y 2 way w1 hw ⟨hx1, hx2, hy1, hy2⟩ (Nat.lt_of_lt_of_le hTs hb1.size) (Nat.lt_of_lt_of_le hRs hb1.size) ((hb1.cell (p := ⟨T, 0, none⟩) hTs).trans t2) ((hb1.cell (p := ⟨w.heap.size, 0, none⟩) hRs).trans q2))).mono ?_; rintro e w3 ⟨v3, rfl, o3, hb⟩; obtain ⟨A3, c3', rfl, _, _⟩ := o3.reads.slice; have bw3 := bb.trans (hb.mono bb.size); have q2 := (hb.cell (p := ⟨w.heap.size, 0, none⟩) hRs).trans q2; have c0 := (hb.cell (p := ⟨W.heap.size + 1, 0, none⟩) hLs).trans c0; have c1 := (hb.cell (p := ⟨W.heap.size + 1, 1, none⟩) hLs).trans c1; have c2 := (hb.cell (p := ⟨W.heap.size, 0, none⟩) hGs).trans c2; have c3 := (hb.cell (p := ⟨W.heap.size, 1, none⟩) hGs).trans c3; have m2 := (hb.cell (p := ⟨M, 2, none⟩) hM2).trans m2; have mf2 := (hb.frozen (p := ⟨M, 2, none⟩) hM2).trans mf2))
      go_wp2
      go_ret
      have HL : betw (inBall 2 way) ((-2), (-2)) (2, 2) = ballL 2 way := (ball_yes (ballOk_yes (by decide) hw)).symm
      exact ⟨_, rfl, by rw [← HL]; exact (o3.setOther (a := ⟨M, 2, none⟩) hM2 _).base (Nat.le_of_lt hRs), (bw3.mono (Nat.le_of_lt hMs)).setCell (p := ⟨M, 2, none⟩) (Nat.le_refl _) _⟩
  · have rowM := (cell_of_row w _ 3 _ _ _ hM.row).trans (show _ = some (Value.slice none 0 0) from rfl)
    have hMs := hM.m
    have hnil : ∀ W, (binOp .eql 23 (.slice none 0 0) (.slice none 0 0)).run Tryz.prog W = .ok (.bool true) W := fun W => Lib.run_eql_slice_nil W _ _ none 0 0 0 0 Tryz.underlying23
    have b0 := box_below w #[.int .i64 3] 3
    obtain ⟨W, hW⟩ : ∃ W, W = w.alloc (.cells #[.int .i64 3] 3) := ⟨_, rfl⟩
    have q0 : W.cell? ⟨w.heap.size, 0, none⟩ = some (.int .i64 3) := by rw [hW]; simp [go_sem]
    have s0 : w.heap.size < W.heap.size := by rw [hW]; simp
    rw [← hW] at b0
    have m0 := (b0.cell (p := ⟨M, 3, none⟩) hMs).trans rowM
    have mf := frozen_of_row W _ 3 _ _ ((b0.block M hMs).trans hM.row)
    have t0 := (b0.cell (p := ⟨T, 0, none⟩) hM.t).trans hM.tell
    clear rowM
    have hwr : IntKind.i64.wrap (-3) = (-3) := by decide
    go_enter Tryz.func120, Tryz.ntmps120
    go_wp2_with (first | (rw [← hW]; clear hW) | fail)
    go_wp2
    go_region_held3 (fun w' => w'.cell? ⟨w.heap.size, 0, none⟩ = some (.int .i64 3)) (go_keep) (fail)
    · obtain ⟨w2, hw2⟩ : ∃ w2, w2 = ((W.alloc (.cells #[.int .i64 (-3), .int .i64 (-3)] 53)).alloc (.cells #[.int .i64 3, .int .i64 3] 53)).drew := ⟨_, rfl⟩
      have b2 : Below W.heap.size W w2 := by rw [hw2]; exact (((Below.refl _ _).alloc (Nat.le_refl _) _).alloc (by simp) _).drew
      have l2 : w2.heap[W.heap.size]? = some (.cells #[.int .i64 ((-3)), .int .i64 ((-3))] 53 (0, 0)) := by rw [hw2]; exact first_block _ _ _
      have g2 : w2.heap[W.heap.size + 1]? = some (.cells #[.int .i64 3, .int .i64 3] 53 (0, 0)) := by rw [hw2]; exact second_block _ _ _
      rw [← hw2]
      clear hw2 hwr
      obtain ⟨c0, c1⟩ := cells_of_row l2
      obtain ⟨c2, c3⟩ := cells_of_row g2
      have c0 : w2.drew.cell? ⟨W.heap.size, 0, none⟩ = some (.int .i64 ((-3))) := c0
      have c1 : w2.drew.cell? ⟨W.heap.size, 1, none⟩ = some (.int .i64 ((-3))) := c1
      have c2 : w2.drew.cell? ⟨W.heap.size + 1, 0, none⟩ = some (.int .i64 3) := c2
      have c3 : w2.drew.cell? ⟨W.heap.size + 1, 1, none⟩ = some (.int .i64 3) := c3
      have q2 : w2.drew.cell? ⟨w.heap.size, 0, none⟩ = some (.int .i64 3) := (b2.cell (p := ⟨w.heap.size, 0, none⟩) s0).trans q0
      have hMW : M < W.heap.size := Nat.lt_trans hMs s0
      have m2 : w2.drew.cell? ⟨M, 3, none⟩ = some (.slice none 0 0) := (b2.cell (p := ⟨M, 3, none⟩) hMW).trans m0
      have mf2 : w2.drew.frozen? ⟨M, 3, none⟩ = false := (b2.frozen (p := ⟨M, 3, none⟩) hMW).trans mf
      have t2 : w2.drew.cell? ⟨T, 0, none⟩ = some (.func (.func (tellF way)) #[] #[]) := (b2.cell (p := ⟨T, 0, none⟩) (Nat.lt_of_lt_of_le hM.t b0.size)).trans t0
      have bb : Below w.heap.size w w2.drew := (below_step b0 b2).drew
      have hLs : W.heap.size < w2.drew.heap.size := (Array.getElem?_eq_some_iff.1 l2).1
      have hGs : W.heap.size + 1 < w2.drew.heap.size := (Array.getElem?_eq_some_iff.1 g2).1
      have hRs : w.heap.size < w2.drew.heap.size := Nat.lt_of_lt_of_le s0 b2.size
      have hTs : T < w2.drew.heap.size := Nat.lt_of_lt_of_le hM.t bb.size
      have hM2 : M < w2.drew.heap.size := Nat.lt_of_lt_of_le hMs bb.size
      have hne : M ≠ w.heap.size := Nat.ne_of_lt hMs
      have hne2 := hne.symm
      have hneL : W.heap.size ≠ M := by omega
      have hneG : W.heap.size + 1 ≠ M := by omega
      clear l2 g2 b2 m0 mf t0 q0 b0
      go_wp2_with fail
      go_region_held3 (fun w' => w'.cell? ⟨w.heap.size, 0, none⟩ = some (.int .i64 3) ∧ w'.cell? ⟨W.heap.size, 0, none⟩ = some (.int .i64 ((-3))) ∧ w'.cell? ⟨W.heap.size, 1, none⟩ = some (.int .i64 ((-3))) ∧ w'.cell? ⟨W.heap.size + 1, 0, none⟩ = some (.int .i64 3) ∧ w'.cell? ⟨W.heap.size + 1, 1, none⟩ = some (.int .i64 3)) (first | (refine ⟨?_, ?_, ?_, ?_, ?_⟩ <;> with_reducible assumption) | (refine ⟨keep1 ?_ ?_, keep1 ?_ ?_, keep1 ?_ ?_, keep1 ?_ ?_, keep1 ?_ ?_⟩ <;> with_reducible assumption))
        ((go_at_call 100; refine (betwBall_any (inBall 3 way) w.heap.size T ((-3)) ((-3)) 3 3 w2.drew (by decide) (by decide) (by decide) (by decide) (by decide) (by decide) (by decide) (by decide) (fun x y w1 hx1 hx2 hy1 hy2 hb1 => ballIn_any T w.heap.size x y 3 way w1 hw ⟨hx1, hx2, hy1, hy2⟩ (Nat.lt_of_lt_of_le hTs hb1.size) (Nat.lt_of_lt_of_le hRs hb1.size) ((hb1.cell (p := ⟨T, 0, none⟩) hTs).trans t2) ((hb1.cell (p := ⟨w.heap.size, 0, none⟩) hRs).trans q2))).mono ?_; rintro e w3 ⟨v3, rfl, o3, hb⟩; obtain ⟨A3, c3', rfl, _, _⟩ := o3.reads.slice; have bw3 := bb.trans (hb.mono bb.size); have q2 := (hb.cell (p := ⟨w.heap.size, 0, none⟩) hRs).trans q2; have c0 := (hb.cell (p := ⟨W.heap.size, 0, none⟩) hLs).trans c0; have c1 := (hb.cell (p := ⟨W.heap.size, 1, none⟩) hLs).trans c1; have c2 := (hb.cell (p := ⟨W.heap.size + 1, 0, none⟩) hGs).trans c2; have c3 := (hb.cell (p := ⟨W.heap.size + 1, 1, none⟩) hGs).trans c3; have m2 := (hb.cell (p := ⟨M, 3, none⟩) hM2).trans m2; have mf2 := (hb.frozen (p := ⟨M, 3, none⟩) hM2).trans mf2))
      go_wp2
      go_ret
      have HL : betw (inBall 3 way) ((-3), (-3)) (3, 3) = ballL 3 way := (ball_yes (ballOk_yes (by decide) hw)).symm
      exact ⟨_, rfl, by rw [← HL]; exact (o3.setOther (a := ⟨M, 3, none⟩) hM2 _).base (Nat.le_of_lt hRs), (bw3.mono (Nat.le_of_lt hMs)).setCell (p := ⟨M, 3, none⟩) (Nat.le_refl _) _⟩
    · obtain ⟨w2, hw2⟩ : ∃ w2, w2 = ((W.alloc (.cells #[.int .i64 3, .int .i64 3] 53)).alloc (.cells #[.int .i64 (-3), .int .i64 (-3)] 53)).drew := ⟨_, rfl⟩
      have b2 : Below W.heap.size W w2 := by rw [hw2]; exact (((Below.refl _ _).alloc (Nat.le_refl _) _).alloc (by simp) _).drew
      have l2 : w2.heap[W.heap.size + 1]? = some (.cells #[.int .i64 ((-3)), .int .i64 ((-3))] 53 (0, 0)) := by rw [hw2]; exact second_block _ _ _
      have g2 : w2.heap[W.heap.size]? = some (.cells #[.int .i64 3, .int .i64 3] 53 (0, 0)) := by rw [hw2]; exact first_block _ _ _
      rw [← hw2]
      clear hw2 hwr
      obtain ⟨c0, c1⟩ := cells_of_row l2
      obtain ⟨c2, c3⟩ := cells_of_row g2
      have c0 : w2.drew.cell? ⟨W.heap.size + 1, 0, none⟩ = some (.int .i64 ((-3))) := c0
      have c1 : w2.drew.cell? ⟨W.heap.size + 1, 1, none⟩ = some (.int .i64 ((-3))) := c1
      have c2 : w2.drew.cell? ⟨W.heap.size, 0, none⟩ = some (.int .i64 3) := c2
      have c3 : w2.drew.cell? ⟨W.heap.size, 1, none⟩ = some (.int .i64 3) := c3
      have q2 : w2.drew.cell? ⟨w.heap.size, 0, none⟩ = some (.int .i64 3) := (b2.cell (p := ⟨w.heap.size, 0, none⟩) s0).trans q0
      have hMW : M < W.heap.size := Nat.lt_trans hMs s0
      have m2 : w2.drew.cell? ⟨M, 3, none⟩ = some (.slice none 0 0) := (b2.cell (p := ⟨M, 3, none⟩) hMW).trans m0
      have mf2 : w2.drew.frozen? ⟨M, 3, none⟩ = false := (b2.frozen (p := ⟨M, 3, none⟩) hMW).trans mf
      have t2 : w2.drew.cell? ⟨T, 0, none⟩ = some (.func (.func (tellF way)) #[] #[]) := (b2.cell (p := ⟨T, 0, none⟩) (Nat.lt_of_lt_of_le hM.t b0.size)).trans t0
      have bb : Below w.heap.size w w2.drew := (below_step b0 b2).drew
      have hLs : W.heap.size + 1 < w2.drew.heap.size := (Array.getElem?_eq_some_iff.1 l2).1
      have hGs : W.heap.size < w2.drew.heap.size := (Array.getElem?_eq_some_iff.1 g2).1
      have hRs : w.heap.size < w2.drew.heap.size := Nat.lt_of_lt_of_le s0 b2.size
      have hTs : T < w2.drew.heap.size := Nat.lt_of_lt_of_le hM.t bb.size
      have hM2 : M < w2.drew.heap.size := Nat.lt_of_lt_of_le hMs bb.size
      have hne : M ≠ w.heap.size := Nat.ne_of_lt hMs
      have hne2 := hne.symm
      have hneL : W.heap.size + 1 ≠ M := by omega
      have hneG : W.heap.size ≠ M := by omega
      clear l2 g2 b2 m0 mf t0 q0 b0
      go_wp2_with fail
      go_region_held3 (fun w' => w'.cell? ⟨w.heap.size, 0, none⟩ = some (.int .i64 3) ∧ w'.cell? ⟨W.heap.size + 1, 0, none⟩ = some (.int .i64 ((-3))) ∧ w'.cell? ⟨W.heap.size + 1, 1, none⟩ = some (.int .i64 ((-3))) ∧ w'.cell? ⟨W.heap.size, 0, none⟩ = some (.int .i64 3) ∧ w'.cell? ⟨W.heap.size, 1, none⟩ = some (.int .i64 3)) (first | (refine ⟨?_, ?_, ?_, ?_, ?_⟩ <;> with_reducible assumption) | (refine ⟨keep1 ?_ ?_, keep1 ?_ ?_, keep1 ?_ ?_, keep1 ?_ ?_, keep1 ?_ ?_⟩ <;> with_reducible assumption))
        ((go_at_call 100; refine (betwBall_any (inBall 3 way) w.heap.size T ((-3)) ((-3)) 3 3 w2.drew (by decide) (by decide) (by decide) (by decide) (by decide) (by decide) (by decide) (by decide) (fun x y w1 hx1 hx2 hy1 hy2 hb1 => ballIn_any T w.heap.size x y 3 way w1 hw ⟨hx1, hx2, hy1, hy2⟩ (Nat.lt_of_lt_of_le hTs hb1.size) (Nat.lt_of_lt_of_le hRs hb1.size) ((hb1.cell (p := ⟨T, 0, none⟩) hTs).trans t2) ((hb1.cell (p := ⟨w.heap.size, 0, none⟩) hRs).trans q2))).mono ?_; rintro e w3 ⟨v3, rfl, o3, hb⟩; obtain ⟨A3, c3', rfl, _, _⟩ := o3.reads.slice; have bw3 := bb.trans (hb.mono bb.size); have q2 := (hb.cell (p := ⟨w.heap.size, 0, none⟩) hRs).trans q2; have c0 := (hb.cell (p := ⟨W.heap.size + 1, 0, none⟩) hLs).trans c0; have c1 := (hb.cell (p := ⟨W.heap.size + 1, 1, none⟩) hLs).trans c1; have c2 := (hb.cell (p := ⟨W.heap.size, 0, none⟩) hGs).trans c2; have c3 := (hb.cell (p := ⟨W.heap.size, 1, none⟩) hGs).trans c3; have m2 := (hb.cell (p := ⟨M, 3, none⟩) hM2).trans m2; have mf2 := (hb.frozen (p := ⟨M, 3, none⟩) hM2).trans mf2))
      go_wp2
      go_ret
      have HL : betw (inBall 3 way) ((-3), (-3)) (3, 3) = ballL 3 way := (ball_yes (ballOk_yes (by decide) hw)).symm
      exact ⟨_, rfl, by rw [← HL]; exact (o3.setOther (a := ⟨M, 3, none⟩) hM2 _).base (Nat.le_of_lt hRs), (bw3.mono (Nat.le_of_lt hMs)).setCell (p := ⟨M, 3, none⟩) (Nat.le_refl _) _⟩
end
/-! ### BallI -/
section
open Go.RowKit Go.Sort

theorem inB_lit {a : Sp} {b : Bool} (h : picB [a] = b) : inB a.1 a.2 30 = b := by
  subst h
  rw [Bool.eq_iff_iff, picB_one]
  unfold inB InR
  simp
theorem within_is {x y : Int} {b : Bool} {w : World} (h : picB [(x, y)] = b) : Calls Tryz.prog 51 #[.agg #[.int .i64 x, .int .i64 y], .int .i64 30] w (Gives (.bool b) w) := by
  have e := inB_lit h
  simp only at e
  rw [← e]
  exact spotWithin_any x y 30 w (by decide) (by decide)
set_option maxHeartbeats 1600000 in
theorem implBall_any (r way : Int) (w : World) : Calls Tryz.prog 86 #[.int .i64 r, .int .i64 way] w fun e w' => ∃ v', e = .returned v' ∧ Owns w' w.heap.size v' (ballL r way) ∧ Below w.heap.size w w' := by
  rcases h2 : wayOk way with _ | _
  · rw [ball_no (ballOk_no2 h2)]
    go_enter Tryz.func86, Tryz.ntmps86
    go_wp2_with fail
    refine (distanceIn_no _ h2).mono ?_
    rintro e w1 ⟨rfl, b1⟩
    go_wp2
    go_ret
    exact ⟨_, rfl, Owns.nil _ _, b1⟩
  by_cases hr0 : r < 0
  · rw [ball_no (ballOk_no1 (decide_eq_false (by omega)))]
    go_enter Tryz.func86, Tryz.ntmps86
    go_wp2_with fail
    refine (distanceIn_yes _ h2).mono ?_
    rintro e w1 ⟨rfl, b1⟩
    go_wp2
    go_ret
    exact ⟨_, rfl, Owns.nil _ _, b1⟩
  by_cases hr3 : 3 < r
  · rw [ball_no (ballOk_no1 (decide_eq_false (by omega)))]
    go_enter Tryz.func86, Tryz.ntmps86
    go_wp2_with fail
    refine (distanceIn_yes _ h2).mono ?_
    rintro e w1 ⟨rfl, b1⟩
    go_wp2
    go_ret
    exact ⟨_, rfl, Owns.nil _ _, b1⟩
  · have H2 := Lib.hid h2
    go_enter Tryz.func86, Tryz.ntmps86
    go_wp2_with fail
    refine (distanceIn_yes _ h2).mono ?_
    rintro e w1 ⟨rfl, b1⟩
    clear h2
    go_wp2_with fail
    refine (ballsBy_any way _).mono ?_
    rintro e w2 ⟨M, T, rfl, hM, hK, b2⟩
    go_wp2_with fail
    refine (maker_any M T r way _ H2.out (by omega) hK).mono ?_
    rintro e w3 ⟨v3, rfl, o3, b3⟩
    have bw := below_step b1 b2
    have hs := b1.size
    go_wp2
    go_ret
    exact ⟨_, rfl, o3.base bw.size, bw.trans (b3.mono (by omega))⟩

/-! ### how far from a picture -/
def minF (a : Sp) (way : Int) : Int → List Sp → Int
  | n, [] => n
  | n, b :: p => minF a way (min n (farI a b way)) p
theorem minF_append (a : Sp) (way : Int) : ∀ (p q : List Sp) (n : Int), minF a way n (p ++ q) = minF a way (minF a way n p) q
  | [], _, _ => rfl
  | _ :: p, q, _ => minF_append a way p q _
theorem minF_succ {p : List Sp} {a b : Sp} {way n : Int} {k : Nat} (h : p[k]? = some b) : minF a way n (p.take (k + 1)) = min (minF a way n (p.take k)) (farI a b way) := by
  rw [List.take_add_one, h, minF_append]; rfl
theorem minF_far {a : Sp} {way : Int} (ha : picB [a] = true) (hw : wayOk way = true) : ∀ (p : List Sp) (n : Int), 0 ≤ n → (∀ b ∈ p, picB [b] = true) → farFromF a way n p = minF a way n p
  | [], _, _, _ => rfl
  | b :: p, n, hn, h => by
    have hd := dist_yes ha (h b (List.mem_cons_self ..)) hw
    have h0 := farI_nonneg a b way
    show farFromF a way (nearer n (distI a b way)) p = minF a way (min n (farI a b way)) p
    have e : nearer n (distI a b way) = min n (farI a b way) := by rw [hd]; unfold nearer; split <;> omega
    rw [e]
    exact minF_far ha hw p _ (by omega) (fun c hc => h c (List.mem_cons_of_mem _ hc))
theorem far_min {a b : Sp} {p : List Sp} {way : Int} (h : farOk (b :: p) a way = true) : farFromI (b :: p) a way = minF a way (farI a b way) p := by
  have k := farOk_is h
  have hp : ∀ c ∈ b :: p, picB [c] = true := fun c hc => picB_one.2 ((picB_pic k.pp).2.1 c hc)
  rw [farFromI_pic k.pp]
  show farFromF a way (nearer (-1) (distI a b way)) p = _
  have e : nearer (-1) (distI a b way) = farI a b way := by rw [nearer_yes1 (by decide), dist_yes k.pa (hp b (List.mem_cons_self ..)) k.pw]
  rw [e]
  exact minF_far k.pa k.pw p _ (farI_nonneg _ _ _) (fun c hc => hp c (List.mem_cons_of_mem _ hc))
theorem minF_rng (a : Sp) (way : Int) : ∀ (p : List Sp) (n : Int), 0 ≤ n → n ≤ 100000 → 0 ≤ minF a way n p ∧ minF a way n p ≤ 100000
  | [], _, h1, h2 => ⟨h1, h2⟩
  | b :: p, n, h1, h2 => minF_rng a way p _ (by have := farI_nonneg a b way; omega) (by omega)
def Wide (a : Sp) : Prop := -1000 ≤ a.1 ∧ a.1 ≤ 1000 ∧ -1000 ≤ a.2 ∧ a.2 ≤ 1000
theorem wide_of {a : Sp} (h : picB [a] = true) : Wide a := by
  have := picB_one.1 h
  unfold InR at this; unfold Wide; omega
theorem farOk_no4 {p : List Sp} {a : Sp} {way : Int} (h : wayOk way = false) : farOk p a way = false := by unfold farOk; rw [h, Bool.and_false, Bool.and_false, Bool.and_false]
theorem farOk_no3 {p : List Sp} {a : Sp} {way : Int} (h : picB [a] = false) : farOk p a way = false := by unfold farOk; rw [h, Bool.false_and, Bool.and_false, Bool.and_false]
theorem Reads.zero' (w : World) (B : Nat) (A : Addr) : Reads w B (.slice (some A) 0 0) [] := ⟨some A, 0, rfl, by simp, by simp [maxLen], fun h => (by cases h), fun h => by omega⟩
end
end Go.Proofs.YtkiidmdgdjphjaaGreat
