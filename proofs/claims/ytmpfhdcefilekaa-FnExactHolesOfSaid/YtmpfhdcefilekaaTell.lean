/- The program's ways to tell distances: apart, twoThirdsUp, the three closures of distances, between, distanceIn. No conditions but those typed. -/
import Derived.Test.YtmpfhdcefilekaaFarS
import Derived.Test.YtmpfhdcefilekaaBasic
import Derived.Laws.EntriesVeiled
namespace Go.Proofs.Ytmpfhdcefilekaa
open Go.RowKit Go.Sort

def tellI (x y way : Int) : Int := if way = 0 then x + y else if way = 1 then maxI x y else maxI (maxI x y) ((2 * (x + y) + 2) / 3)
theorem farI_tell (a b : Sp) (way : Int) : farI a b way = tellI (absI (a.1 - b.1)) (absI (a.2 - b.2)) way := rfl
theorem tellI_0 (x y : Int) : tellI x y 0 = x + y := rfl
theorem tellI_1 (x y : Int) : tellI x y 1 = max x y := by unfold tellI; rw [if_neg (by decide), if_pos rfl, maxI_is]
theorem tellI_2 (x y : Int) : tellI x y 2 = max (max x y) ((2 * (x + y) + 2) / 3) := by unfold tellI; rw [if_neg (by decide), if_neg (by decide), maxI_is, maxI_is]
theorem apart_any (x y : Int) (w : World) (h : -1000 ≤ x ∧ x ≤ 1000) (k : -1000 ≤ y ∧ y ≤ 1000) : Calls Try.prog 124 #[.int .i64 x, .int .i64 y] w (Gives (.int .i64 (absI (x - y))) w) := by
  obtain ⟨h1, h2⟩ := h
  obtain ⟨k1, k2⟩ := k
  rw [absI_is]
  go_enter Try.func124, Try.ntmps124
  go_wp2
  all_goals go_ret
  all_goals exact ⟨ret_int (by omega), Below.refl _ _⟩
theorem twoThirds_any (n : Int) (w : World) (h : 0 ≤ n ∧ n ≤ 10000) : Calls Try.prog 123 #[.int .i64 n] w (Gives (.int .i64 ((2 * n + 2) / 3)) w) := by
  obtain ⟨h1, h2⟩ := h
  go_enter Try.func123, Try.ntmps123
  go_wp2
  go_ret
  exact ⟨ret_int (by omega), Below.refl _ _⟩
/-- a way to tell distances: the function that does it -/
def TellIs (F : FuncId) (way : Int) : Prop := ∀ (x y : Int) (w : World), 0 ≤ x → x ≤ 2000 → 0 ≤ y → y ≤ 2000 → Calls Try.prog F #[.int .i64 x, .int .i64 y] w (Gives (.int .i64 (tellI x y way)) w)
theorem tell_0 : TellIs 120 0 := by
  intro x y w h1 h2 h3 h4
  rw [tellI_0]
  go_enter Try.func120, Try.ntmps120
  go_wp2
  go_ret
  exact ⟨ret_int (by omega), Below.refl _ _⟩
theorem tell_1 : TellIs 121 1 := by
  intro x y w h1 h2 h3 h4
  rw [tellI_1]
  go_enter Try.func121, Try.ntmps121
  go_wp2
  all_goals go_ret
  all_goals exact ⟨ret_int (by omega), Below.refl _ _⟩
theorem tell_2 : TellIs 122 2 := by
  intro x y w h1 h2 h3 h4
  rw [tellI_2]
  obtain ⟨t, ht⟩ : ∃ t, t = (2 * (x + y) + 2) / 3 := ⟨_, rfl⟩
  have H := Lib.hid ht
  have t0 : 0 ≤ t := by omega
  have t1 : t ≤ 10000 := by omega
  rw [← ht]
  clear ht
  have hc := twoThirds_any (x + y) w (by omega)
  rw [← H.out] at hc
  go_enter Try.func122, Try.ntmps122
  go_wp2_with fail
  refine hc.mono ?_
  rintro e w1 ⟨rfl, b1⟩
  go_wp2
  all_goals go_ret
  all_goals exact ⟨ret_int (by omega), b1⟩

/-- the functions, way by way -/
def tellF (way : Int) : FuncId := if way = 0 then 120 else if way = 1 then 121 else 122
theorem tellF_0 : tellF 0 = 120 := rfl
theorem tellF_1 : tellF 1 = 121 := rfl
theorem tellF_2 : tellF 2 = 122 := rfl
theorem way_cases {way : Int} (h : wayOk way = true) : way = 0 ∨ way = 1 ∨ way = 2 := by
  have : 0 ≤ way ∧ way ≤ 2 := of_decide_eq_true h
  omega
theorem tellF_is {way : Int} (h : wayOk way = true) : TellIs (tellF way) way := by
  have : 0 ≤ way ∧ way ≤ 2 := of_decide_eq_true h
  obtain rfl | rfl | rfl : way = 0 ∨ way = 1 ∨ way = 2 := by omega
  · exact tell_0
  · exact tell_1
  · exact tell_2
set_option maxHeartbeats 400000 in
theorem between_any (x y u v way : Int) (w : World) (hw : wayOk way = true) (h : -1000 ≤ x ∧ x ≤ 1000 ∧ -1000 ≤ y ∧ y ≤ 1000) (k : -1000 ≤ u ∧ u ≤ 1000 ∧ -1000 ≤ v ∧ v ≤ 1000) :
    Calls Try.prog 109 #[.func (.func (tellF way)) #[] #[], .agg #[.int .i64 x, .int .i64 y], .agg #[.int .i64 u, .int .i64 v]] w (Gives (.int .i64 (farI (x, y) (u, v) way)) w) := by
  obtain ⟨h1, h2, h3, h4⟩ := h
  obtain ⟨k1, k2, k3, k4⟩ := k
  rw [farI_tell]
  simp only []
  obtain ⟨dx, hdx⟩ : ∃ dx, dx = absI (x - u) := ⟨_, rfl⟩
  obtain ⟨dy, hdy⟩ : ∃ dy, dy = absI (y - v) := ⟨_, rfl⟩
  have p0 : 0 ≤ dx ∧ dx ≤ 2000 := by rw [hdx]; unfold absI; split <;> omega
  have p1 : 0 ≤ dy ∧ dy ≤ 2000 := by rw [hdy]; unfold absI; split <;> omega
  have cx := fun w1 => apart_any x u w1 (by omega) (by omega)
  have cy := fun w1 => apart_any y v w1 (by omega) (by omega)
  rw [← hdx] at cx ⊢
  rw [← hdy] at cy ⊢
  have CX := Lib.hid cx
  have CY := Lib.hid cy
  clear cx cy hdx hdy
  have b0 : Below w.heap.size w ((w.alloc (.cells #[.int .i64 x, .int .i64 y] 42)).alloc (.cells #[.int .i64 u, .int .i64 v] 42)) := (box_below w _ _).alloc (by simp) _
  obtain ⟨W, hW⟩ : ∃ W, W = (w.alloc (.cells #[.int .i64 x, .int .i64 y] 42)).alloc (.cells #[.int .i64 u, .int .i64 v] 42) := ⟨_, rfl⟩
  have q0 := cell_regrown (show W.cell? ⟨w.heap.size, 0, none⟩ = some (.int .i64 x) by rw [hW]; simp [go_sem, World.cell?_alloc_past])
  have q1 := cell_regrown (show W.cell? ⟨w.heap.size, 1, none⟩ = some (.int .i64 y) by rw [hW]; simp [go_sem, World.cell?_alloc_past])
  have q2 := cell_regrown (show W.cell? ⟨w.heap.size + 1, 0, none⟩ = some (.int .i64 u) by rw [hW]; simp [go_sem])
  have q3 := cell_regrown (show W.cell? ⟨w.heap.size + 1, 1, none⟩ = some (.int .i64 v) by rw [hW]; simp [go_sem])
  rw [← hW] at b0
  obtain rfl | rfl | rfl := way_cases hw
  · rw [tellF_0]
    have HF := Lib.hid (fun w1 => tell_0 dx dy w1 p0.1 p0.2 p1.1 p1.2)
    go_enter Try.func109, Try.ntmps109
    go_wp2_with fail
    rw [← hW]
    clear hW
    go_wp2
    refine wp_region_quiet_below (by kernel_rfl) (by kernel_rfl) ?_
    repeat (go_big_quiet_step (first | (go_at_call 124; with_reducible exact gives_regrown (fun w1 _ => CX.out w1) _ _) | (go_at_call 124; with_reducible exact gives_regrown (fun w1 _ => CY.out w1) _ _) | (with_reducible exact gives_regrown (fun w1 _ => HF.out w1) _ _)))
    refine wpQuiet_nil ?_
    intro _ hw'
    obtain ⟨⟨dq, osq⟩, hw''⟩ := hw'
    subst hw''
    go_wp2
    go_ret
    exact ⟨rfl, below_step b0 (below_regrown _ _ _)⟩
  · rw [tellF_1]
    have HF := Lib.hid (fun w1 => tell_1 dx dy w1 p0.1 p0.2 p1.1 p1.2)
    go_enter Try.func109, Try.ntmps109
    go_wp2_with fail
    rw [← hW]
    clear hW
    go_wp2
    refine wp_region_quiet_below (by kernel_rfl) (by kernel_rfl) ?_
    repeat (go_big_quiet_step (first | (go_at_call 124; with_reducible exact gives_regrown (fun w1 _ => CX.out w1) _ _) | (go_at_call 124; with_reducible exact gives_regrown (fun w1 _ => CY.out w1) _ _) | (with_reducible exact gives_regrown (fun w1 _ => HF.out w1) _ _)))
    refine wpQuiet_nil ?_
    intro _ hw'
    obtain ⟨⟨dq, osq⟩, hw''⟩ := hw'
    subst hw''
    go_wp2
    go_ret
    exact ⟨rfl, below_step b0 (below_regrown _ _ _)⟩
  · rw [tellF_2]
    have HF := Lib.hid (fun w1 => tell_2 dx dy w1 p0.1 p0.2 p1.1 p1.2)
    go_enter Try.func109, Try.ntmps109
    go_wp2_with fail
    rw [← hW]
    clear hW
    go_wp2
    refine wp_region_quiet_below (by kernel_rfl) (by kernel_rfl) ?_
    repeat (go_big_quiet_step (first | (go_at_call 124; with_reducible exact gives_regrown (fun w1 _ => CX.out w1) _ _) | (go_at_call 124; with_reducible exact gives_regrown (fun w1 _ => CY.out w1) _ _) | (with_reducible exact gives_regrown (fun w1 _ => HF.out w1) _ _)))
    refine wpQuiet_nil ?_
    intro _ hw'
    obtain ⟨⟨dq, osq⟩, hw''⟩ := hw'
    subst hw''
    go_wp2
    go_ret
    exact ⟨rfl, below_step b0 (below_regrown _ _ _)⟩

def GivesTell (F : FuncId) (w : World) (e : Ending) (w' : World) : Prop := e = .returned (.tuple #[.func (.func F) #[] #[], .bool true]) ∧ Below w.heap.size w w'
def GivesNone (w : World) (e : Ending) (w' : World) : Prop := e = .returned (.tuple #[.nilFunc, .bool false]) ∧ Below w.heap.size w w'
def GivesThree (w : World) (e : Ending) (w' : World) : Prop := e = .returned (.agg #[.func (.func 120) #[] #[], .func (.func 121) #[] #[], .func (.func 122) #[] #[]]) ∧ Below w.heap.size w w'
theorem distances_any (w : World) : Calls Try.prog 106 #[] w (GivesThree w) := by
  go_enter Try.func106, Try.ntmps106
  go_wp2
  refine bodyPost_ret (v := .agg #[.func (.func 120) #[] #[], .func (.func 121) #[] #[], .func (.func 122) #[] #[]]) (by simp [results, Try.results106, go_sem]) rfl ⟨rfl, ?_⟩
  exact (Below.refl _ _).alloc (Nat.le_refl _) _
theorem distanceIn_no {way : Int} (w : World) (h : wayOk way = false) : Calls Try.prog 99 #[.int .i64 way] w (GivesNone w) := by
  have h' : ¬ (0 ≤ way ∧ way ≤ 2) := of_decide_eq_false h
  clear h
  by_cases h1 : way < 0
  · clear h'
    go_enter Try.func99, Try.ntmps99
    go_wp2
    go_ret2
    exact ⟨rfl, Below.refl _ _⟩
  · have h2 : 3 ≤ way := by omega
    clear h'
    go_enter Try.func99, Try.ntmps99
    go_wp2
    go_ret2
    exact ⟨rfl, Below.refl _ _⟩
theorem distanceIn_yes {way : Int} (w : World) (h : wayOk way = true) : Calls Try.prog 99 #[.int .i64 way] w (GivesTell (tellF way) w) := by
  obtain rfl | rfl | rfl := way_cases h
  · have i0 : ∀ w, (Instr.index 112 (.agg #[.func (.func 120) #[] #[], .func (.func 121) #[] #[], .func (.func 122) #[] #[]]) (.int .i64 0)).run Try.prog w = .ok (.func (.func 120) #[] #[]) w := fun _ => by kernel_rfl
    go_enter Try.func99, Try.ntmps99
    go_wp2_with fail
    refine (distances_any _).mono ?_
    rintro e w1 ⟨rfl, b1⟩
    go_wp2
    go_ret2
    exact ⟨rfl, b1⟩
  · have i0 : ∀ w, (Instr.index 112 (.agg #[.func (.func 120) #[] #[], .func (.func 121) #[] #[], .func (.func 122) #[] #[]]) (.int .i64 1)).run Try.prog w = .ok (.func (.func 121) #[] #[]) w := fun _ => by kernel_rfl
    go_enter Try.func99, Try.ntmps99
    go_wp2_with fail
    refine (distances_any _).mono ?_
    rintro e w1 ⟨rfl, b1⟩
    go_wp2
    go_ret2
    exact ⟨rfl, b1⟩
  · have i0 : ∀ w, (Instr.index 112 (.agg #[.func (.func 120) #[] #[], .func (.func 121) #[] #[], .func (.func 122) #[] #[]]) (.int .i64 2)).run Try.prog w = .ok (.func (.func 122) #[] #[]) w := fun _ => by kernel_rfl
    go_enter Try.func99, Try.ntmps99
    go_wp2_with fail
    refine (distances_any _).mono ?_
    rintro e w1 ⟨rfl, b1⟩
    go_wp2
    go_ret2
    exact ⟨rfl, b1⟩
end Go.Proofs.Ytmpfhdcefilekaa
