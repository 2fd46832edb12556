/- HasSpot: the model's and the program's. No conditions but those typed. -/
import Derived.Test.YtkiidmdgdjphjaaGreatHas
import Derived.Test.YtkiidmdgdjphjaaGreatPlain
namespace Go.Proofs.YtkiidmdgdjphjaaGreat
open Go.RowKit Go.Sort


theorem ret_tb {i : Value} {a b : Bool} (h : a = b) : Ending.returned (.tuple #[i, .bool a]) = .returned (.tuple #[i, .bool b]) := by rw [h]
/-- an index and whether the list has the spot are handed back; if it has, there -/
def FoundAt (ps : List Sp) (a : Sp) (w : World) (e : Ending) (w' : World) : Prop := (∃ i : Int, e = .returned (.tuple #[.int .i64 i, .bool (decide (a ∈ ps))]) ∧ (a ∈ ps → ∃ k : Nat, i = k ∧ ps[k]? = some a)) ∧ Below w.heap.size w w'
theorem noIdx {ps : List Sp} {a : Sp} {i : Int} (h : decide (a ∈ ps) = false) : a ∈ ps → ∃ k : Nat, i = k ∧ ps[k]? = some a := fun k => absurd k (of_decide_eq_false h)
set_option maxHeartbeats 800000 in
theorem bsf_any (ps : List Sp) (v : Value) (ax ay : Int) (w : World) (h : Reads w w.heap.size v ps) (hs : Sorted ps) (hl : ps.length ≤ 1000000) :
    Calls Tryz.prog 141 #[v, .agg #[.int .i64 ax, .int .i64 ay], .func (.func 52) #[] #[]] w (FoundAt ps (ax, ay) w) := by
  obtain ⟨A, c, rfl, hc, hm, hA, hr⟩ := h.is
  unfold maxLen at hm
  by_cases h0 : ps.length = 0
  · have e : ps = [] := List.eq_nil_of_length_eq_zero h0
    subst e
    go_enter Tryz.func141, Tryz.ntmps141
    go_wp2
    go_rounds 2
    refine wp_region_quiet_below (by kernel_rfl) (by kernel_rfl) ?_
    repeat (go_big_quiet_step (fail))
    refine wpQuiet_nil ?_
    intro _ hw'
    obtain ⟨⟨dq, osq⟩, hw''⟩ := hw'
    subst hw''
    go_wp2
    go_ret2
    exact ⟨⟨0, by simp, fun h => (by cases h)⟩, (box_below _ _ _).trans ((below_regrown _ _ _).mono (by simp))⟩
  · obtain ⟨b, off, rfl, hb, hcell⟩ := hr (by omega)
    go_enter Tryz.func141, Tryz.ntmps141
    go_wp2
    have hb0 := box_below w #[.int .i64 ax, .int .i64 ay] 53
    obtain ⟨W, hW⟩ : ∃ W, W = w.alloc (.cells #[.int .i64 ax, .int .i64 ay] 53) := ⟨_, rfl⟩
    rw [← hW] at hb0 ⊢
    have hWs : W.heap.size = w.heap.size + 1 := by rw [hW]; simp
    have hWs1 := Lib.hid hWs
    have hWs2 : w.heap.size + 1 ≤ W.heap.size := by omega
    clear hWs
    have HW := Lib.hid hW
    clear hW
    go_loopw [9, 10] (fun l h wr => ∃ lo hi : Nat, lo ≤ hi ∧ hi ≤ ps.length ∧ l = .int .i64 lo ∧ h = .int .i64 hi ∧ Lo ps (ax, ay) lo ∧ Hi ps (ax, ay) hi ∧ Below W.heap.size W wr) (fun l h _ => (intOf h).toNat - (intOf l).toNat)
    case atStart => exact ⟨0, ps.length, by omega, Nat.le_refl _, rfl, rfl, fun j x hj => by omega, fun j x hj hx => by have := (List.getElem?_eq_some_iff.1 hx).1; omega, Below.refl _ _⟩
    case round =>
      obtain ⟨lo, hi, hlh, hhl, rfl, rfl, hlo, hhi, hbw⟩ := hrel
      have hbs : W.heap.size ≤ wr.heap.size := hbw.size
      by_cases hlt : lo < hi
      · have hm1 : (lo + hi) / 2 < ps.length := by omega
        obtain ⟨⟨x, y⟩, hxy⟩ : ∃ a, ps[(lo + hi) / 2]? = some a := ⟨_, List.getElem?_eq_getElem hm1⟩
        obtain ⟨c0, c1⟩ := hcell ((lo + hi) / 2) x y hxy
        have f0 := cell_regrown ((hbw.cell (p := ⟨b, off + ((lo + hi) / 2) * 2, none⟩) (show b < W.heap.size by omega)).trans ((hb0.cell (p := ⟨b, off + ((lo + hi) / 2) * 2, none⟩) hb).trans c0))
        have f1 := cell_regrown ((hbw.cell (p := ⟨b, off + ((lo + hi) / 2) * 2 + 1, none⟩) (show b < W.heap.size by omega)).trans ((hb0.cell (p := ⟨b, off + ((lo + hi) / 2) * 2 + 1, none⟩) hb).trans c1))
        clear c0 c1
        have hW := HW.out
        have a0 := (hbw.cell (p := ⟨w.heap.size, 0, none⟩) (by simp [hW])).trans (show _ = some (Value.int .i64 ax) by rw [hW]; simp [go_sem])
        have a1 := (hbw.cell (p := ⟨w.heap.size, 1, none⟩) (by simp [hW])).trans (show _ = some (Value.int .i64 ay) by rw [hW]; simp [go_sem])
        have g0 := cell_regrown a0
        have g1 := cell_regrown a1
        clear hW
        by_cases hl : Lt (x, y) (ax, ay)
        · have fl : decide (ordI (x, y) (ax, ay) < 0) = true := decide_eq_true (ordI_neg.2 hl)
          have hH := Lib.hid (lo_mid hs hxy hl)
          have hG := Lib.hid hhi
          clear hxy hl hlo hhi
          go_wp2
          refine wp_region_quiet_below (by kernel_rfl) (by kernel_rfl) ?_
          repeat (go_big_quiet_step (first | (go_at_call 52; exact gives_regrown (fun w1 _ => rowOrder_any x y ax ay w1) _ _)))
          refine wpQuiet_nil ?_
          intro _ hw'
          obtain ⟨⟨dq, osq⟩, hw''⟩ := hw'
          subst hw''
          go_wp2
          go_roundw
          case rel => exact ⟨(lo + hi) / 2 + 1, hi, by omega, by omega, by go_num, rfl, hH.out, hG.out, hbw.trans ((below_regrown _ _ _).mono hbs)⟩
          case measure => simp [intOf]; omega
        · have fl : decide (ordI (x, y) (ax, ay) < 0) = false := decide_eq_false (mt ordI_neg.1 hl)
          have hH := Lib.hid (hi_mid hs hxy hl)
          have hG := Lib.hid hlo
          clear hxy hl hlo hhi
          go_wp2
          refine wp_region_quiet_below (by kernel_rfl) (by kernel_rfl) ?_
          repeat (go_big_quiet_step (first | (go_at_call 52; exact gives_regrown (fun w1 _ => rowOrder_any x y ax ay w1) _ _)))
          refine wpQuiet_nil ?_
          intro _ hw'
          obtain ⟨⟨dq, osq⟩, hw''⟩ := hw'
          subst hw''
          go_wp2
          go_roundw
          case rel => exact ⟨lo, (lo + hi) / 2, by omega, by omega, rfl, by go_num, hG.out, hH.out, hbw.trans ((below_regrown _ _ _).mono hbs)⟩
          case measure => simp [intOf]; omega
      · obtain rfl : lo = hi := by omega
        by_cases hll : lo < ps.length
        · have hd : decide (lo < ps.length) = true := decide_eq_true hll
          obtain ⟨⟨x, y⟩, hxy⟩ : ∃ a, ps[lo]? = some a := ⟨_, List.getElem?_eq_getElem hll⟩
          obtain ⟨c0, c1⟩ := hcell (lo) x y hxy
          have f0 := cell_regrown ((hbw.cell (p := ⟨b, off + (lo) * 2, none⟩) (show b < W.heap.size by omega)).trans ((hb0.cell (p := ⟨b, off + (lo) * 2, none⟩) hb).trans c0))
          have f1 := cell_regrown ((hbw.cell (p := ⟨b, off + (lo) * 2 + 1, none⟩) (show b < W.heap.size by omega)).trans ((hb0.cell (p := ⟨b, off + (lo) * 2 + 1, none⟩) hb).trans c1))
          clear c0 c1
          have hW := HW.out
          have a0 := (hbw.cell (p := ⟨w.heap.size, 0, none⟩) (by simp [hW])).trans (show _ = some (Value.int .i64 ax) by rw [hW]; simp [go_sem])
          have a1 := (hbw.cell (p := ⟨w.heap.size, 1, none⟩) (by simp [hW])).trans (show _ = some (Value.int .i64 ay) by rw [hW]; simp [go_sem])
          have g0 := cell_regrown a0
          have g1 := cell_regrown a1
          clear hW
          by_cases he : (x, y) = (ax, ay)
          · have hxa := hxy.trans (congrArg some he)
            have hH := Lib.hid (has_yes hxa)
            have HI := Lib.hid hxa
            clear hxa
            have fe : (ordI (x, y) (ax, ay) == 0) = true := by rw [beq_iff_eq]; exact ordI_zero.2 he
            clear hxy hlo hhi he
            go_wp2
            refine wp_region_quiet_below (by kernel_rfl) (by kernel_rfl) ?_
            repeat (go_big_quiet_step (first | (go_at_call 52; exact gives_regrown (fun w1 _ => rowOrder_any x y ax ay w1) _ _)))
            refine wpQuiet_nil ?_
            intro _ hw'
            obtain ⟨⟨dq, osq⟩, hw''⟩ := hw'
            subst hw''
            go_wp2
            go_ret2
            exact ⟨⟨_, ret_tb hH.out.symm, fun _ => ⟨lo, rfl, HI.out⟩⟩, (hb0.trans (hbw.mono (by omega))).trans ((below_regrown _ _ _).mono (by omega))⟩
          · have hH := Lib.hid (has_no hs hlo hhi hxy he)
            have fe : (ordI (x, y) (ax, ay) == 0) = false := beq_eq_false_iff_ne.2 (mt ordI_zero.1 he)
            clear hxy hlo hhi he
            go_wp2
            refine wp_region_quiet_below (by kernel_rfl) (by kernel_rfl) ?_
            repeat (go_big_quiet_step (first | (go_at_call 52; exact gives_regrown (fun w1 _ => rowOrder_any x y ax ay w1) _ _)))
            refine wpQuiet_nil ?_
            intro _ hw'
            obtain ⟨⟨dq, osq⟩, hw''⟩ := hw'
            subst hw''
            go_wp2
            go_ret2
            exact ⟨⟨_, ret_tb hH.out.symm, noIdx hH.out⟩, (hb0.trans (hbw.mono (by omega))).trans ((below_regrown _ _ _).mono (by omega))⟩
        · have hd : decide (lo < ps.length) = false := decide_eq_false hll
          have hH := Lib.hid (has_end hlo (by omega))
          clear hlo hhi
          go_wp2
          refine wp_region_quiet_below (by kernel_rfl) (by kernel_rfl) ?_
          repeat (go_big_quiet_step (first | fail))
          refine wpQuiet_nil ?_
          intro _ hw'
          obtain ⟨⟨dq, osq⟩, hw''⟩ := hw'
          subst hw''
          go_wp2
          go_ret2
          exact ⟨⟨_, ret_tb hH.out.symm, noIdx hH.out⟩, (hb0.trans (hbw.mono (by omega))).trans ((below_regrown _ _ _).mono (by omega))⟩

theorem indexIn_any (ps : List Sp) (v : Value) (ax ay : Int) (w : World) (h : Reads w w.heap.size v ps) (hs : Sorted ps) (hl : ps.length ≤ 1000000) :
    Calls Tryz.prog 135 #[v, .agg #[.int .i64 ax, .int .i64 ay]] w (FoundAt ps (ax, ay) w) := by
  obtain ⟨A, c, rfl, hc, hm⟩ := h.slice
  unfold maxLen at hm
  go_enter Tryz.func135, Tryz.ntmps135
  go_wp2_with fail
  refine (bsf_any ps _ ax ay _ (h.kept (box_below _ _ _)) hs hl).mono ?_
  rintro e w2 ⟨⟨i, rfl, hi⟩, b2⟩
  have HI := Lib.hid hi
  clear hi
  go_wp2
  go_ret2
  exact ⟨⟨i, rfl, HI.out⟩, below_step (box_below _ _ _) b2⟩
theorem inPicture_any (ps : List Sp) (v : Value) (ax ay : Int) (w : World) (h : Reads w w.heap.size v ps) (hs : Sorted ps) (hl : ps.length ≤ 1000000) :
    Calls Tryz.prog 119 #[v, .agg #[.int .i64 ax, .int .i64 ay]] w (Gives (.bool (decide ((ax, ay) ∈ ps))) w) := by
  obtain ⟨A, c, rfl, hc, hm⟩ := h.slice
  unfold maxLen at hm
  go_enter Tryz.func119, Tryz.ntmps119
  go_wp2_with fail
  refine (indexIn_any ps _ ax ay _ (h.kept (box_below _ _ _)) hs hl).mono ?_
  rintro e w2 ⟨⟨i, rfl, _⟩, b2⟩
  go_wp2
  go_ret
  exact ⟨rfl, below_step (box_below _ _ _) b2⟩

end Go.Proofs.YtkiidmdgdjphjaaGreat
