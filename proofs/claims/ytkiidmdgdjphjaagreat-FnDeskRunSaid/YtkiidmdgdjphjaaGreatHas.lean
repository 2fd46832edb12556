/- Searching a list in order by halves: the model's l1Has and HasSpot, Go's BinarySearchFunc with the program's comparison, and the program's HasSpot. No conditions but those typed. -/
import Derived.Test.YtkiidmdgdjphjaaGreatPlain
import Derived.Test.YtkiidmdgdjphjaaGreatMem
import Derived.Test.YtkiidmdgdjphjaaGreatPicWalk
namespace Go.Proofs.YtkiidmdgdjphjaaGreat
open Go.RowKit Go.Sort

theorem box_below (w : World) (cs : Array Value) (t : TypeId) : Below w.heap.size w (w.alloc (.cells cs t)) := (Below.refl _ _).alloc (Nat.le_refl _) _

set_option maxHeartbeats 800000 in
theorem l1Has_any (ps : List Sp) (v : Value) (ax ay : Int) (w : World) (h : Reads w w.heap.size v ps) (hs : Sorted ps) (hl : ps.length ≤ 1000000) :
    Calls Tryz.prog 92 #[v, .agg #[.int .i64 ax, .int .i64 ay]] w (Gives (.bool (decide ((ax, ay) ∈ ps))) w) := by
  obtain ⟨A, c, rfl, hc, hm, hA, hr⟩ := h.is
  unfold maxLen at hm
  by_cases h0 : ps.length = 0
  · have e : ps = [] := List.eq_nil_of_length_eq_zero h0
    subst e
    go_enter Tryz.func92, Tryz.ntmps92
    go_wp2
    go_rounds 2
    refine wp_region_quiet_below (by kernel_rfl) (by kernel_rfl) ?_
    repeat (go_big_quiet_step (fail))
    refine wpQuiet_nil ?_
    intro _ hw'
    obtain ⟨⟨dq, osq⟩, hw''⟩ := hw'
    subst hw''
    go_wp2
    go_ret
    exact ⟨by simp, (box_below _ _ _).trans ((below_regrown _ _ _).mono (by simp))⟩
  · obtain ⟨b, off, rfl, hb, hcell⟩ := hr (by omega)
    go_enter Tryz.func92, Tryz.ntmps92
    go_wp2
    have hb0 := box_below w #[.int .i64 ax, .int .i64 ay] 53
    obtain ⟨W, hW⟩ : ∃ W, W = w.alloc (.cells #[.int .i64 ax, .int .i64 ay] 53) := ⟨_, rfl⟩
    rw [← hW] at hb0 ⊢
    have hWs : W.heap.size = w.heap.size + 1 := by rw [hW]; simp
    have hWs1 := Lib.hid hWs
    have hWs2 : w.heap.size + 1 ≤ W.heap.size := by omega
    clear hWs
    have HW := Lib.hid hW
    clear hW
    go_loopw [5, 6] (fun l h wr => ∃ lo hi : Nat, lo ≤ hi ∧ hi ≤ ps.length ∧ l = .int .i64 lo ∧ h = .int .i64 hi ∧ Lo ps (ax, ay) lo ∧ Hi ps (ax, ay) hi ∧ Below W.heap.size W wr) (fun l h _ => (intOf h).toNat - (intOf l).toNat)
    case atStart => exact ⟨0, ps.length, by omega, Nat.le_refl _, rfl, rfl, fun j x hj => by omega, fun j x hj hx => by have := (List.getElem?_eq_some_iff.1 hx).1; omega, Below.refl _ _⟩
    case round =>
      obtain ⟨lo, hi, hlh, hhl, rfl, rfl, hlo, hhi, hbw⟩ := hrel
      have hbs : W.heap.size ≤ wr.heap.size := hbw.size
      by_cases hlt : lo < hi
      · have hm1 : (lo + hi) / 2 < ps.length := by omega
        obtain ⟨⟨x, y⟩, hxy⟩ : ∃ a, ps[(lo + hi) / 2]? = some a := ⟨_, List.getElem?_eq_getElem hm1⟩
        obtain ⟨c0, c1⟩ := hcell ((lo + hi) / 2) x y hxy
        have f0 := cell_regrown ((hbw.cell (p := ⟨b, off + ((lo + hi) / 2) * 2, none⟩) (show b < W.heap.size by omega)).trans ((hb0.cell (p := ⟨b, off + ((lo + hi) / 2) * 2, none⟩) hb).trans c0))
        have f1 := cell_regrown ((hbw.cell (p := ⟨b, off + ((lo + hi) / 2) * 2 + 1, none⟩) (show b < W.heap.size by omega)).trans ((hb0.cell (p := ⟨b, off + ((lo + hi) / 2) * 2 + 1, none⟩) hb).trans c1))
        clear c0 c1
        have hW := HW.out
        have a0 := (hbw.cell (p := ⟨w.heap.size, 0, none⟩) (by simp [hW])).trans (show _ = some (Value.int .i64 ax) by rw [hW]; simp [go_sem])
        have a1 := (hbw.cell (p := ⟨w.heap.size, 1, none⟩) (by simp [hW])).trans (show _ = some (Value.int .i64 ay) by rw [hW]; simp [go_sem])
        have g0 := cell_regrown a0
        have g1 := cell_regrown a1
        clear hW
        by_cases hl : Lt (x, y) (ax, ay)
        · have fl := ltB_iff.2 hl
          have hH := Lib.hid (lo_mid hs hxy hl)
          have hG := Lib.hid hhi
          clear hxy hl hlo hhi
          go_wp2
          refine wp_region_quiet_below (by kernel_rfl) (by kernel_rfl) ?_
          repeat (go_big_quiet_step (first | (go_at_call 56; exact gives_regrown (fun w1 _ => gives_is fl (l1Before_any x y ax ay w1)) _ _)))
          refine wpQuiet_nil ?_
          intro _ hw'
          obtain ⟨⟨dq, osq⟩, hw''⟩ := hw'
          subst hw''
          go_wp2
          go_roundw
          case rel => exact ⟨(lo + hi) / 2 + 1, hi, by omega, by omega, by go_num, rfl, hH.out, hG.out, hbw.trans ((below_regrown _ _ _).mono hbs)⟩
          case measure => simp [intOf]; omega
        · have fl := ltB_no.2 hl
          have hH := Lib.hid (hi_mid hs hxy hl)
          have hG := Lib.hid hlo
          clear hxy hl hlo hhi
          go_wp2
          refine wp_region_quiet_below (by kernel_rfl) (by kernel_rfl) ?_
          repeat (go_big_quiet_step (first | (go_at_call 56; exact gives_regrown (fun w1 _ => gives_is fl (l1Before_any x y ax ay w1)) _ _)))
          refine wpQuiet_nil ?_
          intro _ hw'
          obtain ⟨⟨dq, osq⟩, hw''⟩ := hw'
          subst hw''
          go_wp2
          go_roundw
          case rel => exact ⟨lo, (lo + hi) / 2, by omega, by omega, rfl, by go_num, hG.out, hH.out, hbw.trans ((below_regrown _ _ _).mono hbs)⟩
          case measure => simp [intOf]; omega
      · obtain rfl : lo = hi := by omega
        by_cases hll : lo < ps.length
        · have hd : decide (lo < ps.length) = true := decide_eq_true hll
          obtain ⟨⟨x, y⟩, hxy⟩ : ∃ a, ps[lo]? = some a := ⟨_, List.getElem?_eq_getElem hll⟩
          obtain ⟨c0, c1⟩ := hcell (lo) x y hxy
          have f0 := cell_regrown ((hbw.cell (p := ⟨b, off + (lo) * 2, none⟩) (show b < W.heap.size by omega)).trans ((hb0.cell (p := ⟨b, off + (lo) * 2, none⟩) hb).trans c0))
          have f1 := cell_regrown ((hbw.cell (p := ⟨b, off + (lo) * 2 + 1, none⟩) (show b < W.heap.size by omega)).trans ((hb0.cell (p := ⟨b, off + (lo) * 2 + 1, none⟩) hb).trans c1))
          clear c0 c1
          have hW := HW.out
          have a0 := (hbw.cell (p := ⟨w.heap.size, 0, none⟩) (by simp [hW])).trans (show _ = some (Value.int .i64 ax) by rw [hW]; simp [go_sem])
          have a1 := (hbw.cell (p := ⟨w.heap.size, 1, none⟩) (by simp [hW])).trans (show _ = some (Value.int .i64 ay) by rw [hW]; simp [go_sem])
          have g0 := cell_regrown a0
          have g1 := cell_regrown a1
          clear hW
          by_cases hx : x = ax
          · by_cases hy : y = ay
            · subst hx hy
              have hH := Lib.hid (has_yes hxy)
              clear hxy hlo hhi
              go_wp2
              refine wp_region_quiet_below (by kernel_rfl) (by kernel_rfl) ?_
              repeat (go_big_quiet_step (first | fail))
              refine wpQuiet_nil ?_
              intro _ hw'
              obtain ⟨⟨dq, osq⟩, hw''⟩ := hw'
              subst hw''
              go_wp2
              go_ret
              exact ⟨ret_bool hH.out.symm, (hb0.trans (hbw.mono (by omega))).trans ((below_regrown _ _ _).mono (by omega))⟩
            · have hH := Lib.hid (has_no hs hlo hhi hxy (fun e => hy (Prod.mk.inj e).2))
              subst hx
              clear hxy hlo hhi
              go_wp2
              refine wp_region_quiet_below (by kernel_rfl) (by kernel_rfl) ?_
              repeat (go_big_quiet_step (first | fail))
              refine wpQuiet_nil ?_
              intro _ hw'
              obtain ⟨⟨dq, osq⟩, hw''⟩ := hw'
              subst hw''
              go_wp2
              go_ret
              exact ⟨ret_bool hH.out.symm, (hb0.trans (hbw.mono (by omega))).trans ((below_regrown _ _ _).mono (by omega))⟩
          · have hH := Lib.hid (has_no hs hlo hhi hxy (fun e => hx (Prod.mk.inj e).1))
            clear hxy hlo hhi
            go_wp2
            refine wp_region_quiet_below (by kernel_rfl) (by kernel_rfl) ?_
            repeat (go_big_quiet_step (first | fail))
            refine wpQuiet_nil ?_
            intro _ hw'
            obtain ⟨⟨dq, osq⟩, hw''⟩ := hw'
            subst hw''
            go_wp2
            go_ret
            exact ⟨ret_bool hH.out.symm, (hb0.trans (hbw.mono (by omega))).trans ((below_regrown _ _ _).mono (by omega))⟩
        · have hd : decide (lo < ps.length) = false := decide_eq_false hll
          have hH := Lib.hid (has_end hlo (by omega))
          clear hlo hhi
          go_wp2
          refine wp_region_quiet_below (by kernel_rfl) (by kernel_rfl) ?_
          repeat (go_big_quiet_step (first | fail))
          refine wpQuiet_nil ?_
          intro _ hw'
          obtain ⟨⟨dq, osq⟩, hw''⟩ := hw'
          subst hw''
          go_wp2
          go_ret
          exact ⟨ret_bool hH.out.symm, (hb0.trans (hbw.mono (by omega))).trans ((below_regrown _ _ _).mono (by omega))⟩
end Go.Proofs.YtkiidmdgdjphjaaGreat
