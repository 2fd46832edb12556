/- PictureOk of the model: it hands back whether the list is a picture. No condition but that the argument reads as a list of spots. -/
import Derived.Test.YtebgcmnajkophaaBasic
namespace Go.Proofs.Ytebgcmnajkophaa
open Go.RowKit Go.Sort

set_option maxHeartbeats 800000 in
theorem specPicture_any (ps : List Sp) (v : Value) (w : World) (h : Reads w w.heap.size v ps) : Calls Try.prog 17 #[v] w (Gives (.bool (picB ps)) w) := by
  obtain ⟨A, c, rfl, hc, hm, hA, hr⟩ := h.is
  unfold maxLen at hm
  by_cases h0 : ps.length = 0
  · have e : ps = [] := List.eq_nil_of_length_eq_zero h0
    subst e
    go_enter Try.func17, Try.ntmps17
    go_wp2
    go_rounds 2
    go_ret
    exact ⟨rfl, Below.refl _ _⟩
  · obtain ⟨b, off, rfl, hb, hcell⟩ := hr (by omega)
    go_enter Try.func17, Try.ntmps17
    go_wp2
    go_loopw [3] (fun i wr => ∃ k : Nat, k ≤ ps.length ∧ i = .int .i64 k ∧ (∀ j, j < k → OkAt ps j) ∧ Below w.heap.size w wr) (fun i _ => ps.length - (intOf i).toNat)
    case atStart => exact ⟨0, Nat.zero_le _, rfl, fun j hj => by omega, Below.refl _ _⟩
    case round =>
      obtain ⟨k, hk, rfl, hok, hbw⟩ := hrel
      have hbs : w.heap.size ≤ wr.heap.size := hbw.size
      by_cases hlt : k < ps.length
      · obtain ⟨⟨x, y⟩, hxy⟩ : ∃ a, ps[k]? = some a := ⟨_, List.getElem?_eq_getElem hlt⟩
        obtain ⟨c0, c1⟩ := hcell k x y hxy
        have d0 := cell_regrown ((hbw.cell (p := ⟨b, off + k * 2, none⟩) hb).trans c0)
        have d1 := cell_regrown ((hbw.cell (p := ⟨b, off + k * 2 + 1, none⟩) hb).trans c1)
        clear c0 c1
        by_cases hx : -30 ≤ x ∧ x ≤ 30
        · have fx : decide (-30 ≤ x ∧ x ≤ 30) = true := decide_eq_true hx
          by_cases hy : -30 ≤ y ∧ y ≤ 30
          · have fy : decide (-30 ≤ y ∧ y ≤ 30) = true := decide_eq_true hy
            have hin : InR (x, y) := ⟨hx.1, hx.2, hy.1, hy.2⟩
            obtain ⟨x1, x2⟩ := hx
            obtain ⟨y1, y2⟩ := hy
            by_cases hk0 : k ≤ 0
            · have hd : decide (0 < k) = false := decide_eq_false (by omega)
              have hH := Lib.hid (upto_succ hok (okAt_zero hk0 hxy hin))
              clear hok hxy hin
              go_wp2
              refine wp_region_quiet_below (by kernel_rfl) (by kernel_rfl) ?_
              repeat (go_big_quiet_step (first | (go_at_call 45; exact gives_regrown (fun w1 _ => l1In_any _ _ _ w1) _ _)))
              refine wpQuiet_nil ?_
              intro _ hw'
              obtain ⟨⟨dq, osq⟩, hw''⟩ := hw'
              subst hw''
              go_wp2
              go_roundw
              case rel => exact ⟨k + 1, by omega, by go_num, hH.out, hbw.trans ((below_regrown _ _ _).mono hbs)⟩
              case measure => simp [intOf]; omega
            · have hd : decide (0 < k) = true := decide_eq_true (by omega)
              obtain ⟨⟨u, v⟩, huv⟩ : ∃ a, ps[k - 1]? = some a := ⟨_, List.getElem?_eq_getElem (by omega)⟩
              obtain ⟨c0, c1⟩ := hcell (k - 1) u v huv
              have f0 := cell_regrown ((hbw.cell (p := ⟨b, off + (k - 1) * 2, none⟩) hb).trans c0)
              have f1 := cell_regrown ((hbw.cell (p := ⟨b, off + (k - 1) * 2 + 1, none⟩) hb).trans c1)
              clear c0 c1
              by_cases hl : Lt (u, v) (x, y)
              · have fl := ltB_iff.2 hl
                have hH := Lib.hid (upto_succ hok (okAt_succ hxy huv hin hl))
                clear hok hxy huv hin hl
                go_wp2
                refine wp_region_quiet_below (by kernel_rfl) (by kernel_rfl) ?_
                repeat (go_big_quiet_step (first | (go_at_call 45; exact gives_regrown (fun w1 _ => l1In_any _ _ _ w1) _ _) | (go_at_call 46; exact gives_regrown (fun w1 _ => l1Before_any u v x y w1) _ _)))
                refine wpQuiet_nil ?_
                intro _ hw'
                obtain ⟨⟨dq, osq⟩, hw''⟩ := hw'
                subst hw''
                go_wp2
                go_roundw
                case rel => exact ⟨k + 1, by omega, by go_num, hH.out, hbw.trans ((below_regrown _ _ _).mono hbs)⟩
                case measure => simp [intOf]; omega
              · have fl := ltB_no.2 hl
                have hH := Lib.hid (picB_no (by omega) (okAt_not_lt hxy (by omega) huv hl))
                clear hok hxy huv hin hl
                go_wp2
                refine wp_region_quiet_below (by kernel_rfl) (by kernel_rfl) ?_
                repeat (go_big_quiet_step (first | (go_at_call 45; exact gives_regrown (fun w1 _ => l1In_any _ _ _ w1) _ _) | (go_at_call 46; exact gives_regrown (fun w1 _ => l1Before_any u v x y w1) _ _)))
                refine wpQuiet_nil ?_
                intro _ hw'
                obtain ⟨⟨dq, osq⟩, hw''⟩ := hw'
                subst hw''
                go_wp2
                go_ret
                exact ⟨ret_bool hH.out.symm, hbw.trans ((below_regrown _ _ _).mono hbs)⟩
          · have fy : decide (-30 ≤ y ∧ y ≤ 30) = false := decide_eq_false hy
            have hH := Lib.hid (picB_no (by omega) (okAt_not_in hxy (fun h => hy ⟨h.2.2.1, h.2.2.2⟩)))
            obtain ⟨x1, x2⟩ := hx
            clear hok hxy hy
            go_wp2
            refine wp_region_quiet_below (by kernel_rfl) (by kernel_rfl) ?_
            repeat (go_big_quiet_step (first | (go_at_call 45; exact gives_regrown (fun w1 _ => l1In_any _ _ _ w1) _ _)))
            refine wpQuiet_nil ?_
            intro _ hw'
            obtain ⟨⟨dq, osq⟩, hw''⟩ := hw'
            subst hw''
            go_wp2
            go_ret
            exact ⟨ret_bool hH.out.symm, hbw.trans ((below_regrown _ _ _).mono hbs)⟩
        · have fx : decide (-30 ≤ x ∧ x ≤ 30) = false := decide_eq_false hx
          have hH := Lib.hid (picB_no (by omega) (okAt_not_in hxy (fun h => hx ⟨h.1, h.2.1⟩)))
          clear hok hxy hx
          go_wp2
          refine wp_region_quiet_below (by kernel_rfl) (by kernel_rfl) ?_
          repeat (go_big_quiet_step (first | (go_at_call 45; exact gives_regrown (fun w1 _ => l1In_any _ _ _ w1) _ _)))
          refine wpQuiet_nil ?_
          intro _ hw'
          obtain ⟨⟨dq, osq⟩, hw''⟩ := hw'
          subst hw''
          go_wp2
          go_ret
          exact ⟨ret_bool hH.out.symm, hbw.trans ((below_regrown _ _ _).mono hbs)⟩
      · by_cases hl : ps.length ≤ 60
        · have hH := Lib.hid (picB_yes hl (fun j hj => hok j (by omega)))
          clear hok
          go_wp2
          go_ret
          exact ⟨ret_bool (by rw [hH.out]; simp; omega), hbw⟩
        · have hH := Lib.hid (show picB ps = false from decide_eq_false (fun h => hl h.1))
          clear hok
          go_wp2
          go_ret
          exact ⟨ret_bool (by rw [hH.out]; simp; omega), hbw⟩
end Go.Proofs.Ytebgcmnajkophaa
