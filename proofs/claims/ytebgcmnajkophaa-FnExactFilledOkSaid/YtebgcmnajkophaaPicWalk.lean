/- PictureOk, the program's and the model's: both hand back whether the list is a picture. No conditions but that the argument reads as a list of spots. -/
import Derived.Test.YtebgcmnajkophaaBasic
namespace Go.Proofs.Ytebgcmnajkophaa
open Go.RowKit Go.Sort

set_option maxHeartbeats 400000 in
theorem implPicture_any (ps : List Sp) (v : Value) (w : World) (h : Reads w w.heap.size v ps) : Calls Try.prog 19 #[v] w (Gives (.bool (picB ps)) w) := by
  obtain ⟨A, c, rfl, hc, hm, hA, hr⟩ := h.is
  unfold maxLen at hm
  by_cases hl : 60 < ps.length
  · have e : picB ps = false := decide_eq_false (fun h => by have := h.1; omega)
    rw [e]
    go_enter Try.func19, Try.ntmps19
    go_wp2
    go_ret
    exact ⟨rfl, Below.refl _ _⟩
  · by_cases h0 : ps.length = 0
    · have e : ps = [] := List.eq_nil_of_length_eq_zero h0
      subst e
      go_enter Try.func19, Try.ntmps19
      go_wp2
      go_rounds 2
      go_ret
      exact ⟨rfl, Below.refl _ _⟩
    · obtain ⟨b, off, rfl, hb, hcell⟩ := hr (by omega)
      go_enter Try.func19, Try.ntmps19
      go_wp2
      go_loopw [10] (fun i wr => ∃ k : Nat, k ≤ ps.length ∧ i = .int .i64 k ∧ (∀ j, j < k → OkAt ps j) ∧ Below w.heap.size w wr) (fun i _ => ps.length - (intOf i).toNat)
      case atStart => exact ⟨0, Nat.zero_le _, rfl, fun j hj => by omega, Below.refl _ _⟩
      case round =>
        obtain ⟨k, hk, rfl, hok, hbw⟩ := hrel
        by_cases hlt : k < ps.length
        · obtain ⟨⟨x, y⟩, hxy⟩ : ∃ a, ps[k]? = some a := ⟨_, List.getElem?_eq_getElem hlt⟩
          obtain ⟨c0, c1⟩ := hcell k x y hxy
          have d0 := (hbw.cell (p := ⟨b, off + k * 2, none⟩) hb).trans c0
          have d1 := (hbw.cell (p := ⟨b, off + k * 2 + 1, none⟩) hb).trans c1
          clear c0 c1
          have hbs : w.heap.size ≤ wr.heap.size := hbw.size
          have e0 := cell_regrown (w := wr.alloc (Obj.cells #[Value.int IntKind.i64 x, Value.int IntKind.i64 y] 33)) (a := ⟨wr.heap.size, 0, none⟩) (v := .int .i64 x) (by simp [go_sem])
          have e1 := cell_regrown (w := wr.alloc (Obj.cells #[Value.int IntKind.i64 x, Value.int IntKind.i64 y] 33)) (a := ⟨wr.heap.size, 1, none⟩) (v := .int .i64 y) (by simp [go_sem])
          by_cases hin : InR (x, y)
          · have hf := inB_yes hin
            by_cases hk0 : k ≤ 0
            · have hok' := upto_succ hok (okAt_zero hk0 hxy hin)
              have hH := Lib.hid hok'
              have hd : decide (0 < k) = false := decide_eq_false (by omega)
              clear hok hok' hxy
              go_wp2
              refine wp_region_quiet_below (by kernel_rfl) (by kernel_rfl) ?_
              repeat (go_big_quiet_step ((go_at_call 47; exact gives_regrown (fun w1 _ => spotWithin_any x y 30 w1 (by omega) (by omega)) _ _)))
              refine wpQuiet_nil ?_
              intro _ hw'
              obtain ⟨⟨dq, osq⟩, hw''⟩ := hw'
              subst hw''
              go_wp2
              go_roundw
              case rel => exact ⟨k + 1, by omega, by go_num, hH.out, (hbw.alloc hbs _).trans ((below_regrown _ _ _).mono (by simp; omega))⟩
              case measure => simp [intOf]; omega
            · obtain ⟨⟨u, v⟩, huv⟩ : ∃ a, ps[k - 1]? = some a := ⟨_, List.getElem?_eq_getElem (by omega)⟩
              obtain ⟨c0, c1⟩ := hcell (k - 1) u v huv
              have f0 := cell_regrown (((hbw.alloc hbs (Obj.cells #[Value.int IntKind.i64 x, Value.int IntKind.i64 y] 33)).cell (p := ⟨b, off + (k - 1) * 2, none⟩) hb).trans c0)
              have f1 := cell_regrown (((hbw.alloc hbs (Obj.cells #[Value.int IntKind.i64 x, Value.int IntKind.i64 y] 33)).cell (p := ⟨b, off + (k - 1) * 2 + 1, none⟩) hb).trans c1)
              clear c0 c1
              have hd : decide (0 < k) = true := decide_eq_true (by omega)
              by_cases hlt' : Lt (u, v) (x, y)
              · have hok' := upto_succ hok (okAt_succ hxy huv hin hlt')
                have hH := Lib.hid hok'
                have ho : decide (0 ≤ ordI (u, v) (x, y)) = false := decide_eq_false (by have := ordI_neg.2 hlt'; omega)
                clear hok hok' hxy huv
                go_wp2
                refine wp_region_quiet_below (by kernel_rfl) (by kernel_rfl) ?_
                repeat (go_big_quiet_step (first | (go_at_call 47; exact gives_regrown (fun w1 _ => spotWithin_any x y 30 w1 (by omega) (by omega)) _ _) | (go_at_call 48; exact gives_regrown (fun w1 _ => rowOrder_any u v x y w1) _ _)))
                refine wpQuiet_nil ?_
                intro _ hw'
                obtain ⟨⟨dq, osq⟩, hw''⟩ := hw'
                subst hw''
                go_wp2
                go_roundw
                case rel => exact ⟨k + 1, by omega, by go_num, hH.out, (hbw.alloc hbs _).trans ((below_regrown _ _ _).mono (by simp; omega))⟩
                case measure => simp [intOf]; omega
              · have hH := Lib.hid (picB_no (by omega) (okAt_not_lt hxy (by omega) huv hlt'))
                have ho : decide (0 ≤ ordI (u, v) (x, y)) = true := decide_eq_true (by have := mt ordI_neg.1 hlt'; omega)
                clear hok hxy huv
                go_wp2
                refine wp_region_quiet_below (by kernel_rfl) (by kernel_rfl) ?_
                repeat (go_big_quiet_step (first | (go_at_call 47; exact gives_regrown (fun w1 _ => spotWithin_any x y 30 w1 (by omega) (by omega)) _ _) | (go_at_call 48; exact gives_regrown (fun w1 _ => rowOrder_any u v x y w1) _ _)))
                refine wpQuiet_nil ?_
                intro _ hw'
                obtain ⟨⟨dq, osq⟩, hw''⟩ := hw'
                subst hw''
                go_wp2
                go_ret
                exact ⟨ret_bool hH.out.symm, (hbw.alloc hbs _).trans ((below_regrown _ _ _).mono (by simp; omega))⟩
          · have hH := Lib.hid (picB_no (by omega) (okAt_not_in hxy hin))
            have hf := inB_no hin
            clear hok hxy
            go_wp2
            refine wp_region_quiet_below (by kernel_rfl) (by kernel_rfl) ?_
            repeat (go_big_quiet_step ((go_at_call 47; exact gives_regrown (fun w1 _ => spotWithin_any x y 30 w1 (by omega) (by omega)) _ _)))
            refine wpQuiet_nil ?_
            intro _ hw'
            obtain ⟨⟨dq, osq⟩, hw''⟩ := hw'
            subst hw''
            go_wp2
            go_ret
            exact ⟨ret_bool hH.out.symm, (hbw.alloc hbs _).trans ((below_regrown _ _ _).mono (by simp; omega))⟩
        · have hH := Lib.hid (picB_yes (by omega) (fun j hj => hok j (by omega)))
          clear hok
          go_wp2
          go_ret
          exact ⟨ret_bool hH.out.symm, hbw⟩
end Go.Proofs.Ytebgcmnajkophaa
