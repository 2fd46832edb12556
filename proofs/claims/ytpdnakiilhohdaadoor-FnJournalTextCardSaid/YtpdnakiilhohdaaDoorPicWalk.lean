/- Texts of one kind, merged: Basic, PicWalk, SpicWalk. No conditions but those that stand in each theorem. -/
import Derived.Test.YtpdnakiilhohdaaDoorBase
import Derived.WalkSpells
import Derived.BigGuardPart
import Derived.BigQuiet
import Derived.Handy
import Derived.Deep.RegionHeld3
namespace Go.Proofs.YtpdnakiilhohdaaDoor
/-! ### Basic -/
section
open Go.RowKit

theorem isNaN_any (x : Int) (w : World) : Calls Tryd.prog 72 #[.int .i64 x] w fun e w' => e = .returned (.bool false) ∧ w = w' := by
  go_enter Tryd.func72, Tryd.ntmps72
  go_wp2
  go_ret
  exact ⟨by simp, rfl⟩

theorem compare_same (x y : Int) (w : World) : Calls Tryd.prog 66 #[.int .i64 x, .int .i64 y] w fun e w' => e = .returned (.int .i64 (cmpI x y)) ∧ w = w' := by
  go_enter Tryd.func66, Tryd.ntmps66
  go_wp2_with (go_at_call 72; refine (isNaN_any _ _).mono ?_; rintro e w' ⟨rfl, rfl⟩)
  all_goals
    go_ret
    exact ⟨ret_int (by unfold cmpI; split <;> (try split) <;> omega), rfl⟩

theorem l1In_any (n a b : Int) (w : World) : Calls Tryd.prog 37 #[.int .i64 n, .int .i64 a, .int .i64 b] w (Gives (.bool (decide (a ≤ n ∧ n ≤ b))) w) := by
  go_enter Tryd.func37, Tryd.ntmps37
  go_wp2
  all_goals
    go_ret
    exact ⟨ret_bool (by simp; try omega), Below.refl _ _⟩
theorem spotWithin_any (x y f : Int) (w : World) (h0 : 0 ≤ f) (h1 : f ≤ 1000000000) : Calls Tryd.prog 34 #[.agg #[.int .i64 x, .int .i64 y], .int .i64 f] w (Gives (.bool (inB x y f)) w) := by
  go_enter Tryd.func34, Tryd.ntmps34
  go_wp2
  all_goals
    go_ret
    exact ⟨ret_bool (by rw [Bool.eq_iff_iff]; simp [inB] <;> omega), (Below.refl _ _).alloc (Nat.le_refl _) _⟩
theorem l1Before_any (x y u v : Int) (w : World) : Calls Tryd.prog 63 #[.agg #[.int .i64 x, .int .i64 y], .agg #[.int .i64 u, .int .i64 v]] w (Gives (.bool (ltB (x, y) (u, v))) w) := by
  go_enter Tryd.func63, Tryd.ntmps63
  go_wp2
  all_goals
    go_ret
    refine ⟨ret_bool (by rw [Bool.eq_iff_iff]; simp [ltB] <;> omega), ?_⟩
    exact ((Below.refl _ _).alloc (Nat.le_refl _) _).alloc (by simp) _

theorem or_any (x y : Int) (b off c : Nat) (w : World) (hx : w.cell? ⟨b, off, none⟩ = some (.int .i64 x)) (hy : w.cell? ⟨b, off + 1, none⟩ = some (.int .i64 y)) :
    Calls Tryd.prog 65 #[.slice (some ⟨b, off, none⟩) 2 c] w (Gives (.int .i64 (orI x y)) w) := by
  by_cases h : x = 0
  · subst h
    by_cases k : y = 0
    · subst k
      go_enter Tryd.func65, Tryd.ntmps65
      go_wp2
      go_rounds 3
      all_goals (go_ret; exact ⟨by simp [orI], Below.refl _ _⟩)
    · go_enter Tryd.func65, Tryd.ntmps65
      go_wp2
      go_rounds 3
      all_goals (go_ret; exact ⟨by simp [orI], Below.refl _ _⟩)
  · have e : orI x y = x := if_neg h
    rw [e]
    go_enter Tryd.func65, Tryd.ntmps65
    go_wp2
    go_rounds 3
    all_goals (go_ret; exact ⟨by simp, Below.refl _ _⟩)
theorem rowOrder_any (x y u v : Int) (w : World) : Calls Tryd.prog 56 #[.agg #[.int .i64 x, .int .i64 y], .agg #[.int .i64 u, .int .i64 v]] w (Gives (.int .i64 (ordI (x, y) (u, v))) w) := by
  go_enter Tryd.func56, Tryd.ntmps56
  go_wp2
  go_region_held3 (fun w' => w'.cell? ⟨w.heap.size, 0, none⟩ = some (.int .i64 x) ∧ w'.cell? ⟨w.heap.size, 1, none⟩ = some (.int .i64 y) ∧ w'.cell? ⟨w.heap.size + 1, 0, none⟩ = some (.int .i64 u) ∧ w'.cell? ⟨w.heap.size + 1, 1, none⟩ = some (.int .i64 v)) (first | (simp [go_sem, World.cell?_alloc_past]; done) | exact ⟨by assumption, by assumption, by assumption, by assumption⟩)
    (first
      | (go_at_call 66; refine (compare_same _ _ _).mono ?_; rintro e w' ⟨rfl, rfl⟩)
      | (go_at_call 65; refine (or_any (cmpI y v) (cmpI x u) _ 0 _ _ ?_ ?_).mono ?_; (simp [go_sem]); (simp [go_sem]); rintro e w' ⟨rfl, hb⟩; have k0 := (hb.cell (p := ⟨w.heap.size, 0, none⟩) (by simp; omega)).trans (show _ = some (Value.int .i64 x) by simp [go_sem, World.cell?_alloc_past]); have k1 := (hb.cell (p := ⟨w.heap.size, 1, none⟩) (by simp; omega)).trans (show _ = some (Value.int .i64 y) by simp [go_sem, World.cell?_alloc_past]); have k2 := (hb.cell (p := ⟨w.heap.size + 1, 0, none⟩) (by simp)).trans (show _ = some (Value.int .i64 u) by simp [go_sem, World.cell?_alloc_past]); have k3 := (hb.cell (p := ⟨w.heap.size + 1, 1, none⟩) (by simp)).trans (show _ = some (Value.int .i64 v) by simp [go_sem, World.cell?_alloc_past])))
  go_wp2
  go_ret
  exact ⟨rfl, (((((Below.refl _ _).alloc (Nat.le_refl _) _).alloc (by simp) _).alloc (by simp; omega) _).drew).trans (hb.mono (by simp; omega))⟩
end
/-! ### PicWalk -/
section
open Go.RowKit Go.Sort

set_option maxHeartbeats 400000 in
theorem implPicture_any (ps : List Sp) (v : Value) (w : World) (h : Reads w w.heap.size v ps) : Calls Tryd.prog 39 #[v] w (Gives (.bool (picB ps)) w) := by
  obtain ⟨A, c, rfl, hc, hm, hA, hr⟩ := h.is
  unfold maxLen at hm
  by_cases hl : 60 < ps.length
  · have e : picB ps = false := decide_eq_false (fun h => by have := h.1; omega)
    rw [e]
    go_enter Tryd.func39, Tryd.ntmps39
    go_wp2
    go_ret
    exact ⟨rfl, Below.refl _ _⟩
  · by_cases h0 : ps.length = 0
    · have e : ps = [] := List.eq_nil_of_length_eq_zero h0
      subst e
      go_enter Tryd.func39, Tryd.ntmps39
      go_wp2
      go_rounds 2
      go_ret
      exact ⟨rfl, Below.refl _ _⟩
    · obtain ⟨b, off, rfl, hb, hcell⟩ := hr (by omega)
      go_enter Tryd.func39, Tryd.ntmps39
      go_wp2
      go_loopw [10] (fun i wr => ∃ k : Nat, k ≤ ps.length ∧ i = .int .i64 k ∧ (∀ j, j < k → OkAt ps j) ∧ Below w.heap.size w wr) (fun i _ => ps.length - (intOf i).toNat)
      case atStart => exact ⟨0, Nat.zero_le _, rfl, fun j hj => by omega, Below.refl _ _⟩
      case round =>
        obtain ⟨k, hk, rfl, hok, hbw⟩ := hrel
        by_cases hlt : k < ps.length
        · obtain ⟨⟨x, y⟩, hxy⟩ : ∃ a, ps[k]? = some a := ⟨_, List.getElem?_eq_getElem hlt⟩
          obtain ⟨c0, c1⟩ := hcell k x y hxy
          have d0 := (hbw.cell (p := ⟨b, off + k * 2, none⟩) hb).trans c0
          have d1 := (hbw.cell (p := ⟨b, off + k * 2 + 1, none⟩) hb).trans c1
          clear c0 c1
          have hbs : w.heap.size ≤ wr.heap.size := hbw.size
          have e0 := cell_regrown (w := wr.alloc (Obj.cells #[Value.int IntKind.i64 x, Value.int IntKind.i64 y] 58)) (a := ⟨wr.heap.size, 0, none⟩) (v := .int .i64 x) (by simp [go_sem])
          have e1 := cell_regrown (w := wr.alloc (Obj.cells #[Value.int IntKind.i64 x, Value.int IntKind.i64 y] 58)) (a := ⟨wr.heap.size, 1, none⟩) (v := .int .i64 y) (by simp [go_sem])
          by_cases hin : InR (x, y)
          · have hf := inB_yes hin
            by_cases hk0 : k ≤ 0
            · have hok' := upto_succ hok (okAt_zero hk0 hxy hin)
              have hH := Lib.hid hok'
              have hd : decide (0 < k) = false := decide_eq_false (by omega)
              clear hok hok' hxy
              go_wp2
              refine wp_region_quiet_below (by kernel_rfl) (by kernel_rfl) ?_
              repeat (go_big_quiet_step ((go_at_call 34; exact gives_regrown (fun w1 _ => spotWithin_any x y 30 w1 (by omega) (by omega)) _ _)))
              refine wpQuiet_nil ?_
              intro _ hw'
              obtain ⟨⟨dq, osq⟩, hw''⟩ := hw'
              subst hw''
              go_wp2
              go_roundw
              case rel => exact ⟨k + 1, by omega, by go_num, hH.out, (hbw.alloc hbs _).trans ((below_regrown _ _ _).mono (by simp; omega))⟩
              case measure => simp [intOf]; omega
            · obtain ⟨⟨u, v⟩, huv⟩ : ∃ a, ps[k - 1]? = some a := ⟨_, List.getElem?_eq_getElem (by omega)⟩
              obtain ⟨c0, c1⟩ := hcell (k - 1) u v huv
              have f0 := cell_regrown (((hbw.alloc hbs (Obj.cells #[Value.int IntKind.i64 x, Value.int IntKind.i64 y] 58)).cell (p := ⟨b, off + (k - 1) * 2, none⟩) hb).trans c0)
              have f1 := cell_regrown (((hbw.alloc hbs (Obj.cells #[Value.int IntKind.i64 x, Value.int IntKind.i64 y] 58)).cell (p := ⟨b, off + (k - 1) * 2 + 1, none⟩) hb).trans c1)
              clear c0 c1
              have hd : decide (0 < k) = true := decide_eq_true (by omega)
              by_cases hlt' : Lt (u, v) (x, y)
              · have hok' := upto_succ hok (okAt_succ hxy huv hin hlt')
                have hH := Lib.hid hok'
                have ho : decide (0 ≤ ordI (u, v) (x, y)) = false := decide_eq_false (by have := ordI_neg.2 hlt'; omega)
                clear hok hok' hxy huv
                go_wp2
                refine wp_region_quiet_below (by kernel_rfl) (by kernel_rfl) ?_
                repeat (go_big_quiet_step (first | (go_at_call 34; exact gives_regrown (fun w1 _ => spotWithin_any x y 30 w1 (by omega) (by omega)) _ _) | (go_at_call 56; exact gives_regrown (fun w1 _ => rowOrder_any u v x y w1) _ _)))
                refine wpQuiet_nil ?_
                intro _ hw'
                obtain ⟨⟨dq, osq⟩, hw''⟩ := hw'
                subst hw''
                go_wp2
                go_roundw
                case rel => exact ⟨k + 1, by omega, by go_num, hH.out, (hbw.alloc hbs _).trans ((below_regrown _ _ _).mono (by simp; omega))⟩
                case measure => simp [intOf]; omega
              · have hH := Lib.hid (picB_no (by omega) (okAt_not_lt hxy (by omega) huv hlt'))
                have ho : decide (0 ≤ ordI (u, v) (x, y)) = true := decide_eq_true (by have := mt ordI_neg.1 hlt'; omega)
                clear hok hxy huv
                go_wp2
                refine wp_region_quiet_below (by kernel_rfl) (by kernel_rfl) ?_
                repeat (go_big_quiet_step (first | (go_at_call 34; exact gives_regrown (fun w1 _ => spotWithin_any x y 30 w1 (by omega) (by omega)) _ _) | (go_at_call 56; exact gives_regrown (fun w1 _ => rowOrder_any u v x y w1) _ _)))
                refine wpQuiet_nil ?_
                intro _ hw'
                obtain ⟨⟨dq, osq⟩, hw''⟩ := hw'
                subst hw''
                go_wp2
                go_ret
                exact ⟨ret_bool hH.out.symm, (hbw.alloc hbs _).trans ((below_regrown _ _ _).mono (by simp; omega))⟩
          · have hH := Lib.hid (picB_no (by omega) (okAt_not_in hxy hin))
            have hf := inB_no hin
            clear hok hxy
            go_wp2
            refine wp_region_quiet_below (by kernel_rfl) (by kernel_rfl) ?_
            repeat (go_big_quiet_step ((go_at_call 34; exact gives_regrown (fun w1 _ => spotWithin_any x y 30 w1 (by omega) (by omega)) _ _)))
            refine wpQuiet_nil ?_
            intro _ hw'
            obtain ⟨⟨dq, osq⟩, hw''⟩ := hw'
            subst hw''
            go_wp2
            go_ret
            exact ⟨ret_bool hH.out.symm, (hbw.alloc hbs _).trans ((below_regrown _ _ _).mono (by simp; omega))⟩
        · have hH := Lib.hid (picB_yes (by omega) (fun j hj => hok j (by omega)))
          clear hok
          go_wp2
          go_ret
          exact ⟨ret_bool hH.out.symm, hbw⟩
end
/-! ### SpicWalk -/
section
open Go.RowKit Go.Sort

end
end Go.Proofs.YtpdnakiilhohdaaDoor
