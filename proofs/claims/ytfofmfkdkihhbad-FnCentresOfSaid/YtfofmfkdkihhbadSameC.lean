/- The laws' own sameCentres. No conditions but those typed. -/
import Derived.Test.YtfofmfkdkihhbadCopyC
namespace Go.Proofs.Ytfofmfkdkihhbad
open Go.RowKit Go.Sort

set_option maxHeartbeats 800000 in
theorem sameCentres_any (ps qs : List Cn) (v v' : Value) (w : World) (h : CReads w w.heap.size v ps) (h' : CReads w w.heap.size v' qs) : Calls Try.prog 21 #[v, v'] w (Gives (.bool (decide (ps = qs))) w) := by
  obtain ⟨A, c, rfl, hc, hm, hA, hr⟩ := h.is
  obtain ⟨A', c', rfl, hc', hm', hA', hr'⟩ := h'.is
  unfold maxLen at hm hm'
  by_cases hl : ps.length = qs.length
  · by_cases h0 : ps.length = 0
    · have e : ps = [] := List.eq_nil_of_length_eq_zero h0
      have e' : qs = [] := List.eq_nil_of_length_eq_zero (by omega)
      subst e e'
      go_enter Try.func21, Try.ntmps21
      go_wp2
      go_rounds 2
      go_ret
      exact ⟨rfl, Below.refl _ _⟩
    · obtain ⟨b, off, rfl, hb, hcell⟩ := hr (by omega)
      obtain ⟨b', off', rfl, hb', hcell'⟩ := hr' (by omega)
      have hne : (((ps.length : Int) != (qs.length : Int))) = false := by simp [hl]
      have h1 : ps.length ≤ qs.length := by omega
      have h2 : qs.length ≤ ps.length := by omega
      have hL := Lib.hid hl
      clear hl
      go_enter Try.func21, Try.ntmps21
      go_wp2
      go_loopw [5] (fun i wr => ∃ k : Nat, k ≤ ps.length ∧ i = .int .i64 k ∧ AgreeC ps qs k ∧ Below w.heap.size w wr) (fun i _ => ps.length - (intOf i).toNat)
      case atStart => exact ⟨0, Nat.zero_le _, rfl, fun j hj => by omega, Below.refl _ _⟩
      case round =>
        obtain ⟨k, hk, rfl, hok, hbw⟩ := hrel
        have hbs : w.heap.size ≤ wr.heap.size := hbw.size
        by_cases hlt : k < ps.length
        · have hlt' : k < qs.length := by omega
          obtain ⟨⟨⟨x, y⟩, r⟩, hxy⟩ : ∃ a, ps[k]? = some a := ⟨_, List.getElem?_eq_getElem hlt⟩
          obtain ⟨⟨⟨u, v⟩, s⟩, huv⟩ : ∃ a, qs[k]? = some a := ⟨_, List.getElem?_eq_getElem hlt'⟩
          obtain ⟨c0, c1, c2⟩ := hcell k x y r hxy
          obtain ⟨c3, c4, c5⟩ := hcell' k u v s huv
          have d0 := cell_regrown ((hbw.cell (p := ⟨b, off + k * 3, none⟩) hb).trans c0)
          have d1 := cell_regrown ((hbw.cell (p := ⟨b, off + k * 3 + 1, none⟩) hb).trans c1)
          have d2 := cell_regrown ((hbw.cell (p := ⟨b, off + k * 3 + 2, none⟩) hb).trans c2)
          have d3 := cell_regrown ((hbw.cell (p := ⟨b', off' + k * 3, none⟩) hb').trans c3)
          have d4 := cell_regrown ((hbw.cell (p := ⟨b', off' + k * 3 + 1, none⟩) hb').trans c4)
          have d5 := cell_regrown ((hbw.cell (p := ⟨b', off' + k * 3 + 2, none⟩) hb').trans c5)
          have hm3 : (0 : Int) ≤ (k : Int) := Int.natCast_nonneg _
          have hm4 : (k : Int) < (ps.length : Int) := by omega
          have hm5 : (k : Int) < (qs.length : Int) := by omega
          clear c0 c1 c2 c3 c4 c5
          by_cases hx : (((x, y), r) : Cn) = ((u, v), s)
          · have hH := Lib.hid (agreeC_succ hok hxy huv hx)
            injection hx with hx1 hx2
            injection hx1 with hx0 hx1
            subst hx0 hx1 hx2
            clear hok hxy huv
            go_wp2
            refine wp_region_quiet_below (by kernel_rfl) (by kernel_rfl) ?_
            repeat (go_big_quiet_step (first | fail))
            refine wpQuiet_nil ?_
            intro _ hw'
            obtain ⟨⟨dq, osq⟩, hw''⟩ := hw'
            subst hw''
            go_wp2
            go_roundw
            case rel => exact ⟨k + 1, by omega, by go_num, hH.out, hbw.trans ((below_regrown _ _ _).mono hbs)⟩
            case measure => simp [intOf]; omega
          · have hH := Lib.hid (show decide (ps = qs) = false from decide_eq_false (agreeC_not hxy huv hx))
            clear hok hxy huv
            by_cases hxu : x = u
            · subst hxu
              by_cases hyv : y = v
              · subst hyv
                have hrs : ¬ r = s := fun e => hx (by rw [e])
                clear hx
                go_wp2
                refine wp_region_quiet_below (by kernel_rfl) (by kernel_rfl) ?_
                repeat (go_big_quiet_step (first | fail))
                refine wpQuiet_nil ?_
                intro _ hw'
                obtain ⟨⟨dq, osq⟩, hw''⟩ := hw'
                subst hw''
                go_wp2
                go_ret
                exact ⟨ret_bool hH.out.symm, hbw.trans ((below_regrown _ _ _).mono hbs)⟩
              · clear hx
                go_wp2
                refine wp_region_quiet_below (by kernel_rfl) (by kernel_rfl) ?_
                repeat (go_big_quiet_step (first | fail))
                refine wpQuiet_nil ?_
                intro _ hw'
                obtain ⟨⟨dq, osq⟩, hw''⟩ := hw'
                subst hw''
                go_wp2
                go_ret
                exact ⟨ret_bool hH.out.symm, hbw.trans ((below_regrown _ _ _).mono hbs)⟩
            · clear hx
              go_wp2
              refine wp_region_quiet_below (by kernel_rfl) (by kernel_rfl) ?_
              repeat (go_big_quiet_step (first | fail))
              refine wpQuiet_nil ?_
              intro _ hw'
              obtain ⟨⟨dq, osq⟩, hw''⟩ := hw'
              subst hw''
              go_wp2
              go_ret
              exact ⟨ret_bool hH.out.symm, hbw.trans ((below_regrown _ _ _).mono hbs)⟩
        · have hH := Lib.hid (show decide (ps = qs) = true from decide_eq_true (agreeC_all hL.out (fun j hj => hok j (by omega))))
          clear hok
          go_wp2
          go_ret
          exact ⟨ret_bool hH.out.symm, hbw⟩
  · have e : decide (ps = qs) = false := decide_eq_false (fun e => hl (by rw [e]))
    rw [e]
    have hne : (((ps.length : Int) != (qs.length : Int))) = true := by simp; omega
    clear hl e
    go_enter Try.func21, Try.ntmps21
    go_wp2
    go_ret
    exact ⟨rfl, Below.refl _ _⟩
end Go.Proofs.Ytfofmfkdkihhbad
