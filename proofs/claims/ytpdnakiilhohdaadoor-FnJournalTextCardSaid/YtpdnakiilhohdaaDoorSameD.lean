/- The laws' sameDeeds where both are the same. No conditions but those typed. -/
import Derived.Test.YtpdnakiilhohdaaDoorDeedL
import Derived.Lib.QuietBelow
import Derived.BigQuiet
namespace Go.Proofs.YtpdnakiilhohdaaDoor
open Go.RowKit Go.Sort

set_option maxRecDepth 100000 in
set_option maxHeartbeats 1600000 in
theorem sameDeeds_any (ps : List Cn) (v v' : Value) (w : World) (h : CReads w w.heap.size v ps) (h' : CReads w w.heap.size v' ps) : Calls Tryd.prog 21 #[v, v'] w (Gives (.bool true) w) := by
  obtain ⟨A, c, rfl, hc, hm, hA, hr⟩ := h.is
  obtain ⟨A', c', rfl, hc', hm', hA', hr'⟩ := h'.is
  unfold maxLen at hm hm'
  by_cases h0 : ps.length = 0
  · have e : ps = [] := List.eq_nil_of_length_eq_zero h0
    subst e
    go_enter Tryd.func21, Tryd.ntmps21
    go_wp2
    go_rounds 2
    go_ret
    exact ⟨rfl, Below.refl _ _⟩
  · obtain ⟨b, off, rfl, hb, hcell⟩ := hr (by omega)
    obtain ⟨b', off', rfl, hb', hcell'⟩ := hr' (by omega)
    go_enter Tryd.func21, Tryd.ntmps21
    go_wp2
    go_loopw [5] (fun i wr => ∃ k : Nat, k ≤ ps.length ∧ i = .int .i64 k ∧ Below w.heap.size w wr) (fun i _ => ps.length - (intOf i).toNat)
    case atStart => exact ⟨0, Nat.zero_le _, rfl, Below.refl _ _⟩
    case round =>
      obtain ⟨k, hk, rfl, hbw⟩ := hrel
      have hbs : w.heap.size ≤ wr.heap.size := hbw.size
      by_cases hlt : k < ps.length
      · obtain ⟨⟨⟨x, y⟩, r⟩, hxy⟩ : ∃ a, ps[k]? = some a := ⟨_, List.getElem?_eq_getElem hlt⟩
        obtain ⟨c0, c1, c2⟩ := hcell k x y r hxy
        obtain ⟨c3, c4, c5⟩ := hcell' k x y r hxy
        have d0 := cell_regrown ((hbw.cell (p := ⟨b, off + k * 3, none⟩) hb).trans c0)
        have d1 := cell_regrown ((hbw.cell (p := ⟨b, off + k * 3 + 1, none⟩) hb).trans c1)
        have d2 := cell_regrown ((hbw.cell (p := ⟨b, off + k * 3 + 2, none⟩) hb).trans c2)
        have d3 := cell_regrown ((hbw.cell (p := ⟨b', off' + k * 3, none⟩) hb').trans c3)
        have d4 := cell_regrown ((hbw.cell (p := ⟨b', off' + k * 3 + 1, none⟩) hb').trans c4)
        have d5 := cell_regrown ((hbw.cell (p := ⟨b', off' + k * 3 + 2, none⟩) hb').trans c5)
        have hm3 : (0 : Int) ≤ (k : Int) := Int.natCast_nonneg _
        have hm4 : (k : Int) < (ps.length : Int) := by omega
        clear c0 c1 c2 c3 c4 c5 hxy
        go_wp2
        refine wp_region_quiet_below (by kernel_rfl) (by kernel_rfl) ?_
        repeat (go_big_quiet_step (first | fail))
        refine wpQuiet_nil ?_
        intro _ hw'
        obtain ⟨⟨dq, osq⟩, hw''⟩ := hw'
        subst hw''
        go_wp2
        go_roundw
        case rel => exact ⟨k + 1, by omega, by go_num, hbw.trans ((below_regrown _ _ _).mono hbs)⟩
        case measure => simp [intOf]; omega
      · go_wp2
        go_ret
        exact ⟨rfl, hbw⟩
end Go.Proofs.YtpdnakiilhohdaaDoor
