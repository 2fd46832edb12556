/- Go's slices.Compact at spots, over a slice of the call's own. No conditions but those typed. -/
import Derived.Test.YtpdpfjebikdgjaaDedup
import Derived.Test.YtpdpfjebikdgjaaEq
import Derived.Test.YtpdpfjebikdgjaaClear
import Derived.Test.YtpdpfjebikdgjaaPut
namespace Go.Proofs.Ytpdpfjebikdgjaa
open Go.RowKit Go.Sort

/-- the second loop's relation: m spots have been looked at; what is kept of them lies at the head; from place m - 1 on all is as it was -/
structure CInv (l cur : List Sp) (m kk : Nat) : Prop where
  len : cur.length = l.length
  lt : kk < m
  head : cur.take kk = dd l m
  high : ∀ j, m - 1 ≤ j → cur[j]? = l[j]?
theorem CInv.start {l : List Sp} {k : Nat} (h0 : 0 < k) (hk : k < l.length) (hall : ∀ j, 0 < j → j < k → l.getD (j - 1) (0, 0) ≠ l.getD j (0, 0)) (hd : l.getD (k - 1) (0, 0) = l.getD k (0, 0)) : CInv l l (k + 1) k :=
  ⟨rfl, by omega, by rw [dd_dup h0 hd, dd_all (by omega) hall], fun _ _ => rfl⟩
theorem CInv.skip {l cur : List Sp} {m kk : Nat} (h : CInv l cur m kk) (hd : l.getD (m - 1) (0, 0) = l.getD m (0, 0)) : CInv l cur (m + 1) kk :=
  ⟨h.len, by have := h.lt; omega, by rw [dd_dup (by have := h.lt; omega) hd]; exact h.head, fun j hj => h.high j (by omega)⟩
theorem CInv.keep {l cur : List Sp} {m kk : Nat} (h : CInv l cur m kk) (hm : m < l.length) {x y : Int} (hx : l.getD m (0, 0) = (x, y)) (hd : l.getD (m - 1) (0, 0) ≠ l.getD m (0, 0)) : CInv l (cur.set kk (x, y)) (m + 1) (kk + 1) := by
  have hlt := h.lt
  have hlen := h.len
  refine ⟨by rw [List.length_set]; exact hlen, by omega, ?_, fun j hj => ?_⟩
  · rw [dd_new (.inr hd), ← h.head, hx, List.take_add_one, List.take_set_of_le (Nat.le_refl _), List.getElem?_set]
    simp [show kk < cur.length by omega]
  · rw [List.getElem?_set_ne (by omega)]; exact h.high j (by omega)

theorem getD_of {l : List Sp} {k : Nat} {a : Sp} (h : l[k]? = some a) : l.getD k (0, 0) = a := by rw [List.getD_eq_getElem?_getD, h]; rfl



set_option maxHeartbeats 1600000 in
theorem compact_any (g cap base : Nat) (l : List Sp) (w : World) (h : Owns w base (.slice (some ⟨g, 0, none⟩) l.length cap) l) (hbase : base ≤ w.heap.size) (hl : l.length ≤ 1000000) (h2 : 2 ≤ l.length) :
    Calls Try.prog 71 #[.slice (some ⟨g, 0, none⟩) l.length cap] w fun e w' => e = .returned (.slice (some ⟨g, 0, none⟩) (dd l l.length).length cap) ∧ Owns w' base (.slice (some ⟨g, 0, none⟩) (dd l l.length).length cap) (dd l l.length) ∧ Below base w w' := by
  have hg : base ≤ g := h.lo.1
  have hO := Lib.hid h
  obtain ⟨A, c, hs, hcap, hm, _⟩ := h.reads.is
  cases hs
  unfold maxLen at hm
  clear h
  go_enter Try.func71, Try.ntmps71
  go_wp2
  go_loopw [3] (fun s3 wr => ∃ k : Nat, 1 ≤ k ∧ k ≤ l.length ∧ s3 = .int .i64 k ∧ Owns wr base (.slice (some ⟨g, 0, none⟩) l.length cap) l ∧ Below base w wr ∧ ∀ j, 0 < j → j < k → l.getD (j - 1) (0, 0) ≠ l.getD j (0, 0)) (fun s3 _ => l.length - (intOf s3).toNat)
  case atStart => exact ⟨1, by omega, by omega, rfl, hO.out, Below.refl _ _, fun j h0 h1 => by omega⟩
  case round =>
    obtain ⟨k, hk1, hk, rfl, hown, hbw, hall⟩ := hrel
    have hbs := hbw.size
    by_cases hlt : k < l.length
    · obtain ⟨x, y, hxy, c0, c1⟩ := hown.there (k := k) hlt
      obtain ⟨u, v, huv, c2, c3⟩ := hown.there (k := k - 1) (by omega)
      have d0 := cell_regrown c0
      have d1 := cell_regrown c1
      have d2 := cell_regrown c2
      have d3 := cell_regrown c3
      have HA := Lib.hid hall
      have HG := Lib.hid (show l.getD k (0, 0) = (x, y) ∧ l.getD (k - 1) (0, 0) = (u, v) from ⟨getD_of hxy, getD_of huv⟩)
      clear c0 c1 c2 c3 hall hxy huv
      by_cases hx : x = u
      · subst hx
        by_cases hy : y = v
        · subst hy
          go_wp2
          refine wp_region_quiet_below (by kernel_rfl) (by kernel_rfl) ?_
          repeat (go_big_quiet_step (first | fail))
          refine wpQuiet_nil ?_
          intro w1 hw'
          obtain ⟨⟨dq, osq⟩, hw''⟩ := hw'
          have hq : Below wr.heap.size wr w1 := by rw [hw'']; exact below_regrown _ _ _
          clear hw'' dq osq
          go_wp2
          have own1 := hown.below (hq.mono (Nat.le_refl _))
          have bw1 : Below base w w1 := hbw.trans (hq.mono (Nat.le_trans hbase hbs))
          have hS := Lib.hid (CInv.start (by omega) hlt HA.out (by rw [HG.out.1, HG.out.2]))
          clear d0 d1 d2 d3 hq hbw hown HA
          go_loopw [3, 5] (fun s3 s5 wr => ∃ (kk k2 : Nat) (cur : List Sp), s3 = .int .i64 kk ∧ s5 = .int .i64 k2 ∧ 1 ≤ k2 ∧ k + k2 ≤ l.length ∧ Owns wr base (.slice (some ⟨g, 0, none⟩) l.length cap) cur ∧ Below base w wr ∧ CInv l cur (k + k2) kk) (fun _ s5 _ => l.length - (intOf s5).toNat)
          case atStart => exact ⟨k, 1, l, rfl, rfl, Nat.le_refl _, by omega, own1, bw1, hS.out⟩
          case round =>
            obtain ⟨kk, k2, cur, rfl, rfl, h1, hle, hown, hbw, hI⟩ := hrel
            have hkk := hI.lt
            have hcl := hI.len
            have hbs := hbw.size
            have I2 := Lib.hid hI
            by_cases hlt2 : k + k2 < l.length
            · obtain ⟨x, y, hxy, c0, c1⟩ := hown.there (k := k + k2) (by omega)
              obtain ⟨u, v, huv, c2, c3⟩ := hown.there (k := k + k2 - 1) (by omega)
              rw [hI.high _ (by omega)] at hxy huv
              have HG := Lib.hid (show l.getD (k + k2) (0, 0) = (x, y) ∧ l.getD (k + k2 - 1) (0, 0) = (u, v) from ⟨getD_of hxy, getD_of huv⟩)
              rw [show (k + k2) * 2 = k * 2 + k2 * 2 by omega] at c0 c1
              rw [show (k + k2 - 1) * 2 = k * 2 + (k2 - 1) * 2 by omega] at c2 c3
              have d0 := cell_regrown c0
              have d1 := cell_regrown c1
              have d2 := cell_regrown c2
              have d3 := cell_regrown c3
              clear c0 c1 c2 c3 hxy huv hI
              by_cases hx : x = u
              · subst hx
                by_cases hy : y = v
                · subst hy
                  go_wp2
                  refine wp_region_quiet_below (by kernel_rfl) (by kernel_rfl) ?_
                  repeat (go_big_quiet_step (first | fail))
                  refine wpQuiet_nil ?_
                  intro w2 hw'
                  obtain ⟨⟨dq, osq⟩, hw''⟩ := hw'
                  have hq : Below wr.heap.size wr w2 := by rw [hw'']; exact below_regrown _ _ _
                  clear hw'' dq osq
                  go_wp2
                  go_roundw
                  case rel => exact ⟨kk, k2 + 1, cur, rfl, by go_num, by omega, by omega, hown.below hq, hbw.trans (hq.mono (Nat.le_trans hbase hbs)), I2.out.skip (by rw [HG.out.1, HG.out.2])⟩
                  case measure => simp [intOf]; omega
                · have E := Lib.hid (show ((x, v) : Sp) ≠ (x, y) from fun e => by cases e; exact hy rfl)
                  go_wp2
                  refine wp_region_quiet_below (by kernel_rfl) (by kernel_rfl) ?_
                  repeat (go_big_quiet_step (first | fail))
                  refine wpQuiet_nil ?_
                  intro w2 hw'
                  obtain ⟨⟨dq, osq⟩, hw''⟩ := hw'
                  have hq : Below wr.heap.size wr w2 := by rw [hw'']; exact below_regrown _ _ _
                  clear hw'' dq osq
                  have own2 := hown.below hq
                  have fz := own2.free
                  have hgl := hown.lo.2
                  obtain ⟨px, py, _, q0, q1⟩ := own2.there (k := kk) (by omega)
                  have e0 := (hq.cell (p := ⟨g, k * 2 + k2 * 2, none⟩) hgl).trans (cell_base d0)
                  have e1 := (hq.cell (p := ⟨g, k * 2 + k2 * 2 + 1, none⟩) hgl).trans (cell_base d1)
                  have bw2 := hbw.trans (hq.mono (Nat.le_trans hbase hbs))
                  clear d0 d1 d2 d3 hq hbw hown
                  go_wp2
                  go_roundw
                  case rel => exact ⟨kk + 1, k2 + 1, cur.set kk (x, y), by go_num, by go_num, by omega, by omega, own2.set kk x y (by omega), (bw2.setCell hg _).setCell hg _, I2.out.keep hlt2 HG.out.1 (by rw [HG.out.1, HG.out.2]; exact E.out)⟩
                  case measure => simp [intOf]; omega
              · have E := Lib.hid (show ((u, v) : Sp) ≠ (x, y) from fun e => by cases e; exact hx rfl)
                go_wp2
                refine wp_region_quiet_below (by kernel_rfl) (by kernel_rfl) ?_
                repeat (go_big_quiet_step (first | fail))
                refine wpQuiet_nil ?_
                intro w2 hw'
                obtain ⟨⟨dq, osq⟩, hw''⟩ := hw'
                have hq : Below wr.heap.size wr w2 := by rw [hw'']; exact below_regrown _ _ _
                clear hw'' dq osq
                have own2 := hown.below hq
                have fz := own2.free
                have hgl := hown.lo.2
                obtain ⟨px, py, _, q0, q1⟩ := own2.there (k := kk) (by omega)
                have e0 := (hq.cell (p := ⟨g, k * 2 + k2 * 2, none⟩) hgl).trans (cell_base d0)
                have e1 := (hq.cell (p := ⟨g, k * 2 + k2 * 2 + 1, none⟩) hgl).trans (cell_base d1)
                have bw2 := hbw.trans (hq.mono (Nat.le_trans hbase hbs))
                clear d0 d1 d2 d3 hq hbw hown
                go_wp2
                go_roundw
                case rel => exact ⟨kk + 1, k2 + 1, cur.set kk (x, y), by go_num, by go_num, by omega, by omega, own2.set kk x y (by omega), (bw2.setCell hg _).setCell hg _, I2.out.keep hlt2 HG.out.1 (by rw [HG.out.1, HG.out.2]; exact E.out)⟩
                case measure => simp [intOf]; omega
            · have hend : k + k2 = l.length := by omega
              have hkl : kk < cur.length := by omega
              rw [hend] at hI
              have hh := hI.head
              have hdl : (dd l l.length).length = kk := by rw [← hh, List.length_take]; omega
              obtain ⟨w5, hclr, own5, bel5⟩ := run_clear_spots hown kk (cap - kk) hkl (kk * 2) rfl
              rw [hh] at own5
              have bw5 := bel5 base w hg hbw
              have HD := Lib.hid hdl
              have hO5 := Lib.hid own5
              clear hI hh hown own5 bel5 hbw I2 hkl hdl
              go_wp2
              go_ret
              exact ⟨by rw [HD.out]; rfl, by rw [HD.out]; exact hO5.out, bw5⟩
        · have E := Lib.hid (show ((x, v) : Sp) ≠ (x, y) from fun e => by cases e; exact hy rfl)
          go_wp2
          refine wp_region_quiet_below (by kernel_rfl) (by kernel_rfl) ?_
          repeat (go_big_quiet_step (first | fail))
          refine wpQuiet_nil ?_
          intro w2 hw'
          obtain ⟨⟨dq, osq⟩, hw''⟩ := hw'
          have hq : Below wr.heap.size wr w2 := by rw [hw'']; exact below_regrown _ _ _
          clear hw'' dq osq
          have bw2 := hbw.trans (hq.mono (Nat.le_trans hbase hbs))
          have own2 := hown.below hq
          have hH := Lib.hid (show ∀ j, 0 < j → j < k + 1 → l.getD (j - 1) (0, 0) ≠ l.getD j (0, 0) from fun j h0 h1 => by
            by_cases e : j = k
            · subst e; rw [HG.out.1, HG.out.2]; exact E.out
            · exact HA.out j h0 (by omega))
          go_wp2
          go_roundw
          case rel => exact ⟨k + 1, by omega, by omega, by go_num, own2, bw2, hH.out⟩
          case measure => simp [intOf]; omega
      · have E := Lib.hid (show ((u, v) : Sp) ≠ (x, y) from fun e => by cases e; exact hx rfl)
        go_wp2
        refine wp_region_quiet_below (by kernel_rfl) (by kernel_rfl) ?_
        repeat (go_big_quiet_step (first | fail))
        refine wpQuiet_nil ?_
        intro w2 hw'
        obtain ⟨⟨dq, osq⟩, hw''⟩ := hw'
        have hq : Below wr.heap.size wr w2 := by rw [hw'']; exact below_regrown _ _ _
        clear hw'' dq osq
        have bw2 := hbw.trans (hq.mono (Nat.le_trans hbase hbs))
        have own2 := hown.below hq
        have hH := Lib.hid (show ∀ j, 0 < j → j < k + 1 → l.getD (j - 1) (0, 0) ≠ l.getD j (0, 0) from fun j h0 h1 => by
          by_cases e : j = k
          · subst e; rw [HG.out.1, HG.out.2]; exact E.out
          · exact HA.out j h0 (by omega))
        go_wp2
        go_roundw
        case rel => exact ⟨k + 1, by omega, by omega, by go_num, own2, bw2, hH.out⟩
        case measure => simp [intOf]; omega
    · obtain rfl : k = l.length := by omega
      have hd := dd_all (Nat.le_refl _) hall
      rw [List.take_length] at hd
      have HD := Lib.hid hd
      clear hall hd
      go_wp2
      go_ret
      exact ⟨by rw [HD.out]; rfl, by rw [HD.out]; exact hown, hbw⟩
end Go.Proofs.Ytpdpfjebikdgjaa
