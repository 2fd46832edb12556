/- Texts of one kind, merged: Clear, Compact, SumW. No conditions but those that stand in each theorem. -/
import Derived.Test.YtkiidmdgdjphjaaGreatMem
import Derived.Lib.SliceRun
import Derived.Test.YtkiidmdgdjphjaaGreatPlain
import Derived.Test.YtkiidmdgdjphjaaGreatMark
import Derived.Test.YtkiidmdgdjphjaaGreatPut
import Derived.Test.YtkiidmdgdjphjaaGreatSort
import Derived.Test.YtkiidmdgdjphjaaGreatMove
import Derived.Test.YtkiidmdgdjphjaaGreatHas
namespace Go.Proofs.YtkiidmdgdjphjaaGreat
open Go.RowKit Go.Sort Go.Shelf
/-! ### Clear -/

theorem Owns.cut {w : World} {base g n cap : Nat} {ps : List Sp} (h : Owns w base (.slice (some ⟨g, 0, none⟩) n cap) ps) (k : Nat) (hk : k ≤ ps.length) : Owns w base (.slice (some ⟨g, 0, none⟩) k cap) (ps.take k) := by
  have hn := h.len
  rcases h.2 with ⟨h', _⟩ | ⟨g', cap', cur, h', hb, hg, hnc, hcm, hcs, htake⟩
  · cases h'
  · cases h'
    have hl : (ps.take k).length = k := by rw [List.length_take]; omega
    have hf : (flat (ps.take k)).length = k * 2 := by rw [flat_length, hl]
    unfold Owns
    rw [hl]
    refine ⟨by rw [hf], .inr ⟨g, cap, cur, rfl, hb, hg, by omega, hcm, hcs, ?_⟩⟩
    rw [flat_take, ← htake, List.take_take]
    congr 1
    omega

theorem Owns.past {base g k cap : Nat} {ps : List Sp} : ∀ (vs : List Value) (o : Nat) (w : World), Owns w base (.slice (some ⟨g, 0, none⟩) k cap) ps → k * 2 ≤ o → Owns (w.setCells g o vs) base (.slice (some ⟨g, 0, none⟩) k cap) ps
  | [], _, _, h, _ => h
  | v :: vs, o, w, h, ho => by
    have hn := h.len
    subst hn
    refine Owns.past vs (o + 1) (w.setCell ⟨g, o, none⟩ v) ?_ (by omega)
    have h1 := (World.ownsRow.stored h o v).1
    rw [List.set_eq_of_length_le (by rw [flat_length]; exact ho)] at h1
    exact h1
theorem below_setCells {B g : Nat} {w0 : World} (hg : B ≤ g) : ∀ (vs : List Value) (o : Nat) (w : World), Below B w0 w → Below B w0 (w.setCells g o vs)
  | [], _, _, h => h
  | v :: vs, o, _, h => below_setCells hg vs (o + 1) _ (h.setCell (p := ⟨g, o, none⟩) hg v)

theorem run_clear_spots {w : World} {base g n cap : Nat} {ps : List Sp} (h : Owns w base (.slice (some ⟨g, 0, none⟩) n cap) ps) (k c : Nat) (hk : k < ps.length) (off : Nat) (hoff : off = k * 2) :
    ∃ w', (∀ ty, (Builtin.clear_ #[23] ty #[.slice (some ⟨g, off, none⟩) (n - k) c]).run Tryz.prog w = .ok (.tuple #[]) w') ∧ Owns w' base (.slice (some ⟨g, 0, none⟩) k cap) (ps.take k) ∧ (∀ B w0, B ≤ g → Below B w0 w → Below B w0 w') := by
  subst hoff
  have hn := h.len
  subst hn
  refine ⟨w.setCells g (k * 2) (Builtin.zeroCells (Value.agg #[.int .i64 0, .int .i64 0]).cells (ps.length - k)).toList, fun ty => ?_, Owns.past _ _ _ (h.cut k (by omega)) (Nat.le_refl _), fun B w0 hB hb => below_setCells hB _ _ _ hb⟩
  have hsz : (Builtin.zeroCells (Value.agg #[.int .i64 0, .int .i64 0]).cells (ps.length - k)).toList.length = (ps.length - k) * 2 := by
    simp [Builtin.zeroCells, Value.cells]
  have hst := run_storeCells_cells (P := Tryz.prog) g (k * 2) (Builtin.zeroCells (Value.agg #[.int .i64 0, .int .i64 0]).cells (ps.length - k)).toList 0 w (fun j hj => ?_) (fun j _ => h.free _) (fun v hv => ?_)
  · simp only [Nat.add_zero] at hst
    obtain ⟨m, hm⟩ : ∃ m, ps.length - k = m + 1 := ⟨ps.length - k - 1, by omega⟩
    rw [hm] at hst ⊢
    simp [Builtin.clear_, run_underlying Tryz.underlying23, hst]
  · rw [hsz] at hj
    obtain ⟨x, y, _, c0, c1⟩ := h.there (k := k + j / 2) (by omega)
    rcases Nat.mod_two_eq_zero_or_one j with e | e
    · rw [show k * 2 + 0 + j = (k + j / 2) * 2 by omega, c0]; rfl
    · rw [show k * 2 + 0 + j = (k + j / 2) * 2 + 1 by omega, c1]; rfl
  · obtain ⟨i, _, hi⟩ : ∃ i, i < (ps.length - k) * 2 ∧ (#[Value.int .i64 0, .int .i64 0] : Array Value)[i % 2]! = v := by simpa [Builtin.zeroCells, Value.cells] using hv
    rcases Nat.mod_two_eq_zero_or_one i with e | e <;> rw [e] at hi <;> rw [← hi] <;> rfl
/-! ### Compact -/

/-- the second loop's relation: m spots have been looked at; what is kept of them lies at the head; from place m - 1 on all is as it was -/
structure CInv (l cur : List Sp) (m kk : Nat) : Prop where
  len : cur.length = l.length
  lt : kk < m
  head : cur.take kk = dd l m
  high : ∀ j, m - 1 ≤ j → cur[j]? = l[j]?
theorem CInv.start {l : List Sp} {k : Nat} (h0 : 0 < k) (hk : k < l.length) (hall : ∀ j, 0 < j → j < k → l.getD (j - 1) (0, 0) ≠ l.getD j (0, 0)) (hd : l.getD (k - 1) (0, 0) = l.getD k (0, 0)) : CInv l l (k + 1) k :=
  ⟨rfl, by omega, by rw [dd_dup h0 hd, dd_all (by omega) hall], fun _ _ => rfl⟩
theorem CInv.skip {l cur : List Sp} {m kk : Nat} (h : CInv l cur m kk) (hd : l.getD (m - 1) (0, 0) = l.getD m (0, 0)) : CInv l cur (m + 1) kk :=
  ⟨h.len, by have := h.lt; omega, by rw [dd_dup (by have := h.lt; omega) hd]; exact h.head, fun j hj => h.high j (by omega)⟩
theorem CInv.keep {l cur : List Sp} {m kk : Nat} (h : CInv l cur m kk) (hm : m < l.length) {x y : Int} (hx : l.getD m (0, 0) = (x, y)) (hd : l.getD (m - 1) (0, 0) ≠ l.getD m (0, 0)) : CInv l (cur.set kk (x, y)) (m + 1) (kk + 1) := by
  have hlt := h.lt
  have hlen := h.len
  refine ⟨by rw [List.length_set]; exact hlen, by omega, ?_, fun j hj => ?_⟩
  · rw [dd_new (.inr hd), ← h.head, hx, List.take_add_one, List.take_set_of_le (Nat.le_refl _), List.getElem?_set]
    simp [show kk < cur.length by omega]
  · rw [List.getElem?_set_ne (by omega)]; exact h.high j (by omega)

theorem getD_of {l : List Sp} {k : Nat} {a : Sp} (h : l[k]? = some a) : l.getD k (0, 0) = a := by rw [List.getD_eq_getElem?_getD, h]; rfl



set_option maxHeartbeats 1600000 in
theorem compact_any (g cap base : Nat) (l : List Sp) (w : World) (h : Owns w base (.slice (some ⟨g, 0, none⟩) l.length cap) l) (hbase : base ≤ w.heap.size) (hl : l.length ≤ 1000000) (h2 : 2 ≤ l.length) :
    Calls Tryz.prog 133 #[.slice (some ⟨g, 0, none⟩) l.length cap] w fun e w' => e = .returned (.slice (some ⟨g, 0, none⟩) (dd l l.length).length cap) ∧ Owns w' base (.slice (some ⟨g, 0, none⟩) (dd l l.length).length cap) (dd l l.length) ∧ Below base w w' := by
  have hg : base ≤ g := h.lo.1
  have hO := Lib.hid h
  obtain ⟨A, c, hs, hcap, hm, _⟩ := h.reads.is
  cases hs
  unfold maxLen at hm
  clear h
  go_enter Tryz.func133, Tryz.ntmps133
  go_wp2
  go_loopw [3] (fun s3 wr => ∃ k : Nat, 1 ≤ k ∧ k ≤ l.length ∧ s3 = .int .i64 k ∧ Owns wr base (.slice (some ⟨g, 0, none⟩) l.length cap) l ∧ Below base w wr ∧ ∀ j, 0 < j → j < k → l.getD (j - 1) (0, 0) ≠ l.getD j (0, 0)) (fun s3 _ => l.length - (intOf s3).toNat)
  case atStart => exact ⟨1, by omega, by omega, rfl, hO.out, Below.refl _ _, fun j h0 h1 => by omega⟩
  case round =>
    obtain ⟨k, hk1, hk, rfl, hown, hbw, hall⟩ := hrel
    have hbs := hbw.size
    by_cases hlt : k < l.length
    · obtain ⟨x, y, hxy, c0, c1⟩ := hown.there (k := k) hlt
      obtain ⟨u, v, huv, c2, c3⟩ := hown.there (k := k - 1) (by omega)
      have d0 := cell_regrown c0
      have d1 := cell_regrown c1
      have d2 := cell_regrown c2
      have d3 := cell_regrown c3
      have HA := Lib.hid hall
      have HG := Lib.hid (show l.getD k (0, 0) = (x, y) ∧ l.getD (k - 1) (0, 0) = (u, v) from ⟨getD_of hxy, getD_of huv⟩)
      clear c0 c1 c2 c3 hall hxy huv
      by_cases hx : x = u
      · subst hx
        by_cases hy : y = v
        · subst hy
          go_wp2
          refine wp_region_quiet_below (by kernel_rfl) (by kernel_rfl) ?_
          repeat (go_big_quiet_step (first | fail))
          refine wpQuiet_nil ?_
          intro w1 hw'
          obtain ⟨⟨dq, osq⟩, hw''⟩ := hw'
          have hq : Below wr.heap.size wr w1 := by rw [hw'']; exact below_regrown _ _ _
          clear hw'' dq osq
          go_wp2
          have own1 := hown.below (hq.mono (Nat.le_refl _))
          have bw1 : Below base w w1 := hbw.trans (hq.mono (Nat.le_trans hbase hbs))
          have hS := Lib.hid (CInv.start (by omega) hlt HA.out (by rw [HG.out.1, HG.out.2]))
          clear d0 d1 d2 d3 hq hbw hown HA
          go_loopw [3, 5] (fun s3 s5 wr => ∃ (kk k2 : Nat) (cur : List Sp), s3 = .int .i64 kk ∧ s5 = .int .i64 k2 ∧ 1 ≤ k2 ∧ k + k2 ≤ l.length ∧ Owns wr base (.slice (some ⟨g, 0, none⟩) l.length cap) cur ∧ Below base w wr ∧ CInv l cur (k + k2) kk) (fun _ s5 _ => l.length - (intOf s5).toNat)
          case atStart => exact ⟨k, 1, l, rfl, rfl, Nat.le_refl _, by omega, own1, bw1, hS.out⟩
          case round =>
            obtain ⟨kk, k2, cur, rfl, rfl, h1, hle, hown, hbw, hI⟩ := hrel
            have hkk := hI.lt
            have hcl := hI.len
            have hbs := hbw.size
            have I2 := Lib.hid hI
            by_cases hlt2 : k + k2 < l.length
            · obtain ⟨x, y, hxy, c0, c1⟩ := hown.there (k := k + k2) (by omega)
              obtain ⟨u, v, huv, c2, c3⟩ := hown.there (k := k + k2 - 1) (by omega)
              rw [hI.high _ (by omega)] at hxy huv
              have HG := Lib.hid (show l.getD (k + k2) (0, 0) = (x, y) ∧ l.getD (k + k2 - 1) (0, 0) = (u, v) from ⟨getD_of hxy, getD_of huv⟩)
              rw [show (k + k2) * 2 = k * 2 + k2 * 2 by omega] at c0 c1
              rw [show (k + k2 - 1) * 2 = k * 2 + (k2 - 1) * 2 by omega] at c2 c3
              have d0 := cell_regrown c0
              have d1 := cell_regrown c1
              have d2 := cell_regrown c2
              have d3 := cell_regrown c3
              clear c0 c1 c2 c3 hxy huv hI
              by_cases hx : x = u
              · subst hx
                by_cases hy : y = v
                · subst hy
                  go_wp2
                  refine wp_region_quiet_below (by kernel_rfl) (by kernel_rfl) ?_
                  repeat (go_big_quiet_step (first | fail))
                  refine wpQuiet_nil ?_
                  intro w2 hw'
                  obtain ⟨⟨dq, osq⟩, hw''⟩ := hw'
                  have hq : Below wr.heap.size wr w2 := by rw [hw'']; exact below_regrown _ _ _
                  clear hw'' dq osq
                  go_wp2
                  go_roundw
                  case rel => exact ⟨kk, k2 + 1, cur, rfl, by go_num, by omega, by omega, hown.below hq, hbw.trans (hq.mono (Nat.le_trans hbase hbs)), I2.out.skip (by rw [HG.out.1, HG.out.2])⟩
                  case measure => simp [intOf]; omega
                · have E := Lib.hid (show ((x, v) : Sp) ≠ (x, y) from fun e => by cases e; exact hy rfl)
                  go_wp2
                  refine wp_region_quiet_below (by kernel_rfl) (by kernel_rfl) ?_
                  repeat (go_big_quiet_step (first | fail))
                  refine wpQuiet_nil ?_
                  intro w2 hw'
                  obtain ⟨⟨dq, osq⟩, hw''⟩ := hw'
                  have hq : Below wr.heap.size wr w2 := by rw [hw'']; exact below_regrown _ _ _
                  clear hw'' dq osq
                  have own2 := hown.below hq
                  have fz := own2.free
                  have hgl := hown.lo.2
                  obtain ⟨px, py, _, q0, q1⟩ := own2.there (k := kk) (by omega)
                  have e0 := (hq.cell (p := ⟨g, k * 2 + k2 * 2, none⟩) hgl).trans (cell_base d0)
                  have e1 := (hq.cell (p := ⟨g, k * 2 + k2 * 2 + 1, none⟩) hgl).trans (cell_base d1)
                  have bw2 := hbw.trans (hq.mono (Nat.le_trans hbase hbs))
                  clear d0 d1 d2 d3 hq hbw hown
                  go_wp2
                  go_roundw
                  case rel => exact ⟨kk + 1, k2 + 1, cur.set kk (x, y), by go_num, by go_num, by omega, by omega, own2.set kk x y (by omega), (bw2.setCell hg _).setCell hg _, I2.out.keep hlt2 HG.out.1 (by rw [HG.out.1, HG.out.2]; exact E.out)⟩
                  case measure => simp [intOf]; omega
              · have E := Lib.hid (show ((u, v) : Sp) ≠ (x, y) from fun e => by cases e; exact hx rfl)
                go_wp2
                refine wp_region_quiet_below (by kernel_rfl) (by kernel_rfl) ?_
                repeat (go_big_quiet_step (first | fail))
                refine wpQuiet_nil ?_
                intro w2 hw'
                obtain ⟨⟨dq, osq⟩, hw''⟩ := hw'
                have hq : Below wr.heap.size wr w2 := by rw [hw'']; exact below_regrown _ _ _
                clear hw'' dq osq
                have own2 := hown.below hq
                have fz := own2.free
                have hgl := hown.lo.2
                obtain ⟨px, py, _, q0, q1⟩ := own2.there (k := kk) (by omega)
                have e0 := (hq.cell (p := ⟨g, k * 2 + k2 * 2, none⟩) hgl).trans (cell_base d0)
                have e1 := (hq.cell (p := ⟨g, k * 2 + k2 * 2 + 1, none⟩) hgl).trans (cell_base d1)
                have bw2 := hbw.trans (hq.mono (Nat.le_trans hbase hbs))
                clear d0 d1 d2 d3 hq hbw hown
                go_wp2
                go_roundw
                case rel => exact ⟨kk + 1, k2 + 1, cur.set kk (x, y), by go_num, by go_num, by omega, by omega, own2.set kk x y (by omega), (bw2.setCell hg _).setCell hg _, I2.out.keep hlt2 HG.out.1 (by rw [HG.out.1, HG.out.2]; exact E.out)⟩
                case measure => simp [intOf]; omega
            · have hend : k + k2 = l.length := by omega
              have hkl : kk < cur.length := by omega
              rw [hend] at hI
              have hh := hI.head
              have hdl : (dd l l.length).length = kk := by rw [← hh, List.length_take]; omega
              obtain ⟨w5, hclr, own5, bel5⟩ := run_clear_spots hown kk (cap - kk) hkl (kk * 2) rfl
              rw [hh] at own5
              have bw5 := bel5 base w hg hbw
              have HD := Lib.hid hdl
              have hO5 := Lib.hid own5
              clear hI hh hown own5 bel5 hbw I2 hkl hdl
              go_wp2
              go_ret
              exact ⟨by rw [HD.out]; rfl, by rw [HD.out]; exact hO5.out, bw5⟩
        · have E := Lib.hid (show ((x, v) : Sp) ≠ (x, y) from fun e => by cases e; exact hy rfl)
          go_wp2
          refine wp_region_quiet_below (by kernel_rfl) (by kernel_rfl) ?_
          repeat (go_big_quiet_step (first | fail))
          refine wpQuiet_nil ?_
          intro w2 hw'
          obtain ⟨⟨dq, osq⟩, hw''⟩ := hw'
          have hq : Below wr.heap.size wr w2 := by rw [hw'']; exact below_regrown _ _ _
          clear hw'' dq osq
          have bw2 := hbw.trans (hq.mono (Nat.le_trans hbase hbs))
          have own2 := hown.below hq
          have hH := Lib.hid (show ∀ j, 0 < j → j < k + 1 → l.getD (j - 1) (0, 0) ≠ l.getD j (0, 0) from fun j h0 h1 => by
            by_cases e : j = k
            · subst e; rw [HG.out.1, HG.out.2]; exact E.out
            · exact HA.out j h0 (by omega))
          go_wp2
          go_roundw
          case rel => exact ⟨k + 1, by omega, by omega, by go_num, own2, bw2, hH.out⟩
          case measure => simp [intOf]; omega
      · have E := Lib.hid (show ((u, v) : Sp) ≠ (x, y) from fun e => by cases e; exact hx rfl)
        go_wp2
        refine wp_region_quiet_below (by kernel_rfl) (by kernel_rfl) ?_
        repeat (go_big_quiet_step (first | fail))
        refine wpQuiet_nil ?_
        intro w2 hw'
        obtain ⟨⟨dq, osq⟩, hw''⟩ := hw'
        have hq : Below wr.heap.size wr w2 := by rw [hw'']; exact below_regrown _ _ _
        clear hw'' dq osq
        have bw2 := hbw.trans (hq.mono (Nat.le_trans hbase hbs))
        have own2 := hown.below hq
        have hH := Lib.hid (show ∀ j, 0 < j → j < k + 1 → l.getD (j - 1) (0, 0) ≠ l.getD j (0, 0) from fun j h0 h1 => by
          by_cases e : j = k
          · subst e; rw [HG.out.1, HG.out.2]; exact E.out
          · exact HA.out j h0 (by omega))
        go_wp2
        go_roundw
        case rel => exact ⟨k + 1, by omega, by omega, by go_num, own2, bw2, hH.out⟩
        case measure => simp [intOf]; omega
    · obtain rfl : k = l.length := by omega
      have hd := dd_all (Nat.le_refl _) hall
      rw [List.take_length] at hd
      have HD := Lib.hid hd
      clear hall hd
      go_wp2
      go_ret
      exact ⟨by rw [HD.out]; rfl, by rw [HD.out]; exact hown, hbw⟩
/-! ### SumW -/

theorem compact_small (n c : Nat) (A : Option Addr) (w : World) (hn : n < 2) :
    Calls Tryz.prog 133 #[.slice A n c] w fun e w' => e = .returned (.slice A n c) ∧ w = w' := by
  go_enter Tryz.func133, Tryz.ntmps133
  go_wp2
  go_ret
  exact ⟨rfl, rfl⟩

theorem dd_one {l : List Sp} (h : l.length < 2) : dd l l.length = l := by
  rw [dd_all (Nat.le_refl _) (fun j h0 h1 => by omega), List.take_length]

set_option maxHeartbeats 800000 in
theorem putInOrder_any (base : Nat) (l : List Sp) (v : Value) (w : World) (h : Owns w base v l) (hbase : base ≤ w.heap.size) (hl : l.length ≤ 1000000) :
    Calls Tryz.prog 111 #[v] w fun e w' => ∃ v' l', e = .returned v' ∧ WS l' ∧ (∀ x, x ∈ l' ↔ x ∈ l) ∧ Owns w' base v' (dd l' l'.length) ∧ Below base w w' := by
  by_cases h0 : l.length = 0
  · obtain rfl := List.eq_nil_of_length_eq_zero h0
    obtain ⟨A, c, rfl, _, _, _⟩ := h.reads.is
    go_enter Tryz.func111, Tryz.ntmps111
    go_wp2_with fail
    refine (AnyF.slices_SortFunc_none sortS A c _ w).mono ?_
    rintro e w1 ⟨rfl, rfl⟩
    go_wp2_with fail
    refine (compact_small 0 c A _ (by omega)).mono ?_
    rintro e w2 ⟨rfl, rfl⟩
    go_wp2
    go_ret
    exact ⟨_, [], rfl, fun i j _ hj => by simp at hj, fun _ => Iff.rfl, h, Below.refl _ _⟩
  · rcases h.2 with ⟨rfl, hz⟩ | ⟨g, cap, cur, rfl, _⟩
    · exact absurd hz h0
    · go_enter Tryz.func111, Tryz.ntmps111
      go_wp2_with fail
      refine (sort_any g cap base l w h hbase hl).mono ?_
      rintro e w1 ⟨rfl, l', hlen, hmem, hws, own1, b1⟩
      have HW := Lib.hid (show WS l' ∧ (∀ x, x ∈ l' ↔ x ∈ l) from ⟨hws, hmem⟩)
      clear hws hmem
      by_cases h2 : l.length < 2
      · have HD := Lib.hid (dd_one (show l'.length < 2 by omega))
        go_wp2_with fail
        refine (compact_small l.length cap _ _ h2).mono ?_
        rintro e w2 ⟨rfl, rfl⟩
        go_wp2
        go_ret
        exact ⟨_, l', rfl, HW.out.1, HW.out.2, by rw [HD.out]; exact own1, b1⟩
      · have hC := compact_any g cap base l' _ (by rw [hlen]; exact own1) (Nat.le_trans hbase b1.size) (by omega) (by omega)
        rw [hlen] at hC
        have HL := Lib.hid hlen
        clear hlen
        go_wp2_with fail
        refine hC.mono ?_
        rintro e w2 ⟨rfl, own2, b2⟩
        go_wp2
        go_ret
        exact ⟨_, l', rfl, HW.out.1, HW.out.2, by rw [HL.out]; exact own2, b1.trans b2⟩

set_option maxHeartbeats 800000 in
theorem closure_any (base B : Nat) (acc qs : List Sp) (v u : Value) (ax ay : Int) (w : World) (ha : Near (ax, ay)) (hq : ∀ b ∈ qs, Near b) (hown : Owns w base v acc) (hbase : base ≤ w.heap.size) (hB : B < base) (hcell : w.cell? ⟨B, 0, none⟩ = some u) (hr : Reads w base u qs) (hl : acc.length ≤ 100000) (hl2 : qs.length ≤ 1000) :
    Calls Tryz.prog 113 #[v, .agg #[.int .i64 ax, .int .i64 ay], .pointer (some ⟨B, 0, none⟩)] w fun e w' => ∃ v', e = .returned v' ∧ Owns w' base v' (acc ++ qs.map (addS (ax, ay))) ∧ Below base w w' := by
  obtain ⟨A, c, rfl, hc, hm, hA, hcq⟩ := hr.is
  unfold maxLen at hm
  have hb0 := box_below w #[.int .i64 ax, .int .i64 ay] 53
  have hBw : B < w.heap.size := by omega
  go_enter Tryz.func113, Tryz.ntmps113
  obtain ⟨W, hW⟩ : ∃ W, W = w.alloc (.cells #[.int .i64 ax, .int .i64 ay] 53) := ⟨_, rfl⟩
  rw [← hW] at hb0
  have hcW : W.cell? ⟨B, 0, none⟩ = some (.slice A qs.length c) := (hb0.cell (p := ⟨B, 0, none⟩) hBw).trans hcell
  have hrow : W.heap[w.heap.size]? = some (.cells #[.int .i64 ax, .int .i64 ay] 53 (0, 0)) := by rw [hW]; exact heap_alloc_new w _
  have ownW : Owns W base v acc := hown.below hb0
  have bW : Below base w W := hb0.mono hbase
  have hne : v.ownBlock ≠ some w.heap.size := fun e => by have := (hown.lt _ e).2; omega
  have hWs : w.heap.size < W.heap.size := by rw [hW]; simp
  by_cases h0 : qs.length = 0
  · obtain rfl := List.eq_nil_of_length_eq_zero h0
    go_wp2_with (first | (rw [← hW]; clear hW) | fail)
    refine wp_loop_rounds 1 ?_
    rw [rounds_succ]
    go_wp2
    go_ret
    exact ⟨v, rfl, by rw [List.map_nil, List.append_nil]; exact ownW, bW⟩
  · obtain ⟨b, off, rfl, hb, hcq⟩ := hcq (by omega)
    go_wp2_with (first | (rw [← hW]; clear hW) | fail)
    go_loopw [0, 10] (fun s0 i wr => ∃ k : Nat, k ≤ qs.length ∧ i = .int .i64 k ∧ Owns wr base s0 (accum acc qs (ax, ay) k) ∧ Below base w wr ∧ wr.heap[w.heap.size]? = some (.cells #[.int .i64 ax, .int .i64 ay] 53 (0, 0)) ∧ s0.ownBlock ≠ some w.heap.size) (fun _ i _ => qs.length - (intOf i).toNat)
    case atStart => exact ⟨0, Nat.zero_le _, rfl, by rw [accum_zero]; exact ownW, bW, hrow, hne⟩
    case round =>
      obtain ⟨k, hk, rfl, hown, hbw, hrow, hne⟩ := hrel
      by_cases hlt : k < qs.length
      · obtain ⟨⟨x, y⟩, hxy⟩ : ∃ a, qs[k]? = some a := ⟨_, List.getElem?_eq_getElem hlt⟩
        obtain ⟨c0, c1⟩ := hcq k x y hxy
        have d0 := (hbw.cell (p := ⟨b, off + k * 2, none⟩) hb).trans c0
        have d1 := (hbw.cell (p := ⟨b, off + k * 2 + 1, none⟩) hb).trans c1
        have a0 := cell_of_row wr _ 0 _ _ _ hrow
        have a1 := cell_of_row wr _ 1 _ _ _ hrow
        simp only [List.getElem?_toArray, List.getElem?_cons_zero, List.getElem?_cons_succ] at a0 a1
        have hbs := hbw.size
        have hlw : w.heap.size < wr.heap.size := (Array.getElem?_eq_some_iff.1 hrow).1
        have hn := hq _ (List.mem_of_getElem? hxy)
        have hT := Lib.hid (accum_succ (acc := acc) (a := (ax, ay)) hxy)
        have hlen := length_accum acc qs (ax, ay) k
        clear c0 c1 hxy
        go_wp2_with fail
        refine (added_in ax ay x y _ ha hn).mono ?_
        rintro e w5 ⟨rfl, b5⟩
        have hal : Below wr.heap.size wr (wr.alloc (.cells #[.int .i64 x, .int .i64 y] 53)) := (Below.refl _ _).alloc (Nat.le_refl _) _
        have b6 := below_step hal b5
        have own5 := hown.below b6
        have bw5 := hbw.trans (b6.mono (Nat.le_trans hbase hbs))
        have row5 := (b6.block w.heap.size hlw).trans hrow
        have hs5 := b6.size
        have b7 : Below w5.heap.size w5 (w5.alloc (.cells #[.int .i64 (ax + x), .int .i64 (ay + y)] 53)) := (Below.refl _ _).alloc (Nat.le_refl _) _
        have own7 := own5.below b7
        go_wp2_with (at_builtin; refine wpList_append_spots (qs := [(ax + x, ay + y)]) own7 (Reads.one (g := w5.heap.size) (by simp [go_sem]) (by simp [go_sem])) (by simp only [List.length_cons, List.length_nil]; omega) (by simp only [World.size_alloc]; omega) rfl (.tmp 14) (.tmp 18) rfl rfl rfl ?_)
        intro v8 w8 own8 g8 hv8
        have bw8 := own7.below_app (bw5.alloc (Nat.le_trans hbase (Nat.le_trans hbs hs5)) _) (by simp only [World.size_alloc]; omega) g8
        have row8 := (g8.block w.heap.size (by simp; omega) (fun e => hne e.symm)).trans ((b7.block w.heap.size (by omega)).trans row5)
        have hne8 : v8.ownBlock ≠ some w.heap.size := by
          rcases hv8 with e | e
          · rw [e]; exact hne
          · rw [e]; intro e2; injection e2 with e2; have := b7.size; omega
        go_wp2
        go_roundw
        case rel => exact ⟨k + 1, by omega, by go_num, by rw [← hT.out]; exact own8, bw8, row8, hne8⟩
        case measure => simp [intOf]; omega
      · obtain rfl : k = qs.length := by omega
        rw [accum_all] at hown
        go_wp2
        go_ret
        exact ⟨_, rfl, hown, hbw⟩

set_option maxHeartbeats 800000 in
theorem folded_any (B : Nat) (ps qs : List Sp) (v u : Value) (w : World) (hp : ∀ a ∈ ps, Near a) (hq : ∀ b ∈ qs, Near b) (hB : B < w.heap.size) (hcell : w.cell? ⟨B, 0, none⟩ = some u) (hv : Reads w w.heap.size v ps) (hr : Reads w w.heap.size u qs) (hl : ps.length ≤ 60) (hl2 : qs.length ≤ 60) :
    Calls Tryz.prog 112 #[v, .slice none 0 0, .func (.func 113) #[] #[.pointer (some ⟨B, 0, none⟩)]] w fun e w' => ∃ v', e = .returned v' ∧ Owns w' w.heap.size v' (sumRaw ps qs) ∧ Below w.heap.size w w' := by
  obtain ⟨A, c, rfl, hc, hm, hA, hcp⟩ := hv.is
  unfold maxLen at hm
  go_enter Tryz.func112, Tryz.ntmps112
  go_wp2
  have b0 := Below.refl w.heap.size w
  by_cases h0 : ps.length = 0
  · obtain rfl := List.eq_nil_of_length_eq_zero h0
    refine wp_loop_rounds 1 ?_
    rw [rounds_succ]
    go_wp2
    go_ret
    exact ⟨_, rfl, Owns.nil _ _, b0⟩
  · obtain ⟨b, off, rfl, hb, hcp⟩ := hcp (by omega)
    go_loopw [7, 13] (fun s i wr => ∃ k : Nat, k ≤ ps.length ∧ i = .int .i64 k ∧ Owns wr w.heap.size s (sumUpto ps qs k) ∧ Below w.heap.size w wr) (fun _ i _ => ps.length - (intOf i).toNat)
    case atStart => exact ⟨0, Nat.zero_le _, rfl, Owns.nil _ _, b0⟩
    case round =>
      obtain ⟨k, hk, rfl, hown, hbw⟩ := hrel
      by_cases hlt : k < ps.length
      · obtain ⟨⟨x, y⟩, hxy⟩ : ∃ a, ps[k]? = some a := ⟨_, List.getElem?_eq_getElem hlt⟩
        obtain ⟨c0, c1⟩ := hcp k x y hxy
        have d0 := (hbw.cell (p := ⟨b, off + k * 2, none⟩) hb).trans c0
        have d1 := (hbw.cell (p := ⟨b, off + k * 2 + 1, none⟩) hb).trans c1
        have hn := hp _ (List.mem_of_getElem? hxy)
        have hT := Lib.hid (sumUpto_succ (qs := qs) hxy)
        have hlen := length_sumUpto ps qs k hk
        have hle : (sumUpto ps qs k).length ≤ 100000 := by
          have := Nat.mul_le_mul hl hl2
          omega
        have hbs := hbw.size
        have hal : Below wr.heap.size wr (wr.alloc (.cells #[.int .i64 x, .int .i64 y] 53)) := (Below.refl _ _).alloc (Nat.le_refl _) _
        have bw1 := hbw.trans (hal.mono hbs)
        have own1 := hown.below hal
        clear c0 c1 hxy hlen
        go_wp2_with fail
        refine (closure_any w.heap.size B _ qs _ u x y _ hn hq own1 bw1.size hB ((bw1.cell (p := ⟨B, 0, none⟩) hB).trans hcell) (hr.below bw1) hle (by omega)).mono ?_
        rintro e w2 ⟨v2, rfl, own2, b2⟩
        have bw2 := bw1.trans b2
        go_wp2
        go_roundw
        case rel => exact ⟨k + 1, by omega, by go_num, by rw [← hT.out]; exact own2, bw2⟩
        case measure => simp [intOf]; omega
      · obtain rfl : k = ps.length := by omega
        rw [sumUpto_all] at hown
        go_wp2
        go_ret
        exact ⟨_, rfl, hown, hbw⟩
end Go.Proofs.YtkiidmdgdjphjaaGreat
