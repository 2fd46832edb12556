/- The program's putInOrder, folded and SumOf. No conditions but those typed. -/
import Derived.Test.YtpdpfjebikdgjaaSort
import Derived.Test.YtpdpfjebikdgjaaCompact
import Derived.Test.YtpdpfjebikdgjaaAdded
import Derived.Test.YtpdpfjebikdgjaaHas
namespace Go.Proofs.Ytpdpfjebikdgjaa
open Go.RowKit Go.Sort Go.Shelf

theorem compact_small (n c : Nat) (A : Option Addr) (w : World) (hn : n < 2) :
    Calls Try.prog 71 #[.slice A n c] w fun e w' => e = .returned (.slice A n c) ∧ w = w' := by
  go_enter Try.func71, Try.ntmps71
  go_wp2
  go_ret
  exact ⟨rfl, rfl⟩

theorem dd_one {l : List Sp} (h : l.length < 2) : dd l l.length = l := by
  rw [dd_all (Nat.le_refl _) (fun j h0 h1 => by omega), List.take_length]

set_option maxHeartbeats 800000 in
theorem putInOrder_any (base : Nat) (l : List Sp) (v : Value) (w : World) (h : Owns w base v l) (hbase : base ≤ w.heap.size) (hl : l.length ≤ 1000000) :
    Calls Try.prog 52 #[v] w fun e w' => ∃ v' l', e = .returned v' ∧ WS l' ∧ (∀ x, x ∈ l' ↔ x ∈ l) ∧ Owns w' base v' (dd l' l'.length) ∧ Below base w w' := by
  by_cases h0 : l.length = 0
  · obtain rfl := List.eq_nil_of_length_eq_zero h0
    obtain ⟨A, c, rfl, _, _, _⟩ := h.reads.is
    go_enter Try.func52, Try.ntmps52
    go_wp2_with fail
    refine (AnyF.slices_SortFunc_none sortS A c _ w).mono ?_
    rintro e w1 ⟨rfl, rfl⟩
    go_wp2_with fail
    refine (compact_small 0 c A _ (by omega)).mono ?_
    rintro e w2 ⟨rfl, rfl⟩
    go_wp2
    go_ret
    exact ⟨_, [], rfl, fun i j _ hj => by simp at hj, fun _ => Iff.rfl, h, Below.refl _ _⟩
  · rcases h.2 with ⟨rfl, hz⟩ | ⟨g, cap, cur, rfl, _⟩
    · exact absurd hz h0
    · go_enter Try.func52, Try.ntmps52
      go_wp2_with fail
      refine (sort_any g cap base l w h hbase hl).mono ?_
      rintro e w1 ⟨rfl, l', hlen, hmem, hws, own1, b1⟩
      have HW := Lib.hid (show WS l' ∧ (∀ x, x ∈ l' ↔ x ∈ l) from ⟨hws, hmem⟩)
      clear hws hmem
      by_cases h2 : l.length < 2
      · have HD := Lib.hid (dd_one (show l'.length < 2 by omega))
        go_wp2_with fail
        refine (compact_small l.length cap _ _ h2).mono ?_
        rintro e w2 ⟨rfl, rfl⟩
        go_wp2
        go_ret
        exact ⟨_, l', rfl, HW.out.1, HW.out.2, by rw [HD.out]; exact own1, b1⟩
      · have hC := compact_any g cap base l' _ (by rw [hlen]; exact own1) (Nat.le_trans hbase b1.size) (by omega) (by omega)
        rw [hlen] at hC
        have HL := Lib.hid hlen
        clear hlen
        go_wp2_with fail
        refine hC.mono ?_
        rintro e w2 ⟨rfl, own2, b2⟩
        go_wp2
        go_ret
        exact ⟨_, l', rfl, HW.out.1, HW.out.2, by rw [HL.out]; exact own2, b1.trans b2⟩

/-- a is in reach of an int's exact sums -/
def Near (a : Sp) : Prop := -1000 ≤ a.1 ∧ a.1 ≤ 1000 ∧ -1000 ≤ a.2 ∧ a.2 ≤ 1000
theorem near_of {a : Sp} (h : InR a) : Near a := by unfold InR at h; unfold Near; omega

/-- what has been added behind acc when k spots have been gone through -/
def accum (acc qs : List Sp) (a : Sp) (k : Nat) : List Sp := acc ++ (qs.take k).map (addS a)
theorem accum_zero (acc qs : List Sp) (a : Sp) : accum acc qs a 0 = acc := by simp [accum]
theorem accum_all (acc qs : List Sp) (a : Sp) : accum acc qs a qs.length = acc ++ qs.map (addS a) := by simp [accum]
theorem accum_succ {acc qs : List Sp} {a : Sp} {k : Nat} {x y : Int} (h : qs[k]? = some (x, y)) : accum acc qs a k ++ [(a.1 + x, a.2 + y)] = accum acc qs a (k + 1) := by
  unfold accum
  rw [List.take_add_one, h, List.append_assoc]; simp [addS]
theorem length_accum (acc qs : List Sp) (a : Sp) (k : Nat) : (accum acc qs a k).length ≤ acc.length + qs.length := by
  unfold accum; simp; omega

set_option maxHeartbeats 800000 in
theorem closure_any (base B : Nat) (acc qs : List Sp) (v u : Value) (ax ay : Int) (w : World) (ha : Near (ax, ay)) (hq : ∀ b ∈ qs, Near b) (hown : Owns w base v acc) (hbase : base ≤ w.heap.size) (hB : B < base) (hcell : w.cell? ⟨B, 0, none⟩ = some u) (hr : Reads w base u qs) (hl : acc.length ≤ 100000) (hl2 : qs.length ≤ 1000) :
    Calls Try.prog 54 #[v, .agg #[.int .i64 ax, .int .i64 ay], .pointer (some ⟨B, 0, none⟩)] w fun e w' => ∃ v', e = .returned v' ∧ Owns w' base v' (acc ++ qs.map (addS (ax, ay))) ∧ Below base w w' := by
  obtain ⟨A, c, rfl, hc, hm, hA, hcq⟩ := hr.is
  unfold maxLen at hm
  have hb0 := box_below w #[.int .i64 ax, .int .i64 ay] 24
  have hBw : B < w.heap.size := by omega
  go_enter Try.func54, Try.ntmps54
  obtain ⟨W, hW⟩ : ∃ W, W = w.alloc (.cells #[.int .i64 ax, .int .i64 ay] 24) := ⟨_, rfl⟩
  rw [← hW] at hb0
  have hcW : W.cell? ⟨B, 0, none⟩ = some (.slice A qs.length c) := (hb0.cell (p := ⟨B, 0, none⟩) hBw).trans hcell
  have hrow : W.heap[w.heap.size]? = some (.cells #[.int .i64 ax, .int .i64 ay] 24 (0, 0)) := by rw [hW]; exact heap_alloc_new w _
  have ownW : Owns W base v acc := hown.below hb0
  have bW : Below base w W := hb0.mono hbase
  have hne : v.ownBlock ≠ some w.heap.size := fun e => by have := (hown.lt _ e).2; omega
  have hWs : w.heap.size < W.heap.size := by rw [hW]; simp
  by_cases h0 : qs.length = 0
  · obtain rfl := List.eq_nil_of_length_eq_zero h0
    go_wp2_with (first | (rw [← hW]; clear hW) | fail)
    refine wp_loop_rounds 1 ?_
    rw [rounds_succ]
    go_wp2
    go_ret
    exact ⟨v, rfl, by rw [List.map_nil, List.append_nil]; exact ownW, bW⟩
  · obtain ⟨b, off, rfl, hb, hcq⟩ := hcq (by omega)
    go_wp2_with (first | (rw [← hW]; clear hW) | fail)
    go_loopw [0, 10] (fun s0 i wr => ∃ k : Nat, k ≤ qs.length ∧ i = .int .i64 k ∧ Owns wr base s0 (accum acc qs (ax, ay) k) ∧ Below base w wr ∧ wr.heap[w.heap.size]? = some (.cells #[.int .i64 ax, .int .i64 ay] 24 (0, 0)) ∧ s0.ownBlock ≠ some w.heap.size) (fun _ i _ => qs.length - (intOf i).toNat)
    case atStart => exact ⟨0, Nat.zero_le _, rfl, by rw [accum_zero]; exact ownW, bW, hrow, hne⟩
    case round =>
      obtain ⟨k, hk, rfl, hown, hbw, hrow, hne⟩ := hrel
      by_cases hlt : k < qs.length
      · obtain ⟨⟨x, y⟩, hxy⟩ : ∃ a, qs[k]? = some a := ⟨_, List.getElem?_eq_getElem hlt⟩
        obtain ⟨c0, c1⟩ := hcq k x y hxy
        have d0 := (hbw.cell (p := ⟨b, off + k * 2, none⟩) hb).trans c0
        have d1 := (hbw.cell (p := ⟨b, off + k * 2 + 1, none⟩) hb).trans c1
        have a0 := cell_of_row wr _ 0 _ _ _ hrow
        have a1 := cell_of_row wr _ 1 _ _ _ hrow
        simp only [List.getElem?_toArray, List.getElem?_cons_zero, List.getElem?_cons_succ] at a0 a1
        have hbs := hbw.size
        have hlw : w.heap.size < wr.heap.size := (Array.getElem?_eq_some_iff.1 hrow).1
        have hn := hq _ (List.mem_of_getElem? hxy)
        have hT := Lib.hid (accum_succ (acc := acc) (a := (ax, ay)) hxy)
        have hlen := length_accum acc qs (ax, ay) k
        clear c0 c1 hxy
        go_wp2_with fail
        refine (added_in ax ay x y _ ha hn).mono ?_
        rintro e w5 ⟨rfl, b5⟩
        have hal : Below wr.heap.size wr (wr.alloc (.cells #[.int .i64 x, .int .i64 y] 24)) := (Below.refl _ _).alloc (Nat.le_refl _) _
        have b6 := below_step hal b5
        have own5 := hown.below b6
        have bw5 := hbw.trans (b6.mono (Nat.le_trans hbase hbs))
        have row5 := (b6.block w.heap.size hlw).trans hrow
        have hs5 := b6.size
        have b7 : Below w5.heap.size w5 (w5.alloc (.cells #[.int .i64 (ax + x), .int .i64 (ay + y)] 24)) := (Below.refl _ _).alloc (Nat.le_refl _) _
        have own7 := own5.below b7
        go_wp2_with (at_builtin; refine wpList_append_spots (qs := [(ax + x, ay + y)]) own7 (Reads.one (g := w5.heap.size) (by simp [go_sem]) (by simp [go_sem])) (by simp only [List.length_cons, List.length_nil]; omega) (by simp only [World.size_alloc]; omega) rfl (.tmp 14) (.tmp 18) rfl rfl rfl ?_)
        intro v8 w8 own8 g8 hv8
        have bw8 := own7.below_app (bw5.alloc (Nat.le_trans hbase (Nat.le_trans hbs hs5)) _) (by simp only [World.size_alloc]; omega) g8
        have row8 := (g8.block w.heap.size (by simp; omega) (fun e => hne e.symm)).trans ((b7.block w.heap.size (by omega)).trans row5)
        have hne8 : v8.ownBlock ≠ some w.heap.size := by
          rcases hv8 with e | e
          · rw [e]; exact hne
          · rw [e]; intro e2; injection e2 with e2; have := b7.size; omega
        go_wp2
        go_roundw
        case rel => exact ⟨k + 1, by omega, by go_num, by rw [← hT.out]; exact own8, bw8, row8, hne8⟩
        case measure => simp [intOf]; omega
      · obtain rfl : k = qs.length := by omega
        rw [accum_all] at hown
        go_wp2
        go_ret
        exact ⟨_, rfl, hown, hbw⟩

def sumUpto (ps qs : List Sp) (k : Nat) : List Sp := sumRaw (ps.take k) qs
theorem sumUpto_all (ps qs : List Sp) : sumUpto ps qs ps.length = sumRaw ps qs := by unfold sumUpto; rw [List.take_length]
theorem sumUpto_succ {ps qs : List Sp} {k : Nat} {a : Sp} (h : ps[k]? = some a) : sumUpto ps qs k ++ qs.map (addS a) = sumUpto ps qs (k + 1) := by
  unfold sumUpto sumRaw
  rw [List.take_add_one, h, List.flatMap_append]; simp
theorem length_sumUpto (ps qs : List Sp) (k : Nat) (hk : k ≤ ps.length) : (sumUpto ps qs k).length ≤ ps.length * qs.length := by
  unfold sumUpto
  rw [length_sumRaw, List.length_take]
  exact Nat.mul_le_mul_right _ (by omega)

set_option maxHeartbeats 800000 in
theorem folded_any (B : Nat) (ps qs : List Sp) (v u : Value) (w : World) (hp : ∀ a ∈ ps, Near a) (hq : ∀ b ∈ qs, Near b) (hB : B < w.heap.size) (hcell : w.cell? ⟨B, 0, none⟩ = some u) (hv : Reads w w.heap.size v ps) (hr : Reads w w.heap.size u qs) (hl : ps.length ≤ 60) (hl2 : qs.length ≤ 60) :
    Calls Try.prog 53 #[v, .slice none 0 0, .func (.func 54) #[] #[.pointer (some ⟨B, 0, none⟩)]] w fun e w' => ∃ v', e = .returned v' ∧ Owns w' w.heap.size v' (sumRaw ps qs) ∧ Below w.heap.size w w' := by
  obtain ⟨A, c, rfl, hc, hm, hA, hcp⟩ := hv.is
  unfold maxLen at hm
  go_enter Try.func53, Try.ntmps53
  go_wp2
  have b0 := Below.refl w.heap.size w
  by_cases h0 : ps.length = 0
  · obtain rfl := List.eq_nil_of_length_eq_zero h0
    refine wp_loop_rounds 1 ?_
    rw [rounds_succ]
    go_wp2
    go_ret
    exact ⟨_, rfl, Owns.nil _ _, b0⟩
  · obtain ⟨b, off, rfl, hb, hcp⟩ := hcp (by omega)
    go_loopw [7, 13] (fun s i wr => ∃ k : Nat, k ≤ ps.length ∧ i = .int .i64 k ∧ Owns wr w.heap.size s (sumUpto ps qs k) ∧ Below w.heap.size w wr) (fun _ i _ => ps.length - (intOf i).toNat)
    case atStart => exact ⟨0, Nat.zero_le _, rfl, Owns.nil _ _, b0⟩
    case round =>
      obtain ⟨k, hk, rfl, hown, hbw⟩ := hrel
      by_cases hlt : k < ps.length
      · obtain ⟨⟨x, y⟩, hxy⟩ : ∃ a, ps[k]? = some a := ⟨_, List.getElem?_eq_getElem hlt⟩
        obtain ⟨c0, c1⟩ := hcp k x y hxy
        have d0 := (hbw.cell (p := ⟨b, off + k * 2, none⟩) hb).trans c0
        have d1 := (hbw.cell (p := ⟨b, off + k * 2 + 1, none⟩) hb).trans c1
        have hn := hp _ (List.mem_of_getElem? hxy)
        have hT := Lib.hid (sumUpto_succ (qs := qs) hxy)
        have hlen := length_sumUpto ps qs k hk
        have hle : (sumUpto ps qs k).length ≤ 100000 := by
          have := Nat.mul_le_mul hl hl2
          omega
        have hbs := hbw.size
        have hal : Below wr.heap.size wr (wr.alloc (.cells #[.int .i64 x, .int .i64 y] 24)) := (Below.refl _ _).alloc (Nat.le_refl _) _
        have bw1 := hbw.trans (hal.mono hbs)
        have own1 := hown.below hal
        clear c0 c1 hxy hlen
        go_wp2_with fail
        refine (closure_any w.heap.size B _ qs _ u x y _ hn hq own1 bw1.size hB ((bw1.cell (p := ⟨B, 0, none⟩) hB).trans hcell) (hr.below bw1) hle (by omega)).mono ?_
        rintro e w2 ⟨v2, rfl, own2, b2⟩
        have bw2 := bw1.trans b2
        go_wp2
        go_roundw
        case rel => exact ⟨k + 1, by omega, by go_num, by rw [← hT.out]; exact own2, bw2⟩
        case measure => simp [intOf]; omega
      · obtain rfl : k = ps.length := by omega
        rw [sumUpto_all] at hown
        go_wp2
        go_ret
        exact ⟨_, rfl, hown, hbw⟩
end Go.Proofs.Ytpdpfjebikdgjaa
