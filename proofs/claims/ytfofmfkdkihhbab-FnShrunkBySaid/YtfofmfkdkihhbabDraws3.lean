/- What the draws of chapter 3 hand back: short lists of spots in new memory. No conditions but those typed. -/
import Derived.Test.YtfofmfkdkihhbabDraws2
import Derived.Test.YtfofmfkdkihhbabShrinkT
namespace Go.Proofs.Ytfofmfkdkihhbab
open Go.RowKit Go.Sort

theorem Owns.past2 {w w' : World} {base g : Nat} {v : Value} {ps : List Sp} (o : Owns w base v ps) (hg : g < base) (h : w.grownBy w' (some g)) : Owns w' base v ps :=
  o.grown h (by cases hv : v.ownBlock with | none => exact .inl rfl | some k => exact .inr (fun e => by have := (o.lt k hv).1; injection e with e; omega))
set_option maxHeartbeats 800000 in
theorem shrinks_any (g n c p : Nat) (A : Option Addr) (w : World) (hr : Rd w g A n c p) (hp : p ≤ 60000) :
    Calls Try.prog 36 #[.pointer (some ⟨g, 0, none⟩)] w fun e w' => ∃ v ps v2 ps2 q, e = .returned (.tuple #[v, v2]) ∧ Owns w' w.heap.size v ps ∧ Owns w' w.heap.size v2 ps2 ∧ ps.length ≤ 60 ∧ ps2.length ≤ 4 ∧ Rd w' g A n c q ∧ q ≤ p + 200 ∧ w.grownBy w' (some g) := by
  have hgl := hr.lt
  go_enter Try.func36, Try.ntmps36
  go_wp2_with fail
  refine (spots_any _ n c p A 14 14 _ hr (by omega) (by omega) (by omega) (by omega) (by omega)).mono ?_
  rintro e w1 ⟨v, ps, q, rfl, I, hl, hq⟩
  have s1 := I.grown.size
  go_wp2_with fail
  refine (spots_any _ n c q A 3 14 _ I.rd (by omega) (by omega) (by omega) (by omega) (by omega)).mono ?_
  rintro e w2 ⟨v2, ps2, q2, rfl, I2, hl2, hq2⟩
  have s2 := I2.grown.size
  have o1 := I.own.past2 hgl I2.grown
  have o2 := I2.own.base s1
  have g2 := grown_trans I.grown I2.grown
  have rd2 := I2.rd
  clear I I2
  go_wp2_with fail
  refine (spots_any _ n c q2 A 5 0 _ rd2 (by omega) (by omega) (by omega) (by omega) (by omega)).mono ?_
  rintro e w3 ⟨v3, ps3, q3, rfl, I3, hl3, hq3⟩
  have s3 := I3.grown.size
  have o1 := o1.past2 hgl I3.grown
  have o2 := o2.past2 hgl I3.grown
  have g3 := grown_trans g2 I3.grown
  have rd3 := I3.rd
  have r3 := I3.own.reads
  clear I3 rd2 g2
  have hl : ps.length ≤ 60 := Nat.le_trans hl (by decide)
  have hl2 : ps2.length ≤ 4 := hl2
  rcases hk : sumOk ps3 ps2 with _ | _
  · go_wp2_with fail
    refine (specSum_is hk r3 o2.reads).mono ?_
    rintro e w4 ⟨vs, rfl, _, b4⟩
    have hb4 := Below.mono b4 (show w.heap.size ≤ w3.heap.size by omega)
    have g4 := grown_below g3 b4
    have rd4 := rd3.below b4
    have o14 := o1.below b4
    have o24 := o2.below b4
    go_wp2
    go_ret2
    exact ⟨v, ps, v2, ps2, q3, rfl, o14, o24, hl, hl2, rd4, by omega, g4⟩
  · go_wp2_with fail
    refine (specSum_is hk r3 o2.reads).mono ?_
    rintro e w4 ⟨vs, rfl, os, b4⟩
    have g4 := grown_below g3 b4
    have rd4 := rd3.below b4
    have o14 := o1.below b4
    have o24 := o2.below b4
    have os := os.base (show w.heap.size ≤ w3.heap.size by omega)
    have hls := sumR_le ps3 ps2
    clear o1 o2 rd3 g3 b4 hk r3
    go_wp2_with fail
    refine (pick_any g n c q3 A 3 _ rd4 (by omega) (by omega) (by omega)).mono ?_
    rintro e w5 ⟨z, rfl, z0, z1, rd5, g5⟩
    have o1 := o14.past2 hgl g5
    have o2 := o24.past2 hgl g5
    have os := os.past2 hgl g5
    have g6 := grown_trans g4 g5
    by_cases hz : z = 0
    · subst hz
      go_wp2
      go_ret2
      exact ⟨_, _, v2, ps2, q3 + 1, rfl, os, o2, hls, hl2, rd5, by omega, g6⟩
    · have hz' : (z == 0) = false := by simpa using hz
      go_wp2
      go_ret2
      exact ⟨v, ps, v2, ps2, q3 + 1, rfl, o1, o2, hl, hl2, rd5, by omega, g6⟩

theorem drawShrunkBy_any (A : Option Addr) (n c : Nat) (w : World) (hb : Bytes w w.heap.size A n) (hn : n ≤ c) (hc : c ≤ 9223372036854775807) :
    Calls Try.prog 11 #[.slice A n c] w fun e w' => ∃ v ps v2 ps2, e = .returned (.tuple #[v, v2]) ∧ Got w w' v ps 60 ∧ Got w w' v2 ps2 4 := by
  go_enter Try.func11, Try.ntmps11
  go_wp2_with fail
  refine (open_any A n c _ hb hn hc).mono ?_
  rintro e w1 ⟨n', rfl, r1, b1⟩
  go_wp2_with fail
  refine (shrinks_any _ n' c 0 A _ r1 (by omega)).mono ?_
  rintro e w2 ⟨v, ps, v2, ps2, q, rfl, o1, o2, hl, hl2, _, _, g2⟩
  have hb1 := b1.size
  have bw := Below.of_grown b1 g2 (Nat.le_refl _)
  go_wp2
  go_ret2
  exact ⟨v, ps, v2, ps2, rfl, ⟨o1.base hb1, hl, bw⟩, ⟨o2.base hb1, hl2, bw⟩⟩
theorem drawShrunkGrown_any (A : Option Addr) (n c : Nat) (w : World) (hb : Bytes w w.heap.size A n) (hn : n ≤ c) (hc : c ≤ 9223372036854775807) :
    Calls Try.prog 28 #[.slice A n c] w fun e w' => ∃ v ps v2 ps2, e = .returned (.tuple #[v, v2]) ∧ Got w w' v ps 60 ∧ Got w w' v2 ps2 4 := by
  go_enter Try.func28, Try.ntmps28
  go_wp2_with fail
  refine (open_any A n c _ hb hn hc).mono ?_
  rintro e w1 ⟨n', rfl, r1, b1⟩
  go_wp2_with fail
  refine (shrinks_any _ n' c 0 A _ r1 (by omega)).mono ?_
  rintro e w2 ⟨v, ps, v2, ps2, q, rfl, o1, o2, hl, hl2, _, _, g2⟩
  have hb1 := b1.size
  have bw := Below.of_grown b1 g2 (Nat.le_refl _)
  go_wp2
  go_ret2
  exact ⟨v, ps, v2, ps2, rfl, ⟨o1.base hb1, hl, bw⟩, ⟨o2.base hb1, hl2, bw⟩⟩
theorem drawGrownShrunk_any (A : Option Addr) (n c : Nat) (w : World) (hb : Bytes w w.heap.size A n) (hn : n ≤ c) (hc : c ≤ 9223372036854775807) :
    Calls Try.prog 25 #[.slice A n c] w fun e w' => ∃ v ps v2 ps2, e = .returned (.tuple #[v, v2]) ∧ Got w w' v ps 60 ∧ Got w w' v2 ps2 5 := by
  go_enter Try.func25, Try.ntmps25
  go_wp2_with fail
  refine (open_any A n c _ hb hn hc).mono ?_
  rintro e w1 ⟨n', rfl, r1, b1⟩
  have hgl := r1.lt
  have hb1 := b1.size
  go_wp2_with fail
  refine (spots_any _ n' c 0 A 8 14 _ r1 (by omega) (by omega) (by omega) (by omega) (by omega)).mono ?_
  rintro e w2 ⟨v, ps, q, rfl, I, hl, hq⟩
  have s2 := I.grown.size
  go_wp2_with fail
  refine (spots_any _ n' c q A 4 14 _ I.rd (by omega) (by omega) (by omega) (by omega) (by omega)).mono ?_
  rintro e w3 ⟨v2, ps2, q2, rfl, I2, hl2, hq2⟩
  have o1 := (I.own.past2 hgl I2.grown).base hb1
  have o2 := I2.own.base (show w.heap.size ≤ w2.heap.size by omega)
  have bw := Below.of_grown b1 (grown_trans I.grown I2.grown) (Nat.le_refl _)
  go_wp2
  go_ret2
  exact ⟨v, ps, v2, ps2, rfl, ⟨o1, Nat.le_trans hl (by decide), bw⟩, ⟨o2, hl2, bw⟩⟩
theorem drawFitsAt_any (A : Option Addr) (n c : Nat) (w : World) (hb : Bytes w w.heap.size A n) (hn : n ≤ c) (hc : c ≤ 9223372036854775807) :
    Calls Try.prog 31 #[.slice A n c] w fun e w' => ∃ v ps v2 ps2, ∃ x y : Int, e = .returned (.tuple #[v, v2, .agg #[.int .i64 x, .int .i64 y]]) ∧ Got w w' v ps 60 ∧ Got w w' v2 ps2 4 ∧ (-200 ≤ x ∧ x ≤ 200 ∧ -200 ≤ y ∧ y ≤ 200) := by
  go_enter Try.func31, Try.ntmps31
  go_wp2_with fail
  refine (open_any A n c _ (hb.below ((Below.refl _ _).alloc (Nat.le_refl _) _) |>.more (by simp)) hn hc).mono ?_
  rintro e w1 ⟨n', rfl, r1, b1⟩
  simp only [World.size_alloc] at r1 b1
  go_wp2_with fail
  refine (shrinks_any _ n' c 0 A _ r1 (by omega)).mono ?_
  rintro e w2 ⟨v, ps, v2, ps2, q, rfl, o1, o2, hl, hl2, rd2, hq, g2⟩
  go_wp2_with fail
  refine (spot_any _ n' c q A _ rd2 (by omega)).mono ?_
  rintro e w3 ⟨x, y, rfl, hxy, r3, g3⟩
  have b0 : Below w.heap.size w (w.alloc (.cells #[.int .i64 0, .int .i64 0] 32)) := (Below.refl _ _).alloc (Nat.le_refl _) _
  have s0 := r1.lt
  have s1 := b1.size
  have s2 := g2.size
  have s3 := g3.size
  simp only [World.size_alloc] at s1
  have hB : w3.heap[w.heap.size]? = some (.cells #[.int .i64 0, .int .i64 0] 32 (0, 0)) :=
    (g3.block _ (by omega) (fun e => by injection e with e; omega)).trans ((g2.block _ (by omega) (fun e => by injection e with e; omega)).trans ((b1.block _ (by omega)).trans (heap_alloc_new w _)))
  have hc0 := cell_of_row w3 _ 0 _ _ _ hB
  have hc1 := cell_of_row w3 _ 1 _ _ _ hB
  have hf := fun j => frozen_of_row w3 _ j _ _ hB
  simp only [List.getElem?_toArray, List.getElem?_cons_zero, List.getElem?_cons_succ] at hc0 hc1
  clear hB
  have o13 := o1.past2 s0 g3
  have o23 := o2.past2 s0 g3
  have o14 : Owns ((w3.setCell ⟨w.heap.size, 0, none⟩ (.int .i64 x)).setCell ⟨w.heap.size, 1, none⟩ (.int .i64 y)) w1.heap.size v ps := ownsRow_setCell_below (ownsRow_setCell_below o13 (show w.heap.size < w1.heap.size by omega) _) (show w.heap.size < w1.heap.size by omega) _
  have o24 : Owns ((w3.setCell ⟨w.heap.size, 0, none⟩ (.int .i64 x)).setCell ⟨w.heap.size, 1, none⟩ (.int .i64 y)) w1.heap.size v2 ps2 := ownsRow_setCell_below (ownsRow_setCell_below o23 (show w.heap.size < w1.heap.size by omega) _) (show w.heap.size < w1.heap.size by omega) _
  have hbl : Below w.heap.size w ((w3.setCell ⟨w.heap.size, 0, none⟩ (.int .i64 x)).setCell ⟨w.heap.size, 1, none⟩ (.int .i64 y)) := by
    have c1 : Below w.heap.size w w1 := b0.trans (b1.mono (Nat.le_succ _))
    have c2 : Below w.heap.size w w3 := (c1.grown g2 (by omega) (fun k hk => by injection hk with hk; omega)).grown g3 (by omega) (fun k hk => by injection hk with hk; omega)
    exact (c2.setCell (p := ⟨w.heap.size, 0, none⟩) (Nat.le_refl _) _).setCell (p := ⟨w.heap.size, 1, none⟩) (Nat.le_refl _) _
  go_wp2
  refine bodyPost_ret (v := .tuple #[v, v2, .agg #[.int .i64 x, .int .i64 y]]) (by simp [results, Try.results31, go_sem, hc0, hc1]) rfl ⟨v, ps, v2, ps2, x, y, rfl, ⟨o14.base (by omega), hl, hbl⟩, ⟨o24.base (by omega), hl2, hbl⟩, hxy⟩
end Go.Proofs.Ytfofmfkdkihhbab
