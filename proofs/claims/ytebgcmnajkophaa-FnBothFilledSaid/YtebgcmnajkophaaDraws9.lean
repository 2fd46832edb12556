/- What the draws of chapter 9 hand back. No conditions but those typed. -/
import Derived.Test.YtebgcmnajkophaaDraws1
import Derived.Test.YtebgcmnajkophaaSpicWalk
import Derived.Test.YtebgcmnajkophaaBothS
namespace Go.Proofs.Ytebgcmnajkophaa
open Go.RowKit Go.Sort

set_option maxRecDepth 100000 in
theorem drawOverOf_any (A : Option Addr) (n c : Nat) (w : World) (hb : Bytes w w.heap.size A n) (hn : n ≤ c) (hc : c ≤ 9223372036854775807) :
    Calls Try.prog 13 #[.slice A n c] w fun e w' => ∃ v ps, e = .returned v ∧ Owns w' w.heap.size v ps ∧ ps.length ≤ 60 ∧ Below w.heap.size w w' := by
  go_enter Try.func13, Try.ntmps13
  go_wp2_with fail
  refine (open_any A n c _ hb hn hc).mono ?_
  rintro e w1 ⟨n', rfl, r1, b1⟩
  go_wp2_with fail
  refine (spots_any _ n' c 0 A 9 9 _ r1 (by omega) (by omega) (by omega) (by omega) (by omega)).mono ?_
  rintro e w2 ⟨v, ps, q, rfl, I, hl, _⟩
  go_wp2
  go_ret
  exact ⟨v, ps, rfl, I.own.base b1.size, by omega, Below.of_grown b1 I.grown (Nat.le_refl _)⟩
set_option maxRecDepth 100000 in
set_option maxHeartbeats 1600000 in
theorem wide_any (g n c p : Nat) (A : Option Addr) (N : Int) (w : World) (hr : Rd w g A n c p) (h1 : 0 ≤ N) (h2 : N ≤ 1000) (hp : p ≤ 80000) :
    Calls Try.prog 49 #[.pointer (some ⟨g, 0, none⟩), .int .i64 N] w fun e w' => ∃ v ps q, e = .returned v ∧ Inv w w' g n c A v ps q ∧ ps.length ≤ 9 ∧ q ≤ p + 60 := by
  have hg := hr.lt
  go_enter Try.func49, Try.ntmps49
  go_wp2_with fail
  refine (spots_any g n c p A 7 N w hr (by omega) (by omega) h1 h2 (by omega)).mono ?_
  rintro e w1 ⟨v, ps, q, rfl, I, hl, hq⟩
  obtain ⟨Ap, cp, rfl, hcp, hmp⟩ := I.own.reads.slice
  unfold maxLen at hmp
  go_wp2_with fail
  refine (pick_any g n c q A 8 _ I.rd (by omega) (by omega) (by omega)).mono ?_
  rintro e w2 ⟨z2, rfl, z2a, z2b, r2, g2⟩
  have I2 := I.pick hg r2 g2
  clear I r2 g2 hr
  by_cases hz : z2 = 0
  · subst hz
    rcases hpp : picB ps with _ | _
    · go_wp2_with fail
      refine (gives_is hpp (specPicture_any ps _ _ I2.own.reads)).mono ?_
      rintro e w3 ⟨rfl, b3⟩
      have I3 := I2.below b3
      go_wp2
      go_ret
      exact ⟨_, ps, _, rfl, I3, by omega, by omega⟩
    · go_wp2_with fail
      refine (gives_is hpp (specPicture_any ps _ _ I2.own.reads)).mono ?_
      rintro e w3 ⟨rfl, b3⟩
      have I3 := I2.below b3
      clear I2 b3 hpp
      go_wp2_with fail
      refine (pick_any g n c (q + 1) A 3 _ I3.rd (by omega) (by omega) (by omega)).mono ?_
      rintro e w4 ⟨z4, rfl, z4a, z4b, r4, g4⟩
      have I4 := I3.pick hg r4 g4
      clear I3 r4 g4
      have hwz := I4.grown.size
      go_wp2_with fail
      refine (l1Put_any ps _ 25 z4 w.heap.size _ I4.own hwz (by omega)).mono ?_
      rintro e w5 ⟨v5, rfl, o5, b5⟩
      have I5 := I4.put b5 o5 (small_put I4.small (small_one (by omega) (by omega) (by omega) (by omega)))
      have hl5 := length_put_le ps (25, z4)
      go_wp2
      go_ret
      exact ⟨_, _, _, rfl, I5, by omega, by omega⟩
  · have hzb : (z2 == 0) = false := beq_eq_false_iff_ne.2 hz
    clear hz
    go_wp2
    go_ret
    exact ⟨_, ps, _, rfl, I2, by omega, by omega⟩
set_option maxRecDepth 100000 in
theorem drawRowsFilled_any (A : Option Addr) (n c : Nat) (w : World) (hb : Bytes w w.heap.size A n) (hn : n ≤ c) (hc : c ≤ 9223372036854775807) :
    Calls Try.prog 20 #[.slice A n c] w fun e w' => ∃ v ps, e = .returned v ∧ Owns w' w.heap.size v ps ∧ ps.length ≤ 60 ∧ Below w.heap.size w w' := by
  go_enter Try.func20, Try.ntmps20
  go_wp2_with fail
  refine (open_any A n c _ hb hn hc).mono ?_
  rintro e w1 ⟨n', rfl, r1, b1⟩
  go_wp2_with fail
  refine (wide_any _ n' c 0 A 9 _ r1 (by omega) (by omega) (by omega)).mono ?_
  rintro e w2 ⟨v, ps, q, rfl, I, hl, _⟩
  go_wp2
  go_ret
  exact ⟨v, ps, rfl, I.own.base b1.size, by omega, Below.of_grown b1 I.grown (Nat.le_refl _)⟩
set_option maxRecDepth 100000 in
theorem drawColumnsFilled_any (A : Option Addr) (n c : Nat) (w : World) (hb : Bytes w w.heap.size A n) (hn : n ≤ c) (hc : c ≤ 9223372036854775807) :
    Calls Try.prog 25 #[.slice A n c] w fun e w' => ∃ v ps, e = .returned v ∧ Owns w' w.heap.size v ps ∧ ps.length ≤ 60 ∧ Below w.heap.size w w' := by
  go_enter Try.func25, Try.ntmps25
  go_wp2_with fail
  refine (open_any A n c _ hb hn hc).mono ?_
  rintro e w1 ⟨n', rfl, r1, b1⟩
  go_wp2_with fail
  refine (wide_any _ n' c 0 A 9 _ r1 (by omega) (by omega) (by omega)).mono ?_
  rintro e w2 ⟨v, ps, q, rfl, I, hl, _⟩
  go_wp2
  go_ret
  exact ⟨v, ps, rfl, I.own.base b1.size, by omega, Below.of_grown b1 I.grown (Nat.le_refl _)⟩
set_option maxRecDepth 100000 in
theorem drawBothFilled_any (A : Option Addr) (n c : Nat) (w : World) (hb : Bytes w w.heap.size A n) (hn : n ≤ c) (hc : c ≤ 9223372036854775807) :
    Calls Try.prog 28 #[.slice A n c] w fun e w' => ∃ v ps, e = .returned v ∧ Owns w' w.heap.size v ps ∧ ps.length ≤ 60 ∧ Below w.heap.size w w' := by
  go_enter Try.func28, Try.ntmps28
  go_wp2_with fail
  refine (open_any A n c _ hb hn hc).mono ?_
  rintro e w1 ⟨n', rfl, r1, b1⟩
  go_wp2_with fail
  refine (wide_any _ n' c 0 A 9 _ r1 (by omega) (by omega) (by omega)).mono ?_
  rintro e w2 ⟨v, ps, q, rfl, I, hl, _⟩
  go_wp2
  go_ret
  exact ⟨v, ps, rfl, I.own.base b1.size, by omega, Below.of_grown b1 I.grown (Nat.le_refl _)⟩
theorem bothR_le (ps : List Sp) : (bothR ps).length ≤ 60 := by
  rcases h : bothOk ps with _ | _
  · have : bothR ps = [] := by
      unfold bothOk at h
      unfold bothR
      rcases e : bothV ps with _ | s
      · rfl
      · rw [e] at h; cases h
    rw [this]; simp
  · exact (picB_pic (both_is h).pics).1
set_option maxRecDepth 100000 in
set_option maxHeartbeats 1600000 in
theorem drawFilledOk_any (A : Option Addr) (n c : Nat) (w : World) (hb : Bytes w w.heap.size A n) (hn : n ≤ c) (hc : c ≤ 9223372036854775807) :
    Calls Try.prog 34 #[.slice A n c] w fun e w' => ∃ v ps, e = .returned v ∧ Owns w' w.heap.size v ps ∧ ps.length ≤ 60 ∧ Below w.heap.size w w' := by
  go_enter Try.func34, Try.ntmps34
  go_wp2_with fail
  refine (open_any A n c _ hb hn hc).mono ?_
  rintro e w1 ⟨n', rfl, r1, b1⟩
  have hg := r1.lt
  go_wp2_with fail
  refine (wide_any _ n' c 0 A 9 _ r1 (by omega) (by omega) (by omega)).mono ?_
  rintro e w2 ⟨v, ps, q, rfl, I, hl, hq⟩
  have hs1 := b1.size
  have hle := bothR_le ps
  rcases hk : bothOk ps with _ | _
  · have hc' := specBoth_any ps _ w2 I.own.reads (by omega)
    rw [hk] at hc'
    go_wp2_with fail
    refine hc'.mono ?_
    rintro e w3 ⟨v3, rfl, o3, b3⟩
    go_wp2
    go_ret
    exact ⟨_, ps, rfl, (I.own.below b3).base hs1, by omega, (Below.of_grown b1 I.grown (Nat.le_refl _)).trans (b3.mono (by have := I.grown.size; omega))⟩
  · have hc' := specBoth_any ps _ w2 I.own.reads (by omega)
    rw [hk] at hc'
    go_wp2_with fail
    refine hc'.mono ?_
    rintro e w3 ⟨v3, rfl, o3, b3⟩
    have I3 := I.below b3
    have hs2 := I.grown.size
    clear I hc' hk
    go_wp2_with fail
    refine (pick_any _ n' c q A 2 _ I3.rd (by omega) (by omega) (by omega)).mono ?_
    rintro e w4 ⟨z4, rfl, z4a, z4b, r4, g4⟩
    have I4 := I3.pick hg r4 g4
    by_cases hz : z4 = 0
    · subst hz
      go_wp2
      go_ret
      exact ⟨_, bothR ps, rfl, (o3.grown g4 (by cases hv : v3.ownBlock with | none => exact .inl rfl | some k => exact .inr (fun e => by have := (o3.lt k hv).1; injection e with e; omega))).base (by omega), hle, Below.of_grown b1 I4.grown (Nat.le_refl _)⟩
    · have hzb : (z4 == 0) = false := beq_eq_false_iff_ne.2 hz
      clear hz
      go_wp2
      go_ret
      exact ⟨_, ps, rfl, I4.own.base hs1, by omega, Below.of_grown b1 I4.grown (Nat.le_refl _)⟩
end Go.Proofs.Ytebgcmnajkophaa
