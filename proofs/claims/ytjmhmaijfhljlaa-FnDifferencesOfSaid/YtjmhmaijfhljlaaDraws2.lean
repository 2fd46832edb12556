/- What the draws of chapter 2 hand back: short lists of spots in new memory. No conditions but those typed. -/
import Derived.Test.YtjmhmaijfhljlaaDraws1
import Derived.Test.YtjmhmaijfhljlaaMoveS
namespace Go.Proofs.Ytjmhmaijfhljlaa
open Go.RowKit Go.Sort

theorem drawDoubledOf_any (A : Option Addr) (n c : Nat) (w : World) (hb : Bytes w w.heap.size A n) (hn : n ≤ c) (hc : c ≤ 9223372036854775807) :
    Calls Try.prog 30 #[.slice A n c] w fun e w' => ∃ v ps, e = .returned v ∧ Drawn w w' v ps (6 + 1) := by
  go_enter Try.func30, Try.ntmps30
  go_wp2_with fail
  refine (open_any A n c _ hb hn hc).mono ?_
  rintro e w1 ⟨n', rfl, r1, b1⟩
  go_wp2_with fail
  refine (spots_any _ n' c 0 A 6 12 _ r1 (by omega) (by omega) (by omega) (by omega) (by omega)).mono ?_
  rintro e w2 ⟨v, ps, q, rfl, I, hl, _⟩
  go_wp2
  go_ret
  exact ⟨v, ps, rfl, I.own.base b1.size, I.small, hl, Below.of_grown b1 I.grown (Nat.le_refl _)⟩
theorem drawDifferencesOf_any (A : Option Addr) (n c : Nat) (w : World) (hb : Bytes w w.heap.size A n) (hn : n ≤ c) (hc : c ≤ 9223372036854775807) :
    Calls Try.prog 33 #[.slice A n c] w fun e w' => ∃ v ps, e = .returned v ∧ Drawn w w' v ps (6 + 1) := by
  go_enter Try.func33, Try.ntmps33
  go_wp2_with fail
  refine (open_any A n c _ hb hn hc).mono ?_
  rintro e w1 ⟨n', rfl, r1, b1⟩
  go_wp2_with fail
  refine (spots_any _ n' c 0 A 6 12 _ r1 (by omega) (by omega) (by omega) (by omega) (by omega)).mono ?_
  rintro e w2 ⟨v, ps, q, rfl, I, hl, _⟩
  go_wp2
  go_ret
  exact ⟨v, ps, rfl, I.own.base b1.size, I.small, hl, Below.of_grown b1 I.grown (Nat.le_refl _)⟩
/-- a list in new memory, no longer than m -/
structure Got (w w' : World) (v : Value) (ps : List Sp) (m : Nat) : Prop where
  own : Owns w' w.heap.size v ps
  len : ps.length ≤ m
  below : Below w.heap.size w w'

theorem moveL_le (ps : List Sp) (a : Sp) : (moveL ps a).length ≤ ps.length := by
  unfold moveL; split
  · rw [length_moved]; exact Nat.le_refl _
  · simp
set_option maxHeartbeats 800000 in
theorem drawSumOf_any (A : Option Addr) (n c : Nat) (w : World) (hb : Bytes w w.heap.size A n) (hn : n ≤ c) (hc : c ≤ 9223372036854775807) :
    Calls Try.prog 27 #[.slice A n c] w fun e w' => ∃ v ps v2 ps2, e = .returned (.tuple #[v, v2]) ∧ Got w w' v ps 8 ∧ Got w w' v2 ps2 5 := by
  go_enter Try.func27, Try.ntmps27
  go_wp2_with fail
  refine (open_any A n c _ hb hn hc).mono ?_
  rintro e w1 ⟨n', rfl, r1, b1⟩
  go_wp2_with fail
  refine (spots_any _ n' c 0 A 7 14 _ r1 (by omega) (by omega) (by omega) (by omega) (by omega)).mono ?_
  rintro e w2 ⟨v, ps, q, rfl, I, hl, hq⟩
  go_wp2_with fail
  refine (spots_any _ n' c q A 4 14 _ I.rd (by omega) (by omega) (by omega) (by omega) (by omega)).mono ?_
  rintro e w3 ⟨v2, ps2, q2, rfl, I2, hl2, hq2⟩
  have hgl := r1.lt
  have s2 := I.grown.size
  have s3 := I2.grown.size
  have o1 : Owns w3 w1.heap.size v ps := I.own.grown I2.grown (by cases hv : v.ownBlock with | none => exact .inl rfl | some k => exact .inr (fun e => by have := (I.own.lt k hv).1; injection e with e; omega))
  have o2 : Owns w3 w1.heap.size v2 ps2 := I2.own.base s2
  have b3 : Below w.heap.size w w3 := (b1.grown I.grown b1.size (fun k hk => by injection hk with hk; omega)).grown I2.grown (by have := b1.size; omega) (fun k hk => by injection hk with hk; omega)
  have rd3 := I2.rd
  have hl' : ps.length ≤ 8 := hl
  have hl2' : ps2.length ≤ 5 := hl2
  have hb1 := b1.size
  clear I I2 hl hl2
  go_wp2_with fail
  refine (pick_any _ n' c q2 A 3 _ rd3 (by omega) (by omega) (by omega)).mono ?_
  rintro e w4 ⟨z, rfl, z0, z1, rd4, g4⟩
  have o14 : Owns w4 w1.heap.size v ps := o1.grown g4 (by cases hv : v.ownBlock with | none => exact .inl rfl | some k => exact .inr (fun e => by have := (o1.lt k hv).1; injection e with e; omega))
  have o24 : Owns w4 w1.heap.size v2 ps2 := o2.grown g4 (by cases hv : v2.ownBlock with | none => exact .inl rfl | some k => exact .inr (fun e => by have := (o2.lt k hv).1; injection e with e; omega))
  have b4 : Below w.heap.size w w4 := b3.grown g4 (by omega) (fun k hk => by injection hk with hk; omega)
  have s4 := g4.size
  clear o1 o2 b3 g4 rd3
  by_cases hz : z = 0
  · subst hz
    go_wp2_with fail
    refine (pick_any _ n' c (q2 + 1) A 9 _ rd4 (by omega) (by omega) (by omega)).mono ?_
    rintro e w5 ⟨z2, rfl, z2a, z2b, _, g5⟩
    have o1 : Owns w5 w1.heap.size v ps := o14.grown g5 (by cases hv : v.ownBlock with | none => exact .inl rfl | some k => exact .inr (fun e => by have := (o14.lt k hv).1; injection e with e; omega))
    have o2 : Owns w5 w1.heap.size v2 ps2 := o24.grown g5 (by cases hv : v2.ownBlock with | none => exact .inl rfl | some k => exact .inr (fun e => by have := (o24.lt k hv).1; injection e with e; omega))
    have b5 : Below w.heap.size w w5 := b4.grown g5 (by omega) (fun k hk => by injection hk with hk; omega)
    have hwz : IntKind.i64.wrap (z2 * 3) = z2 * 3 := IntWalk.i64_in _ (by omega)
    have hml := moveL_le ps (z2 * 3, 0)
    have hb5 := b5.size
    clear o14 o24 b4 g5
    rcases hk : moveOk ps (z2 * 3, 0) with _ | _
    all_goals
      go_wp2_with fail
      have cI := specMoved_any ps v (z2 * 3) 0 _ o1.reads (by omega)
      rw [hk] at cI
      refine cI.mono ?_
      rintro e w6 ⟨vm, rfl, om, b6⟩
      have b7 := below_step b5 b6
      go_wp2
      go_ret2
      first
        | exact ⟨vm, _, v2, ps2, rfl, ⟨om.base hb5, Nat.le_trans hml hl', b7⟩, ⟨(o2.below b6).base hb1, hl2', b7⟩⟩
        | exact ⟨v, ps, v2, ps2, rfl, ⟨(o1.below b6).base hb1, hl', b7⟩, ⟨(o2.below b6).base hb1, hl2', b7⟩⟩
  · have hz' : (z == 0) = false := by simpa using hz
    go_wp2
    go_ret2
    exact ⟨v, ps, v2, ps2, rfl, ⟨o14.base hb1, hl', b4⟩, ⟨o24.base hb1, hl2', b4⟩⟩
end Go.Proofs.Ytjmhmaijfhljlaa
