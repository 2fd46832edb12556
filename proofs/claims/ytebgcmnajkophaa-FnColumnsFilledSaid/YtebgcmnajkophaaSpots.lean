/- The model's l20Spots draws a short list of near spots in new memory; what it does to the reader. No conditions but those typed. -/
import Derived.Test.YtebgcmnajkophaaDraw
import Derived.Test.YtebgcmnajkophaaPut
namespace Go.Proofs.Ytebgcmnajkophaa
open Go.RowKit Go.Sort

def Small (ps : List Sp) : Prop := ∀ a ∈ ps, -40 ≤ a.1 ∧ a.1 ≤ 40 ∧ -40 ≤ a.2 ∧ a.2 ≤ 40
theorem small_nil : Small [] := fun a h => by cases h
theorem small_append {p q : List Sp} (h : Small p) (k : Small q) : Small (p ++ q) := fun a ha => (List.mem_append.1 ha).elim (h a) (k a)
theorem small_one {x y : Int} (h1 : -40 ≤ x) (h2 : x ≤ 40) (h3 : -40 ≤ y) (h4 : y ≤ 40) : Small [(x, y)] := fun a ha => by
  rw [List.mem_singleton] at ha; subst ha; exact ⟨h1, h2, h3, h4⟩
theorem small_put {p : List Sp} {x y : Int} (h : Small p) (k : Small [(x, y)]) : Small (put p (x, y)) := fun a ha => (mem_put.1 ha).elim (fun e => e ▸ k _ (List.mem_singleton.2 rfl)) (h a)

/-- the state between two statements: the list so far, the reader, and that old memory is as it was but for the reader -/
structure Inv (w wr : World) (g n c : Nat) (A : Option Addr) (v : Value) (ps : List Sp) (p : Nat) : Prop where
  own : Owns wr w.heap.size v ps
  rd : Rd wr g A n c p
  grown : w.grownBy wr (some g)
  small : Small ps

section
variable {w wr w' : World} {g n c p : Nat} {A : Option Addr} {v : Value} {ps : List Sp}
theorem Rd.app {row : Option Nat} (h : Rd wr g A n c p) (hg : wr.grownBy w' row) (hr : ∀ k, row = some k → g < k) : Rd w' g A n c p :=
  ⟨(hg.block g h.lt (fun e => by have := hr g e.symm; omega)).trans h.blk, h.bytes.below ⟨hg.os, hg.tape, hg.output, hg.size, fun k hk => hg.block k (by have := h.lt; omega) (fun e => by have := hr k e.symm; omega)⟩, h.len⟩
theorem grown_app {row : Option Nat} (h : w.grownBy wr (some g)) (hg : wr.grownBy w' row) (hr : ∀ k, row = some k → w.heap.size ≤ k) : w.grownBy w' (some g) :=
  ⟨hg.os.trans h.os, hg.tape.trans h.tape, hg.output.trans h.output, Nat.le_trans h.size hg.size, fun k hk hne => (hg.block k (Nat.lt_of_lt_of_le hk h.size) (fun e => by have := hr k e.symm; omega)).trans (h.block k hk hne)⟩
theorem Inv.pick (I : Inv w wr g n c A v ps p) (hg : g < w.heap.size) {q : Nat} (hr : Rd w' g A n c q) (h : wr.grownBy w' (some g)) : Inv w w' g n c A v ps q :=
  ⟨I.own.grown h (by cases hv : v.ownBlock with | none => exact .inl rfl | some k => exact .inr (fun e => by have := (I.own.lt k hv).1; cases e; omega)), hr, grown_trans I.grown h, I.small⟩
theorem Inv.below (I : Inv w wr g n c A v ps p) (hb : Below wr.heap.size wr w') : Inv w w' g n c A v ps p :=
  ⟨I.own.below hb, I.rd.below hb, grown_below I.grown hb, I.small⟩
theorem Inv.put (I : Inv w wr g n c A v ps p) (hb : Below wr.heap.size wr w') {v' : Value} {qs : List Sp} (ho : Owns w' w.heap.size v' qs) (hs : Small qs) : Inv w w' g n c A v' qs p :=
  ⟨ho, I.rd.below hb, grown_below I.grown hb, hs⟩
theorem Inv.app (I : Inv w wr g n c A v ps p) (hg : g < w.heap.size) {v' : Value} {qs : List Sp} (ho : Owns w' w.heap.size v' qs) (h : wr.grownBy w' v.ownBlock) (hs : Small qs) : Inv w w' g n c A v' qs p :=
  ⟨ho, I.rd.app h (fun k hk => by have := (I.own.lt k hk).1; omega), grown_app I.grown h (fun k hk => (I.own.lt k hk).1), hs⟩
theorem Inv.lit (I : Inv w wr g n c A v ps p) (qs : List Sp) (cs : Array Value) (hcs : cs.toList = flat qs) (hl : qs.length ≤ 1000) (hs : Small qs) : Inv w (wr.alloc (.cells cs 33)) g n c A (.slice (some ⟨wr.heap.size, 0, none⟩) qs.length qs.length) qs p :=
  ⟨by
    have h := World.ownsRow_lit (base := w.heap.size) (e := 33) (size := 2) wr cs qs.length I.grown.size (by simp only [maxLen]; omega) (by rw [← flat_length, ← hcs, Array.length_toList])
    rw [hcs] at h
    exact h, I.rd.below ((Below.refl _ _).alloc (Nat.le_refl _) _), grown_below I.grown ((Below.refl _ _).alloc (Nat.le_refl _) _), hs⟩
theorem Inv.alloc (I : Inv w wr g n c A v ps p) (o : Obj) : Inv w (wr.alloc o) g n c A v ps p := I.below ((Below.refl _ _).alloc (Nat.le_refl _) o)
end

set_option maxHeartbeats 3200000 in
theorem spots_any (g n c p : Nat) (A : Option Addr) (most N : Int) (w : World) (hr : Rd w g A n c p) (hm0 : 1 ≤ most) (hm1 : most ≤ 20) (h1 : 0 ≤ N) (h2 : N ≤ 1000) (hp : p ≤ 90000) :
    Calls Try.prog 41 #[.pointer (some ⟨g, 0, none⟩), .int .i64 most, .int .i64 N] w fun e w' => ∃ v ps q, e = .returned v ∧ Inv w w' g n c A v ps q ∧ ps.length ≤ most.toNat + 1 ∧ q ≤ p + 50 := by
  have hg := hr.lt
  have I0 : Inv w (w.alloc (.cells #[] 33)) g n c A (.slice (some ⟨w.heap.size, 0, none⟩) 0 0) [] p := ⟨Owns.empty w w.heap.size (Nat.le_refl _), hr.below ((Below.refl _ _).alloc (Nat.le_refl _) _), World.grownBy_alloc _ _ _, small_nil⟩
  go_enter Try.func41, Try.ntmps41
  go_wp2_with fail
  refine (pick_any g n c p A 4 _ I0.rd (by omega) (by omega) (by omega)).mono ?_
  rintro e w1 ⟨z1, rfl, z1a, z1b, r1, g1⟩
  have I1 := I0.pick hg r1 g1
  clear I0 r1 g1 hr
  go_wp2_with fail
  refine (pick_any g n c (p + 1) A 3 _ I1.rd (by omega) (by omega) (by omega)).mono ?_
  rintro e w2 ⟨z2, rfl, z2a, z2b, r2, g2⟩
  have I2 := I1.pick hg r2 g2
  clear I1 r2 g2
  by_cases hz : z2 = 0
  · subst hz
    go_wp2_with fail
    refine (pick_any g n c (p + 2) A 3 _ I2.rd (by omega) (by omega) (by omega)).mono ?_
    rintro e w3 ⟨z3, rfl, z3a, z3b, r3, g3⟩
    have I3 := I2.pick hg r3 g3
    clear I2 r3 g3
    go_wp2_with fail
    refine (pick_any g n c (p + 3) A 3 _ I3.rd (by omega) (by omega) (by omega)).mono ?_
    rintro e w4 ⟨z4, rfl, z4a, z4b, r4, g4⟩
    have I4 := I3.pick hg r4 g4
    clear I3 r4 g4
    go_wp2_with fail
    go_loopw [7, 11] (fun v y wr => ∃ (k : Nat) (ps : List Sp), y = .int .i64 k ∧ k ≤ 3 ∧ Inv w wr g n c A v ps (p + 4) ∧ ps.length ≤ most.toNat) (fun _ y _ => (1 + z4).toNat - (intOf y).toNat)
    case atStart => exact ⟨0, _, rfl, by omega, I4, by simp⟩
    case round =>
      obtain ⟨k, ps, rfl, hk, I, hl⟩ := hrel
      by_cases hkz : (k : Int) < 1 + z4
      · go_wp2_with fail
        go_loopw [7, 12] (fun v x wr => ∃ (j : Nat) (ps : List Sp), x = .int .i64 j ∧ j ≤ 3 ∧ Inv w wr g n c A v ps (p + 4) ∧ ps.length ≤ most.toNat) (fun _ x _ => (1 + z3).toNat - (intOf x).toNat)
        case atStart => exact ⟨0, ps, rfl, by omega, I, hl⟩
        case round =>
          rename_i wo _ _ _ _ _ _ _ _ _ _
          clear I hl
          obtain ⟨j, qs, rfl, hj, I, hl⟩ := hrel
          obtain ⟨A', c', rfl, hc', hm'⟩ := I.own.reads.slice
          unfold maxLen at hm'
          by_cases hjz : (j : Int) < 1 + z3
          · by_cases hlm : (qs.length : Int) < most
            · have I' := I.alloc (.cells #[.int .i64 j, .int .i64 k] 33)
              have hwz := I.grown.size
              go_wp2_with (at_builtin; go_loud (refine wpList_append_spots (qs := [((j : Int), (k : Int))]) I'.own (Reads.one (by simp [go_sem]) (by simp [go_sem])) (by simp; omega) (by simp; omega) rfl _ _ rfl rfl rfl ?_))
              intro v2 w5 o5 g5 _
              have I5 := I'.app hg o5 g5 (small_append I.small (small_one (by omega) (by omega) (by omega) (by omega)))
              clear I I' o5 g5
              go_wp2
              go_roundw
              case rel => exact ⟨j + 1, _, by go_num, by omega, I5, by simp; omega⟩
              case measure => simp [intOf]; omega
            · go_wp2
              go_roundw
              case rel => exact ⟨j + 1, _, by go_num, by omega, I, by omega⟩
              case measure => simp [intOf]; omega
          · go_wp2
            go_roundw
            case rel => exact ⟨k + 1, _, by go_num, by omega, I, by omega⟩
            case measure => simp [intOf]; omega
      · go_wp2_with fail
        refine (pick_any g n c (p + 4) A (most + 1) _ I.rd (by omega) (by omega) (by omega)).mono ?_
        rintro e w5 ⟨z5, rfl, z5a, z5b, r5, g5⟩
        have I5 := I.pick hg r5 g5
        clear I r5 g5
        obtain ⟨m5, rfl⟩ := Int.eq_ofNat_of_zero_le z5a
        go_wp2_with fail
        go_loopw [7, 13] (fun v k wr => ∃ (j : Nat) (qs : List Sp) (q : Nat), k = .int .i64 j ∧ j ≤ 20 ∧ Inv w wr g n c A v qs q ∧ qs.length ≤ most.toNat ∧ q + 2 * j ≤ p + 46) (fun _ k _ => (intOf k).toNat)
        case atStart => exact ⟨m5, ps, _, rfl, by omega, I5, hl, by omega⟩
        case round =>
          clear I5
          obtain ⟨j, qs, q, rfl, hj, J, hlq, hq⟩ := hrel
          obtain ⟨A', c', rfl, hc', hm'⟩ := J.own.reads.slice
          unfold maxLen at hm'
          have hwz := J.grown.size
          by_cases hj0 : 0 < j
          · have hd : decide (0 < j) = true := decide_eq_true hj0
            by_cases hlm : (qs.length : Int) < most
            · have hdl : decide ((qs.length : Int) < most) = true := decide_eq_true hlm
              go_wp2_with fail
              refine (pick_any g n c q A (2 + z1) _ J.rd (by omega) (by omega) (by omega)).mono ?_
              rintro e w6 ⟨z6, rfl, z6a, z6b, r6, g6⟩
              have J6 := J.pick hg r6 g6
              clear J r6 g6
              go_wp2_with fail
              refine (pick_any g n c (q + 1) A (2 + z1) _ J6.rd (by omega) (by omega) (by omega)).mono ?_
              rintro e w7 ⟨z7, rfl, z7a, z7b, r7, g7⟩
              have J7 := J6.pick hg r7 g7
              clear J6 r7 g7
              have hwz7 := J7.grown.size
              go_wp2_with fail
              refine (l1Put_any qs _ (z6 - 1) (z7 - 1) w.heap.size _ J7.own (by omega) (by omega)).mono ?_
              rintro e w8 ⟨v8, rfl, o8, b8⟩
              have J8 := J7.put b8 o8 (small_put J7.small (small_one (by omega) (by omega) (by omega) (by omega)))
              have hl8 := length_put_le qs (z6 - 1, z7 - 1)
              clear J7 o8 b8
              go_wp2
              go_roundw
              case rel => exact ⟨j - 1, _, _, by go_num, by omega, J8, by omega, by omega⟩
              case measure => simp [intOf]; omega
            · have hdl : decide ((qs.length : Int) < most) = false := decide_eq_false hlm
              go_wp2_with fail
              refine (odd_any g n c q A N _ J.rd (by omega) (by omega) (by omega)).mono ?_
              rintro e w9 ⟨zo, q9, rfl, hq9, r9, g9⟩
              have J9 := J.pick hg r9 g9
              clear J r9 g9
              cases zo with
              | false =>
                go_wp2
                go_ret
                exact ⟨_, qs, _, rfl, J9, by omega, by omega⟩
              | true =>
                go_wp2_with fail
                refine (pick_any g n c q9 A 3 _ J9.rd (by omega) (by omega) (by omega)).mono ?_
                rintro e w10 ⟨z10, rfl, z10a, z10b, r10, g10⟩
                have J10 := J9.pick hg r10 g10
                clear J9 r10 g10
                have hwz10 := J10.grown.size
                by_cases h0 : z10 = 0
                · subst h0
                  go_wp2
                  go_ret
                  exact ⟨_, [(31, 0)], _, rfl, J10.lit [(31, 0)] _ rfl (by simp) (small_one (by omega) (by omega) (by omega) (by omega)), by show 1 ≤ _; omega, by omega⟩
                · by_cases h01 : z10 = 1
                  · subst h01
                    go_wp2
                    go_ret
                    exact ⟨_, [(1, 0), (0, 0)], _, rfl, J10.lit [(1, 0), (0, 0)] _ rfl (by simp) (small_append (small_one (by omega) (by omega) (by omega) (by omega)) (small_one (by omega) (by omega) (by omega) (by omega))), by show 2 ≤ _; omega, by omega⟩
                  · have h0b : (z10 == 0) = false := beq_eq_false_iff_ne.2 h0
                    have h1b : (z10 == 1) = false := beq_eq_false_iff_ne.2 h01
                    have J11 := J10.alloc (.cells #[.int .i64 0, .int .i64 (-3)] 33)
                    go_wp2_with (at_builtin; go_loud (refine wpList_append_spots (qs := [((0 : Int), (-3 : Int))]) J11.own (Reads.one (g := w10.heap.size) (by simp [go_sem]) (by simp [go_sem])) (by simp; omega) (by simp; omega) rfl _ _ rfl rfl rfl ?_))
                    intro v12 w12 o12 g12 _
                    have J12 := J11.app hg o12 g12 (small_append J11.small (small_one (by omega) (by omega) (by omega) (by omega)))
                    go_wp2
                    go_ret
                    exact ⟨_, _, _, rfl, J12, by simp; omega, by omega⟩
          · have hd : decide (0 < j) = false := decide_eq_false hj0
            go_wp2_with fail
            refine (odd_any g n c q A N _ J.rd (by omega) (by omega) (by omega)).mono ?_
            rintro e w9 ⟨zo, q9, rfl, hq9, r9, g9⟩
            have J9 := J.pick hg r9 g9
            clear J r9 g9
            cases zo with
            | false =>
              go_wp2
              go_ret
              exact ⟨_, qs, _, rfl, J9, by omega, by omega⟩
            | true =>
              go_wp2_with fail
              refine (pick_any g n c q9 A 3 _ J9.rd (by omega) (by omega) (by omega)).mono ?_
              rintro e w10 ⟨z10, rfl, z10a, z10b, r10, g10⟩
              have J10 := J9.pick hg r10 g10
              clear J9 r10 g10
              have hwz10 := J10.grown.size
              by_cases h0 : z10 = 0
              · subst h0
                go_wp2
                go_ret
                exact ⟨_, [(31, 0)], _, rfl, J10.lit [(31, 0)] _ rfl (by simp) (small_one (by omega) (by omega) (by omega) (by omega)), by show 1 ≤ _; omega, by omega⟩
              · by_cases h01 : z10 = 1
                · subst h01
                  go_wp2
                  go_ret
                  exact ⟨_, [(1, 0), (0, 0)], _, rfl, J10.lit [(1, 0), (0, 0)] _ rfl (by simp) (small_append (small_one (by omega) (by omega) (by omega) (by omega)) (small_one (by omega) (by omega) (by omega) (by omega))), by show 2 ≤ _; omega, by omega⟩
                · have h0b : (z10 == 0) = false := beq_eq_false_iff_ne.2 h0
                  have h1b : (z10 == 1) = false := beq_eq_false_iff_ne.2 h01
                  have J11 := J10.alloc (.cells #[.int .i64 0, .int .i64 (-3)] 33)
                  go_wp2_with (at_builtin; go_loud (refine wpList_append_spots (qs := [((0 : Int), (-3 : Int))]) J11.own (Reads.one (g := w10.heap.size) (by simp [go_sem]) (by simp [go_sem])) (by simp; omega) (by simp; omega) rfl _ _ rfl rfl rfl ?_))
                  intro v12 w12 o12 g12 _
                  have J12 := J11.app hg o12 g12 (small_append J11.small (small_one (by omega) (by omega) (by omega) (by omega)))
                  go_wp2
                  go_ret
                  exact ⟨_, _, _, rfl, J12, by simp; omega, by omega⟩
  · go_wp2_with fail
    refine (pick_any g n c (p + 2) A (most + 1) _ I2.rd (by omega) (by omega) (by omega)).mono ?_
    rintro e w5 ⟨z5, rfl, z5a, z5b, r5, g5⟩
    have I5 := I2.pick hg r5 g5
    clear I2 r5 g5
    obtain ⟨m5, rfl⟩ := Int.eq_ofNat_of_zero_le z5a
    go_wp2_with fail
    go_loopw [7, 13] (fun v k wr => ∃ (j : Nat) (qs : List Sp) (q : Nat), k = .int .i64 j ∧ j ≤ 20 ∧ Inv w wr g n c A v qs q ∧ qs.length ≤ most.toNat ∧ q + 2 * j ≤ p + 46) (fun _ k _ => (intOf k).toNat)
    case atStart => exact ⟨m5, [], _, rfl, by omega, I5, (by simp), by omega⟩
    case round =>
      clear I5
      obtain ⟨j, qs, q, rfl, hj, J, hlq, hq⟩ := hrel
      obtain ⟨A', c', rfl, hc', hm'⟩ := J.own.reads.slice
      unfold maxLen at hm'
      have hwz := J.grown.size
      by_cases hj0 : 0 < j
      · have hd : decide (0 < j) = true := decide_eq_true hj0
        by_cases hlm : (qs.length : Int) < most
        · have hdl : decide ((qs.length : Int) < most) = true := decide_eq_true hlm
          go_wp2_with fail
          refine (pick_any g n c q A (2 + z1) _ J.rd (by omega) (by omega) (by omega)).mono ?_
          rintro e w6 ⟨z6, rfl, z6a, z6b, r6, g6⟩
          have J6 := J.pick hg r6 g6
          clear J r6 g6
          go_wp2_with fail
          refine (pick_any g n c (q + 1) A (2 + z1) _ J6.rd (by omega) (by omega) (by omega)).mono ?_
          rintro e w7 ⟨z7, rfl, z7a, z7b, r7, g7⟩
          have J7 := J6.pick hg r7 g7
          clear J6 r7 g7
          have hwz7 := J7.grown.size
          go_wp2_with fail
          refine (l1Put_any qs _ (z6 - 1) (z7 - 1) w.heap.size _ J7.own (by omega) (by omega)).mono ?_
          rintro e w8 ⟨v8, rfl, o8, b8⟩
          have J8 := J7.put b8 o8 (small_put J7.small (small_one (by omega) (by omega) (by omega) (by omega)))
          have hl8 := length_put_le qs (z6 - 1, z7 - 1)
          clear J7 o8 b8
          go_wp2
          go_roundw
          case rel => exact ⟨j - 1, _, _, by go_num, by omega, J8, by omega, by omega⟩
          case measure => simp [intOf]; omega
        · have hdl : decide ((qs.length : Int) < most) = false := decide_eq_false hlm
          go_wp2_with fail
          refine (odd_any g n c q A N _ J.rd (by omega) (by omega) (by omega)).mono ?_
          rintro e w9 ⟨zo, q9, rfl, hq9, r9, g9⟩
          have J9 := J.pick hg r9 g9
          clear J r9 g9
          cases zo with
          | false =>
            go_wp2
            go_ret
            exact ⟨_, qs, _, rfl, J9, by omega, by omega⟩
          | true =>
            go_wp2_with fail
            refine (pick_any g n c q9 A 3 _ J9.rd (by omega) (by omega) (by omega)).mono ?_
            rintro e w10 ⟨z10, rfl, z10a, z10b, r10, g10⟩
            have J10 := J9.pick hg r10 g10
            clear J9 r10 g10
            have hwz10 := J10.grown.size
            by_cases h0 : z10 = 0
            · subst h0
              go_wp2
              go_ret
              exact ⟨_, [(31, 0)], _, rfl, J10.lit [(31, 0)] _ rfl (by simp) (small_one (by omega) (by omega) (by omega) (by omega)), by show 1 ≤ _; omega, by omega⟩
            · by_cases h01 : z10 = 1
              · subst h01
                go_wp2
                go_ret
                exact ⟨_, [(1, 0), (0, 0)], _, rfl, J10.lit [(1, 0), (0, 0)] _ rfl (by simp) (small_append (small_one (by omega) (by omega) (by omega) (by omega)) (small_one (by omega) (by omega) (by omega) (by omega))), by show 2 ≤ _; omega, by omega⟩
              · have h0b : (z10 == 0) = false := beq_eq_false_iff_ne.2 h0
                have h1b : (z10 == 1) = false := beq_eq_false_iff_ne.2 h01
                have J11 := J10.alloc (.cells #[.int .i64 0, .int .i64 (-3)] 33)
                go_wp2_with (at_builtin; go_loud (refine wpList_append_spots (qs := [((0 : Int), (-3 : Int))]) J11.own (Reads.one (g := w10.heap.size) (by simp [go_sem]) (by simp [go_sem])) (by simp; omega) (by simp; omega) rfl _ _ rfl rfl rfl ?_))
                intro v12 w12 o12 g12 _
                have J12 := J11.app hg o12 g12 (small_append J11.small (small_one (by omega) (by omega) (by omega) (by omega)))
                go_wp2
                go_ret
                exact ⟨_, _, _, rfl, J12, by simp; omega, by omega⟩
      · have hd : decide (0 < j) = false := decide_eq_false hj0
        go_wp2_with fail
        refine (odd_any g n c q A N _ J.rd (by omega) (by omega) (by omega)).mono ?_
        rintro e w9 ⟨zo, q9, rfl, hq9, r9, g9⟩
        have J9 := J.pick hg r9 g9
        clear J r9 g9
        cases zo with
        | false =>
          go_wp2
          go_ret
          exact ⟨_, qs, _, rfl, J9, by omega, by omega⟩
        | true =>
          go_wp2_with fail
          refine (pick_any g n c q9 A 3 _ J9.rd (by omega) (by omega) (by omega)).mono ?_
          rintro e w10 ⟨z10, rfl, z10a, z10b, r10, g10⟩
          have J10 := J9.pick hg r10 g10
          clear J9 r10 g10
          have hwz10 := J10.grown.size
          by_cases h0 : z10 = 0
          · subst h0
            go_wp2
            go_ret
            exact ⟨_, [(31, 0)], _, rfl, J10.lit [(31, 0)] _ rfl (by simp) (small_one (by omega) (by omega) (by omega) (by omega)), by show 1 ≤ _; omega, by omega⟩
          · by_cases h01 : z10 = 1
            · subst h01
              go_wp2
              go_ret
              exact ⟨_, [(1, 0), (0, 0)], _, rfl, J10.lit [(1, 0), (0, 0)] _ rfl (by simp) (small_append (small_one (by omega) (by omega) (by omega) (by omega)) (small_one (by omega) (by omega) (by omega) (by omega))), by show 2 ≤ _; omega, by omega⟩
            · have h0b : (z10 == 0) = false := beq_eq_false_iff_ne.2 h0
              have h1b : (z10 == 1) = false := beq_eq_false_iff_ne.2 h01
              have J11 := J10.alloc (.cells #[.int .i64 0, .int .i64 (-3)] 33)
              go_wp2_with (at_builtin; go_loud (refine wpList_append_spots (qs := [((0 : Int), (-3 : Int))]) J11.own (Reads.one (g := w10.heap.size) (by simp [go_sem]) (by simp [go_sem])) (by simp; omega) (by simp; omega) rfl _ _ rfl rfl rfl ?_))
              intro v12 w12 o12 g12 _
              have J12 := J11.app hg o12 g12 (small_append J11.small (small_one (by omega) (by omega) (by omega) (by omega)))
              go_wp2
              go_ret
              exact ⟨_, _, _, rfl, J12, by simp; omega, by omega⟩
end Go.Proofs.Ytebgcmnajkophaa
