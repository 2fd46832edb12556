/- What the draws of chapter 6 hand back: pictures, often fat ones, in new memory, a spot, and a way: l20Fat, l20Ways, DrawRadiusAt, DrawCentresOf, DrawGreatestOf. No conditions but those typed. -/
import Derived.Test.YtfofmfkdkihhbadDraws4
import Derived.Test.YtfofmfkdkihhbadBallT
import Derived.Deep.RegionHeld3
import Derived.IntWalk
namespace Go.Proofs.Ytfofmfkdkihhbad
open Go.RowKit Go.Sort

theorem small_pic {ps : List Sp} (h : picB ps = true) : Small ps := fun a ha => by
  have := (picB_pic h).2.1 a ha
  unfold InR at this; omega
theorem Owns.notat {w : World} {base g : Nat} {v : Value} {ps : List Sp} (h : Owns w base v ps) (hg : g < base) : v.ownBlock = none ∨ v.ownBlock ≠ some g := by
  cases hv : v.ownBlock with
  | none => exact .inl rfl
  | some k => exact .inr (fun e => by have := (h.lt k hv).1; injection e with e; omega)
theorem specGrown_lit {b : Bool} {r1 ps : List Sp} {v : Value} {r way : Int} {w : World} (hk : grownBallOk ps r way = b) (hr : grownBallR ps r way = r1) (h : Reads w w.heap.size v ps) : Calls Try.prog 68 #[v, .int .i64 r, .int .i64 way] w (Gives2' r1 b w) := by
  subst hk hr; exact specGrown_any ps v r way w h
theorem grownBall_pic {p : List Sp} {r way : Int} (h : grownBallOk p r way = true) : picB (grownBallR p r way) = true := by
  unfold grownBallOk at h
  rw [Bool.and_eq_true] at h
  rw [(grownBall_yes h.1).2, (sum_is h.2).eq]
  exact (sum_is h.2).ps
set_option maxHeartbeats 1600000 in
theorem fat_any (g n c p : Nat) (A : Option Addr) (N : Int) (w : World) (hr : Rd w g A n c p) (h1 : 0 ≤ N) (h2 : N ≤ 1000) (hp : p ≤ 60000) :
    Calls Try.prog 38 #[.pointer (some ⟨g, 0, none⟩), .int .i64 N] w fun e w' => ∃ v ps q, e = .returned v ∧ Inv w w' g n c A v ps q ∧ ps.length ≤ 60 ∧ q ≤ p + 120 := by
  have hg := hr.lt
  go_enter Try.func38, Try.ntmps38
  go_wp2_with fail
  refine (pick_any g n c p A 2 _ hr (by omega) (by omega) (by omega)).mono ?_
  rintro e w1 ⟨z1, rfl, z1a, z1b, r1, g1⟩
  have hs1 := g1.size
  by_cases hz : z1 = 0
  · subst hz
    go_wp2_with fail
    refine (spots_any g n c (p + 1) A 3 0 _ r1 (by omega) (by omega) (by omega) (by omega) (by omega)).mono ?_
    rintro e w2 ⟨v, ps, q, rfl, I, hl, hq⟩
    have o2 := I.own
    have r2 := I.rd
    have g2 := grown_trans g1 I.grown
    have hs2 := I.grown.size
    clear I
    go_wp2_with fail
    refine (pick_any g n c q A 2 _ r2 (by omega) (by omega) (by omega)).mono ?_
    rintro e w3 ⟨z3, rfl, z3a, z3b, r3, g3⟩
    have o3 := o2.grown g3 (o2.notat (by have := r1.lt; omega))
    have hs3 := g3.size
    have g3 := grown_trans g2 g3
    go_wp2_with fail
    refine (pick_any g n c (q + 1) A 2 _ r3 (by omega) (by omega) (by omega)).mono ?_
    rintro e w4 ⟨z4, rfl, z4a, z4b, r4, g4⟩
    have o4 := o3.grown g4 (o3.notat (by have := r1.lt; omega))
    have hs4 := g4.size
    have g4 := grown_trans g3 g4
    clear o2 o3 g1 g2 g3 r1 r2 r3
    obtain ⟨s, hs⟩ : ∃ s, grownBallR ps (1 + z3) z4 = s := ⟨_, rfl⟩
    rcases hk : grownBallOk ps (1 + z3) z4 with _ | _
    · have HK := Lib.hid (And.intro hk hs)
      clear hk hs
      go_wp2_with fail
      refine (specGrown_lit HK.out.1 HK.out.2 o4.reads).mono ?_
      rintro e w5 ⟨v5, rfl, o5, b5⟩
      have r5 := r4.below b5
      have g5 := grown_below g4 b5
      go_wp2_with fail
      refine (spots_any g n c (q + 1 + 1) A 16 N _ r5 (by omega) (by omega) (by omega) (by omega) (by omega)).mono ?_
      rintro e w6 ⟨v6, ps6, q6, rfl, I, hl6, hq6⟩
      go_wp2
      go_ret
      exact ⟨v6, ps6, q6, rfl, ⟨I.own.base (by have := b5.size; omega), I.rd, grown_trans g5 I.grown, I.small⟩, Nat.le_trans hl6 (by decide), by omega⟩
    · have hpic := grownBall_pic hk
      rw [hs] at hpic
      have hsm := small_pic hpic
      have hsl := (picB_pic hpic).1
      have HK := Lib.hid (And.intro hk hs)
      clear hk hs hpic
      go_wp2_with fail
      refine (specGrown_lit HK.out.1 HK.out.2 o4.reads).mono ?_
      rintro e w5 ⟨v5, rfl, o5, b5⟩
      have r5 := r4.below b5
      have g5 := grown_below g4 b5
      go_wp2
      go_ret
      exact ⟨_, s, _, rfl, ⟨o5.base (by omega), r5, g5, hsm⟩, hsl, by omega⟩
  · go_wp2_with fail
    refine (spots_any g n c (p + 1) A 16 N _ r1 (by omega) (by omega) (by omega) (by omega) (by omega)).mono ?_
    rintro e w6 ⟨v6, ps6, q6, rfl, I, hl6, hq6⟩
    go_wp2
    go_ret
    exact ⟨v6, ps6, q6, rfl, ⟨I.own.base (by omega), I.rd, grown_trans g1 I.grown, I.small⟩, Nat.le_trans hl6 (by decide), by omega⟩

set_option maxHeartbeats 800000 in
theorem ways_any (g n c p : Nat) (A : Option Addr) (w : World) (hr : Rd w g A n c p) (hp : p ≤ 50000) :
    Calls Try.prog 49 #[.pointer (some ⟨g, 0, none⟩)] w fun e w' => ∃ v ps way, e = .returned (.tuple #[v, .int .i64 way]) ∧ Owns w' w.heap.size v ps ∧ Small ps ∧ ps.length ≤ 60 ∧ (0 ≤ way ∧ way ≤ 10) ∧ w.grownBy w' (some g) := by
  go_enter Try.func49, Try.ntmps49
  go_wp2_with fail
  refine (fat_any g n c p A 12 _ hr (by omega) (by omega) (by omega)).mono ?_
  rintro e w1 ⟨v, ps, q, rfl, I, hl, hq⟩
  have o1 := I.own
  have r1 := I.rd
  have g1 := I.grown
  have hsm := I.small
  have hgl := hr.lt
  clear I
  go_wp2_with fail
  refine (pick_any g n c q A 2 _ r1 (by omega) (by omega) (by omega)).mono ?_
  rintro e w2 ⟨z2, rfl, z2a, z2b, r2, g2⟩
  have o2 := o1.grown g2 (o1.notat hgl)
  have g2 := grown_trans g1 g2
  go_wp2_with fail
  refine (pick_any g n c (q + 1) A 20 _ r2 (by omega) (by omega) (by omega)).mono ?_
  rintro e w3 ⟨z3, rfl, z3a, z3b, r3, g3⟩
  have o3 := o2.grown g3 (o2.notat hgl)
  have g3 := grown_trans g2 g3
  obtain ⟨A3, c3, rfl, _, _⟩ := o3.reads.slice
  clear o1 o2 g1 g2 r1 r2 r3
  go_wp2
  go_ret2
  exact ⟨_, ps, _, rfl, o3, hsm, hl, by omega, g3⟩

/-- a drawn picture and a way -/
def GivesWays (w : World) (e : Ending) (w' : World) : Prop := ∃ (v : Value) (ps : List Sp) (way : Int), e = .returned (.tuple #[v, .int .i64 way]) ∧ Owns w' w.heap.size v ps ∧ ps.length ≤ 60 ∧ (0 ≤ way ∧ way ≤ 10) ∧ Below w.heap.size w w'
theorem drawCentresOf_any (A : Option Addr) (n c : Nat) (w : World) (hb : Bytes w w.heap.size A n) (hn : n ≤ c) (hc : c ≤ 9223372036854775807) :
    Calls Try.prog 19 #[.slice A n c] w (GivesWays w) := by
  go_enter Try.func19, Try.ntmps19
  go_wp2_with fail
  refine (open_any A n c _ hb hn hc).mono ?_
  rintro e w1 ⟨n', rfl, r1, b1⟩
  go_wp2_with fail
  refine (ways_any _ n' c 0 A _ r1 (by omega)).mono ?_
  rintro e w2 ⟨v, ps, way, rfl, o2, hsm, hl, hw, g2⟩
  obtain ⟨A2, c2, rfl, _, _⟩ := o2.reads.slice
  go_wp2
  go_ret2
  exact ⟨_, ps, way, rfl, o2.base b1.size, hl, hw, Below.of_grown b1 g2 (Nat.le_refl _)⟩
theorem drawGreatestOf_any (A : Option Addr) (n c : Nat) (w : World) (hb : Bytes w w.heap.size A n) (hn : n ≤ c) (hc : c ≤ 9223372036854775807) :
    Calls Try.prog 28 #[.slice A n c] w (GivesWays w) := by
  go_enter Try.func28, Try.ntmps28
  go_wp2_with fail
  refine (open_any A n c _ hb hn hc).mono ?_
  rintro e w1 ⟨n', rfl, r1, b1⟩
  go_wp2_with fail
  refine (ways_any _ n' c 0 A _ r1 (by omega)).mono ?_
  rintro e w2 ⟨v, ps, way, rfl, o2, hsm, hl, hw, g2⟩
  obtain ⟨A2, c2, rfl, _, _⟩ := o2.reads.slice
  go_wp2
  go_ret2
  exact ⟨_, ps, way, rfl, o2.base b1.size, hl, hw, Below.of_grown b1 g2 (Nat.le_refl _)⟩

/-- the state in the draw of RadiusAt: the picture, the spot in its box G, the empty result in its box R, the reader in g -/
structure RInv (w1 wr : World) (R G g n c : Nat) (A : Option Addr) (v : Value) (ps : List Sp) (X Y : Int) (p : Nat) : Prop where
  own : Owns wr w1.heap.size v ps
  row : wr.heap[G]? = some (.cells #[.int .i64 X, .int .i64 Y] 25 (0, 0))
  res : wr.heap[R]? = some (.cells #[.int .i64 0, .int .i64 0] 25 (0, 0))
  rd : Rd wr g A n c p
  grown : w1.grownBy wr (some g)
theorem RInv.pick {w1 wr w' : World} {R G g n c p q : Nat} {A : Option Addr} {v : Value} {ps : List Sp} {X Y : Int} (I : RInv w1 wr R G g n c A v ps X Y p) (hR : R ≠ g) (hG : G ≠ g) (hg : g < w1.heap.size) (hr : Rd w' g A n c q) (h : wr.grownBy w' (some g)) : RInv w1 w' R G g n c A v ps X Y q :=
  ⟨I.own.grown h (I.own.notat hg), (h.block _ (Array.getElem?_eq_some_iff.1 I.row).1 (fun e => by injection e with e; omega)).trans I.row, (h.block _ (Array.getElem?_eq_some_iff.1 I.res).1 (fun e => by injection e with e; omega)).trans I.res, hr, grown_trans I.grown h⟩
theorem RInv.drew {w1 wr : World} {R G g n c p : Nat} {A : Option Addr} {v : Value} {ps : List Sp} {X Y : Int} (I : RInv w1 wr R G g n c A v ps X Y p) : RInv w1 wr.drew R G g n c A v ps X Y p :=
  ⟨I.own.below (Below.refl _ _).drew, I.row, I.res, I.rd.below (Below.refl _ _).drew, grown_below I.grown (Below.refl _ _).drew⟩
theorem keepR {w : World} {k g o : Nat} {a b v : Value} (h : k ≠ g) (hc : w.cell? ⟨k, o, none⟩ = some v) : ((w.setCell ⟨g, 0, none⟩ a).setCell ⟨g, 1, none⟩ b).cell? ⟨k, o, none⟩ = some v := by
  rw [World.cell?_setCell_far _ _ _ _ (fun e => h e.symm), World.cell?_setCell_far _ _ _ _ (fun e => h e.symm), hc]
theorem way_rng {z1 z2 : Int} (h1 : 0 ≤ z1) (h2 : z1 < 2) (h3 : 0 ≤ z2) (h4 : z2 < 20) : 0 ≤ IntKind.i64.wrap (z1 + IntKind.i64.wrap (IntKind.i64.wrap (z2.tdiv 19) * 2)) ∧ IntKind.i64.wrap (z1 + IntKind.i64.wrap (IntKind.i64.wrap (z2.tdiv 19) * 2)) ≤ 10 := by
  have e : z2.tdiv 19 = z2 / 19 := Int.tdiv_eq_ediv_of_nonneg h3
  rw [e, IntWalk.i64_in (z2 / 19) (by omega), IntWalk.i64_in (z2 / 19 * 2) (by omega), IntWalk.i64_in _ (by omega)]
  omega
theorem Owns.setFar6 {w : World} {base : Nat} {v : Value} {ps : List Sp} (h : Owns w base v ps) {a : Addr} (ha : v.ownBlock = none ∨ v.ownBlock ≠ some a.block) (x : Value) : Owns (w.setCell a x) base v ps := by
  refine ⟨h.1, ?_⟩
  rcases h.2 with h0 | ⟨g, cap, cur, rfl, h1, hg, h2⟩
  · exact .inl h0
  · refine .inr ⟨g, cap, cur, rfl, h1, (heap_setCell_other _ _ _ _ (fun e => ?_)).trans hg, h2⟩
    rcases ha with ha | ha
    · cases ha
    · exact ha (by rw [← e]; rfl)
set_option maxHeartbeats 3200000 in
theorem drawRadiusAt_any (A : Option Addr) (n c : Nat) (w : World) (hb : Bytes w w.heap.size A n) (hn : n ≤ c) (hc : c ≤ 9223372036854775807) :
    Calls Try.prog 10 #[.slice A n c] w (GivesFar w) := by
  have b0 := box_below w #[.int .i64 0, .int .i64 0] 25
  obtain ⟨W, hW⟩ : ∃ W, W = w.alloc (.cells #[.int .i64 0, .int .i64 0] 25) := ⟨_, rfl⟩
  have q0 : W.heap[w.heap.size]? = some (.cells #[.int .i64 0, .int .i64 0] 25 (0, 0)) := by rw [hW]; exact heap_alloc_new w _
  have hsz : w.heap.size < W.heap.size := by rw [hW]; simp
  rw [← hW] at b0
  have hb' := (hb.below b0).more b0.size
  go_enter Try.func10, Try.ntmps10
  go_wp2_with (first | (rw [← hW]; clear hW) | fail)
  refine (open_any A n c _ hb' hn hc).mono ?_
  rintro e w1 ⟨n', rfl, r1, b1⟩
  have hs1 := b1.size
  have hgl := r1.lt
  have q0 := (b1.block w.heap.size (by omega)).trans q0
  have bwg := Lib.hid (fun (w2 : World) (h : w1.grownBy w2 (some W.heap.size)) => below_step b0 (Below.of_grown b1 h (Nat.le_refl _)))
  generalize hgW : W.heap.size = g at *
  have hRg : w.heap.size ≠ g := by omega
  go_wp2_with fail
  refine (fat_any g n' c 0 A 12 _ r1 (by omega) (by omega) (by omega)).mono ?_
  rintro e w2 ⟨v, ps, q, rfl, I, hl, hq⟩
  obtain ⟨Ap, cp, rfl, hcp, hmp⟩ := I.own.reads.slice
  unfold maxLen at hmp
  have q2 := (I.grown.block w.heap.size (by omega) (fun e => by injection e with e; omega)).trans q0
  have o2 := I.own
  have g2 := I.grown
  have r2 := I.rd
  have hsm := I.small
  clear I
  go_wp2_with fail
  refine (spot_any g n' c q A _ r2 (by omega)).mono ?_
  rintro e w3 ⟨x, y, rfl, hxy, r3, g3⟩
  have hs3 := g3.size
  have hs2 := g2.size
  have J0 : RInv w1 (w3.alloc (.cells #[.int .i64 x, .int .i64 y] 25)) w.heap.size w3.heap.size g n' c A (.slice Ap ps.length cp) ps x y (q + 3) := by
    have ba := box_below w3 #[.int .i64 x, .int .i64 y] 25
    have q3 := (g3.block w.heap.size (by omega) (fun e => by injection e with e; omega)).trans q2
    exact ⟨(o2.grown g3 (o2.notat hgl)).below ba, heap_alloc_new w3 _, (ba.block w.heap.size (by omega)).trans q3, r3.below ba, grown_below (grown_trans g2 g3) ba⟩
  have hvne : (Value.slice Ap ps.length cp).ownBlock = none ∨ (Value.slice Ap ps.length cp).ownBlock ≠ some w3.heap.size := by
    have o3 := o2.grown g3 (o2.notat hgl)
    cases hv : (Value.slice Ap ps.length cp).ownBlock with
    | none => exact .inl rfl
    | some k => exact .inr (fun e => by have := (o3.lt k hv).2; injection e with e; omega)
  obtain ⟨W4, hW4⟩ : ∃ W4, W4 = w3.alloc (.cells #[.int .i64 x, .int .i64 y] 25) := ⟨_, rfl⟩
  rw [← hW4] at J0
  have hGg : w3.heap.size ≠ g := by omega
  have hRG : w3.heap.size ≠ w.heap.size := by omega
  clear q0 q2 o2 g2 r2 r3 g3
  by_cases h0 : ps.length = 0
  · obtain rfl := List.eq_nil_of_length_eq_zero h0
    have J := J0
    go_wp2_with fail
    rw [← hW4]
    clear hW4
    have tok := Lib.hid trivial
    have J := J.drew
    obtain ⟨p0, p1⟩ := cells_of_row J.row
    obtain ⟨k0, k1⟩ := cells_of_row J.res
    have kf0 := frozen_of_row _ _ 0 _ _ J.res
    have kf1 := frozen_of_row _ _ 1 _ _ J.res
    have ks := (Array.getElem?_eq_some_iff.1 J.res).1
    go_wp2_with fail
    go_region_held3 (fun w' => w'.cell? ⟨w3.heap.size, 0, none⟩ = some (.int .i64 x) ∧ w'.cell? ⟨w3.heap.size, 1, none⟩ = some (.int .i64 y)) (first | (refine ⟨?_, ?_⟩ <;> with_reducible assumption) | (refine ⟨keepR ?_ ?_, keepR ?_ ?_⟩ <;> with_reducible assumption))
      (first
        | (go_at_call 40; have _tk := tok; refine (pick_any g n' c _ A _ _ J.rd (by omega) (by omega) (by omega)).mono ?_; rintro e wz ⟨zA, rfl, za, zb, rz, gz⟩; have J := J.pick hRg hGg hgl rz gz; obtain ⟨p0, p1⟩ := cells_of_row J.row; obtain ⟨k0, k1⟩ := cells_of_row J.res; have kf0 := frozen_of_row _ _ 0 _ _ J.res; have kf1 := frozen_of_row _ _ 1 _ _ J.res; have ks := (Array.getElem?_eq_some_iff.1 J.res).1; clear rz gz; clear tok _tk)
        | (go_at_call 40; refine (pick_any g n' c _ A _ _ J.rd (by omega) (by omega) (by omega)).mono ?_; rintro e wz ⟨zB, rfl, za, zb, rz, gz⟩; have J := J.pick hRg hGg hgl rz gz; obtain ⟨p0, p1⟩ := cells_of_row J.row; obtain ⟨k0, k1⟩ := cells_of_row J.res; have kf0 := frozen_of_row _ _ 0 _ _ J.res; have kf1 := frozen_of_row _ _ 1 _ _ J.res; have ks := (Array.getElem?_eq_some_iff.1 J.res).1; clear rz gz))
    go_wp2
    refine bodyPost_ret (v := .tuple #[.slice Ap 0 cp, .agg #[.int .i64 x, .int .i64 y], .int .i64 (IntKind.i64.wrap (zA + IntKind.i64.wrap (IntKind.i64.wrap (zB.tdiv 19) * 2)))]) (by simp [results, Try.results10, go_sem, k0, k1]) rfl ⟨_, [], _, _, _, rfl, ?_, ?_, ?_, way_rng (by omega) (by omega) (by omega) (by omega), ?_⟩
    · exact (((J.own.setFar6 (a := ⟨w.heap.size, 0, none⟩) (J.own.notat (by simp only []; omega)) _).setFar6 (a := ⟨w.heap.size, 1, none⟩) (J.own.notat (by simp only []; omega)) _)).base (by omega)
    · first | exact hl | simp
    · first | exact hxy | exact ⟨by omega, by omega, by omega, by omega⟩
    · exact below_set2 (bwg.out _ J.grown) (Nat.le_refl _)
  · have hlp : 0 < ps.length := by omega
    have hlp2 : (0 : Int) < (ps.length : Int) := by omega
    have hd0 : decide (0 < ps.length) = true := decide_eq_true hlp
    go_wp2_with fail
    rw [← hW4]
    clear hW4
    refine (pick_any g n' c _ A 4 _ J0.rd (by omega) (by omega) (by omega)).mono ?_
    rintro e w5 ⟨z5, rfl, z5a, z5b, r5, g5⟩
    have J := J0.pick hRg hGg hgl r5 g5
    clear J0 r5 g5
    by_cases hz5 : z5 = 0
    · subst hz5
      have tok := Lib.hid trivial
      have J := J.drew
      obtain ⟨p0, p1⟩ := cells_of_row J.row
      obtain ⟨k0, k1⟩ := cells_of_row J.res
      have kf0 := frozen_of_row _ _ 0 _ _ J.res
      have kf1 := frozen_of_row _ _ 1 _ _ J.res
      have ks := (Array.getElem?_eq_some_iff.1 J.res).1
      go_wp2_with fail
      go_region_held3 (fun w' => w'.cell? ⟨w3.heap.size, 0, none⟩ = some (.int .i64 x) ∧ w'.cell? ⟨w3.heap.size, 1, none⟩ = some (.int .i64 y)) (first | (refine ⟨?_, ?_⟩ <;> with_reducible assumption) | (refine ⟨keepR ?_ ?_, keepR ?_ ?_⟩ <;> with_reducible assumption))
        (first
          | (go_at_call 40; have _tk := tok; refine (pick_any g n' c _ A _ _ J.rd (by omega) (by omega) (by omega)).mono ?_; rintro e wz ⟨zA, rfl, za, zb, rz, gz⟩; have J := J.pick hRg hGg hgl rz gz; obtain ⟨p0, p1⟩ := cells_of_row J.row; obtain ⟨k0, k1⟩ := cells_of_row J.res; have kf0 := frozen_of_row _ _ 0 _ _ J.res; have kf1 := frozen_of_row _ _ 1 _ _ J.res; have ks := (Array.getElem?_eq_some_iff.1 J.res).1; clear rz gz; clear tok _tk)
          | (go_at_call 40; refine (pick_any g n' c _ A _ _ J.rd (by omega) (by omega) (by omega)).mono ?_; rintro e wz ⟨zB, rfl, za, zb, rz, gz⟩; have J := J.pick hRg hGg hgl rz gz; obtain ⟨p0, p1⟩ := cells_of_row J.row; obtain ⟨k0, k1⟩ := cells_of_row J.res; have kf0 := frozen_of_row _ _ 0 _ _ J.res; have kf1 := frozen_of_row _ _ 1 _ _ J.res; have ks := (Array.getElem?_eq_some_iff.1 J.res).1; clear rz gz))
      go_wp2
      refine bodyPost_ret (v := .tuple #[.slice Ap ps.length cp, .agg #[.int .i64 x, .int .i64 y], .int .i64 (IntKind.i64.wrap (zA + IntKind.i64.wrap (IntKind.i64.wrap (zB.tdiv 19) * 2)))]) (by simp [results, Try.results10, go_sem, k0, k1]) rfl ⟨_, ps, _, _, _, rfl, ?_, ?_, ?_, way_rng (by omega) (by omega) (by omega) (by omega), ?_⟩
      · exact (((J.own.setFar6 (a := ⟨w.heap.size, 0, none⟩) (J.own.notat (by simp only []; omega)) _).setFar6 (a := ⟨w.heap.size, 1, none⟩) (J.own.notat (by simp only []; omega)) _)).base (by omega)
      · first | exact hl | simp
      · first | exact hxy | exact ⟨by omega, by omega, by omega, by omega⟩
      · exact below_set2 (bwg.out _ J.grown) (Nat.le_refl _)
    · have hz5p : 0 < z5 := by omega
      have hdz : decide (0 < z5) = true := decide_eq_true hz5p
      go_wp2_with fail
      refine (pick_any g n' c _ A (ps.length : Int) _ J.rd (by omega) (by omega) (by omega)).mono ?_
      rintro e w6 ⟨z6, rfl, z6a, z6b, r6, g6⟩
      have J := J.pick hRg hGg hgl r6 g6
      clear r6 g6
      obtain ⟨m, rfl⟩ := Int.eq_ofNat_of_zero_le z6a
      have hm : m < ps.length := by omega
      obtain ⟨⟨u, t⟩, hut⟩ : ∃ a, ps[m]? = some a := ⟨_, List.getElem?_eq_getElem hm⟩
      have hsmu := hsm _ (List.mem_of_getElem? hut)
      simp only at hsmu
      obtain ⟨A', c', he, hcc, hmm, _, hcell⟩ := J.own.reads.is
      cases he
      obtain ⟨b, off, rfl, hbk, hcell⟩ := hcell (by omega)
      obtain ⟨d0, d1⟩ := hcell m u t hut
      obtain ⟨p0, p1⟩ := cells_of_row J.row
      have pf0 := frozen_of_row _ _ 0 _ _ J.row
      have pf1 := frozen_of_row _ _ 1 _ _ J.row
      have J : RInv w1 ((w6.setCell ⟨w3.heap.size, 0, none⟩ (.int .i64 u)).setCell ⟨w3.heap.size, 1, none⟩ (.int .i64 t)) w.heap.size w3.heap.size g n' c A (.slice (some ⟨b, off, none⟩) ps.length cp) ps u t (q + 3 + 1 + 1) :=
        ⟨(J.own.setFar6 (a := ⟨w3.heap.size, 0, none⟩) hvne _).setFar6 (a := ⟨w3.heap.size, 1, none⟩) hvne _, set2_same J.row, (set2_other hRG.symm).trans J.res,
          ⟨(set2_other hGg.symm).trans J.rd.blk, J.rd.bytes.below (below_set2 (Below.refl g w6) (by omega)), J.rd.len⟩,
          ⟨J.grown.os, J.grown.tape, J.grown.output, by rw [show ((w6.setCell ⟨w3.heap.size, 0, none⟩ (.int .i64 u)).setCell ⟨w3.heap.size, 1, none⟩ (.int .i64 t)).heap.size = w6.heap.size by simp [World.setCell]]; exact J.grown.size, fun k hk hne => (set2_other (by omega)).trans (J.grown.block k hk hne)⟩⟩
      obtain ⟨W7, hW7⟩ : ∃ W7, W7 = (w6.setCell ⟨w3.heap.size, 0, none⟩ (.int .i64 u)).setCell ⟨w3.heap.size, 1, none⟩ (.int .i64 t) := ⟨_, rfl⟩
      rw [← hW7] at J
      clear hcell hut
      go_wp2_with fail
      rw [← hW7]
      clear hW7 p0 p1 d0 d1 pf0 pf1
      have tok := Lib.hid trivial
      have J := J.drew
      obtain ⟨p0, p1⟩ := cells_of_row J.row
      obtain ⟨k0, k1⟩ := cells_of_row J.res
      have kf0 := frozen_of_row _ _ 0 _ _ J.res
      have kf1 := frozen_of_row _ _ 1 _ _ J.res
      have ks := (Array.getElem?_eq_some_iff.1 J.res).1
      go_wp2_with fail
      go_region_held3 (fun w' => w'.cell? ⟨w3.heap.size, 0, none⟩ = some (.int .i64 u) ∧ w'.cell? ⟨w3.heap.size, 1, none⟩ = some (.int .i64 t)) (first | (refine ⟨?_, ?_⟩ <;> with_reducible assumption) | (refine ⟨keepR ?_ ?_, keepR ?_ ?_⟩ <;> with_reducible assumption))
        (first
          | (go_at_call 40; have _tk := tok; refine (pick_any g n' c _ A _ _ J.rd (by omega) (by omega) (by omega)).mono ?_; rintro e wz ⟨zA, rfl, za, zb, rz, gz⟩; have J := J.pick hRg hGg hgl rz gz; obtain ⟨p0, p1⟩ := cells_of_row J.row; obtain ⟨k0, k1⟩ := cells_of_row J.res; have kf0 := frozen_of_row _ _ 0 _ _ J.res; have kf1 := frozen_of_row _ _ 1 _ _ J.res; have ks := (Array.getElem?_eq_some_iff.1 J.res).1; clear rz gz; clear tok _tk)
          | (go_at_call 40; refine (pick_any g n' c _ A _ _ J.rd (by omega) (by omega) (by omega)).mono ?_; rintro e wz ⟨zB, rfl, za, zb, rz, gz⟩; have J := J.pick hRg hGg hgl rz gz; obtain ⟨p0, p1⟩ := cells_of_row J.row; obtain ⟨k0, k1⟩ := cells_of_row J.res; have kf0 := frozen_of_row _ _ 0 _ _ J.res; have kf1 := frozen_of_row _ _ 1 _ _ J.res; have ks := (Array.getElem?_eq_some_iff.1 J.res).1; clear rz gz))
      go_wp2
      refine bodyPost_ret (v := .tuple #[.slice (some ⟨b, off, none⟩) ps.length cp, .agg #[.int .i64 u, .int .i64 t], .int .i64 (IntKind.i64.wrap (zA + IntKind.i64.wrap (IntKind.i64.wrap (zB.tdiv 19) * 2)))]) (by simp [results, Try.results10, go_sem, k0, k1]) rfl ⟨_, ps, _, _, _, rfl, ?_, ?_, ?_, way_rng (by omega) (by omega) (by omega) (by omega), ?_⟩
      · exact (((J.own.setFar6 (a := ⟨w.heap.size, 0, none⟩) (J.own.notat (by simp only []; omega)) _).setFar6 (a := ⟨w.heap.size, 1, none⟩) (J.own.notat (by simp only []; omega)) _)).base (by omega)
      · first | exact hl | simp
      · first | exact hxy | exact ⟨by omega, by omega, by omega, by omega⟩
      · exact below_set2 (bwg.out _ J.grown) (Nat.le_refl _)
end Go.Proofs.Ytfofmfkdkihhbad
