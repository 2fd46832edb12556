/- Texts of one kind, merged: Spots, Draws1, Open. No conditions but those that stand in each theorem. -/
import Derived.Test.YtpdnakiilhohdaaDoorMem
import Derived.Test.YtpdnakiilhohdaaDoorPicWalk
import Derived.Test.YtpdnakiilhohdaaDoorPut
import Derived.ProofKit
import Derived.Deep.SlicePairs
import Derived.Lib.SmallJoins
namespace Go.Proofs.YtpdnakiilhohdaaDoor
/-! ### Spots -/
section
/-! ### Draw -/
section
open Go.RowKit Go.Sort

/-- bytes behind a slice value -/
def Bytes (w : World) (B : Nat) (A : Option Addr) (n : Nat) : Prop := 0 < n → ∃ b off, A = some ⟨b, off, none⟩ ∧ b < B ∧ ∀ k, k < n → ∃ z : Int, 0 ≤ z ∧ z ≤ 255 ∧ w.cell? ⟨b, off + k, none⟩ = some (.int .u8 z)
/-- a reader in block g: its slice of at most 2000 bytes, and its place -/
structure Rd (w : World) (g : Nat) (A : Option Addr) (n c p : Nat) : Prop where
  blk : w.heap[g]? = some (.cells #[.slice A n c, .int .i64 p] 86 (0, 0))
  bytes : Bytes w g A n
  len : n ≤ 2000 ∧ n ≤ c

theorem Bytes.below {w w' : World} {B : Nat} {A : Option Addr} {n : Nat} (h : Bytes w B A n) (hb : Below B w w') : Bytes w' B A n := fun hn => by
  obtain ⟨b, off, h1, h2, h3⟩ := h hn
  exact ⟨b, off, h1, h2, fun k hk => by obtain ⟨z, a1, a2, a3⟩ := h3 k hk; exact ⟨z, a1, a2, (hb.cell h2).trans a3⟩⟩
theorem Bytes.more {w : World} {B B' : Nat} {A : Option Addr} {n : Nat} (h : Bytes w B A n) (hB : B ≤ B') : Bytes w B' A n := fun hn => by
  obtain ⟨b, off, h1, h2, h3⟩ := h hn
  exact ⟨b, off, h1, by omega, h3⟩
theorem Bytes.less {w : World} {B : Nat} {A : Option Addr} {n m : Nat} (h : Bytes w B A n) (hm : m ≤ n) : Bytes w B A m := fun h0 => by
  obtain ⟨b, off, h1, h2, h3⟩ := h (by omega)
  exact ⟨b, off, h1, h2, fun k hk => h3 k (by omega)⟩
theorem Rd.lt {w : World} {g n c p : Nat} {A : Option Addr} (h : Rd w g A n c p) : g < w.heap.size := (Array.getElem?_eq_some_iff.1 h.blk).1
theorem Rd.below {w w' : World} {g n c p : Nat} {A : Option Addr} (h : Rd w g A n c p) (hb : Below w.heap.size w w') : Rd w' g A n c p :=
  ⟨(hb.block g h.lt).trans h.blk, h.bytes.below (hb.mono (Nat.le_of_lt h.lt)), h.len⟩
theorem Rd.c0 {w : World} {g n c p : Nat} {A : Option Addr} (h : Rd w g A n c p) : w.cell? ⟨g, 0, none⟩ = some (.slice A n c) := by rw [cell_of_row w g 0 _ _ _ h.blk]; rfl
theorem Rd.c1 {w : World} {g n c p : Nat} {A : Option Addr} (h : Rd w g A n c p) : w.cell? ⟨g, 1, none⟩ = some (.int .i64 p) := by rw [cell_of_row w g 1 _ _ _ h.blk]; rfl
theorem Rd.free {w : World} {g n c p : Nat} {A : Option Addr} (h : Rd w g A n c p) (j : Nat) : w.frozen? ⟨g, j, none⟩ = false := frozen_of_row w g j _ _ h.blk
theorem Rd.step {w : World} {g n c p : Nat} {A : Option Addr} (h : Rd w g A n c p) (q : Nat) : Rd (w.setCell ⟨g, 1, none⟩ (.int .i64 q)) g A n c q := by
  refine ⟨heap_setCell_same w g 1 _ _ _ h.blk, h.bytes.below ?_, h.len⟩
  exact (Below.refl g w).setCell (p := ⟨g, 1, none⟩) (Nat.le_refl g) _
theorem Rd.drew {w : World} {g n c p : Nat} {A : Option Addr} (h : Rd w g A n c p) (k : Nat) : Rd (w.drewN k) g A n c p := ⟨h.blk, h.bytes, h.len⟩

theorem grown_set (w : World) (g j : Nat) (u : Value) : w.grownBy (w.setCell ⟨g, j, none⟩ u) (some g) :=
  ⟨rfl, rfl, rfl, by simp [World.setCell], fun k _ hne => Below.heap_setCell w ⟨g, j, none⟩ u k (fun e => hne (by rw [e]))⟩
theorem grown_drewN {w w' : World} {row : Option Nat} (h : w.grownBy w' row) (k : Nat) : w.grownBy (w'.drewN k) row := ⟨h.os, h.tape, h.output, h.size, h.block⟩

theorem grown_below {w w1 w2 : World} {g : Nat} (h : w.grownBy w1 (some g)) (hb : Below w1.heap.size w1 w2) : w.grownBy w2 (some g) :=
  ⟨hb.os.trans h.os, hb.tape.trans h.tape, hb.output.trans h.output, Nat.le_trans h.size hb.size, fun k hk hne => (hb.block k (Nat.lt_of_lt_of_le hk h.size)).trans (h.block k hk hne)⟩
theorem xor_nn (a b : Nat) (ha : a < 9223372036854775808) (hb : b < 9223372036854775808) : 0 ≤ bits .xor .i64 (a : Int) (b : Int) := by
  have hx : a ^^^ b < 2 ^ 63 := Nat.xor_lt_two_pow (by omega) (by omega)
  have h1 : (BitVec.ofInt 64 (a : Int)).toNat = a := by
    rw [BitVec.ofInt_natCast, BitVec.toNat_ofNat]; exact Nat.mod_eq_of_lt (by omega)
  have h2 : (BitVec.ofInt 64 (b : Int)).toNat = b := by
    rw [BitVec.ofInt_natCast, BitVec.toNat_ofNat]; exact Nat.mod_eq_of_lt (by omega)
  show 0 ≤ IntKind.i64.wrap ((BitVec.ofInt 64 (a : Int) ^^^ BitVec.ofInt 64 (b : Int)).toNat : Int)
  rw [BitVec.toNat_xor, h1, h2]
  simp [IntKind.wrap, IntKind.bits, IntKind.signed]
  omega

theorem xor_small (X : Int) (h0 : 0 ≤ X) (h1 : X < 9223372036854775808) : 0 ≤ bits .xor .i64 X (X / 64) := by
  obtain ⟨a, rfl⟩ := Int.eq_ofNat_of_zero_le h0
  have e : ((a : Int) / 64) = ((a / 64 : Nat) : Int) := by simp
  rw [e]
  exact xor_nn a (a / 64) (by omega) (by omega)

set_option maxHeartbeats 800000 in
theorem pick_any (g n c p : Nat) (A : Option Addr) (N : Int) (w : World) (hr : Rd w g A n c p) (h1 : 1 ≤ N) (h2 : N ≤ 100000) (hp : p ≤ 100000) :
    Calls Tryd.prog 42 #[.pointer (some ⟨g, 0, none⟩), .int .i64 N] w fun e w' => ∃ z : Int, e = .returned (.int .i64 z) ∧ 0 ≤ z ∧ z < N ∧ Rd w' g A n c (p + 1) ∧ w.grownBy w' (some g) := by
  by_cases h0 : n ≤ 0
  · obtain rfl : n = 0 := by omega
    have hc0 := hr.c0
    have hc1 := hr.c1
    have hf := hr.free 1
    obtain ⟨hn1, hn2⟩ := hr.len
    have hr' := hr.step (p + 1)
    go_enter Tryd.func42, Tryd.ntmps42
    go_wp2
    go_ret
    exact ⟨0, rfl, by omega, by omega, hr', grown_set _ _ _ _⟩
  · by_cases hpn : p < n
    · obtain ⟨b, off, rfl, hb, hby⟩ := hr.bytes (by omega)
      obtain ⟨z, z0, z1, hz⟩ := hby p hpn
      have hc0 := hr.c0
      have hc1 := hr.c1
      have hf := hr.free 1
      obtain ⟨hn1, hn2⟩ := hr.len
      have hr' := hr.step (p + 1)
      go_enter Tryd.func42, Tryd.ntmps42
      go_wp2
      go_ret
      exact ⟨z % N, rfl, Int.emod_nonneg _ (by omega), Int.emod_lt_of_pos _ (by omega), hr', grown_set _ _ _ _⟩
    · obtain ⟨b, off, rfl, hb, hby⟩ := hr.bytes (by omega)
      obtain ⟨z, z0, z1, hz⟩ := hby (p % n) (Nat.mod_lt _ (by omega))
      obtain ⟨q, hq⟩ : ∃ q : Nat, (p : Int) * 7 + 3 = (q : Int) := ⟨p * 7 + 3, by omega⟩
      obtain ⟨y, y0, y1, hy⟩ := hby (q % n) (Nat.mod_lt _ (by omega))
      have hc0 := hr.c0
      have hc1 := hr.c1
      have hf := hr.free 1
      obtain ⟨hn1, hn2⟩ := hr.len
      have hr' : Rd (w.setCell ⟨g, 1, none⟩ (.int .i64 ((p : Int) + 1))) g (some ⟨b, off, none⟩) n c (p + 1) := hr.step (p + 1)
      have hbW : Below g w (w.setCell ⟨g, 1, none⟩ (.int .i64 ((p : Int) + 1))) := (Below.refl g w).setCell (p := ⟨g, 1, none⟩) (Nat.le_refl g) _
      have hgr := grown_set w g 1 (.int .i64 ((p : Int) + 1))
      have k0 := cell_regrown hr'.c0
      have k1 := cell_regrown ((hbW.cell (p := ⟨b, off + p % n, none⟩) hb).trans hz)
      have k2 := cell_regrown ((hbW.cell (p := ⟨b, off + q % n, none⟩) hb).trans hy)
      have hm1 := Nat.mod_lt p (show n > 0 by omega)
      have hm2 := Nat.mod_lt q (show n > 0 by omega)
      obtain ⟨t, ht0, ht⟩ : ∃ t : Nat, t ≤ p ∧ (p : Int) / (n : Int) = (t : Int) := ⟨p / n, Nat.div_le_self _ _, by simp⟩
      go_enter Tryd.func42, Tryd.ntmps42
      go_wp2
      refine wp_region_quiet_below (by kernel_rfl) (by kernel_rfl) ?_
      repeat (go_big_quiet_step (fail))
      refine wpQuiet_nil ?_
      intro wN hw'
      obtain ⟨⟨dq, osq⟩, hw''⟩ := hw'
      have hN : Below (w.setCell ⟨g, 1, none⟩ (.int .i64 ((p : Int) + 1))).heap.size (w.setCell ⟨g, 1, none⟩ (.int .i64 ((p : Int) + 1))) wN := by rw [hw'']; exact below_regrown _ _ _
      have hr2 := hr'.below hN
      have hg2 := grown_below hgr hN
      clear hw'' dq osq hN hbW
      go_wp2
      go_ret
      refine ⟨_, rfl, ?_, ?_, hr2, hg2⟩
      · exact Int.tmod_nonneg _ (xor_small _ (by omega) (by omega))
      · exact Int.tmod_lt_of_pos _ (by omega)

theorem grown_trans {w w1 w2 : World} {g : Nat} (h : w.grownBy w1 (some g)) (k : w1.grownBy w2 (some g)) : w.grownBy w2 (some g) :=
  ⟨k.os.trans h.os, k.tape.trans h.tape, k.output.trans h.output, Nat.le_trans h.size k.size, fun i hi hne => (k.block i (Nat.lt_of_lt_of_le hi h.size) hne).trans (h.block i hi hne)⟩

theorem odd_any (g n c p : Nat) (A : Option Addr) (N : Int) (w : World) (hr : Rd w g A n c p) (h1 : 0 ≤ N) (h2 : N ≤ 1000) (hp : p ≤ 100000) :
    Calls Tryd.prog 47 #[.pointer (some ⟨g, 0, none⟩), .int .i64 N] w fun e w' => ∃ (z : Bool) (q : Nat), e = .returned (.bool z) ∧ q ≤ p + 1 ∧ Rd w' g A n c q ∧ w.grownBy w' (some g) := by
  by_cases h0 : N = 0
  · subst h0
    go_enter Tryd.func47, Tryd.ntmps47
    go_wp2
    go_ret
    exact ⟨_, p, rfl, by omega, hr, ⟨rfl, rfl, rfl, Nat.le_refl _, fun _ _ _ => rfl⟩⟩
  have h1' : 1 ≤ N := by omega
  clear h1 h0
  go_enter Tryd.func47, Tryd.ntmps47
  go_wp2_with fail
  refine (pick_any g n c p A N _ hr h1' (by omega) hp).mono ?_
  rintro e w1 ⟨z, rfl, _, _, hr1, hg1⟩
  go_wp2
  all_goals
    go_ret
    exact ⟨_, p + 1, rfl, Nat.le_refl _, hr1, hg1⟩

/-- what a law knows of its code: bytes -/
theorem open_any (A : Option Addr) (n c : Nat) (w : World) (hb : Bytes w w.heap.size A n) (hn : n ≤ c) (hc : c ≤ 9223372036854775807) :
    Calls Tryd.prog 30 #[.slice A n c] w fun e w' => ∃ n', e = .returned (.pointer (some ⟨w.heap.size, 0, none⟩)) ∧ Rd w' w.heap.size A n' c 0 ∧ Below w.heap.size w w' := by
  by_cases h : 2000 < n
  · go_enter Tryd.func30, Tryd.ntmps30
    go_wp2
    go_ret
    exact ⟨2000, rfl, ⟨heap_alloc_new w _, (hb.less (by omega)).below ((Below.refl _ _).alloc (Nat.le_refl _) _), by omega, by omega⟩, (Below.refl _ _).alloc (Nat.le_refl _) _⟩
  · go_enter Tryd.func30, Tryd.ntmps30
    go_wp2
    go_ret
    exact ⟨n, rfl, ⟨heap_alloc_new w _, hb.below ((Below.refl _ _).alloc (Nat.le_refl _) _), by omega, hn⟩, (Below.refl _ _).alloc (Nat.le_refl _) _⟩
end
/-! ### Spots -/
section
open Go.RowKit Go.Sort

def Small (ps : List Sp) : Prop := ∀ a ∈ ps, -40 ≤ a.1 ∧ a.1 ≤ 40 ∧ -40 ≤ a.2 ∧ a.2 ≤ 40
theorem small_nil : Small [] := fun a h => by cases h
theorem small_append {p q : List Sp} (h : Small p) (k : Small q) : Small (p ++ q) := fun a ha => (List.mem_append.1 ha).elim (h a) (k a)
theorem small_one {x y : Int} (h1 : -40 ≤ x) (h2 : x ≤ 40) (h3 : -40 ≤ y) (h4 : y ≤ 40) : Small [(x, y)] := fun a ha => by
  rw [List.mem_singleton] at ha; subst ha; exact ⟨h1, h2, h3, h4⟩
theorem small_put {p : List Sp} {x y : Int} (h : Small p) (k : Small [(x, y)]) : Small (put p (x, y)) := fun a ha => (mem_put.1 ha).elim (fun e => e ▸ k _ (List.mem_singleton.2 rfl)) (h a)

/-- the state between two statements: the list so far, the reader, and that old memory is as it was but for the reader -/
structure Inv (w wr : World) (g n c : Nat) (A : Option Addr) (v : Value) (ps : List Sp) (p : Nat) : Prop where
  own : Owns wr w.heap.size v ps
  rd : Rd wr g A n c p
  grown : w.grownBy wr (some g)
  small : Small ps

section
variable {w wr w' : World} {g n c p : Nat} {A : Option Addr} {v : Value} {ps : List Sp}
theorem Rd.app {row : Option Nat} (h : Rd wr g A n c p) (hg : wr.grownBy w' row) (hr : ∀ k, row = some k → g < k) : Rd w' g A n c p :=
  ⟨(hg.block g h.lt (fun e => by have := hr g e.symm; omega)).trans h.blk, h.bytes.below ⟨hg.os, hg.tape, hg.output, hg.size, fun k hk => hg.block k (by have := h.lt; omega) (fun e => by have := hr k e.symm; omega)⟩, h.len⟩
theorem grown_app {row : Option Nat} (h : w.grownBy wr (some g)) (hg : wr.grownBy w' row) (hr : ∀ k, row = some k → w.heap.size ≤ k) : w.grownBy w' (some g) :=
  ⟨hg.os.trans h.os, hg.tape.trans h.tape, hg.output.trans h.output, Nat.le_trans h.size hg.size, fun k hk hne => (hg.block k (Nat.lt_of_lt_of_le hk h.size) (fun e => by have := hr k e.symm; omega)).trans (h.block k hk hne)⟩
theorem Inv.pick (I : Inv w wr g n c A v ps p) (hg : g < w.heap.size) {q : Nat} (hr : Rd w' g A n c q) (h : wr.grownBy w' (some g)) : Inv w w' g n c A v ps q :=
  ⟨I.own.grown h (by cases hv : v.ownBlock with | none => exact .inl rfl | some k => exact .inr (fun e => by have := (I.own.lt k hv).1; cases e; omega)), hr, grown_trans I.grown h, I.small⟩
theorem Inv.below (I : Inv w wr g n c A v ps p) (hb : Below wr.heap.size wr w') : Inv w w' g n c A v ps p :=
  ⟨I.own.below hb, I.rd.below hb, grown_below I.grown hb, I.small⟩
theorem Inv.put (I : Inv w wr g n c A v ps p) (hb : Below wr.heap.size wr w') {v' : Value} {qs : List Sp} (ho : Owns w' w.heap.size v' qs) (hs : Small qs) : Inv w w' g n c A v' qs p :=
  ⟨ho, I.rd.below hb, grown_below I.grown hb, hs⟩
theorem Inv.app (I : Inv w wr g n c A v ps p) (hg : g < w.heap.size) {v' : Value} {qs : List Sp} (ho : Owns w' w.heap.size v' qs) (h : wr.grownBy w' v.ownBlock) (hs : Small qs) : Inv w w' g n c A v' qs p :=
  ⟨ho, I.rd.app h (fun k hk => by have := (I.own.lt k hk).1; omega), grown_app I.grown h (fun k hk => (I.own.lt k hk).1), hs⟩
theorem Inv.lit (I : Inv w wr g n c A v ps p) (qs : List Sp) (cs : Array Value) (hcs : cs.toList = flat qs) (hl : qs.length ≤ 1000) (hs : Small qs) : Inv w (wr.alloc (.cells cs 58)) g n c A (.slice (some ⟨wr.heap.size, 0, none⟩) qs.length qs.length) qs p :=
  ⟨by
    have h := World.ownsRow_lit (base := w.heap.size) (e := 58) (size := 2) wr cs qs.length I.grown.size (by simp only [maxLen]; omega) (by rw [← flat_length, ← hcs, Array.length_toList])
    rw [hcs] at h
    exact h, I.rd.below ((Below.refl _ _).alloc (Nat.le_refl _) _), grown_below I.grown ((Below.refl _ _).alloc (Nat.le_refl _) _), hs⟩
theorem Inv.alloc (I : Inv w wr g n c A v ps p) (o : Obj) : Inv w (wr.alloc o) g n c A v ps p := I.below ((Below.refl _ _).alloc (Nat.le_refl _) o)
end

set_option maxHeartbeats 3200000 in
theorem spots_any (g n c p : Nat) (A : Option Addr) (most N : Int) (w : World) (hr : Rd w g A n c p) (hm0 : 1 ≤ most) (hm1 : most ≤ 20) (h1 : 0 ≤ N) (h2 : N ≤ 1000) (hp : p ≤ 90000) :
    Calls Tryd.prog 32 #[.pointer (some ⟨g, 0, none⟩), .int .i64 most, .int .i64 N] w fun e w' => ∃ v ps q, e = .returned v ∧ Inv w w' g n c A v ps q ∧ ps.length ≤ most.toNat + 1 ∧ q ≤ p + 50 := by
  have hg := hr.lt
  have I0 : Inv w (w.alloc (.cells #[] 58)) g n c A (.slice (some ⟨w.heap.size, 0, none⟩) 0 0) [] p := ⟨Owns.empty w w.heap.size (Nat.le_refl _), hr.below ((Below.refl _ _).alloc (Nat.le_refl _) _), World.grownBy_alloc _ _ _, small_nil⟩
  go_enter Tryd.func32, Tryd.ntmps32
  go_wp2_with fail
  refine (pick_any g n c p A 4 _ I0.rd (by omega) (by omega) (by omega)).mono ?_
  rintro e w1 ⟨z1, rfl, z1a, z1b, r1, g1⟩
  have I1 := I0.pick hg r1 g1
  clear I0 r1 g1 hr
  go_wp2_with fail
  refine (pick_any g n c (p + 1) A 3 _ I1.rd (by omega) (by omega) (by omega)).mono ?_
  rintro e w2 ⟨z2, rfl, z2a, z2b, r2, g2⟩
  have I2 := I1.pick hg r2 g2
  clear I1 r2 g2
  by_cases hz : z2 = 0
  · subst hz
    go_wp2_with fail
    refine (pick_any g n c (p + 2) A 3 _ I2.rd (by omega) (by omega) (by omega)).mono ?_
    rintro e w3 ⟨z3, rfl, z3a, z3b, r3, g3⟩
    have I3 := I2.pick hg r3 g3
    clear I2 r3 g3
    go_wp2_with fail
    refine (pick_any g n c (p + 3) A 3 _ I3.rd (by omega) (by omega) (by omega)).mono ?_
    rintro e w4 ⟨z4, rfl, z4a, z4b, r4, g4⟩
    have I4 := I3.pick hg r4 g4
    clear I3 r4 g4
    go_wp2_with fail
    go_loopw [7, 11] (fun v y wr => ∃ (k : Nat) (ps : List Sp), y = .int .i64 k ∧ k ≤ 3 ∧ Inv w wr g n c A v ps (p + 4) ∧ ps.length ≤ most.toNat) (fun _ y _ => (1 + z4).toNat - (intOf y).toNat)
    case atStart => exact ⟨0, _, rfl, by omega, I4, by simp⟩
    case round =>
      obtain ⟨k, ps, rfl, hk, I, hl⟩ := hrel
      by_cases hkz : (k : Int) < 1 + z4
      · go_wp2_with fail
        go_loopw [7, 12] (fun v x wr => ∃ (j : Nat) (ps : List Sp), x = .int .i64 j ∧ j ≤ 3 ∧ Inv w wr g n c A v ps (p + 4) ∧ ps.length ≤ most.toNat) (fun _ x _ => (1 + z3).toNat - (intOf x).toNat)
        case atStart => exact ⟨0, ps, rfl, by omega, I, hl⟩
        case round =>
          rename_i wo _ _ _ _ _ _ _ _ _ _
          clear I hl
          obtain ⟨j, qs, rfl, hj, I, hl⟩ := hrel
          obtain ⟨A', c', rfl, hc', hm'⟩ := I.own.reads.slice
          unfold maxLen at hm'
          by_cases hjz : (j : Int) < 1 + z3
          · by_cases hlm : (qs.length : Int) < most
            · have I' := I.alloc (.cells #[.int .i64 j, .int .i64 k] 58)
              have hwz := I.grown.size
              go_wp2_with (at_builtin; go_loud (refine wpList_append_spots (qs := [((j : Int), (k : Int))]) I'.own (Reads.one (by simp [go_sem]) (by simp [go_sem])) (by simp; omega) (by simp; omega) rfl _ _ rfl rfl rfl ?_))
              intro v2 w5 o5 g5 _
              have I5 := I'.app hg o5 g5 (small_append I.small (small_one (by omega) (by omega) (by omega) (by omega)))
              clear I I' o5 g5
              go_wp2
              go_roundw
              case rel => exact ⟨j + 1, _, by go_num, by omega, I5, by simp; omega⟩
              case measure => simp [intOf]; omega
            · go_wp2
              go_roundw
              case rel => exact ⟨j + 1, _, by go_num, by omega, I, by omega⟩
              case measure => simp [intOf]; omega
          · go_wp2
            go_roundw
            case rel => exact ⟨k + 1, _, by go_num, by omega, I, by omega⟩
            case measure => simp [intOf]; omega
      · go_wp2_with fail
        refine (pick_any g n c (p + 4) A (most + 1) _ I.rd (by omega) (by omega) (by omega)).mono ?_
        rintro e w5 ⟨z5, rfl, z5a, z5b, r5, g5⟩
        have I5 := I.pick hg r5 g5
        clear I r5 g5
        obtain ⟨m5, rfl⟩ := Int.eq_ofNat_of_zero_le z5a
        go_wp2_with fail
        go_loopw [7, 13] (fun v k wr => ∃ (j : Nat) (qs : List Sp) (q : Nat), k = .int .i64 j ∧ j ≤ 20 ∧ Inv w wr g n c A v qs q ∧ qs.length ≤ most.toNat ∧ q + 2 * j ≤ p + 46) (fun _ k _ => (intOf k).toNat)
        case atStart => exact ⟨m5, ps, _, rfl, by omega, I5, hl, by omega⟩
        case round =>
          clear I5
          obtain ⟨j, qs, q, rfl, hj, J, hlq, hq⟩ := hrel
          obtain ⟨A', c', rfl, hc', hm'⟩ := J.own.reads.slice
          unfold maxLen at hm'
          have hwz := J.grown.size
          by_cases hj0 : 0 < j
          · have hd : decide (0 < j) = true := decide_eq_true hj0
            by_cases hlm : (qs.length : Int) < most
            · have hdl : decide ((qs.length : Int) < most) = true := decide_eq_true hlm
              go_wp2_with fail
              refine (pick_any g n c q A (2 + z1) _ J.rd (by omega) (by omega) (by omega)).mono ?_
              rintro e w6 ⟨z6, rfl, z6a, z6b, r6, g6⟩
              have J6 := J.pick hg r6 g6
              clear J r6 g6
              go_wp2_with fail
              refine (pick_any g n c (q + 1) A (2 + z1) _ J6.rd (by omega) (by omega) (by omega)).mono ?_
              rintro e w7 ⟨z7, rfl, z7a, z7b, r7, g7⟩
              have J7 := J6.pick hg r7 g7
              clear J6 r7 g7
              have hwz7 := J7.grown.size
              go_wp2_with fail
              refine (l1Put_any qs _ (z6 - 1) (z7 - 1) w.heap.size _ J7.own (by omega) (by omega)).mono ?_
              rintro e w8 ⟨v8, rfl, o8, b8⟩
              have J8 := J7.put b8 o8 (small_put J7.small (small_one (by omega) (by omega) (by omega) (by omega)))
              have hl8 := length_put_le qs (z6 - 1, z7 - 1)
              clear J7 o8 b8
              go_wp2
              go_roundw
              case rel => exact ⟨j - 1, _, _, by go_num, by omega, J8, by omega, by omega⟩
              case measure => simp [intOf]; omega
            · have hdl : decide ((qs.length : Int) < most) = false := decide_eq_false hlm
              go_wp2_with fail
              refine (odd_any g n c q A N _ J.rd (by omega) (by omega) (by omega)).mono ?_
              rintro e w9 ⟨zo, q9, rfl, hq9, r9, g9⟩
              have J9 := J.pick hg r9 g9
              clear J r9 g9
              cases zo with
              | false =>
                go_wp2
                go_ret
                exact ⟨_, qs, _, rfl, J9, by omega, by omega⟩
              | true =>
                go_wp2_with fail
                refine (pick_any g n c q9 A 3 _ J9.rd (by omega) (by omega) (by omega)).mono ?_
                rintro e w10 ⟨z10, rfl, z10a, z10b, r10, g10⟩
                have J10 := J9.pick hg r10 g10
                clear J9 r10 g10
                have hwz10 := J10.grown.size
                by_cases h0 : z10 = 0
                · subst h0
                  go_wp2
                  go_ret
                  exact ⟨_, [(31, 0)], _, rfl, J10.lit [(31, 0)] _ rfl (by simp) (small_one (by omega) (by omega) (by omega) (by omega)), by show 1 ≤ _; omega, by omega⟩
                · by_cases h01 : z10 = 1
                  · subst h01
                    go_wp2
                    go_ret
                    exact ⟨_, [(1, 0), (0, 0)], _, rfl, J10.lit [(1, 0), (0, 0)] _ rfl (by simp) (small_append (small_one (by omega) (by omega) (by omega) (by omega)) (small_one (by omega) (by omega) (by omega) (by omega))), by show 2 ≤ _; omega, by omega⟩
                  · have h0b : (z10 == 0) = false := beq_eq_false_iff_ne.2 h0
                    have h1b : (z10 == 1) = false := beq_eq_false_iff_ne.2 h01
                    have J11 := J10.alloc (.cells #[.int .i64 0, .int .i64 (-3)] 58)
                    go_wp2_with (at_builtin; go_loud (refine wpList_append_spots (qs := [((0 : Int), (-3 : Int))]) J11.own (Reads.one (g := w10.heap.size) (by simp [go_sem]) (by simp [go_sem])) (by simp; omega) (by simp; omega) rfl _ _ rfl rfl rfl ?_))
                    intro v12 w12 o12 g12 _
                    have J12 := J11.app hg o12 g12 (small_append J11.small (small_one (by omega) (by omega) (by omega) (by omega)))
                    go_wp2
                    go_ret
                    exact ⟨_, _, _, rfl, J12, by simp; omega, by omega⟩
          · have hd : decide (0 < j) = false := decide_eq_false hj0
            go_wp2_with fail
            refine (odd_any g n c q A N _ J.rd (by omega) (by omega) (by omega)).mono ?_
            rintro e w9 ⟨zo, q9, rfl, hq9, r9, g9⟩
            have J9 := J.pick hg r9 g9
            clear J r9 g9
            cases zo with
            | false =>
              go_wp2
              go_ret
              exact ⟨_, qs, _, rfl, J9, by omega, by omega⟩
            | true =>
              go_wp2_with fail
              refine (pick_any g n c q9 A 3 _ J9.rd (by omega) (by omega) (by omega)).mono ?_
              rintro e w10 ⟨z10, rfl, z10a, z10b, r10, g10⟩
              have J10 := J9.pick hg r10 g10
              clear J9 r10 g10
              have hwz10 := J10.grown.size
              by_cases h0 : z10 = 0
              · subst h0
                go_wp2
                go_ret
                exact ⟨_, [(31, 0)], _, rfl, J10.lit [(31, 0)] _ rfl (by simp) (small_one (by omega) (by omega) (by omega) (by omega)), by show 1 ≤ _; omega, by omega⟩
              · by_cases h01 : z10 = 1
                · subst h01
                  go_wp2
                  go_ret
                  exact ⟨_, [(1, 0), (0, 0)], _, rfl, J10.lit [(1, 0), (0, 0)] _ rfl (by simp) (small_append (small_one (by omega) (by omega) (by omega) (by omega)) (small_one (by omega) (by omega) (by omega) (by omega))), by show 2 ≤ _; omega, by omega⟩
                · have h0b : (z10 == 0) = false := beq_eq_false_iff_ne.2 h0
                  have h1b : (z10 == 1) = false := beq_eq_false_iff_ne.2 h01
                  have J11 := J10.alloc (.cells #[.int .i64 0, .int .i64 (-3)] 58)
                  go_wp2_with (at_builtin; go_loud (refine wpList_append_spots (qs := [((0 : Int), (-3 : Int))]) J11.own (Reads.one (g := w10.heap.size) (by simp [go_sem]) (by simp [go_sem])) (by simp; omega) (by simp; omega) rfl _ _ rfl rfl rfl ?_))
                  intro v12 w12 o12 g12 _
                  have J12 := J11.app hg o12 g12 (small_append J11.small (small_one (by omega) (by omega) (by omega) (by omega)))
                  go_wp2
                  go_ret
                  exact ⟨_, _, _, rfl, J12, by simp; omega, by omega⟩
  · go_wp2_with fail
    refine (pick_any g n c (p + 2) A (most + 1) _ I2.rd (by omega) (by omega) (by omega)).mono ?_
    rintro e w5 ⟨z5, rfl, z5a, z5b, r5, g5⟩
    have I5 := I2.pick hg r5 g5
    clear I2 r5 g5
    obtain ⟨m5, rfl⟩ := Int.eq_ofNat_of_zero_le z5a
    go_wp2_with fail
    go_loopw [7, 13] (fun v k wr => ∃ (j : Nat) (qs : List Sp) (q : Nat), k = .int .i64 j ∧ j ≤ 20 ∧ Inv w wr g n c A v qs q ∧ qs.length ≤ most.toNat ∧ q + 2 * j ≤ p + 46) (fun _ k _ => (intOf k).toNat)
    case atStart => exact ⟨m5, [], _, rfl, by omega, I5, (by simp), by omega⟩
    case round =>
      clear I5
      obtain ⟨j, qs, q, rfl, hj, J, hlq, hq⟩ := hrel
      obtain ⟨A', c', rfl, hc', hm'⟩ := J.own.reads.slice
      unfold maxLen at hm'
      have hwz := J.grown.size
      by_cases hj0 : 0 < j
      · have hd : decide (0 < j) = true := decide_eq_true hj0
        by_cases hlm : (qs.length : Int) < most
        · have hdl : decide ((qs.length : Int) < most) = true := decide_eq_true hlm
          go_wp2_with fail
          refine (pick_any g n c q A (2 + z1) _ J.rd (by omega) (by omega) (by omega)).mono ?_
          rintro e w6 ⟨z6, rfl, z6a, z6b, r6, g6⟩
          have J6 := J.pick hg r6 g6
          clear J r6 g6
          go_wp2_with fail
          refine (pick_any g n c (q + 1) A (2 + z1) _ J6.rd (by omega) (by omega) (by omega)).mono ?_
          rintro e w7 ⟨z7, rfl, z7a, z7b, r7, g7⟩
          have J7 := J6.pick hg r7 g7
          clear J6 r7 g7
          have hwz7 := J7.grown.size
          go_wp2_with fail
          refine (l1Put_any qs _ (z6 - 1) (z7 - 1) w.heap.size _ J7.own (by omega) (by omega)).mono ?_
          rintro e w8 ⟨v8, rfl, o8, b8⟩
          have J8 := J7.put b8 o8 (small_put J7.small (small_one (by omega) (by omega) (by omega) (by omega)))
          have hl8 := length_put_le qs (z6 - 1, z7 - 1)
          clear J7 o8 b8
          go_wp2
          go_roundw
          case rel => exact ⟨j - 1, _, _, by go_num, by omega, J8, by omega, by omega⟩
          case measure => simp [intOf]; omega
        · have hdl : decide ((qs.length : Int) < most) = false := decide_eq_false hlm
          go_wp2_with fail
          refine (odd_any g n c q A N _ J.rd (by omega) (by omega) (by omega)).mono ?_
          rintro e w9 ⟨zo, q9, rfl, hq9, r9, g9⟩
          have J9 := J.pick hg r9 g9
          clear J r9 g9
          cases zo with
          | false =>
            go_wp2
            go_ret
            exact ⟨_, qs, _, rfl, J9, by omega, by omega⟩
          | true =>
            go_wp2_with fail
            refine (pick_any g n c q9 A 3 _ J9.rd (by omega) (by omega) (by omega)).mono ?_
            rintro e w10 ⟨z10, rfl, z10a, z10b, r10, g10⟩
            have J10 := J9.pick hg r10 g10
            clear J9 r10 g10
            have hwz10 := J10.grown.size
            by_cases h0 : z10 = 0
            · subst h0
              go_wp2
              go_ret
              exact ⟨_, [(31, 0)], _, rfl, J10.lit [(31, 0)] _ rfl (by simp) (small_one (by omega) (by omega) (by omega) (by omega)), by show 1 ≤ _; omega, by omega⟩
            · by_cases h01 : z10 = 1
              · subst h01
                go_wp2
                go_ret
                exact ⟨_, [(1, 0), (0, 0)], _, rfl, J10.lit [(1, 0), (0, 0)] _ rfl (by simp) (small_append (small_one (by omega) (by omega) (by omega) (by omega)) (small_one (by omega) (by omega) (by omega) (by omega))), by show 2 ≤ _; omega, by omega⟩
              · have h0b : (z10 == 0) = false := beq_eq_false_iff_ne.2 h0
                have h1b : (z10 == 1) = false := beq_eq_false_iff_ne.2 h01
                have J11 := J10.alloc (.cells #[.int .i64 0, .int .i64 (-3)] 58)
                go_wp2_with (at_builtin; go_loud (refine wpList_append_spots (qs := [((0 : Int), (-3 : Int))]) J11.own (Reads.one (g := w10.heap.size) (by simp [go_sem]) (by simp [go_sem])) (by simp; omega) (by simp; omega) rfl _ _ rfl rfl rfl ?_))
                intro v12 w12 o12 g12 _
                have J12 := J11.app hg o12 g12 (small_append J11.small (small_one (by omega) (by omega) (by omega) (by omega)))
                go_wp2
                go_ret
                exact ⟨_, _, _, rfl, J12, by simp; omega, by omega⟩
      · have hd : decide (0 < j) = false := decide_eq_false hj0
        go_wp2_with fail
        refine (odd_any g n c q A N _ J.rd (by omega) (by omega) (by omega)).mono ?_
        rintro e w9 ⟨zo, q9, rfl, hq9, r9, g9⟩
        have J9 := J.pick hg r9 g9
        clear J r9 g9
        cases zo with
        | false =>
          go_wp2
          go_ret
          exact ⟨_, qs, _, rfl, J9, by omega, by omega⟩
        | true =>
          go_wp2_with fail
          refine (pick_any g n c q9 A 3 _ J9.rd (by omega) (by omega) (by omega)).mono ?_
          rintro e w10 ⟨z10, rfl, z10a, z10b, r10, g10⟩
          have J10 := J9.pick hg r10 g10
          clear J9 r10 g10
          have hwz10 := J10.grown.size
          by_cases h0 : z10 = 0
          · subst h0
            go_wp2
            go_ret
            exact ⟨_, [(31, 0)], _, rfl, J10.lit [(31, 0)] _ rfl (by simp) (small_one (by omega) (by omega) (by omega) (by omega)), by show 1 ≤ _; omega, by omega⟩
          · by_cases h01 : z10 = 1
            · subst h01
              go_wp2
              go_ret
              exact ⟨_, [(1, 0), (0, 0)], _, rfl, J10.lit [(1, 0), (0, 0)] _ rfl (by simp) (small_append (small_one (by omega) (by omega) (by omega) (by omega)) (small_one (by omega) (by omega) (by omega) (by omega))), by show 2 ≤ _; omega, by omega⟩
            · have h0b : (z10 == 0) = false := beq_eq_false_iff_ne.2 h0
              have h1b : (z10 == 1) = false := beq_eq_false_iff_ne.2 h01
              have J11 := J10.alloc (.cells #[.int .i64 0, .int .i64 (-3)] 58)
              go_wp2_with (at_builtin; go_loud (refine wpList_append_spots (qs := [((0 : Int), (-3 : Int))]) J11.own (Reads.one (g := w10.heap.size) (by simp [go_sem]) (by simp [go_sem])) (by simp; omega) (by simp; omega) rfl _ _ rfl rfl rfl ?_))
              intro v12 w12 o12 g12 _
              have J12 := J11.app hg o12 g12 (small_append J11.small (small_one (by omega) (by omega) (by omega) (by omega)))
              go_wp2
              go_ret
              exact ⟨_, _, _, rfl, J12, by simp; omega, by omega⟩
end
end
/-! ### Draws1 -/
section
open Go.RowKit Go.Sort

/-- one drawn list, in new memory -/
structure Drawn (w w' : World) (v : Value) (ps : List Sp) (m : Nat) : Prop where
  own : Owns w' w.heap.size v ps
  small : Small ps
  len : ps.length ≤ m
  below : Below w.heap.size w w'

theorem Below.of_grown {w w1 w2 : World} {g : Nat} (hb : Below w.heap.size w w1) (h : w1.grownBy w2 (some g)) (hg : w.heap.size ≤ g) : Below w.heap.size w w2 :=
  hb.grown h hb.size fun k hk => by cases hk; exact hg

theorem litB (w : World) (ps : List Sp) (cs : Array Value) (hcs : cs.toList = flat ps) (hl : ps.length ≤ 1000) : Owns (w.alloc (.cells cs 58)) w.heap.size (.slice (some ⟨w.heap.size, 0, none⟩) ps.length ps.length) ps := by
  have h := World.ownsRow_lit (base := w.heap.size) (e := 58) (size := 2) w cs ps.length (Nat.le_refl _) (by simp only [maxLen]; omega) (by rw [← flat_length, ← hcs, Array.length_toList])
  rw [hcs] at h
  exact h

theorem alive_any (w : World) : Calls Tryd.prog 13 #[] w (Gives (.bool true) w) := by
  have l1 := litB w [(0, 0)] #[.int .i64 0, .int .i64 0] rfl (by simp)
  go_enter Tryd.func13, Tryd.ntmps13
  go_wp2_with fail
  refine (gives_is (show picB [(0, 0)] = true by decide) (implPicture_any [(0, 0)] _ _ l1.reads)).mono ?_
  rintro e w1 ⟨rfl, b1⟩
  have l2 := litB w1 [(0, 0), (0, 0)] #[.int .i64 0, .int .i64 0, .int .i64 0, .int .i64 0] rfl (by simp)
  go_wp2_with fail
  refine (gives_is (show picB [(0, 0), (0, 0)] = false by decide) (implPicture_any [(0, 0), (0, 0)] _ _ l2.reads)).mono ?_
  rintro e w2 ⟨rfl, b2⟩
  go_wp2
  go_ret
  exact ⟨rfl, below_step (below_step ((Below.refl _ _).alloc (Nat.le_refl _) _) b1) (below_step ((Below.refl _ _).alloc (Nat.le_refl _) _) b2)⟩

end
/-! ### Open -/
section
open Go.ChangeShapes Go.WideShapes Go.ChangeAt Go.RowKit Go.Deep

theorem own : ownKnob Tryd.prog.godebug = none := by kernel_rfl
theorem laidOut : laidOutB Tryd.prog = true := by kernel_rfl
theorem cellsInt : Tryd.prog.cellsOf 3 = 1 := by kernel_rfl

section
variable {H : Type} {enc : TypeId × Value → H}

theorem cellsU8 : Tryd.prog.cellsOf 5 = 1 := by kernel_rfl

set_option maxRecDepth 100000 in
/-- a slice of bytes that came in -/
theorem open_bytes {W : World} {base : Nat} {v : Value} {d : DataW H} {p : List MemPlace} (hval : Value.okWide Tryd.prog W .any base 22 v)
    (h : DataW.Trod enc Tryd.prog W 0 (fun _ => true) true 22 v d p) (hlt : ∀ x ∈ p, x.block < W.heap.size) : ∃ b : Option Addr × Nat × Nat, v = .slice b.1 b.2.1 b.2.2 ∧ Bytes W W.heap.size b.1 b.2.1 ∧ b.2.1 ≤ b.2.2 ∧ b.2.2 ≤ 9223372036854775807 := by
  obtain ⟨a0, len, cap, rfl⟩ := okWide_slice Tryd.underlying22 hval
  obtain ⟨fuel, hf⟩ := h
  rcases open_ints Tryd.underlying22 Tryd.underlying5 cellsU8 hf with ⟨hcs, _⟩ | ⟨a, len', cap', zs, hcs, _, hl, hm, hz, hx, hcell, hwz⟩
  · simp [Value.cells] at hcs
    obtain ⟨rfl, rfl, rfl⟩ := hcs
    exact ⟨(none, 0, 0), rfl, fun h => (by simp at h), by simp, by simp⟩
  · simp [Value.cells] at hcs
    obtain ⟨rfl, rfl, rfl⟩ := hcs
    simp only [if_true] at hz
    simp only [Prod.mk.injEq] at hx
    obtain ⟨_, rfl⟩ := hx
    unfold maxLen at hm
    refine ⟨(some a, len, cap), rfl, fun h0 => ?_, hl, by simpa using hm⟩
    simp only at h0 ⊢
    obtain ⟨b, off, spot⟩ := a
    have hspot : spot = none := by simpa [Addr.add] using World.cell?_spot (hcell 0 (by omega))
    subst hspot
    refine ⟨b, off, rfl, hlt (.cell b off) (MemPlace.mem_row.2 ⟨0, by omega, by simp⟩), fun k hk => ?_⟩
    have hc := hcell k (by omega)
    rw [Addr.add_lit] at hc
    have hw := hwz (zs.getD k 0) (by rw [List.getD_eq_getElem?_getD, List.getElem?_eq_getElem (by omega)]; exact List.getElem_mem _)
    have hb : 0 ≤ zs.getD k 0 ∧ zs.getD k 0 ≤ 255 := by
      simp only [Lit.wf, Bool.and_eq_true, decide_eq_true_eq] at hw
      exact hw
    exact ⟨_, hb.1, hb.2, hc⟩

theorem kept_arg {W W' : World} {t : TypeId} {v : Value} {d : DataW H} {p : List MemPlace} (hr : Tryd.prog.readableRec t = true) (ht : t < Tryd.prog.types.size) (h : DataW.Trod enc Tryd.prog W 0 (fun _ => true) true t v d p) (hb : Below W.heap.size W W') (hlt : ∀ x ∈ p, x.block < W.heap.size) :
    DataW.Trod enc Tryd.prog W' 0 (fun b => decide (b < W.heap.size)) true t v d p := Below.trod laidOut hr ht h hb hlt
end
end
end Go.Proofs.YtpdnakiilhohdaaDoor
