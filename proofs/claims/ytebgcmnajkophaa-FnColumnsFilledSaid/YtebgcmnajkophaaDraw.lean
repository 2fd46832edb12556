/- The drawing of inputs: a reader over the code's bytes; each pick is a number within its bounds. No conditions but those typed. -/
import Derived.Test.YtebgcmnajkophaaMem
import Derived.Test.YtebgcmnajkophaaBasic
namespace Go.Proofs.Ytebgcmnajkophaa
open Go.RowKit Go.Sort

/-- bytes behind a slice value -/
def Bytes (w : World) (B : Nat) (A : Option Addr) (n : Nat) : Prop := 0 < n → ∃ b off, A = some ⟨b, off, none⟩ ∧ b < B ∧ ∀ k, k < n → ∃ z : Int, 0 ≤ z ∧ z ≤ 255 ∧ w.cell? ⟨b, off + k, none⟩ = some (.int .u8 z)
/-- a reader in block g: its slice of at most 2000 bytes, and its place -/
structure Rd (w : World) (g : Nat) (A : Option Addr) (n c p : Nat) : Prop where
  blk : w.heap[g]? = some (.cells #[.slice A n c, .int .i64 p] 68 (0, 0))
  bytes : Bytes w g A n
  len : n ≤ 2000 ∧ n ≤ c

theorem Bytes.below {w w' : World} {B : Nat} {A : Option Addr} {n : Nat} (h : Bytes w B A n) (hb : Below B w w') : Bytes w' B A n := fun hn => by
  obtain ⟨b, off, h1, h2, h3⟩ := h hn
  exact ⟨b, off, h1, h2, fun k hk => by obtain ⟨z, a1, a2, a3⟩ := h3 k hk; exact ⟨z, a1, a2, (hb.cell h2).trans a3⟩⟩
theorem Bytes.more {w : World} {B B' : Nat} {A : Option Addr} {n : Nat} (h : Bytes w B A n) (hB : B ≤ B') : Bytes w B' A n := fun hn => by
  obtain ⟨b, off, h1, h2, h3⟩ := h hn
  exact ⟨b, off, h1, by omega, h3⟩
theorem Bytes.less {w : World} {B : Nat} {A : Option Addr} {n m : Nat} (h : Bytes w B A n) (hm : m ≤ n) : Bytes w B A m := fun h0 => by
  obtain ⟨b, off, h1, h2, h3⟩ := h (by omega)
  exact ⟨b, off, h1, h2, fun k hk => h3 k (by omega)⟩
theorem Rd.lt {w : World} {g n c p : Nat} {A : Option Addr} (h : Rd w g A n c p) : g < w.heap.size := (Array.getElem?_eq_some_iff.1 h.blk).1
theorem Rd.below {w w' : World} {g n c p : Nat} {A : Option Addr} (h : Rd w g A n c p) (hb : Below w.heap.size w w') : Rd w' g A n c p :=
  ⟨(hb.block g h.lt).trans h.blk, h.bytes.below (hb.mono (Nat.le_of_lt h.lt)), h.len⟩
theorem Rd.c0 {w : World} {g n c p : Nat} {A : Option Addr} (h : Rd w g A n c p) : w.cell? ⟨g, 0, none⟩ = some (.slice A n c) := by rw [cell_of_row w g 0 _ _ _ h.blk]; rfl
theorem Rd.c1 {w : World} {g n c p : Nat} {A : Option Addr} (h : Rd w g A n c p) : w.cell? ⟨g, 1, none⟩ = some (.int .i64 p) := by rw [cell_of_row w g 1 _ _ _ h.blk]; rfl
theorem Rd.free {w : World} {g n c p : Nat} {A : Option Addr} (h : Rd w g A n c p) (j : Nat) : w.frozen? ⟨g, j, none⟩ = false := frozen_of_row w g j _ _ h.blk
theorem Rd.step {w : World} {g n c p : Nat} {A : Option Addr} (h : Rd w g A n c p) (q : Nat) : Rd (w.setCell ⟨g, 1, none⟩ (.int .i64 q)) g A n c q := by
  refine ⟨heap_setCell_same w g 1 _ _ _ h.blk, h.bytes.below ?_, h.len⟩
  exact (Below.refl g w).setCell (p := ⟨g, 1, none⟩) (Nat.le_refl g) _
theorem Rd.drew {w : World} {g n c p : Nat} {A : Option Addr} (h : Rd w g A n c p) (k : Nat) : Rd (w.drewN k) g A n c p := ⟨h.blk, h.bytes, h.len⟩

theorem grown_set (w : World) (g j : Nat) (u : Value) : w.grownBy (w.setCell ⟨g, j, none⟩ u) (some g) :=
  ⟨rfl, rfl, rfl, by simp [World.setCell], fun k _ hne => Below.heap_setCell w ⟨g, j, none⟩ u k (fun e => hne (by rw [e]))⟩
theorem grown_drewN {w w' : World} {row : Option Nat} (h : w.grownBy w' row) (k : Nat) : w.grownBy (w'.drewN k) row := ⟨h.os, h.tape, h.output, h.size, h.block⟩

theorem grown_below {w w1 w2 : World} {g : Nat} (h : w.grownBy w1 (some g)) (hb : Below w1.heap.size w1 w2) : w.grownBy w2 (some g) :=
  ⟨hb.os.trans h.os, hb.tape.trans h.tape, hb.output.trans h.output, Nat.le_trans h.size hb.size, fun k hk hne => (hb.block k (Nat.lt_of_lt_of_le hk h.size)).trans (h.block k hk hne)⟩
theorem xor_nn (a b : Nat) (ha : a < 9223372036854775808) (hb : b < 9223372036854775808) : 0 ≤ bits .xor .i64 (a : Int) (b : Int) := by
  have hx : a ^^^ b < 2 ^ 63 := Nat.xor_lt_two_pow (by omega) (by omega)
  have h1 : (BitVec.ofInt 64 (a : Int)).toNat = a := by
    rw [BitVec.ofInt_natCast, BitVec.toNat_ofNat]; exact Nat.mod_eq_of_lt (by omega)
  have h2 : (BitVec.ofInt 64 (b : Int)).toNat = b := by
    rw [BitVec.ofInt_natCast, BitVec.toNat_ofNat]; exact Nat.mod_eq_of_lt (by omega)
  show 0 ≤ IntKind.i64.wrap ((BitVec.ofInt 64 (a : Int) ^^^ BitVec.ofInt 64 (b : Int)).toNat : Int)
  rw [BitVec.toNat_xor, h1, h2]
  simp [IntKind.wrap, IntKind.bits, IntKind.signed]
  omega

theorem xor_small (X : Int) (h0 : 0 ≤ X) (h1 : X < 9223372036854775808) : 0 ≤ bits .xor .i64 X (X / 64) := by
  obtain ⟨a, rfl⟩ := Int.eq_ofNat_of_zero_le h0
  have e : ((a : Int) / 64) = ((a / 64 : Nat) : Int) := by simp
  rw [e]
  exact xor_nn a (a / 64) (by omega) (by omega)

set_option maxHeartbeats 800000 in
theorem pick_any (g n c p : Nat) (A : Option Addr) (N : Int) (w : World) (hr : Rd w g A n c p) (h1 : 1 ≤ N) (h2 : N ≤ 1000) (hp : p ≤ 100000) :
    Calls Try.prog 61 #[.pointer (some ⟨g, 0, none⟩), .int .i64 N] w fun e w' => ∃ z : Int, e = .returned (.int .i64 z) ∧ 0 ≤ z ∧ z < N ∧ Rd w' g A n c (p + 1) ∧ w.grownBy w' (some g) := by
  by_cases h0 : n ≤ 0
  · obtain rfl : n = 0 := by omega
    have hc0 := hr.c0
    have hc1 := hr.c1
    have hf := hr.free 1
    obtain ⟨hn1, hn2⟩ := hr.len
    have hr' := hr.step (p + 1)
    go_enter Try.func61, Try.ntmps61
    go_wp2
    go_ret
    exact ⟨0, rfl, by omega, by omega, hr', grown_set _ _ _ _⟩
  · by_cases hpn : p < n
    · obtain ⟨b, off, rfl, hb, hby⟩ := hr.bytes (by omega)
      obtain ⟨z, z0, z1, hz⟩ := hby p hpn
      have hc0 := hr.c0
      have hc1 := hr.c1
      have hf := hr.free 1
      obtain ⟨hn1, hn2⟩ := hr.len
      have hr' := hr.step (p + 1)
      go_enter Try.func61, Try.ntmps61
      go_wp2
      go_ret
      exact ⟨z % N, rfl, Int.emod_nonneg _ (by omega), Int.emod_lt_of_pos _ (by omega), hr', grown_set _ _ _ _⟩
    · obtain ⟨b, off, rfl, hb, hby⟩ := hr.bytes (by omega)
      obtain ⟨z, z0, z1, hz⟩ := hby (p % n) (Nat.mod_lt _ (by omega))
      obtain ⟨q, hq⟩ : ∃ q : Nat, (p : Int) * 7 + 3 = (q : Int) := ⟨p * 7 + 3, by omega⟩
      obtain ⟨y, y0, y1, hy⟩ := hby (q % n) (Nat.mod_lt _ (by omega))
      have hc0 := hr.c0
      have hc1 := hr.c1
      have hf := hr.free 1
      obtain ⟨hn1, hn2⟩ := hr.len
      have hr' : Rd (w.setCell ⟨g, 1, none⟩ (.int .i64 ((p : Int) + 1))) g (some ⟨b, off, none⟩) n c (p + 1) := hr.step (p + 1)
      have hbW : Below g w (w.setCell ⟨g, 1, none⟩ (.int .i64 ((p : Int) + 1))) := (Below.refl g w).setCell (p := ⟨g, 1, none⟩) (Nat.le_refl g) _
      have hgr := grown_set w g 1 (.int .i64 ((p : Int) + 1))
      have k0 := cell_regrown hr'.c0
      have k1 := cell_regrown ((hbW.cell (p := ⟨b, off + p % n, none⟩) hb).trans hz)
      have k2 := cell_regrown ((hbW.cell (p := ⟨b, off + q % n, none⟩) hb).trans hy)
      have hm1 := Nat.mod_lt p (show n > 0 by omega)
      have hm2 := Nat.mod_lt q (show n > 0 by omega)
      obtain ⟨t, ht0, ht⟩ : ∃ t : Nat, t ≤ p ∧ (p : Int) / (n : Int) = (t : Int) := ⟨p / n, Nat.div_le_self _ _, by simp⟩
      go_enter Try.func61, Try.ntmps61
      go_wp2
      refine wp_region_quiet_below (by kernel_rfl) (by kernel_rfl) ?_
      repeat (go_big_quiet_step (fail))
      refine wpQuiet_nil ?_
      intro wN hw'
      obtain ⟨⟨dq, osq⟩, hw''⟩ := hw'
      have hN : Below (w.setCell ⟨g, 1, none⟩ (.int .i64 ((p : Int) + 1))).heap.size (w.setCell ⟨g, 1, none⟩ (.int .i64 ((p : Int) + 1))) wN := by rw [hw'']; exact below_regrown _ _ _
      have hr2 := hr'.below hN
      have hg2 := grown_below hgr hN
      clear hw'' dq osq hN hbW
      go_wp2
      go_ret
      refine ⟨_, rfl, ?_, ?_, hr2, hg2⟩
      · exact Int.tmod_nonneg _ (xor_small _ (by omega) (by omega))
      · exact Int.tmod_lt_of_pos _ (by omega)

theorem grown_trans {w w1 w2 : World} {g : Nat} (h : w.grownBy w1 (some g)) (k : w1.grownBy w2 (some g)) : w.grownBy w2 (some g) :=
  ⟨k.os.trans h.os, k.tape.trans h.tape, k.output.trans h.output, Nat.le_trans h.size k.size, fun i hi hne => (k.block i (Nat.lt_of_lt_of_le hi h.size) hne).trans (h.block i hi hne)⟩

theorem odd_any (g n c p : Nat) (A : Option Addr) (N : Int) (w : World) (hr : Rd w g A n c p) (h1 : 0 ≤ N) (h2 : N ≤ 1000) (hp : p ≤ 100000) :
    Calls Try.prog 65 #[.pointer (some ⟨g, 0, none⟩), .int .i64 N] w fun e w' => ∃ (z : Bool) (q : Nat), e = .returned (.bool z) ∧ q ≤ p + 1 ∧ Rd w' g A n c q ∧ w.grownBy w' (some g) := by
  by_cases h0 : N = 0
  · subst h0
    go_enter Try.func65, Try.ntmps65
    go_wp2
    go_ret
    exact ⟨_, p, rfl, by omega, hr, ⟨rfl, rfl, rfl, Nat.le_refl _, fun _ _ _ => rfl⟩⟩
  have h1' : 1 ≤ N := by omega
  clear h1 h0
  go_enter Try.func65, Try.ntmps65
  go_wp2_with fail
  refine (pick_any g n c p A N _ hr h1' h2 hp).mono ?_
  rintro e w1 ⟨z, rfl, _, _, hr1, hg1⟩
  go_wp2
  all_goals
    go_ret
    exact ⟨_, p + 1, rfl, Nat.le_refl _, hr1, hg1⟩

/-- what a law knows of its code: bytes -/
theorem open_any (A : Option Addr) (n c : Nat) (w : World) (hb : Bytes w w.heap.size A n) (hn : n ≤ c) (hc : c ≤ 9223372036854775807) :
    Calls Try.prog 42 #[.slice A n c] w fun e w' => ∃ n', e = .returned (.pointer (some ⟨w.heap.size, 0, none⟩)) ∧ Rd w' w.heap.size A n' c 0 ∧ Below w.heap.size w w' := by
  by_cases h : 2000 < n
  · go_enter Try.func42, Try.ntmps42
    go_wp2
    go_ret
    exact ⟨2000, rfl, ⟨heap_alloc_new w _, (hb.less (by omega)).below ((Below.refl _ _).alloc (Nat.le_refl _) _), by omega, by omega⟩, (Below.refl _ _).alloc (Nat.le_refl _) _⟩
  · go_enter Try.func42, Try.ntmps42
    go_wp2
    go_ret
    exact ⟨n, rfl, ⟨heap_alloc_new w _, hb.below ((Below.refl _ _).alloc (Nat.le_refl _) _), by omega, hn⟩, (Below.refl _ _).alloc (Nat.le_refl _) _⟩
end Go.Proofs.Ytebgcmnajkophaa
