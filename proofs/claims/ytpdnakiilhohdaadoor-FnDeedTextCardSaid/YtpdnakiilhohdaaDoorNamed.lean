/- Texts of one kind, merged: Names, Named. No conditions but those that stand in each theorem. -/
import Derived.Test.YtpdnakiilhohdaaDoorBox
import Derived.Deep.WholeRow
import Derived.Deep.RegionHeld3
import Derived.Deep.RegionWith
import Derived.Deep.CutRange
namespace Go.Proofs.YtpdnakiilhohdaaDoor
/-! ### Names -/
section
open Go.RowKit Go.Sort

def dkWordA : Nat → ByteArray
  | 0 => ⟨#[112, 117, 116]⟩
  | 1 => ⟨#[116, 97, 107, 101]⟩
  | 2 => ⟨#[109, 111, 118, 101]⟩
  | 3 => ⟨#[116, 117, 114, 110]⟩
  | 4 => ⟨#[103, 114, 111, 119]⟩
  | 5 => ⟨#[115, 104, 114, 105, 110, 107]⟩
  | 6 => ⟨#[115, 105, 101, 118, 101]⟩
  | 7 => ⟨#[102, 105, 108, 108]⟩
  | _ => ⟨#[98, 97, 99, 107]⟩
def dkNum : Nat → Nat
  | 0 => 2
  | 1 => 2
  | 2 => 2
  | 4 => 1
  | 5 => 1
  | 6 => 1
  | _ => 0
def namesV : Value := .agg #[.string ⟨#[112, 117, 116]⟩, .int .i64 2, .string ⟨#[116, 97, 107, 101]⟩, .int .i64 2, .string ⟨#[109, 111, 118, 101]⟩, .int .i64 2, .string ⟨#[116, 117, 114, 110]⟩, .int .i64 0, .string ⟨#[103, 114, 111, 119]⟩, .int .i64 1, .string ⟨#[115, 104, 114, 105, 110, 107]⟩, .int .i64 1, .string ⟨#[115, 105, 101, 118, 101]⟩, .int .i64 1, .string ⟨#[102, 105, 108, 108]⟩, .int .i64 0, .string ⟨#[98, 97, 99, 107]⟩, .int .i64 0]
def namesC : Array Value := #[.string ⟨#[112, 117, 116]⟩, .int .i64 2, .string ⟨#[116, 97, 107, 101]⟩, .int .i64 2, .string ⟨#[109, 111, 118, 101]⟩, .int .i64 2, .string ⟨#[116, 117, 114, 110]⟩, .int .i64 0, .string ⟨#[103, 114, 111, 119]⟩, .int .i64 1, .string ⟨#[115, 104, 114, 105, 110, 107]⟩, .int .i64 1, .string ⟨#[115, 105, 101, 118, 101]⟩, .int .i64 1, .string ⟨#[102, 105, 108, 108]⟩, .int .i64 0, .string ⟨#[98, 97, 99, 107]⟩, .int .i64 0]
theorem deedNames_end (w : World) (t1 : Act) (h0 : t1.tmps[0]?.getD undef = .pointer (some ⟨w.heap.size, 0, none⟩)) (hd : t1.defers = []) : bodyPost Tryd.prog Tryd.f52 (Gives namesV w) Exit.ret t1 (w.alloc (.cells namesC 90)) := by
  refine bodyPost_ret (v := namesV) ?_ hd ⟨rfl, box_below _ _ _⟩
  have hr := run_loadVar_new (P := Tryd.prog) w 90 namesC 9 89 Tryd.underlying90 (by kernel_rfl)
  simp only [results, Tryd.results52]
  simp [h0, asAddr, hr]
  rfl
theorem deedNames_any (w : World) : Calls Tryd.prog 52 #[] w (Gives namesV w) := by
  go_enter Tryd.func52, Tryd.ntmps52
  go_wp2
  exact deedNames_end w _ rfl rfl
theorem names_at {n : Nat} (h : n ≤ 8) (W : World) : (Instr.index 90 namesV (.int .i64 (n : Int))).run Tryd.prog W = .ok (.agg #[.string (dkWordA n), .int .i64 (dkNum n : Int)]) W := by
  rcases (show n = 0 ∨ n = 1 ∨ n = 2 ∨ n = 3 ∨ n = 4 ∨ n = 5 ∨ n = 6 ∨ n = 7 ∨ n = 8 by omega) with rfl | rfl | rfl | rfl | rfl | rfl | rfl | rfl | rfl <;> kernel_rfl
end
/-! ### Named -/
section
open Go.RowKit Go.Sort

/-- the numbers that a kind does not name are 0 -/
def namedB (n : Nat) (x y : Int) : Bool := decide ((dkNum n ≤ 0 → x = 0) ∧ (dkNum n ≤ 1 → y = 0))
def NamedPost (n : Nat) (x y : Int) (w : World) (e : Ending) (w' : World) : Prop := ∃ g, e = .returned (.tuple #[.string (dkWordA n), .slice (some ⟨g, 0, none⟩) (dkNum n) 2, .bool true]) ∧ w'.cell? ⟨g, 0, none⟩ = some (.int .i64 x) ∧ w'.cell? ⟨g, 1, none⟩ = some (.int .i64 y) ∧ Below w.heap.size w w'
def GivesNot3 (w : World) (e : Ending) (w' : World) : Prop := e = .returned (.tuple #[.string ⟨#[]⟩, .slice none 0 0, .bool false]) ∧ Below w.heap.size w w'
theorem named_out (k x y : Int) (w : World) (h : ¬ (0 ≤ k ∧ k ≤ 8)) : Calls Tryd.prog 33 #[.agg #[.int .i64 k, .int .i64 x, .int .i64 y]] w (GivesNot3 w) := by
  by_cases h1 : k < 0
  · go_enter Tryd.func33, Tryd.ntmps33
    go_wp2
    refine bodyPost_ret (v := .tuple #[.string ⟨#[]⟩, .slice none 0 0, .bool false]) (by simp [results, Tryd.results33, go_sem]) rfl ⟨rfl, box_below _ _ _⟩
  · have h2 : 9 ≤ k := by omega
    clear h
    go_enter Tryd.func33, Tryd.ntmps33
    go_wp2
    refine bodyPost_ret (v := .tuple #[.string ⟨#[]⟩, .slice none 0 0, .bool false]) (by simp [results, Tryd.results33, go_sem]) rfl ⟨rfl, box_below _ _ _⟩
structure Three (w : World) (g : Nat) (k x y : Int) : Prop where
  c0 : w.cell? ⟨g, 0, none⟩ = some (.int .i64 k)
  c1 : w.cell? ⟨g, 1, none⟩ = some (.int .i64 x)
  c2 : w.cell? ⟨g, 2, none⟩ = some (.int .i64 y)
  lt : g < w.heap.size
theorem Three.below {w w' : World} {g : Nat} {k x y : Int} (h : Three w g k x y) (hb : Below w.heap.size w w') : Three w' g k x y :=
  ⟨(hb.cell (p := ⟨g, 0, none⟩) h.lt).trans h.c0, (hb.cell (p := ⟨g, 1, none⟩) h.lt).trans h.c1, (hb.cell (p := ⟨g, 2, none⟩) h.lt).trans h.c2, Nat.lt_of_lt_of_le h.lt hb.size⟩
def NamedIs (n : Nat) (x y : Int) (w : World) (e : Ending) (w' : World) : Prop := (namedB n x y = true ∧ NamedPost n x y w e w') ∨ (namedB n x y = false ∧ GivesNot3 w e w')
set_option maxRecDepth 100000 in
set_option maxHeartbeats 8000000 in
theorem named_in (n : Nat) (x y : Int) (w : World) (hn : n ≤ 8) : Calls Tryd.prog 33 #[.agg #[.int .i64 (n : Int), .int .i64 x, .int .i64 y]] w (NamedIs n x y w) := by
  have HI := Lib.hid (names_at hn)
  obtain ⟨S, hS⟩ : ∃ S, dkWordA n = S := ⟨_, rfl⟩
  obtain ⟨V, hV⟩ : ∃ V, namesV = V := ⟨_, rfl⟩
  have HD := Lib.hid (fun w => deedNames_any w)
  rw [hV] at HI HD
  have h1 : (0 : Int) ≤ (n : Int) := Int.natCast_nonneg _
  have h2 : (n : Int) ≤ 8 := by omega
  clear hV
  have hN3 : dkNum n = 2 ∨ dkNum n = 1 ∨ dkNum n = 0 := by
    rcases (show n = 0 ∨ n = 1 ∨ n = 2 ∨ n = 3 ∨ n = 4 ∨ n = 5 ∨ n = 6 ∨ n = 7 ∨ n = 8 by omega) with rfl | rfl | rfl | rfl | rfl | rfl | rfl | rfl | rfl <;> decide
  obtain ⟨D, hD⟩ : ∃ D : Int, (dkNum n : Int) = D := ⟨_, rfl⟩
  have hidx : ∀ W, (Instr.index 90 V (.int .i64 (n : Int))).run Tryd.prog W = .ok (.agg #[.string S, .int .i64 D]) W := fun W => by rw [HI.out W, hS, hD]
  have HS := Lib.hid hS
  have HD2 := Lib.hid hD
  clear HI hS hD
  obtain ⟨W, hW⟩ : ∃ W, W = w.alloc (.cells #[.int .i64 (n : Int), .int .i64 x, .int .i64 y] 24) := ⟨_, rfl⟩
  have B0 : Below w.heap.size w W.drew := by rw [hW]; exact (box_below _ _ _).drew
  have T0 : Three W.drew w.heap.size n x y := by rw [hW]; exact ⟨by simp [go_sem], by simp [go_sem], by simp [go_sem], by simp⟩
  have B1 : Below w.heap.size w (W.alloc (.cells #[.int .i64 x, .int .i64 y] 3)).drew := (B0.alloc B0.size (.cells #[.int .i64 x, .int .i64 y] 3))
  have B2 : Below w.heap.size w (W.alloc (.cells #[.string ⟨#[]⟩, .int .i64 0] 89)).drew := (B0.alloc B0.size (.cells #[.string ⟨#[]⟩, .int .i64 0] 89))
  have B3 : Below w.heap.size w ((W.alloc (.cells #[.int .i64 x, .int .i64 y] 3)).alloc (.cells #[.string ⟨#[]⟩, .int .i64 0] 89)).drew := (B1.alloc B1.size (.cells #[.string ⟨#[]⟩, .int .i64 0] 89))
  have B4 : Below w.heap.size w ((W.alloc (.cells #[.string ⟨#[]⟩, .int .i64 0] 89)).alloc (.cells #[.int .i64 x, .int .i64 y] 3)).drew := (B2.alloc B2.size (.cells #[.int .i64 x, .int .i64 y] 3))
  have T1 : Three (W.alloc (.cells #[.int .i64 x, .int .i64 y] 3)).drew w.heap.size n x y := T0.below ((Below.refl _ _).alloc (Nat.le_refl _) (.cells #[.int .i64 x, .int .i64 y] 3))
  have T2 : Three (W.alloc (.cells #[.string ⟨#[]⟩, .int .i64 0] 89)).drew w.heap.size n x y := T0.below ((Below.refl _ _).alloc (Nat.le_refl _) (.cells #[.string ⟨#[]⟩, .int .i64 0] 89))
  have T3 : Three ((W.alloc (.cells #[.int .i64 x, .int .i64 y] 3)).alloc (.cells #[.string ⟨#[]⟩, .int .i64 0] 89)).drew w.heap.size n x y := T1.below ((Below.refl _ _).alloc (Nat.le_refl _) (.cells #[.string ⟨#[]⟩, .int .i64 0] 89))
  have T4 : Three ((W.alloc (.cells #[.string ⟨#[]⟩, .int .i64 0] 89)).alloc (.cells #[.int .i64 x, .int .i64 y] 3)).drew w.heap.size n x y := T2.below ((Below.refl _ _).alloc (Nat.le_refl _) (.cells #[.int .i64 x, .int .i64 y] 3))
  go_enter Tryd.func33, Tryd.ntmps33
  go_upto_region 3 with fail
  rw [← hW]
  clear hW
  go_cut [5, 6] from 17 (fun s5 s6 wx => ∃ b g, s5 = .pointer (some ⟨b, 0, none⟩) ∧ s6 = .slice (some ⟨g, 0, none⟩) 2 2 ∧ wx.cell? ⟨b, 0, none⟩ = some (.string S) ∧ wx.cell? ⟨b, 1, none⟩ = some (.int .i64 D) ∧ wx.cell? ⟨g, 0, none⟩ = some (.int .i64 x) ∧ wx.cell? ⟨g, 1, none⟩ = some (.int .i64 y) ∧ Below w.heap.size w wx)
  case first =>
    obtain ⟨c0, c1, c2, hs⟩ := T0
    have T0 : Three W.drew w.heap.size n x y := ⟨c0, c1, c2, hs⟩
    have hs' : w.heap.size < W.heap.size := hs
    have RL : (W.alloc (.cells #[.int .i64 x, .int .i64 y] 3)).drew.heap[W.heap.size]? = some (.cells #[.int .i64 x, .int .i64 y] 3 (0, 0)) := heap_alloc_new W _
    have RN : (W.alloc (.cells #[.string ⟨#[]⟩, .int .i64 0] 89)).drew.heap[W.heap.size]? = some (.cells #[.string ⟨#[]⟩, .int .i64 0] 89 (0, 0)) := heap_alloc_new W _
    have RLN1 : ((W.alloc (.cells #[.int .i64 x, .int .i64 y] 3)).alloc (.cells #[.string ⟨#[]⟩, .int .i64 0] 89)).drew.heap[W.heap.size]? = some (.cells #[.int .i64 x, .int .i64 y] 3 (0, 0)) := first_block W _ _
    have RLN2 : ((W.alloc (.cells #[.int .i64 x, .int .i64 y] 3)).alloc (.cells #[.string ⟨#[]⟩, .int .i64 0] 89)).drew.heap[W.heap.size + 1]? = some (.cells #[.string ⟨#[]⟩, .int .i64 0] 89 (0, 0)) := second_block W _ _
    have RNL1 : ((W.alloc (.cells #[.string ⟨#[]⟩, .int .i64 0] 89)).alloc (.cells #[.int .i64 x, .int .i64 y] 3)).drew.heap[W.heap.size]? = some (.cells #[.string ⟨#[]⟩, .int .i64 0] 89 (0, 0)) := first_block W _ _
    have RNL2 : ((W.alloc (.cells #[.string ⟨#[]⟩, .int .i64 0] 89)).alloc (.cells #[.int .i64 x, .int .i64 y] 3)).drew.heap[W.heap.size + 1]? = some (.cells #[.int .i64 x, .int .i64 y] 3 (0, 0)) := second_block W _ _
    have ne0 := Nat.ne_of_gt hs'
    have ne2 : W.heap.size + 1 ≠ w.heap.size := by omega
    go_region_held3 (fun w' => w'.cell? ⟨w.heap.size, 0, none⟩ = some (.int .i64 (n : Int)) ∧ w'.cell? ⟨w.heap.size, 1, none⟩ = some (.int .i64 x) ∧ w'.cell? ⟨w.heap.size, 2, none⟩ = some (.int .i64 y)) (first | (refine ⟨?_, ?_, ?_⟩ <;> with_reducible assumption) | exact ⟨T1.c0, T1.c1, T1.c2⟩ | exact ⟨T2.c0, T2.c1, T2.c2⟩ | exact ⟨T3.c0, T3.c1, T3.c2⟩ | exact ⟨T4.c0, T4.c1, T4.c2⟩ | go_keep)
     (first
      | (go_at_call 52; (with_reducible refine (HD.out (W.drew)).mono ?_); rintro e w1 ⟨rfl, b1⟩; obtain ⟨e0, e1, e2, he⟩ := (T0).below b1; have hw1 := b1.size; have bW := below_step B0 b1; have ne1 := Nat.ne_of_gt he)
      | (go_at_call 52; (with_reducible refine (HD.out ((W.alloc (.cells #[.int .i64 x, .int .i64 y] 3)).drew)).mono ?_); rintro e w1 ⟨rfl, b1⟩; obtain ⟨e0, e1, e2, he⟩ := (T1).below b1; have hw1 := b1.size; have bW := below_step B1 b1; have ne1 := Nat.ne_of_gt he; have rL := (b1.block (W.heap.size) (by first | (simp; done) | (simp; omega))).trans (RL); obtain ⟨l0, l1⟩ := cells_of_row rL; have hlL := (Array.getElem?_eq_some_iff.1 rL).1; have neL := Nat.ne_of_gt hlL)
      | (go_at_call 52; (with_reducible refine (HD.out ((W.alloc (.cells #[.string ⟨#[]⟩, .int .i64 0] 89)).drew)).mono ?_); rintro e w1 ⟨rfl, b1⟩; obtain ⟨e0, e1, e2, he⟩ := (T2).below b1; have hw1 := b1.size; have bW := below_step B2 b1; have ne1 := Nat.ne_of_gt he; have rN := (b1.block (W.heap.size) (by first | (simp; done) | (simp; omega))).trans (RN); obtain ⟨n0, n1⟩ := cells_of_row rN; have fN0 := frozen_of_row w1 _ 0 _ _ rN; have fN1 := frozen_of_row w1 _ 1 _ _ rN; have hlN := (Array.getElem?_eq_some_iff.1 rN).1; have neN := Nat.ne_of_gt hlN)
      | (go_at_call 52; (with_reducible refine (HD.out (((W.alloc (.cells #[.int .i64 x, .int .i64 y] 3)).alloc (.cells #[.string ⟨#[]⟩, .int .i64 0] 89)).drew)).mono ?_); rintro e w1 ⟨rfl, b1⟩; obtain ⟨e0, e1, e2, he⟩ := (T3).below b1; have hw1 := b1.size; have bW := below_step B3 b1; have ne1 := Nat.ne_of_gt he; have rL := (b1.block (W.heap.size) (by first | (simp; done) | (simp; omega))).trans (RLN1); obtain ⟨l0, l1⟩ := cells_of_row rL; have hlL := (Array.getElem?_eq_some_iff.1 rL).1; have neL := Nat.ne_of_gt hlL; have rN := (b1.block (W.heap.size + 1) (by first | (simp; done) | (simp; omega))).trans (RLN2); obtain ⟨n0, n1⟩ := cells_of_row rN; have fN0 := frozen_of_row w1 _ 0 _ _ rN; have fN1 := frozen_of_row w1 _ 1 _ _ rN; have hlN := (Array.getElem?_eq_some_iff.1 rN).1; have neN := Nat.ne_of_gt hlN)
      | (go_at_call 52; (with_reducible refine (HD.out (((W.alloc (.cells #[.string ⟨#[]⟩, .int .i64 0] 89)).alloc (.cells #[.int .i64 x, .int .i64 y] 3)).drew)).mono ?_); rintro e w1 ⟨rfl, b1⟩; obtain ⟨e0, e1, e2, he⟩ := (T4).below b1; have hw1 := b1.size; have bW := below_step B4 b1; have ne1 := Nat.ne_of_gt he; have rN := (b1.block (W.heap.size) (by first | (simp; done) | (simp; omega))).trans (RNL1); obtain ⟨n0, n1⟩ := cells_of_row rN; have fN0 := frozen_of_row w1 _ 0 _ _ rN; have fN1 := frozen_of_row w1 _ 1 _ _ rN; have hlN := (Array.getElem?_eq_some_iff.1 rN).1; have neN := Nat.ne_of_gt hlN; have rL := (b1.block (W.heap.size + 1) (by first | (simp; done) | (simp; omega))).trans (RNL2); obtain ⟨l0, l1⟩ := cells_of_row rL; have hlL := (Array.getElem?_eq_some_iff.1 rL).1; have neL := Nat.ne_of_gt hlL))
    all_goals
      go_wp2_with fail
      go_meet
      case rel =>
        refine ⟨_, _, rfl, rfl, ?_, ?_, ?_, ?_, ?_⟩
        · simp [go_sem, *]
        · simp [go_sem, *]
        · simp [go_sem, *]
        · simp [go_sem, *]
        · repeat (first | exact bW | (refine Below.alloc ?_ (by first | omega | (simp; omega)) _) | (refine Below.setCell ?_ (by first | omega | (simp; omega)) _))
  case rest =>
    obtain ⟨b, g, rfl, rfl, f0, f1, f2, f3, bx⟩ := hcut
    clear hidx B0 T0 B1 B2 B3 B4 T1 T2 T3 T4 HD
    have HN := Lib.hid hN3
    clear hN3
    rcases (show D = 2 ∨ D = 1 ∨ D = 0 by have := HD2.out; have := HN.out; omega) with rfl | rfl | rfl
    · have HY := Lib.hid (show namedB n x y = true from decide_eq_true (by have := HD2.out; omega))
      have f0 : wc.drew.cell? ⟨b, 0, none⟩ = some (.string S) := f0
      have f1 : wc.drew.cell? ⟨b, 1, none⟩ = some (.int .i64 2) := f1
      go_wp2
      go_rounds 2
      go_region_held3 (fun w' => w'.cell? ⟨b, 0, none⟩ = some (.string S) ∧ w'.cell? ⟨b, 1, none⟩ = some (.int .i64 2)) (with_reducible exact ⟨f0, f1⟩) (fail)
      go_wp2
      refine bodyPost_ret (v := .tuple #[.string S, .slice (some ⟨g, 0, none⟩) 2 2, .bool true]) (by simp [results, Tryd.results33, go_sem]) rfl (.inl ⟨HY.out, g, ?_, f2, f3, bx.drew⟩)
      rw [HS.out, show dkNum n = 2 by have := HD2.out; omega]
    · by_cases hy : y = 0
      · have HY := Lib.hid (show namedB n x y = true from decide_eq_true (by have := HD2.out; omega))
        have hyb : (y != 0) = false := by rw [hy]; rfl
        have f0 : wc.drew.cell? ⟨b, 0, none⟩ = some (.string S) := f0
        have f1 : wc.drew.cell? ⟨b, 1, none⟩ = some (.int .i64 1) := f1
        have HYY := Lib.hid hy
        clear hy
        go_wp2
        go_rounds 3
        go_region_held3 (fun w' => w'.cell? ⟨b, 0, none⟩ = some (.string S) ∧ w'.cell? ⟨b, 1, none⟩ = some (.int .i64 1)) (with_reducible exact ⟨f0, f1⟩) (fail)
        go_wp2
        refine bodyPost_ret (v := .tuple #[.string S, .slice (some ⟨g, 0, none⟩) 1 2, .bool true]) (by simp [results, Tryd.results33, go_sem]) rfl (.inl ⟨HY.out, g, ?_, f2, f3, bx.drew⟩)
        rw [HS.out, show dkNum n = 1 by have := HD2.out; omega]
      · have HY := Lib.hid (show namedB n x y = false from decide_eq_false (by have := HD2.out; omega))
        have hyb : (y != 0) = true := bne_iff_ne.2 hy
        clear hy
        go_wp2
        go_rounds 3
        refine bodyPost_ret (v := .tuple #[.string ⟨#[]⟩, .slice none 0 0, .bool false]) (by simp [results, Tryd.results33, go_sem]) rfl (.inr ⟨HY.out, rfl, bx⟩)
    · by_cases hx : x = 0
      · have hxb : (x != 0) = false := by rw [hx]; rfl
        by_cases hy : y = 0
        · have HY := Lib.hid (show namedB n x y = true from decide_eq_true (by have := HD2.out; omega))
          have hyb : (y != 0) = false := by rw [hy]; rfl
          have f0 : wc.drew.cell? ⟨b, 0, none⟩ = some (.string S) := f0
          have f1 : wc.drew.cell? ⟨b, 1, none⟩ = some (.int .i64 0) := f1
          clear hx hy
          go_wp2
          go_rounds 4
          go_region_held3 (fun w' => w'.cell? ⟨b, 0, none⟩ = some (.string S) ∧ w'.cell? ⟨b, 1, none⟩ = some (.int .i64 0)) (with_reducible exact ⟨f0, f1⟩) (fail)
          go_wp2
          refine bodyPost_ret (v := .tuple #[.string S, .slice (some ⟨g, 0, none⟩) 0 2, .bool true]) (by simp [results, Tryd.results33, go_sem]) rfl (.inl ⟨HY.out, g, ?_, f2, f3, bx.drew⟩)
          rw [HS.out, show dkNum n = 0 by have := HD2.out; omega]
        · have HY := Lib.hid (show namedB n x y = false from decide_eq_false (by have := HD2.out; omega))
          have hyb : (y != 0) = true := bne_iff_ne.2 hy
          clear hx hy
          go_wp2
          go_rounds 4
          refine bodyPost_ret (v := .tuple #[.string ⟨#[]⟩, .slice none 0 0, .bool false]) (by simp [results, Tryd.results33, go_sem]) rfl (.inr ⟨HY.out, rfl, bx⟩)
      · have HY := Lib.hid (show namedB n x y = false from decide_eq_false (by have := HD2.out; omega))
        have hxb : (x != 0) = true := bne_iff_ne.2 hx
        clear hx
        go_wp2
        go_rounds 4
        refine bodyPost_ret (v := .tuple #[.string ⟨#[]⟩, .slice none 0 0, .bool false]) (by simp [results, Tryd.results33, go_sem]) rfl (.inr ⟨HY.out, rfl, bx⟩)
end
end Go.Proofs.YtpdnakiilhohdaaDoor
