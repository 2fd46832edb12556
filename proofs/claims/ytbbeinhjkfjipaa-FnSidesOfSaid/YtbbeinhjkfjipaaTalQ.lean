/- Texts of one kind, merged: SideC, TalI, TalQ. No conditions but those that stand in each theorem. -/
import Derived.Test.YtbbeinhjkfjipaaMove
import Derived.Test.YtbbeinhjkfjipaaCells
import Derived.Test.YtbbeinhjkfjipaaBox
import Derived.Deep.RegionHeld3
import Derived.Test.YtbbeinhjkfjipaaTally
import Derived.Test.YtbbeinhjkfjipaaSieveI
import Derived.RegionTactic
namespace Go.Proofs.Ytbbeinhjkfjipaa
/-! ### SideC -/
section
open Go.RowKit

/-- the four sides, cell by cell -/
def sidesV (x y : Int) : Value := .agg #[.int .i64 x, .int .i64 y, .bool false, .int .i64 x, .int .i64 y, .bool true, .int .i64 x, .int .i64 (y + 1), .bool false, .int .i64 (x + 1), .int .i64 y, .bool true]
theorem cells12 {w : World} {g : Nat} {v : Array Value} {T : TypeId} (h : w.heap[g]? = some (.cells v T (0, 0))) (hv : v.size = 12) : ∀ j, j < 12 → (∃ u, w.cell? ⟨g, j, none⟩ = some u) ∧ w.frozen? ⟨g, j, none⟩ = false := fun j hj => by
  obtain ⟨u, hu⟩ : ∃ u, v[j]? = some u := ⟨v[j]'(by omega), Array.getElem?_eq_getElem (by omega)⟩
  exact ⟨⟨u, by simp [World.cell?, h, hu]⟩, by simp [World.frozen?, h]⟩
def zero12 : Array Value := #[.int .i64 0, .int .i64 0, .bool false, .int .i64 0, .int .i64 0, .bool false, .int .i64 0, .int .i64 0, .bool false, .int .i64 0, .int .i64 0, .bool false]
set_option maxHeartbeats 4000000 in
set_option maxRecDepth 100000 in
theorem sidesOfCell_any (x y : Int) (w : World) (h : -500 ≤ x ∧ x ≤ 500 ∧ -500 ≤ y ∧ y ≤ 500) : Calls Try.prog 80 #[.agg #[.int .i64 x, .int .i64 y]] w (Gives (sidesV x y) w) := by
  have CY := Lib.hid (show ∀ W, Calls Try.prog 48 #[.agg #[.int .i64 x, .int .i64 y], .agg #[.int .i64 0, .int .i64 1]] W (Gives (.agg #[.int .i64 x, .int .i64 (y + 1)]) W) from fun W => by
    have := added_in x y 0 1 W (by omega) (by omega)
    rwa [Int.add_zero] at this)
  have CX := Lib.hid (show ∀ W, Calls Try.prog 48 #[.agg #[.int .i64 x, .int .i64 y], .agg #[.int .i64 1, .int .i64 0]] W (Gives (.agg #[.int .i64 (x + 1), .int .i64 y]) W) from fun W => by
    have := added_in x y 1 0 W (by omega) (by omega)
    rwa [Int.add_zero] at this)
  go_enter Try.func80, Try.ntmps80
  go_wp2
  have q1 := first_block w (.cells #[.int .i64 x, .int .i64 y] 54) (.cells zero12 91)
  have q2 := second_block w (.cells #[.int .i64 x, .int .i64 y] 54) (.cells zero12 91)
  have bW : Below w.heap.size w ((w.alloc (.cells #[.int .i64 x, .int .i64 y] 54)).alloc (.cells zero12 91)) := ((Below.refl _ _).alloc (Nat.le_refl _) _).alloc (by simp) _
  have hs : w.heap.size + 1 < ((w.alloc (.cells #[.int .i64 x, .int .i64 y] 54)).alloc (.cells zero12 91)).heap.size := by simp
  unfold zero12 at q1 q2 bW hs
  generalize ((w.alloc (.cells #[.int .i64 x, .int .i64 y] 54)).alloc _) = W at q1 q2 bW hs ⊢
  obtain ⟨c0, c1⟩ := cells_of_row q1
  have hs2 : w.heap.size + 1 < W.drew.heap.size := hs
  have hs : w.heap.size < W.drew.heap.size := Nat.lt_of_succ_lt hs2
  have bb : Below w.heap.size w W.drew := bW.drew
  clear q1 bW
  have hne : w.heap.size + 1 ≠ w.heap.size := Nat.succ_ne_self _
  go_region_held3 (fun w' => w'.cell? ⟨w.heap.size, 0, none⟩ = some (.int .i64 x) ∧ w'.cell? ⟨w.heap.size, 1, none⟩ = some (.int .i64 y)) (first | (with_reducible exact ⟨c0, c1⟩) | (refine ⟨?_, ?_⟩ <;> (iterate 12 (refine (World.cell?_setCell_far _ _ _ _ hne).trans ?_)) <;> with_reducible assumption))
    (first
      | (go_at_call 48; (with_reducible refine (CY.out _).mono ?_); rintro e w1 ⟨rfl, hb⟩; have c0 := (hb.cell (p := ⟨w.heap.size, 0, none⟩) hs).trans c0; have c1 := (hb.cell (p := ⟨w.heap.size, 1, none⟩) hs).trans c1; have q2 := (hb.block (w.heap.size + 1) hs2).trans q2; have bb := below_step bb hb; have hs := Nat.lt_of_lt_of_le hs hb.size; have hs2 := Nat.lt_of_lt_of_le hs2 hb.size; clear hb)
      | (go_at_call 48; (with_reducible refine (CX.out _).mono ?_); rintro e w2 ⟨rfl, hb⟩; have c0 := (hb.cell (p := ⟨w.heap.size, 0, none⟩) hs).trans c0; have c1 := (hb.cell (p := ⟨w.heap.size, 1, none⟩) hs).trans c1; have q2 := (hb.block (w.heap.size + 1) hs2).trans q2; have bb := below_step bb hb; have hs := Nat.lt_of_lt_of_le hs hb.size; have hs2 := Nat.lt_of_lt_of_le hs2 hb.size; clear hb; have s12 := cells12 q2 rfl; obtain ⟨⟨u0, e0⟩, f0⟩ := s12 0 (by decide); obtain ⟨⟨u1, e1⟩, f1⟩ := s12 1 (by decide); obtain ⟨⟨u2, e2⟩, f2⟩ := s12 2 (by decide); obtain ⟨⟨u3, e3⟩, f3⟩ := s12 3 (by decide); obtain ⟨⟨u4, e4⟩, f4⟩ := s12 4 (by decide); obtain ⟨⟨u5, e5⟩, f5⟩ := s12 5 (by decide); obtain ⟨⟨u6, e6⟩, f6⟩ := s12 6 (by decide); obtain ⟨⟨u7, e7⟩, f7⟩ := s12 7 (by decide); obtain ⟨⟨u8, e8⟩, f8⟩ := s12 8 (by decide); obtain ⟨⟨u9, e9⟩, f9⟩ := s12 9 (by decide); obtain ⟨⟨u10, e10⟩, f10⟩ := s12 10 (by decide); obtain ⟨⟨u11, e11⟩, f11⟩ := s12 11 (by decide); clear s12))
  clear f0 f1 f2 f3 f4 f5 f6 f7 f8 f9 f10 f11
  go_wp2
  refine bodyPost_ret (v := sidesV x y) (by simp [results, Try.results80, go_sem, sidesV, *]) rfl ⟨rfl, ?_⟩
  iterate 12 (refine Below.setCell ?_ (Nat.le_succ _) _)
  exact bb
end
/-! ### TalI -/
section
open Go.RowKit Go.Maps

/-! ### sides as keys -/
theorem sideRow : (63 : TypeId) < Try.prog.types.size := of_decide_eq_true (by kernel_rfl)
theorem sideWide : (match Try.prog.underlying 63 with | some (.array _ _) | some (.struct _) => true | _ => false) = true := by kernel_rfl
set_option maxRecDepth 100000 in
theorem sideKeyed : Keyed Try.prog 63 := Keyed.of_law (deep_law_laid laidOutAll (m := 3) (by omega) sideRow (by kernel_rfl) sideWide)
theorem sideKT : Try.prog.keyType 63 = true := by kernel_rfl
theorem sideCells : Try.prog.cellsOf 63 = 3 := by kernel_rfl
theorem boolCells : Try.prog.cellsOf 4 = 1 := by kernel_rfl
theorem types3 : ∃ m, Try.prog.types.size = m + 1 + 1 := by
  have h : 3 < Try.prog.types.size := of_decide_eq_true (by kernel_rfl)
  obtain ⟨m, hm⟩ := pos_succ h
  obtain ⟨k, hk⟩ := pos_succ (show 2 < m by rw [hm] at h; omega)
  exact ⟨k, by rw [hm, hk]⟩
def sideLit (a : Sd) : Lit := .string (keyBytes [.int .i64 a.1.1, .int .i64 a.1.2, .bool a.2])
def sideV (a : Sd) : Value := .agg #[.int .i64 a.1.1, .int .i64 a.1.2, .bool a.2]
theorem sideKey (a : Sd) (h : spotIn a.1) : keyOf Try.prog 63 (sideV a) = some (sideLit a) := by
  obtain ⟨m, hm⟩ := types3
  obtain ⟨⟨x, y⟩, b⟩ := a
  obtain ⟨wa, wb⟩ := h
  unfold keyOf sideV
  simp only [Try.underlying63]
  rw [if_pos (by simp [sideKT, Value.formed, Try.underlying63, sideCells]), hm]
  unfold Program.keyLits
  simp only [Try.underlying63, Value.cells]
  rw [if_pos ⟨by rw [sideCells]; rfl, by simp⟩]
  simp only [List.mapM_cons, List.mapM_nil, spotCells, boolCells]
  simp [Program.keyLits, Try.underlying54, Try.underlying3, Try.underlying4, wa, wb, sideLit, spotCells, intCells]
theorem sideV_inj (a b : Sd) (h : sideV a = sideV b) : a = b := by
  unfold sideV at h
  simp at h
  exact Prod.ext (Prod.ext h.1 h.2.1) h.2.2
theorem sideKeyW : KeyW Try.prog 63 sideV sideLit (fun s => spotIn s.1) := ⟨sideKeyed, sideKey, sideV_inj⟩

/-! ### sides counted -/
def timesF (l : List Sd) (s : Sd) : Int := (timesIn l s : Int)
def TalS (w : World) (B : Nat) (l : List Sd) : Prop := Tally Try.prog 63 3 .i64 sideLit (fun s => spotIn s.1) w B l (timesF l)
def GivesSides (l : List Sd) (w : World) (e : Ending) (w' : World) : Prop := ∃ B, e = .returned (.map (some B)) ∧ w.heap.size ≤ B ∧ TalS w' B l ∧ Below w.heap.size w w'
theorem timesF_other {l : List Sd} {c : Sd} (a : Sd) (h : a ≠ c) : timesF (l ++ [c]) a = timesF l a := by
  unfold timesF
  rw [timesIn_append, timesIn_cons, if_neg fun e => h e.symm, timesIn_nil]; simp
theorem timesF_same (l : List Sd) (c : Sd) : timesF (l ++ [c]) c = timesF l c + 1 := by
  unfold timesF
  rw [timesIn_append, timesIn_cons, if_pos rfl, timesIn_nil]; simp
theorem timesF_range (l : List Sd) (c : Sd) (h : l.length ≤ 1000) : 0 ≤ timesF l c ∧ timesF l c ≤ 1000 := by
  have := timesIn_le l c
  unfold timesF; omega
theorem int_zero (u : World) : (zeroValue 3).run Try.prog u = .ok (.int .i64 0) u := by kernel_rfl
set_option maxRecDepth 100000 in
theorem side_at (x y : Int) {i : Nat} {s : Sd} (h : (fourS (x, y))[i]? = some s) (W : World) : (Instr.index 91 (sidesV x y) (.int .i64 (i : Int))).run Try.prog W = .ok (.agg #[.int .i64 s.1.1, .int .i64 s.1.2, .bool s.2]) W := by
  have hi := (List.getElem?_eq_some_iff.1 h).1
  unfold fourS at h hi
  simp only [List.length_cons, List.length_nil] at hi
  obtain rfl | rfl | rfl | rfl : i = 0 ∨ i = 1 ∨ i = 2 ∨ i = 3 := by omega
  all_goals
    simp at h
    subst h
    rfl
theorem fourS_in {x y : Int} (h : -500 ≤ x ∧ x ≤ 500 ∧ -500 ≤ y ∧ y ≤ 500) {i : Nat} {s : Sd} (k : (fourS (x, y))[i]? = some s) : -1000 ≤ s.1.1 ∧ s.1.1 ≤ 1000 ∧ -1000 ≤ s.1.2 ∧ s.1.2 ≤ 1000 := by
  have := List.mem_of_getElem? k
  unfold fourS at this
  simp only [List.mem_cons, List.not_mem_nil, or_false] at this
  rcases this with rfl | rfl | rfl | rfl <;> simp only [] <;> omega
theorem sdsL_take {p : List Sp} {k : Nat} {a : Sp} (h : p[k]? = some a) : sdsL (p.take (k + 1)) = sdsL (p.take k) ++ fourS a := by
  unfold sdsL
  rw [List.take_add_one, h, List.flatMap_append]
  simp
theorem cells_of_row3 {w : World} {g : Nat} {a b c : Value} {T : TypeId} (h : w.heap[g]? = some (.cells #[a, b, c] T (0, 0))) : w.cell? ⟨g, 0, none⟩ = some a ∧ w.cell? ⟨g, 1, none⟩ = some b ∧ w.cell? ⟨g, 2, none⟩ = some c := by
  refine ⟨?_, ?_, ?_⟩ <;> simp [World.cell?, h]
set_option maxRecDepth 100000 in
set_option maxHeartbeats 1600000 in
theorem cellsAt_any (ps : List Sp) (v : Value) (w : World) (h : Reads w w.heap.size v ps) (hp : ∀ a ∈ ps, InR a) (hl : ps.length ≤ 60) : Calls Try.prog 50 #[v] w (GivesSides (sdsL ps) w) := by
  obtain ⟨A, c, rfl, hc, hm, hA, hr⟩ := h.is
  unfold maxLen at hm
  have hmm := @run_makeMap Try.prog
  have s0 : TalS (w.alloc (.map #[] 0)) w.heap.size (sdsL (ps.take 0)) := Tally.made w
  have b0 : Below w.heap.size w (w.alloc (.map #[] 0)) := (Below.refl _ _).alloc (Nat.le_refl _) _
  go_enter Try.func50, Try.ntmps50
  go_wp2
  clear hmm
  go_loopw [11] (fun i wr => ∃ k : Nat, i = .int .i64 k ∧ k ≤ ps.length ∧ TalS wr w.heap.size (sdsL (ps.take k)) ∧ Below w.heap.size w wr) (fun i _ => ps.length - (intOf i).toNat)
  case atStart => exact ⟨0, rfl, Nat.zero_le _, s0, b0⟩
  case round =>
    clear s0 b0
    obtain ⟨k, rfl, hk, hset, hbw⟩ := hrel
    have hbs := hbw.size
    by_cases hlt : k < ps.length
    · have hd : decide ((k : Int) < (ps.length : Int)) = true := decide_eq_true (by omega)
      obtain ⟨b, off, rfl, hb, hcell⟩ := hr (by omega)
      obtain ⟨⟨x, y⟩, hxy⟩ : ∃ a, ps[k]? = some a := ⟨_, List.getElem?_eq_getElem hlt⟩
      obtain ⟨c0, c1⟩ := hcell k x y hxy
      have d0 := (hbw.cell (p := ⟨b, off + k * 2, none⟩) hb).trans c0
      have d1 := (hbw.cell (p := ⟨b, off + k * 2 + 1, none⟩) hb).trans c1
      have hi := hp _ (List.mem_of_getElem? hxy)
      unfold InR at hi
      simp only at hi
      have HS := Lib.hid (sdsL_take hxy)
      have i0 : (0 : Int) ≤ (k : Int) := Int.natCast_nonneg _
      have i1 : (k : Int) < (ps.length : Int) := by omega
      have bal := box_below wr #[.int .i64 x, .int .i64 y] 54
      have bx := hbw.trans (bal.mono hbs)
      have sx : TalS _ _ _ := hset.keep bal
      clear hxy c0 c1 hset bal
      go_wp2_with fail
      refine (sidesOfCell_any x y _ (by omega)).mono ?_
      rintro e w2 ⟨rfl, b2⟩
      have sx : TalS _ _ _ := sx.keep b2
      have bx := below_step bx b2
      clear b2
      obtain ⟨V, hV⟩ : ∃ V, sidesV x y = V := ⟨_, rfl⟩
      have HX := Lib.hid (fun (i : Nat) (s : Sd) (h : (fourS (x, y))[i]? = some s) (W : World) => side_at x y h W)
      rw [hV] at HX ⊢
      clear hV
      go_wp2
      go_loopw [17] (fun j wq => ∃ i : Nat, j = .int .i64 i ∧ i ≤ 4 ∧ TalS wq w.heap.size (sdsL (ps.take k) ++ (fourS (x, y)).take i) ∧ Below w.heap.size w wq) (fun j _ => 4 - (intOf j).toNat)
      case atStart => exact ⟨0, rfl, Nat.zero_le _, by rw [List.take_zero, List.append_nil]; exact sx, bx⟩
      case round =>
        clear bx sx hbw d0 d1
        obtain ⟨i, rfl, hi4, sx, bx⟩ := hrel
        by_cases hl4 : i < 4
        · have hd4 : decide ((i : Int) < 4) = true := decide_eq_true (by omega)
          obtain ⟨s, hs⟩ : ∃ s, (fourS (x, y))[i]? = some s := ⟨_, List.getElem?_eq_getElem hl4⟩
          have HI := HX.out i s hs
          have hin := fourS_in (by omega) hs
          have HT := Lib.hid (show (sdsL (ps.take k) ++ (fourS (x, y)).take i) ++ [s] = sdsL (ps.take k) ++ (fourS (x, y)).take (i + 1) by rw [List.take_add_one, hs, List.append_assoc]; rfl)
          have hlen : (sdsL (ps.take k) ++ (fourS (x, y)).take i).length ≤ 1000 := by
            rw [List.length_append, sdsL_len, List.length_take, List.length_take]; omega
          obtain ⟨⟨sx0, sy0⟩, sb⟩ := s
          simp only at HI hin
          generalize (sdsL (ps.take k) ++ (fourS (x, y)).take i) = L at *
          have bal := box_below wr #[.int .i64 sx0, .int .i64 sy0, .bool sb] 63
          have bx := bx.trans (bal.mono bx.size)
          have sx : TalS _ _ _ := sx.keep bal
          have q := heap_alloc_new wr (.cells #[.int .i64 sx0, .int .i64 sy0, .bool sb] 63)
          clear hs HX bal
          go_wp2
          generalize wr.alloc (.cells #[.int .i64 sx0, .int .i64 sy0, .bool sb] 63) = X at *
          have bx := bx.drew
          have e0 : X.drew.cell? ⟨wr.heap.size, 0, none⟩ = some (.int .i64 sx0) := (cells_of_row3 q).1
          have e1 : X.drew.cell? ⟨wr.heap.size, 1, none⟩ = some (.int .i64 sy0) := (cells_of_row3 q).2.1
          have e2 : X.drew.cell? ⟨wr.heap.size, 2, none⟩ = some (.bool sb) := (cells_of_row3 q).2.2
          have sx : TalS X.drew _ _ := sx
          obtain ⟨hz0, hz1⟩ := timesF_range L ((sx0, sy0), sb) hlen
          have hfs := timesF_same L ((sx0, sy0), sb)
          obtain ⟨st, w1, w3, l1, l2, l3, l4, g1, g2, ht⟩ := Tally.entry (g := timesF (L ++ [((sx0, sy0), sb)])) (t := 60) sideKeyW sx (c := ((sx0, sy0), sb)) (spotInXY _ _ (by omega)) timesF_other (by unfold maxLen; omega) (by rw [hfs]; exact WalkArith.wf_i64 (by omega)) Try.underlying60 Try.underlying3 int_zero
          rw [hfs] at l4
          clear hfs
          generalize timesF L ((sx0, sy0), sb) = z at *
          unfold sideV at l1 l2 l3
          simp only at l1 l2 l3
          have bx := bx.grown g2 bx.size (fun j hj => by cases hj; exact Nat.le_refl _)
          clear sx q g1 g2
          go_region
          go_wp2
          go_roundw
          case rel => exact ⟨i + 1, by go_num, by omega, by rw [← HT.out]; exact ht, bx⟩
          case measure => simp [intOf]; omega
        · have hd4 : decide ((i : Int) < 4) = false := decide_eq_false (by omega)
          obtain rfl : i = 4 := by omega
          have HT := Lib.hid (show sdsL (ps.take k) ++ (fourS (x, y)).take 4 = sdsL (ps.take (k + 1)) from HS.out.symm)
          go_wp2
          go_roundw
          case rel => exact ⟨k + 1, by go_num, by omega, by rw [← HT.out]; exact sx, bx⟩
          case measure => simp [intOf]; omega
    · have hd : decide ((k : Int) < (ps.length : Int)) = false := decide_eq_false (by omega)
      obtain rfl : k = ps.length := by omega
      rw [List.take_length] at hset
      go_wp2
      go_ret
      exact ⟨_, rfl, Nat.le_refl _, hset, hbw⟩
end
/-! ### TalQ -/
section
open Go.RowKit Go.Maps

theorem gBelow {w w1 w2 : World} {g : Nat} (h : w.grownBy w1 (some g)) (hb : Below w1.heap.size w1 w2) : w.grownBy w2 (some g) :=
  ⟨hb.os.trans h.os, hb.tape.trans h.tape, hb.output.trans h.output, Nat.le_trans h.size hb.size, fun k hk hne => (hb.block k (Nat.lt_of_lt_of_le hk h.size)).trans (h.block k hk hne)⟩
theorem gTrans {w w1 w2 : World} {g : Nat} (h : w.grownBy w1 (some g)) (k : w1.grownBy w2 (some g)) : w.grownBy w2 (some g) :=
  ⟨k.os.trans h.os, k.tape.trans h.tape, k.output.trans h.output, Nat.le_trans h.size k.size, fun i hi hne => (k.block i (Nat.lt_of_lt_of_le hi h.size) hne).trans (h.block i hi hne)⟩
def qF (l : List (Sp × Nat)) (v : Sp) : Int := (qcode l v : Int)
def TalQ (w : World) (B : Nat) (l : List (Sp × Nat)) : Prop := Tally Try.prog 54 77 .u8 spotLit spotIn w B (l.map Prod.fst) (qF l)
def GivesQc (l : List (Sp × Nat)) (w : World) (e : Ending) (w' : World) : Prop := ∃ B, e = .returned (.map (some B)) ∧ w.heap.size ≤ B ∧ TalQ w' B l ∧ Below w.heap.size w w'
theorem quad_zero (u : World) : (zeroValue 77).run Try.prog u = .ok (.int .u8 0) u := by kernel_rfl
theorem qF_range (l : List (Sp × Nat)) (v : Sp) : 0 ≤ qF l v ∧ qF l v ≤ 15 := by
  have := qcode_le l v
  unfold qF; omega
theorem qcL_take {p : List Sp} {k : Nat} {a : Sp} (h : p[k]? = some a) : qcL (p.take (k + 1)) = qcL (p.take k) ++ fourC a := by
  unfold qcL
  rw [List.take_add_one, h, List.flatMap_append]
  simp
theorem qcL_len : ∀ p : List Sp, (qcL p).length = 4 * p.length
  | [] => rfl
  | a :: p => by
    have ih := qcL_len p
    unfold qcL at *
    rw [List.flatMap_cons, List.length_append, ih, List.length_cons]
    show 4 + _ = _; omega
/-- the four cells of the square, and the corners that they are for a cell -/
theorem fourC_at {x y : Int} {i : Nat} {u t : Int} (h : (squareR 2)[i]? = some (u, t)) : (fourC (x, y))[i]? = some ((x + u, y + t), i) ∧ 0 ≤ u ∧ u ≤ 1 ∧ 0 ≤ t ∧ t ≤ 1 := by
  have e : squareR 2 = [(0, 0), (1, 0), (0, 1), (1, 1)] := by decide
  rw [e] at h
  have hi := (List.getElem?_eq_some_iff.1 h).1
  simp only [List.length_cons, List.length_nil] at hi
  obtain rfl | rfl | rfl | rfl : i = 0 ∨ i = 1 ∨ i = 2 ∨ i = 3 := by omega
  all_goals
    simp at h
    obtain ⟨h1, h2⟩ := h
    subst h1 h2
    simp [fourC]
theorem or_bits : ∀ n : Nat, n < 16 → ∀ i : Nat, i < 4 → bits BinOp.or IntKind.u8 (n : Int) (IntKind.u8.wrap (2 ^ i)) = ((n ||| 2 ^ i : Nat) : Int) := by decide
theorem or_bit (l : List (Sp × Nat)) (v : Sp) {i : Nat} (hi : i < 4) : bits BinOp.or IntKind.u8 (qF l v) (IntKind.u8.wrap (2 ^ i)) = qF (l ++ [(v, i)]) v := by
  unfold qF
  rw [or_bits _ (by have := qcode_le l v; omega) i hi, qcode_same l v hi]
/-- one bit more at a corner -/
theorem TalQ.entry {w : World} {B : Nat} {l : List (Sp × Nat)} (h : TalQ w B l) {x y : Int} (hx : -1000 ≤ x ∧ x ≤ 1000 ∧ -1000 ≤ y ∧ y ≤ 1000) {i : Nat} (hl : l.length ≤ 1000) {r : Int} (hr : r = qF (l ++ [((x, y), i)]) (x, y)) :
    ∃ (st : Nat) (w1 w2 : World), (Instr.lookup 49 (.map (some B)) (.agg #[.int .i64 x, .int .i64 y]) false).run Try.prog w = .ok (.int .u8 (qF l (x, y))) w ∧
      (Instr.mapEntry 49 (.map (some B)) (.agg #[.int .i64 x, .int .i64 y])).run Try.prog w = .ok (.tuple #[.int .u8 (qF l (x, y)), .int .i64 (st : Int)]) w1 ∧
      (Instr.lookup 49 (.map (some B)) (.agg #[.int .i64 x, .int .i64 y]) false).run Try.prog w1 = .ok (.int .u8 (qF l (x, y))) w1 ∧
      (Instr.entryStore 49 (.map (some B)) (.int .i64 (st : Int)) (.int .u8 r)).run Try.prog w1 = .ok () w2 ∧
      w.grownBy w1 (some B) ∧ w.grownBy w2 (some B) ∧ TalQ w2 B (l ++ [((x, y), i)]) := by
  have hrg := qF_range (l ++ [((x, y), i)]) (x, y)
  obtain ⟨st, w1, w3, l1, l2, l3, l4, g1, g2, ht⟩ := Tally.entry (g := qF (l ++ [((x, y), i)])) (t := 49) spotKeyW h (c := (x, y)) (spotInXY _ _ hx) (fun a ha => by unfold qF; rw [qcode_other ha]) (by rw [List.length_map]; unfold maxLen; omega) (by
      have hw : ∀ n : Nat, n < 16 → (Lit.int .u8 (n : Int)).wf = true := by decide
      exact hw _ (by have := qcode_le (l ++ [((x, y), i)]) (x, y); omega)) Try.underlying49 Try.underlying77 quad_zero
  refine ⟨st, w1, w3, l1, l2, l3, by rw [hr]; exact l4, g1, g2, ?_⟩
  unfold TalQ
  rw [List.map_append]
  exact ht
set_option maxRecDepth 100000 in
set_option maxHeartbeats 1600000 in
theorem quadsAt_any (ps : List Sp) (v : Value) (w : World) (h : Reads w w.heap.size v ps) (hp : ∀ a ∈ ps, InR a) (hl : ps.length ≤ 60) : Calls Try.prog 41 #[v] w (GivesQc (qcL ps) w) := by
  obtain ⟨A, c, rfl, hc, hm, hA, hr⟩ := h.is
  unfold maxLen at hm
  have hmm := @run_makeMap Try.prog
  have s0 : TalQ (w.alloc (.map #[] 0)) w.heap.size (qcL (ps.take 0)) := Tally.made w
  have b0 : Below w.heap.size w (w.alloc (.map #[] 0)) := (Below.refl _ _).alloc (Nat.le_refl _) _
  go_enter Try.func41, Try.ntmps41
  go_wp2_with fail
  refine (implSquare_any 2 _).mono ?_
  rintro e w1 ⟨sq, rfl, osq, b1⟩
  have s0 : TalQ _ _ _ := s0.keep b1
  have b1 := below_step b0 b1
  have hown := osq.lt
  obtain ⟨A2, c2, rfl, hc2, hm2, hA2, hr2⟩ := osq.reads.is
  obtain ⟨b2, off2, rfl, hb2, hsq⟩ := hr2 (Nat.lt_of_lt_of_le (by decide) hc2)
  have hM2 : w.heap.size + 1 ≤ b2 := by have := (hown b2 rfl).1; simpa using this
  have hMw : w.heap.size < w1.heap.size := by omega
  have l4 : (squareR 2).length = 4 := by decide
  rw [l4]
  clear osq hown hc2 hm2 hA2 b0 l4
  obtain ⟨M, hM⟩ : ∃ M, w.heap.size = M := ⟨_, rfl⟩
  rw [hM] at s0 b1 hM2 hMw ⊢
  go_wp2
  clear hmm
  go_loopw [13] (fun i wr => ∃ k : Nat, i = .int .i64 k ∧ k ≤ ps.length ∧ TalQ wr M (qcL (ps.take k)) ∧ w1.grownBy wr (some M)) (fun i _ => ps.length - (intOf i).toNat)
  case atStart => exact ⟨0, rfl, Nat.zero_le _, s0, World.grownBy.refl _ _⟩
  case round =>
    clear s0
    obtain ⟨k, rfl, hk, hset, hG⟩ := hrel
    have hbw : Below M w wr := b1.grown hG (by omega) (fun j hj => by cases hj; exact Nat.le_refl _)
    by_cases hlt : k < ps.length
    · have hd : decide ((k : Int) < (ps.length : Int)) = true := decide_eq_true (by omega)
      obtain ⟨b, off, rfl, hb, hcell⟩ := hr (by omega)
      obtain ⟨⟨x, y⟩, hxy⟩ : ∃ a, ps[k]? = some a := ⟨_, List.getElem?_eq_getElem hlt⟩
      obtain ⟨c0, c1⟩ := hcell k x y hxy
      rw [hM] at hb
      have d0 := (hbw.cell (p := ⟨b, off + k * 2, none⟩) hb).trans c0
      have d1 := (hbw.cell (p := ⟨b, off + k * 2 + 1, none⟩) hb).trans c1
      have hi := hp _ (List.mem_of_getElem? hxy)
      unfold InR at hi
      simp only at hi
      have HS := Lib.hid (qcL_take hxy)
      have i0 : (0 : Int) ≤ (k : Int) := Int.natCast_nonneg _
      have i1 : (k : Int) < (ps.length : Int) := by omega
      have bal := box_below wr #[.int .i64 x, .int .i64 y] 54
      have q6 := heap_alloc_new wr (.cells #[.int .i64 x, .int .i64 y] 54)
      have sx : TalQ _ _ _ := hset.keep bal
      have gx := gBelow hG bal
      have hMs : M < wr.heap.size := Nat.lt_of_lt_of_le hMw hG.size
      clear hxy c0 c1 hset bal hG
      go_wp2
      generalize wr.alloc (.cells #[.int .i64 x, .int .i64 y] 54) = Wi at *
      obtain ⟨G6, hG6⟩ : ∃ G, wr.heap.size = G := ⟨_, rfl⟩
      rw [hG6] at q6 hMs ⊢
      have hG6W : G6 < Wi.heap.size := (Array.getElem?_eq_some_iff.1 q6).1
      clear d0 d1 hbw hG6
      go_loopw [19] (fun j wq => ∃ i : Nat, j = .int .i64 i ∧ i ≤ 4 ∧ TalQ wq M (qcL (ps.take k) ++ (fourC (x, y)).take i) ∧ Wi.grownBy wq (some M)) (fun j _ => 4 - (intOf j).toNat)
      case atStart => exact ⟨0, rfl, Nat.zero_le _, by rw [List.take_zero, List.append_nil]; exact sx, World.grownBy.refl _ _⟩
      case round =>
        clear sx
        obtain ⟨i, rfl, hi4, sx, hI⟩ := hrel
        by_cases hl4 : i < 4
        · have hd4 : decide ((i : Int) < 4) = true := decide_eq_true (by omega)
          obtain ⟨⟨u, t⟩, hs⟩ : ∃ s, (squareR 2)[i]? = some s := ⟨_, List.getElem?_eq_getElem hl4⟩
          obtain ⟨e0, e1⟩ := hsq i u t hs
          obtain ⟨hf, hu⟩ := fourC_at (x := x) (y := y) hs
          have HT := Lib.hid (show (qcL (ps.take k) ++ (fourC (x, y)).take i) ++ [((x + u, y + t), i)] = qcL (ps.take k) ++ (fourC (x, y)).take (i + 1) by rw [List.take_add_one, hf, List.append_assoc]; rfl)
          have hlen : (qcL (ps.take k) ++ (fourC (x, y)).take i).length ≤ 1000 := by
            rw [List.length_append, qcL_len, List.length_take, List.length_take]; omega
          generalize (qcL (ps.take k) ++ (fourC (x, y)).take i) = L at *
          have sq0 := ((World.cell?_of_block (a := ⟨b2, off2 + i * 2, none⟩) (hI.block b2 (Nat.lt_of_lt_of_le hb2 gx.size) (by intro e; cases e; omega))).trans (World.cell?_of_block (a := ⟨b2, off2 + i * 2, none⟩) (gx.block b2 hb2 (by intro e; cases e; omega)))).trans e0
          have sq1 := ((World.cell?_of_block (a := ⟨b2, off2 + i * 2 + 1, none⟩) (hI.block b2 (Nat.lt_of_lt_of_le hb2 gx.size) (by intro e; cases e; omega))).trans (World.cell?_of_block (a := ⟨b2, off2 + i * 2 + 1, none⟩) (gx.block b2 hb2 (by intro e; cases e; omega)))).trans e1
          have i2 : (0 : Int) ≤ (i : Int) := Int.natCast_nonneg _
          have i3 : (i : Int) < 4 := by omega
          have bal := box_below wr #[.int .i64 u, .int .i64 t] 54
          have q8 := heap_alloc_new wr (.cells #[.int .i64 u, .int .i64 t] 54)
          have q6' := (hI.block G6 hG6W (by intro e; cases e; omega)).trans q6
          have hG6w : G6 < wr.heap.size := Nat.lt_of_lt_of_le hG6W hI.size
          have q6x := (bal.block G6 hG6w).trans q6'
          have sx : TalQ _ _ _ := sx.keep bal
          have hI := gBelow hI bal
          clear hs e0 e1 hf bal q6'
          go_wp2
          generalize wr.alloc (.cells #[.int .i64 u, .int .i64 t] 54) = X at *
          have CA := Lib.hid (fun W => added_in x y u t W (by omega) (by omega))
          have sx : TalQ X.drew _ _ := sx
          obtain ⟨a0, a1⟩ : X.drew.cell? ⟨G6, 0, none⟩ = some (.int .i64 x) ∧ X.drew.cell? ⟨G6, 1, none⟩ = some (.int .i64 y) := cells_of_row q6x
          obtain ⟨a2, a3⟩ : X.drew.cell? ⟨wr.heap.size, 0, none⟩ = some (.int .i64 u) ∧ X.drew.cell? ⟨wr.heap.size, 1, none⟩ = some (.int .i64 t) := cells_of_row q8
          obtain ⟨G8, hG8⟩ : ∃ G, wr.heap.size = G := ⟨_, rfl⟩
          rw [hG8] at a2 a3 q8 hG6w ⊢
          have hI : Wi.grownBy X.drew (some M) := gBelow hI (Below.refl _ _).drew
          have hs8 : G8 < X.drew.heap.size := (Array.getElem?_eq_some_iff.1 q8).1
          have hs6 : G6 < X.drew.heap.size := Nat.lt_trans hG6w hs8
          have n6 : some G6 ≠ some M := by intro e; cases e; omega
          have n8 : some G8 ≠ some M := by intro e; cases e; omega
          clear q6x q8 hG8 sq0 sq1
          have HR := Lib.hid (or_bit L (x + u, y + t) hl4)
          go_region_held3 (fun w' => w'.cell? ⟨G6, 0, none⟩ = some (.int .i64 x) ∧ w'.cell? ⟨G6, 1, none⟩ = some (.int .i64 y) ∧ w'.cell? ⟨G8, 0, none⟩ = some (.int .i64 u) ∧ w'.cell? ⟨G8, 1, none⟩ = some (.int .i64 t))
            (first | (with_reducible exact ⟨a0, a1, a2, a3⟩) | (with_reducible exact ⟨p0, p1, p2, p3⟩) | (with_reducible exact ⟨q0, q1, q2, q3⟩))
            (first
              | (go_at_call 48; (with_reducible refine (CA.out _).mono ?_); rintro e wa ⟨rfl, hb⟩; have a0 := (hb.cell (p := ⟨G6, 0, none⟩) hs6).trans a0; have a1 := (hb.cell (p := ⟨G6, 1, none⟩) hs6).trans a1; have a2 := (hb.cell (p := ⟨G8, 0, none⟩) hs8).trans a2; have a3 := (hb.cell (p := ⟨G8, 1, none⟩) hs8).trans a3; have sx : TalQ _ _ _ := sx.keep hb; have hI := gBelow hI hb; have hs6 := Nat.lt_of_lt_of_le hs6 hb.size; have hs8 := Nat.lt_of_lt_of_le hs8 hb.size; clear hb; obtain ⟨st, wb, wc, l1, l2, l3, l4, g1, g2, ht⟩ := sx.entry (x := x + u) (y := y + t) (i := i) (by omega) hlen HR.out; have p0 := (World.cell?_of_block (a := ⟨G6, 0, none⟩) (g1.block G6 hs6 n6)).trans a0; have p1 := (World.cell?_of_block (a := ⟨G6, 1, none⟩) (g1.block G6 hs6 n6)).trans a1; have p2 := (World.cell?_of_block (a := ⟨G8, 0, none⟩) (g1.block G8 hs8 n8)).trans a2; have p3 := (World.cell?_of_block (a := ⟨G8, 1, none⟩) (g1.block G8 hs8 n8)).trans a3; have q0 := (World.cell?_of_block (a := ⟨G6, 0, none⟩) (g2.block G6 hs6 n6)).trans a0; have q1 := (World.cell?_of_block (a := ⟨G6, 1, none⟩) (g2.block G6 hs6 n6)).trans a1; have q2 := (World.cell?_of_block (a := ⟨G8, 0, none⟩) (g2.block G8 hs8 n8)).trans a2; have q3 := (World.cell?_of_block (a := ⟨G8, 1, none⟩) (g2.block G8 hs8 n8)).trans a3; have hI := gTrans hI g2; clear sx g1 g2))
          all_goals
            go_wp2
            go_roundw
            case rel => exact ⟨i + 1, by go_num, by omega, by rw [← HT.out]; exact ht, hI⟩
            case measure => simp [intOf]; omega
        · have hd4 : decide ((i : Int) < 4) = false := decide_eq_false (by omega)
          obtain rfl : i = 4 := by omega
          have HT := Lib.hid (show qcL (ps.take k) ++ (fourC (x, y)).take 4 = qcL (ps.take (k + 1)) from HS.out.symm)
          have gx := gTrans gx hI
          go_wp2
          go_roundw
          case rel => exact ⟨k + 1, by go_num, by omega, by rw [← HT.out]; exact sx, gx⟩
          case measure => simp [intOf]; omega
    · have hd : decide ((k : Int) < (ps.length : Int)) = false := decide_eq_false (by omega)
      obtain rfl : k = ps.length := by omega
      rw [List.take_length] at hset
      go_wp2
      go_ret
      exact ⟨_, rfl, Nat.le_of_eq hM, hset, by rw [hM]; exact hbw⟩
end
end Go.Proofs.Ytbbeinhjkfjipaa
