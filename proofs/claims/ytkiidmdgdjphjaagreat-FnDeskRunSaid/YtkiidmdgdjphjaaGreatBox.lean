/- Texts of one kind, merged: Two, Box, BoxH. No conditions but those that stand in each theorem. -/
import Derived.Test.YtkiidmdgdjphjaaGreatBase
import Derived.Test.YtkiidmdgdjphjaaGreatPlain
import Derived.Test.YtkiidmdgdjphjaaGreatHas
import Derived.RegionTactic
namespace Go.Proofs.YtkiidmdgdjphjaaGreat
/-! ### Two -/
section
open Go.RowKit Go.Sort

theorem first_block (w : World) (o1 o2 : Obj) : ((w.alloc o1).alloc o2).drew.heap[w.heap.size]? = some o1 :=
  (show ((w.alloc o1).alloc o2).heap[w.heap.size]? = some o1 from (((Below.refl (w.heap.size + 1) (w.alloc o1)).alloc (by simp) o2).block w.heap.size (Nat.lt_succ_self _)).trans (heap_alloc_new w o1))
theorem second_block (w : World) (o1 o2 : Obj) : ((w.alloc o1).alloc o2).drew.heap[w.heap.size + 1]? = some o2 := by
  have := heap_alloc_new (w.alloc o1) o2
  rw [World.size_alloc] at this
  exact this

theorem set2_same {w : World} {g : Nat} {x y a b : Value} {T : TypeId} (h : w.heap[g]? = some (.cells #[x, y] T (0, 0))) : ((w.setCell ⟨g, 0, none⟩ a).setCell ⟨g, 1, none⟩ b).heap[g]? = some (.cells #[a, b] T (0, 0)) :=
  (heap_setCell_same _ _ 1 _ _ _ (heap_setCell_same _ _ 0 _ _ _ h)).trans rfl
theorem set2_other {w : World} {g k : Nat} {a b : Value} (h : k ≠ g) : ((w.setCell ⟨g, 0, none⟩ a).setCell ⟨g, 1, none⟩ b).heap[k]? = w.heap[k]? :=
  (heap_setCell_other _ _ _ _ h).trans (heap_setCell_other _ _ _ _ h)
theorem below_set2 {B : Nat} {w0 w : World} {g : Nat} {a b : Value} (h : Below B w0 w) (hg : B ≤ g) : Below B w0 ((w.setCell ⟨g, 0, none⟩ a).setCell ⟨g, 1, none⟩ b) :=
  (h.setCell (p := ⟨g, 0, none⟩) hg a).setCell (p := ⟨g, 1, none⟩) hg b

theorem two_boxes (w : World) (a b c d : Value) : ∃ W, W = (w.alloc (.cells #[a, b] 53)).alloc (.cells #[c, d] 53) ∧ Below w.heap.size w W ∧ w.heap.size + 2 = W.heap.size ∧
    W.heap[w.heap.size]? = some (.cells #[a, b] 53 (0, 0)) ∧ W.heap[w.heap.size + 1]? = some (.cells #[c, d] 53 (0, 0)) :=
  ⟨_, rfl, ((Below.refl _ _).alloc (Nat.le_refl _) _).alloc (by simp) _, by simp, first_block _ _ _, second_block _ _ _⟩
theorem cells_of_row {w : World} {g : Nat} {a b : Value} {T : TypeId} (h : w.heap[g]? = some (.cells #[a, b] T (0, 0))) : w.cell? ⟨g, 0, none⟩ = some a ∧ w.cell? ⟨g, 1, none⟩ = some b := by
  have c0 := cell_of_row w _ 0 _ _ _ h
  have c1 := cell_of_row w _ 1 _ _ _ h
  simp only [List.getElem?_toArray, List.getElem?_cons_zero, List.getElem?_cons_succ] at c0 c1
  exact ⟨c0, c1⟩
end
/-! ### Box -/
section
open Go.RowKit Go.Sort

def boxOk (p : List Sp) : Bool := picB p && decide (p ≠ [])
def boxR (p : List Sp) : Sp × Sp := if boxOk p then boxL p else ((0, 0), (0, 0))
def GivesBox (b : Sp × Sp) (ok : Bool) (w : World) (e : Ending) (w' : World) : Prop :=
  e = .returned (.tuple #[.agg #[.int .i64 b.1.1, .int .i64 b.1.2], .agg #[.int .i64 b.2.1, .int .i64 b.2.2], .bool ok]) ∧ Below w.heap.size w w'
theorem box_no {p : List Sp} (h : boxOk p = false) : boxR p = ((0, 0), (0, 0)) := by unfold boxR; rw [h]; rfl

/-- what the loop knows behind k spots -/
structure BInv (ps : List Sp) (k : Nat) (lx gx : Int) : Prop where
  all : ∀ j a, j < k → ps[j]? = some a → lx ≤ a.1 ∧ a.1 ≤ gx
  lo : ∃ a ∈ ps, a.1 = lx
  hi : ∃ a ∈ ps, a.1 = gx
theorem BInv.step {ps : List Sp} {k : Nat} {lx gx x y : Int} (h : BInv ps k lx gx) (hx : ps[k]? = some (x, y)) : BInv ps (k + 1) (if x < lx then x else lx) (if gx < x then x else gx) := by
  have e1' : (if x < lx then x else lx) = min lx x := by rw [Int.min_def]; split <;> split <;> omega
  have e2' : (if gx < x then x else gx) = max gx x := by rw [Int.max_def]; split <;> split <;> omega
  rw [e1', e2']
  obtain ⟨a, ha, e1⟩ := h.lo
  obtain ⟨b, hb, e2⟩ := h.hi
  have hm := List.mem_of_getElem? hx
  refine ⟨fun j c hj hc => ?_, ?_, ?_⟩
  · by_cases e : j = k
    · subst e; rw [hx] at hc; cases hc; simp only; omega
    · have := h.all j c (by omega) hc; omega
  · rcases Int.le_total lx x with l | l
    · exact ⟨a, ha, by omega⟩
    · exact ⟨_, hm, by simp only; omega⟩
  · rcases Int.le_total gx x with l | l
    · exact ⟨_, hm, by simp only; omega⟩
    · exact ⟨b, hb, by omega⟩
theorem BInv.start {ps : List Sp} {m : Nat} {x0 y0 x1 y1 : Int} (h0 : ps[0]? = some (x0, y0)) (h1 : ps[m]? = some (x1, y1)) : BInv ps 0 x0 x1 :=
  ⟨fun j _ hj => by omega, ⟨_, List.mem_of_getElem? h0, rfl⟩, ⟨_, List.mem_of_getElem? h1, rfl⟩⟩
theorem BInv.done {ps : List Sp} {m : Nat} {lx gx x0 y0 x1 y1 : Int} (h : BInv ps (m + 1) lx gx) (hl : ps.length = m + 1) (hs : Sorted ps) (h0 : ps[0]? = some (x0, y0)) (h1 : ps[m]? = some (x1, y1)) : boxL ps = ((lx, y0), (gx, y1)) := by
  have hne : ps ≠ [] := fun e => by rw [e] at hl; cases hl
  have hb : IsBox ps (lx, y0) (gx, y1) := by
    refine ⟨fun a ha => ?_, h.lo, ⟨_, List.mem_of_getElem? h0, rfl⟩, h.hi, ⟨_, List.mem_of_getElem? h1, rfl⟩⟩
    obtain ⟨j, hj⟩ := List.mem_iff_getElem?.1 ha
    have hjl := (List.getElem?_eq_some_iff.1 hj).1
    have hx := h.all j a (by omega) hj
    have hy0 : y0 ≤ a.2 := by
      by_cases e : j = 0
      · subst e; rw [h0] at hj; cases hj; exact Int.le_refl _
      · have := steps_of_sorted hs (show 0 < j by omega) h0 hj; unfold Lt at this; simp only at this; omega
    have hy1 : a.2 ≤ y1 := by
      by_cases e : j = m
      · subst e; rw [h1] at hj; cases hj; exact Int.le_refl _
      · have := steps_of_sorted hs (show j < m by omega) hj h1; unfold Lt at this; simp only at this; omega
    exact ⟨hx.1, hy0, hx.2, hy1⟩
  obtain ⟨e1, e2⟩ := (isBox_boxL hne).one hb
  rw [← e1, ← e2]

set_option maxHeartbeats 800000 in
theorem implBox_any (ps : List Sp) (v : Value) (w : World) (h : Reads w w.heap.size v ps) :
    Calls Tryz.prog 114 #[v] w (GivesBox (boxR ps) (boxOk ps) w) := by
  obtain ⟨A, c, rfl, hc, hm, hA, hr⟩ := h.is
  unfold maxLen at hm
  have b0 : Below w.heap.size w ((w.alloc (.cells #[.int .i64 0, .int .i64 0] 53)).alloc (.cells #[.int .i64 0, .int .i64 0] 53)) := (box_below w _ _).alloc (by simp) _
  obtain ⟨W, hW⟩ : ∃ W, W = (w.alloc (.cells #[.int .i64 0, .int .i64 0] 53)).alloc (.cells #[.int .i64 0, .int .i64 0] 53) := ⟨_, rfl⟩
  have hWs : w.heap.size + 2 = W.heap.size := by rw [hW]; simp
  have q0 : W.heap[w.heap.size]? = some (.cells #[.int .i64 0, .int .i64 0] 53 (0, 0)) := by
    rw [hW]; exact (((Below.refl _ _).alloc (Nat.le_refl _) _).block _ (by simp)).trans (heap_alloc_new w _)
  have q1 : W.heap[w.heap.size + 1]? = some (.cells #[.int .i64 0, .int .i64 0] 53 (0, 0)) := by
    rw [hW]
    have := heap_alloc_new (w.alloc (.cells #[.int .i64 0, .int .i64 0] 53)) (.cells #[.int .i64 0, .int .i64 0] 53)
    simpa using this
  rw [← hW] at b0
  have hv := h.kept b0
  rcases hp : picB ps with _ | _
  · have e1 : boxOk ps = false := by unfold boxOk; rw [hp]; rfl
    rw [box_no e1, e1]
    go_enter Tryz.func114, Tryz.ntmps114
    go_wp2_with (first | (rw [← hW]; clear hW) | fail)
    refine (gives_is hp (implPicture_any ps _ _ hv)).mono ?_
    rintro e w1 ⟨rfl, b1⟩
    have r0 := (b1.block w.heap.size (by omega)).trans q0
    have r1 := (b1.block (w.heap.size + 1) (by omega)).trans q1
    have c0 := cell_of_row w1 _ 0 _ _ _ r0
    have c1 := cell_of_row w1 _ 1 _ _ _ r0
    have c2 := cell_of_row w1 _ 0 _ _ _ r1
    have c3 := cell_of_row w1 _ 1 _ _ _ r1
    have f0 := fun j => frozen_of_row w1 _ j _ _ r0
    have f1 := fun j => frozen_of_row w1 _ j _ _ r1
    simp only [List.getElem?_toArray, List.getElem?_cons_zero, List.getElem?_cons_succ] at c0 c1 c2 c3
    go_wp2
    have bb := below_step b0 b1
    refine bodyPost_ret (v := .tuple #[.agg #[.int .i64 0, .int .i64 0], .agg #[.int .i64 0, .int .i64 0], .bool false]) (by simp [results, Tryz.results114, go_sem, c0, c1, c2, c3]) rfl ⟨rfl, ?_⟩
    exact (((bb.setCell (p := ⟨w.heap.size, 0, none⟩) (Nat.le_refl _) _).setCell (p := ⟨w.heap.size, 1, none⟩) (Nat.le_refl _) _).setCell (p := ⟨w.heap.size + 1, 0, none⟩) (Nat.le_succ _) _).setCell (p := ⟨w.heap.size + 1, 1, none⟩) (Nat.le_succ _) _
  · have hpic := picB_pic hp
    have HP := Lib.hid hp
    by_cases h0 : ps.length = 0
    · obtain rfl := List.eq_nil_of_length_eq_zero h0
      have e1 : boxOk [] = false := by decide
      rw [box_no e1, e1]
      clear hp
      go_enter Tryz.func114, Tryz.ntmps114
      go_wp2_with (first | (rw [← hW]; clear hW) | fail)
      refine (gives_is HP.out (implPicture_any [] _ _ hv)).mono ?_
      rintro e w1 ⟨rfl, b1⟩
      have r0 := (b1.block w.heap.size (by omega)).trans q0
      have r1 := (b1.block (w.heap.size + 1) (by omega)).trans q1
      have c0 := cell_of_row w1 _ 0 _ _ _ r0
      have c1 := cell_of_row w1 _ 1 _ _ _ r0
      have c2 := cell_of_row w1 _ 0 _ _ _ r1
      have c3 := cell_of_row w1 _ 1 _ _ _ r1
      have f0 := fun j => frozen_of_row w1 _ j _ _ r0
      have f1 := fun j => frozen_of_row w1 _ j _ _ r1
      simp only [List.getElem?_toArray, List.getElem?_cons_zero, List.getElem?_cons_succ] at c0 c1 c2 c3
      go_wp2
      have bb := below_step b0 b1
      refine bodyPost_ret (v := .tuple #[.agg #[.int .i64 0, .int .i64 0], .agg #[.int .i64 0, .int .i64 0], .bool false]) (by simp [results, Tryz.results114, go_sem, c0, c1, c2, c3]) rfl ⟨rfl, ?_⟩
      exact (((bb.setCell (p := ⟨w.heap.size, 0, none⟩) (Nat.le_refl _) _).setCell (p := ⟨w.heap.size, 1, none⟩) (Nat.le_refl _) _).setCell (p := ⟨w.heap.size + 1, 0, none⟩) (Nat.le_succ _) _).setCell (p := ⟨w.heap.size + 1, 1, none⟩) (Nat.le_succ _) _
    · obtain ⟨b, off, rfl, hb, hcell⟩ := hr (by omega)
      obtain ⟨m, hml⟩ : ∃ m, ps.length = m + 1 := ⟨ps.length - 1, by omega⟩
      obtain ⟨⟨x0, y0⟩, hx0⟩ : ∃ a, ps[0]? = some a := ⟨_, List.getElem?_eq_getElem (by omega)⟩
      obtain ⟨⟨x1, y1⟩, hx1⟩ : ∃ a, ps[m]? = some a := ⟨_, List.getElem?_eq_getElem (by omega)⟩
      obtain ⟨c0, c1⟩ := hcell _ _ _ hx0
      obtain ⟨c2, c3⟩ := hcell _ _ _ hx1
      rw [Nat.zero_mul, Nat.add_zero] at c0 c1
      rw [hml] at hv ⊢
      have hc1 : m + 1 ≤ c := by omega
      have hw0 : IntKind.i64.wrap (m : Int) = (m : Int) := IntWalk.i64_in _ (by omega)
      have hw1 : IntKind.i64.wrap ((m : Int) + 1 - 1) = (m : Int) := by rw [Int.add_sub_cancel]; exact hw0
      have hm0 : (0 : Int) ≤ (m : Int) := Int.natCast_nonneg _
      have hm1 : (m : Int) < (m : Int) + 1 := by omega
      have hm2 : m < m + 1 := by omega
      have HL := Lib.hid hml
      clear hml h hr hp
      go_enter Tryz.func114, Tryz.ntmps114
      go_wp2_with (first | (rw [← hW]; clear hW) | fail)
      refine (gives_is HP.out (implPicture_any ps _ _ hv)).mono ?_
      rintro e w1 ⟨rfl, b1⟩
      have r0 := (b1.block w.heap.size (by omega)).trans q0
      have r1 := (b1.block (w.heap.size + 1) (by omega)).trans q1
      have bb := below_step b0 b1
      have d0 := (bb.cell (p := ⟨b, off, none⟩) hb).trans c0
      have d1 := (bb.cell (p := ⟨b, off + 1, none⟩) hb).trans c1
      have d2 := (bb.cell (p := ⟨b, off + m * 2, none⟩) hb).trans c2
      have d3 := (bb.cell (p := ⟨b, off + m * 2 + 1, none⟩) hb).trans c3
      have ne0 := World.new_ne w1 _ d0
      clear c0 c1 c2 c3
      go_wp2_with fail
      go_region_held3 (fun w' => w'.cell? ⟨b, off, none⟩ = some (.int .i64 x0) ∧ w'.cell? ⟨b, off + 1, none⟩ = some (.int .i64 y0) ∧ w'.cell? ⟨b, off + m * 2, none⟩ = some (.int .i64 x1) ∧ w'.cell? ⟨b, off + m * 2 + 1, none⟩ = some (.int .i64 y1)) (go_keep) (fail)
      · obtain ⟨w2, hw2⟩ : ∃ w2, w2 = ((w1.alloc (.cells #[.int .i64 x0, .int .i64 y0] 53)).alloc (.cells #[.int .i64 x1, .int .i64 y1] 53)).drew := ⟨_, rfl⟩
        have b2 : Below w1.heap.size w1 w2 := by rw [hw2]; exact (((Below.refl _ _).alloc (Nat.le_refl _) _).alloc (by simp) _).drew
        have l2 : w2.heap[w1.heap.size]? = some (.cells #[.int .i64 x0, .int .i64 y0] 53 (0, 0)) := by rw [hw2]; exact first_block _ _ _
        have g2 : w2.heap[w1.heap.size + 1]? = some (.cells #[.int .i64 x1, .int .i64 y1] 53 (0, 0)) := by rw [hw2]; exact second_block _ _ _
        rw [← hw2]
        clear hw2
        go_wp2
        go_loopw [30] (fun i wr => ∃ (k : Nat) (lx gx : Int), k ≤ m + 1 ∧ i = .int .i64 k ∧ Below w1.heap.size w1 wr ∧ wr.heap[w1.heap.size]? = some (.cells #[.int .i64 lx, .int .i64 y0] 53 (0, 0)) ∧ wr.heap[w1.heap.size + 1]? = some (.cells #[.int .i64 gx, .int .i64 y1] 53 (0, 0)) ∧ BInv ps k lx gx) (fun i _ => m + 1 - (intOf i).toNat)
        case atStart => exact ⟨0, x0, x1, Nat.zero_le _, rfl, b2, l2, g2, BInv.start hx0 hx1⟩
        case round =>
          obtain ⟨k, lx, gx, hk, rfl, hbw, hl, hg, hI⟩ := hrel
          have HI := Lib.hid hI
          clear hI
          by_cases hlt : k < m + 1
          · have hll := HL.out
            obtain ⟨⟨x, y⟩, hxy⟩ : ∃ a, ps[k]? = some a := ⟨_, List.getElem?_eq_getElem (by omega)⟩
            obtain ⟨e0, e1⟩ := hcell k x y hxy
            have bbr := bb.trans (hbw.mono bb.size)
            have d0 := (bbr.cell (p := ⟨b, off + k * 2, none⟩) hb).trans e0
            have d1 := (bbr.cell (p := ⟨b, off + k * 2 + 1, none⟩) hb).trans e1
            have hlL := (Array.getElem?_eq_some_iff.1 hl).1
            have hgL := (Array.getElem?_eq_some_iff.1 hg).1
            have c0 := cell_of_row wr _ 0 _ _ _ hl
            have c1 := cell_of_row wr _ 1 _ _ _ hl
            have c2 := cell_of_row wr _ 0 _ _ _ hg
            have c3 := cell_of_row wr _ 1 _ _ _ hg
            have f0 := fun j => frozen_of_row wr _ j _ _ hl
            have f1 := fun j => frozen_of_row wr _ j _ _ hg
            simp only [List.getElem?_toArray, List.getElem?_cons_zero, List.getElem?_cons_succ] at c0 c1 c2 c3
            have nL : w1.heap.size ≠ wr.heap.size := by omega
            have nG : w1.heap.size + 1 ≠ wr.heap.size := by omega
            have HX := Lib.hid (HI.out.step hxy)
            have hLG : w1.heap.size + 1 ≠ (⟨w1.heap.size, 0, none⟩ : Addr).block := by simp only []; omega
            have hGL : w1.heap.size ≠ (⟨w1.heap.size + 1, 0, none⟩ : Addr).block := by simp only []; omega
            clear e0 e1 hxy hll
            go_wp2
            go_roundw
            case rel =>
              refine ⟨k + 1, _, _, by omega, by go_num, ((hbw.setCell (p := ⟨w1.heap.size, 0, none⟩) (by simp only []; omega) _).setCell (p := ⟨w1.heap.size + 1, 0, none⟩) (by simp only []; omega) _).alloc (by simp; exact hbw.size) _, ?_, ?_, HX.out⟩
              · refine (((Below.refl (wr.heap.size) _).alloc (by simp) _).block _ hlL).trans ((heap_setCell_other _ _ _ _ hGL).trans ((heap_setCell_same wr _ 0 _ _ _ hl).trans rfl))
              · refine (((Below.refl (wr.heap.size) _).alloc (by simp) _).block _ hgL).trans ((heap_setCell_same _ _ 0 _ _ _ ((heap_setCell_other _ _ _ _ hLG).trans hg)).trans rfl)
            case measure => simp [intOf]; omega
          · obtain rfl : k = m + 1 := by omega
            have e1 : boxOk ps = true := by unfold boxOk; rw [HP.out]; simp; exact fun e => h0 (by rw [e]; rfl)
            have e2 : boxR ps = ((lx, y0), (gx, y1)) := by unfold boxR; rw [e1, if_pos rfl]; exact HI.out.done HL.out hpic.2.2 hx0 hx1
            have HE := Lib.hid (And.intro e1 e2)
            have hwb := bb.size
            have s0 := (hbw.block w.heap.size (by have := b1.size; omega)).trans r0
            have s1 := (hbw.block (w.heap.size + 1) (by have := b1.size; omega)).trans r1
            have c0 := cell_of_row wr _ 0 _ _ _ s0
            have c1 := cell_of_row wr _ 1 _ _ _ s0
            have c2 := cell_of_row wr _ 0 _ _ _ s1
            have c3 := cell_of_row wr _ 1 _ _ _ s1
            have c4 := cell_of_row wr _ 0 _ _ _ hl
            have c5 := cell_of_row wr _ 1 _ _ _ hl
            have c6 := cell_of_row wr _ 0 _ _ _ hg
            have c7 := cell_of_row wr _ 1 _ _ _ hg
            have f0 := fun j => frozen_of_row wr _ j _ _ s0
            have f1 := fun j => frozen_of_row wr _ j _ _ s1
            simp only [List.getElem?_toArray, List.getElem?_cons_zero, List.getElem?_cons_succ] at c0 c1 c2 c3 c4 c5 c6 c7
            have bbr := bb.trans (hbw.mono bb.size)
            have hz := b1.size
            have n1 : w1.heap.size ≠ w.heap.size := by omega
            have n2 : w1.heap.size ≠ w.heap.size + 1 := by omega
            have n3 : w1.heap.size + 1 ≠ w.heap.size := by omega
            have n4 : w1.heap.size + 1 ≠ w.heap.size + 1 := by omega
            have n5 := n1.symm
            have n6 := n2.symm
            have n7 := n3.symm
            have n8 := n4.symm
            clear e1 e2
            go_wp2_with fail
            go_region_held3 (fun w' => w'.cell? ⟨w1.heap.size, 0, none⟩ = some (.int .i64 lx) ∧ w'.cell? ⟨w1.heap.size, 1, none⟩ = some (.int .i64 y0) ∧ w'.cell? ⟨w1.heap.size + 1, 0, none⟩ = some (.int .i64 gx) ∧ w'.cell? ⟨w1.heap.size + 1, 1, none⟩ = some (.int .i64 y1)) (go_keep) (fail)
            go_wp2
            refine bodyPost_ret (v := .tuple #[.agg #[.int .i64 lx, .int .i64 y0], .agg #[.int .i64 gx, .int .i64 y1], .bool true]) (by simp [results, Tryz.results114, go_sem, c0, c1, c2, c3]) rfl ⟨by rw [HE.out.1, HE.out.2], ?_⟩
            exact ((((bbr.drew).setCell (p := ⟨w.heap.size, 0, none⟩) (Nat.le_refl _) _).setCell (p := ⟨w.heap.size, 1, none⟩) (Nat.le_refl _) _).setCell (p := ⟨w.heap.size + 1, 0, none⟩) (Nat.le_succ _) _).setCell (p := ⟨w.heap.size + 1, 1, none⟩) (Nat.le_succ _) _
      · obtain ⟨w2, hw2⟩ : ∃ w2, w2 = ((w1.alloc (.cells #[.int .i64 x1, .int .i64 y1] 53)).alloc (.cells #[.int .i64 x0, .int .i64 y0] 53)).drew := ⟨_, rfl⟩
        have b2 : Below w1.heap.size w1 w2 := by rw [hw2]; exact (((Below.refl _ _).alloc (Nat.le_refl _) _).alloc (by simp) _).drew
        have l2 : w2.heap[w1.heap.size + 1]? = some (.cells #[.int .i64 x0, .int .i64 y0] 53 (0, 0)) := by rw [hw2]; exact second_block _ _ _
        have g2 : w2.heap[w1.heap.size]? = some (.cells #[.int .i64 x1, .int .i64 y1] 53 (0, 0)) := by rw [hw2]; exact first_block _ _ _
        rw [← hw2]
        clear hw2
        go_wp2
        go_loopw [30] (fun i wr => ∃ (k : Nat) (lx gx : Int), k ≤ m + 1 ∧ i = .int .i64 k ∧ Below w1.heap.size w1 wr ∧ wr.heap[w1.heap.size + 1]? = some (.cells #[.int .i64 lx, .int .i64 y0] 53 (0, 0)) ∧ wr.heap[w1.heap.size]? = some (.cells #[.int .i64 gx, .int .i64 y1] 53 (0, 0)) ∧ BInv ps k lx gx) (fun i _ => m + 1 - (intOf i).toNat)
        case atStart => exact ⟨0, x0, x1, Nat.zero_le _, rfl, b2, l2, g2, BInv.start hx0 hx1⟩
        case round =>
          obtain ⟨k, lx, gx, hk, rfl, hbw, hl, hg, hI⟩ := hrel
          have HI := Lib.hid hI
          clear hI
          by_cases hlt : k < m + 1
          · have hll := HL.out
            obtain ⟨⟨x, y⟩, hxy⟩ : ∃ a, ps[k]? = some a := ⟨_, List.getElem?_eq_getElem (by omega)⟩
            obtain ⟨e0, e1⟩ := hcell k x y hxy
            have bbr := bb.trans (hbw.mono bb.size)
            have d0 := (bbr.cell (p := ⟨b, off + k * 2, none⟩) hb).trans e0
            have d1 := (bbr.cell (p := ⟨b, off + k * 2 + 1, none⟩) hb).trans e1
            have hlL := (Array.getElem?_eq_some_iff.1 hl).1
            have hgL := (Array.getElem?_eq_some_iff.1 hg).1
            have c0 := cell_of_row wr _ 0 _ _ _ hl
            have c1 := cell_of_row wr _ 1 _ _ _ hl
            have c2 := cell_of_row wr _ 0 _ _ _ hg
            have c3 := cell_of_row wr _ 1 _ _ _ hg
            have f0 := fun j => frozen_of_row wr _ j _ _ hl
            have f1 := fun j => frozen_of_row wr _ j _ _ hg
            simp only [List.getElem?_toArray, List.getElem?_cons_zero, List.getElem?_cons_succ] at c0 c1 c2 c3
            have nL : w1.heap.size + 1 ≠ wr.heap.size := by omega
            have nG : w1.heap.size ≠ wr.heap.size := by omega
            have HX := Lib.hid (HI.out.step hxy)
            have hLG : w1.heap.size ≠ (⟨w1.heap.size + 1, 0, none⟩ : Addr).block := by simp only []; omega
            have hGL : w1.heap.size + 1 ≠ (⟨w1.heap.size, 0, none⟩ : Addr).block := by simp only []; omega
            clear e0 e1 hxy hll
            go_wp2
            go_roundw
            case rel =>
              refine ⟨k + 1, _, _, by omega, by go_num, ((hbw.setCell (p := ⟨w1.heap.size + 1, 0, none⟩) (by simp only []; omega) _).setCell (p := ⟨w1.heap.size, 0, none⟩) (by simp only []; omega) _).alloc (by simp; exact hbw.size) _, ?_, ?_, HX.out⟩
              · refine (((Below.refl (wr.heap.size) _).alloc (by simp) _).block _ hlL).trans ((heap_setCell_other _ _ _ _ hGL).trans ((heap_setCell_same wr _ 0 _ _ _ hl).trans rfl))
              · refine (((Below.refl (wr.heap.size) _).alloc (by simp) _).block _ hgL).trans ((heap_setCell_same _ _ 0 _ _ _ ((heap_setCell_other _ _ _ _ hLG).trans hg)).trans rfl)
            case measure => simp [intOf]; omega
          · obtain rfl : k = m + 1 := by omega
            have e1 : boxOk ps = true := by unfold boxOk; rw [HP.out]; simp; exact fun e => h0 (by rw [e]; rfl)
            have e2 : boxR ps = ((lx, y0), (gx, y1)) := by unfold boxR; rw [e1, if_pos rfl]; exact HI.out.done HL.out hpic.2.2 hx0 hx1
            have HE := Lib.hid (And.intro e1 e2)
            have hwb := bb.size
            have s0 := (hbw.block w.heap.size (by have := b1.size; omega)).trans r0
            have s1 := (hbw.block (w.heap.size + 1) (by have := b1.size; omega)).trans r1
            have c0 := cell_of_row wr _ 0 _ _ _ s0
            have c1 := cell_of_row wr _ 1 _ _ _ s0
            have c2 := cell_of_row wr _ 0 _ _ _ s1
            have c3 := cell_of_row wr _ 1 _ _ _ s1
            have c4 := cell_of_row wr _ 0 _ _ _ hl
            have c5 := cell_of_row wr _ 1 _ _ _ hl
            have c6 := cell_of_row wr _ 0 _ _ _ hg
            have c7 := cell_of_row wr _ 1 _ _ _ hg
            have f0 := fun j => frozen_of_row wr _ j _ _ s0
            have f1 := fun j => frozen_of_row wr _ j _ _ s1
            simp only [List.getElem?_toArray, List.getElem?_cons_zero, List.getElem?_cons_succ] at c0 c1 c2 c3 c4 c5 c6 c7
            have bbr := bb.trans (hbw.mono bb.size)
            have hz := b1.size
            have n1 : w1.heap.size + 1 ≠ w.heap.size := by omega
            have n2 : w1.heap.size + 1 ≠ w.heap.size + 1 := by omega
            have n3 : w1.heap.size ≠ w.heap.size := by omega
            have n4 : w1.heap.size ≠ w.heap.size + 1 := by omega
            have n5 := n1.symm
            have n6 := n2.symm
            have n7 := n3.symm
            have n8 := n4.symm
            clear e1 e2
            go_wp2_with fail
            go_region_held3 (fun w' => w'.cell? ⟨w1.heap.size + 1, 0, none⟩ = some (.int .i64 lx) ∧ w'.cell? ⟨w1.heap.size + 1, 1, none⟩ = some (.int .i64 y0) ∧ w'.cell? ⟨w1.heap.size, 0, none⟩ = some (.int .i64 gx) ∧ w'.cell? ⟨w1.heap.size, 1, none⟩ = some (.int .i64 y1)) (go_keep) (fail)
            go_wp2
            refine bodyPost_ret (v := .tuple #[.agg #[.int .i64 lx, .int .i64 y0], .agg #[.int .i64 gx, .int .i64 y1], .bool true]) (by simp [results, Tryz.results114, go_sem, c0, c1, c2, c3]) rfl ⟨by rw [HE.out.1, HE.out.2], ?_⟩
            exact ((((bbr.drew).setCell (p := ⟨w.heap.size, 0, none⟩) (Nat.le_refl _) _).setCell (p := ⟨w.heap.size, 1, none⟩) (Nat.le_refl _) _).setCell (p := ⟨w.heap.size + 1, 0, none⟩) (Nat.le_succ _) _).setCell (p := ⟨w.heap.size + 1, 1, none⟩) (Nat.le_succ _) _
end
/-! ### BoxH -/
section
open Go.RowKit Go.Sort

theorem IsBox.step {ps : List Sp} {k : Nat} {lx ly gx gy x y : Int} (h : IsBox (ps.take k) (lx, ly) (gx, gy)) (hx : ps[k]? = some (x, y)) :
    IsBox (ps.take (k + 1)) ((if x < lx then x else lx), (if y < ly then y else ly)) ((if gx < x then x else gx), (if gy < y then y else gy)) := by
  have h' := h.more (x, y)
  have e : ps.take (k + 1) = ps.take k ++ [(x, y)] := by rw [List.take_add_one, hx]; rfl
  have e1 : ((if x < lx then x else lx), (if y < ly then y else ly)) = lowS (lx, ly) (x, y) := by
    unfold lowS; simp only [Int.min_def]; apply sp_ext <;> simp only [] <;> split <;> split <;> omega
  have e2 : ((if gx < x then x else gx), (if gy < y then y else gy)) = highS (gx, gy) (x, y) := by
    unfold highS; simp only [Int.max_def]; apply sp_ext <;> simp only [] <;> split <;> split <;> omega
  rw [e, e1, e2]
  exact h'
end
end Go.Proofs.YtkiidmdgdjphjaaGreat
