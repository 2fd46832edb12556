/- What desks' walks share: boxes in a row, what a deed makes and whether it is told, answers of desks. No conditions but those typed. -/
import Derived.Test.YtgdifenicjgfjaaDeskB
import Derived.Test.YtgdifenicjgfjaaDeskC
namespace Go.Proofs.Ytgdifenicjgfjaa
open Go.RowKit Go.Sort

theorem three0 (w : World) (o1 o2 o3 : Obj) : (((w.alloc o1).alloc o2).alloc o3).heap[w.heap.size]? = some o1 := by
  have h1 := heap_alloc_new w o1
  exact (((Below.refl (w.heap.size + 1) (w.alloc o1)).alloc (by simp) o2).alloc (by simp) o3).block w.heap.size (by omega) |>.trans h1
theorem three1 (w : World) (o1 o2 o3 : Obj) : (((w.alloc o1).alloc o2).alloc o3).heap[w.heap.size + 1]? = some o2 := by
  have h1 := heap_alloc_new (w.alloc o1) o2
  rw [World.size_alloc] at h1
  exact ((Below.refl (w.heap.size + 2) ((w.alloc o1).alloc o2)).alloc (by simp) o3).block (w.heap.size + 1) (by omega) |>.trans h1
theorem three2 (w : World) (o1 o2 o3 : Obj) : (((w.alloc o1).alloc o2).alloc o3).heap[w.heap.size + 1 + 1]? = some o3 := by
  have h1 := heap_alloc_new ((w.alloc o1).alloc o2) o3
  rw [World.size_alloc, World.size_alloc] at h1
  exact h1
theorem cells3_of {w : World} {g : Nat} {a b c : Value} {T : TypeId} (h : w.heap[g]? = some (.cells #[a, b, c] T (0, 0))) : w.cell? ⟨g, 0, none⟩ = some a ∧ w.cell? ⟨g, 1, none⟩ = some b ∧ w.cell? ⟨g, 2, none⟩ = some c := by
  refine ⟨?_, ?_, ?_⟩ <;> simp [World.cell?, h]
/-- a desk that the call made, and a number -/
def GivesDeskN (d : Dk) (n : Int) (w : World) (e : Ending) (w' : World) : Prop := ∃ v', e = .returned (.tuple #[v', .int .i64 n]) ∧ DeskO w' w.heap.size w'.heap.size v' d ∧ Below w.heap.size w w'
theorem runR_snoc (d : Dk) (l : List Dd) (a : Dd) : runR d (l ++ [a]) = doR (runR d l) a := by rw [runR_append]; rfl
theorem runN_snoc (d : Dk) (l : List Dd) (a : Dd) : runN d (l ++ [a]) = runN d l + (if doOk (runR d l) a then 1 else 0) := by
  rw [runN_append]; rfl
theorem two0 (w : World) (o1 o2 : Obj) : ((w.alloc o1).alloc o2).heap[w.heap.size]? = some o1 := by
  have h1 := heap_alloc_new w o1
  exact ((Below.refl (w.heap.size + 1) (w.alloc o1)).alloc (by simp) o2).block w.heap.size (by omega) |>.trans h1
theorem two1 (w : World) (o1 o2 : Obj) : ((w.alloc o1).alloc o2).heap[w.heap.size + 1]? = some o2 := by
  have h1 := heap_alloc_new (w.alloc o1) o2
  rw [World.size_alloc] at h1
  exact h1
/-- a desk that the call made, and a truth -/
def GivesDesk2 (d : Dk) (b : Bool) (w : World) (e : Ending) (w' : World) : Prop := ∃ v', e = .returned (.tuple #[v', .bool b]) ∧ DeskO w' w.heap.size w'.heap.size v' d ∧ Below w.heap.size w w'
theorem desk_lens {d : Dk} (h : deskB d = true) : d.1.length ≤ 1000000 ∧ (∀ p ∈ d.2, p.length ≤ 1000000) ∧ d.2.length ≤ 1000000 := by
  have D := deskB_iff.1 h
  refine ⟨?_, fun p hp => ?_, ?_⟩
  · have := (picB_pic D.now).1; omega
  · have := (picB_pic (D.past p hp)).1; omega
  · have := D.few; omega
theorem deskDo_no {d : Dk} {a : Dd} (h : deskB d = false) : deskDoR d a = ([], []) ∧ deskDoOk d a = false := by unfold deskDoR deskDoOk; rw [h]; exact ⟨rfl, rfl⟩
theorem deskDo_yes {d : Dk} {a : Dd} (h : deskB d = true) : deskDoR d a = doR d a ∧ deskDoOk d a = doOk d a := by unfold deskDoR deskDoOk; rw [h]; exact ⟨rfl, rfl⟩
/-- a desk written into a box of before -/
theorem DeskO.boxed {w w' : World} {r lo : Nat} {v X Y : Value} {d : Dk} (h : DeskO w' lo w'.heap.size v d) (hr : r < lo) (hw : w.heap.size ≤ lo) : DeskO ((w'.setCell ⟨r, 0, none⟩ X).setCell ⟨r, 1, none⟩ Y) w.heap.size ((w'.setCell ⟨r, 0, none⟩ X).setCell ⟨r, 1, none⟩ Y).heap.size v d := by
  have h2 : DeskO ((w'.setCell ⟨r, 0, none⟩ X).setCell ⟨r, 1, none⟩ Y) lo w'.heap.size v d := h.keptBy (by simp) fun g h1 _ _ => set2_other (by omega)
  exact h2.wider hw (by simp) (Nat.le_refl _)
/-- a picture that is made, and whether it is told -/
def MadePost (p : List Sp) (a : Dd) (w : World) (e : Ending) (w' : World) : Prop :=
  (∃ m v, madeV p a = some m ∧ e = .returned (.tuple #[v, .bool true]) ∧ Reads w' w'.heap.size v m ∧ Below w.heap.size w w') ∨
  (∃ v q, madeV p a = none ∧ e = .returned (.tuple #[v, .bool false]) ∧ Reads w' w'.heap.size v q ∧ q.length ≤ 60 ∧ Below w.heap.size w w')
theorem made_of2 {p m : List Sp} {a : Dd} {b : Bool} {w w1 w' : World} {e : Ending} (hb : Below w.heap.size w w1) (h : Gives2' m b w1 e w') (hm : madeV p a = if b then some m else none) (hl : m.length ≤ 60) : MadePost p a w e w' := by
  obtain ⟨v', rfl, o, b1⟩ := h
  cases b with
  | true => exact .inl ⟨m, v', hm, rfl, o.reads, below_step hb b1⟩
  | false => exact .inr ⟨v', m, hm, rfl, o.reads, hl, below_step hb b1⟩
theorem unionL_le (p q : List Sp) : (unionL p q).length ≤ 60 := by
  unfold unionL
  split
  · rename_i h
    unfold unionOk at h
    rw [Bool.and_eq_true, decide_eq_true_eq] at h
    exact h.2
  · simp
theorem moveL_le (p : List Sp) (a : Sp) : (moveL p a).length ≤ 60 := by
  unfold moveL
  split
  · rename_i h
    unfold moveOk at h
    rw [Bool.and_eq_true] at h
    exact (picB_pic h.2).1
  · simp
theorem grownBallR_le (p : List Sp) (r way : Int) : (grownBallR p r way).length ≤ 60 := by
  unfold grownBallR
  split
  · exact sumR_le _ _
  · simp
theorem sieveR_le (p : List Sp) (s : Int) : (sieveR p s).length ≤ 60 := by
  rcases h : sieveOk p s with _ | _
  · rw [sieve_no h]; simp
  · exact (picB_pic (sieve_within h).2).1
theorem bothR_le' (p : List Sp) : (bothR p).length ≤ 60 := by
  rcases h : bothOk p with _ | _
  · have : bothR p = [] := by
      unfold bothOk at h
      unfold bothR
      cases e : bothV p with
      | none => rfl
      | some s => rw [e] at h; cases h
    rw [this]; simp
  · exact (picB_pic (both_is h).pics).1
theorem made0 (p : List Sp) (x y : Int) : madeV p ((0, x), y) = if unionOk p [(x, y)] then some (unionL p [(x, y)]) else none := rfl
theorem made1 (p : List Sp) (x y : Int) : madeV p ((1, x), y) = some (lessL p [(x, y)]) := rfl
theorem made2 (p : List Sp) (x y : Int) : madeV p ((2, x), y) = if moveOk p (x, y) then some (moveL p (x, y)) else none := rfl
theorem made3 (p : List Sp) (x y : Int) : madeV p ((3, x), y) = if x = 0 ∧ y = 0 then some (turnedP p) else none := rfl
theorem made4 (p : List Sp) (x y : Int) : madeV p ((4, x), y) = if (0 ≤ x ∧ x ≤ 1) ∧ y = 0 ∧ grownBallOk p 1 x = true then some (grownBallR p 1 x) else none := rfl
theorem made5 (p : List Sp) (x y : Int) : madeV p ((5, x), y) = if (0 ≤ x ∧ x ≤ 1) ∧ y = 0 ∧ shrinkOk p (ballL 1 x) = true then some (shrinkR p (ballL 1 x)) else none := rfl
theorem made6 (p : List Sp) (x y : Int) : madeV p ((6, x), y) = if y = 0 ∧ sieveOk p x = true then some (sieveR p x) else none := rfl
theorem made7 (p : List Sp) (x y : Int) : madeV p ((7, x), y) = if (x = 0 ∧ y = 0) ∧ bothOk p = true then some (bothR p) else none := rfl
theorem lessL_le {p q : List Sp} (h : picB p = true) : (lessL p q).length ≤ 60 := (picB_pic (pic_filter h _)).1
theorem MadePost.after {p : List Sp} {a : Dd} {w w1 w' : World} {e : Ending} (hb : Below w.heap.size w w1) (h : MadePost p a w1 e w') : MadePost p a w e w' := by
  rcases h with ⟨m, v, h1, h2, h3, h4⟩ | ⟨v, q, h1, h2, h3, h5, h4⟩
  · exact .inl ⟨m, v, h1, h2, h3, below_step hb h4⟩
  · exact .inr ⟨v, q, h1, h2, h3, h5, below_step hb h4⟩
theorem MadePost.tuple {p : List Sp} {a : Dd} {w w' : World} {e : Ending} (h : MadePost p a w e w') : ∃ v b, e = .returned (.tuple #[v, .bool b]) := by
  rcases h with ⟨m, v, h1, h2, _⟩ | ⟨v, q, h1, h2, _⟩ <;> exact ⟨_, _, h2⟩
end Go.Proofs.Ytgdifenicjgfjaa
