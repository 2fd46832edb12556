/- GrownShrunk, ShrunkGrown and FitsAt of the program. No conditions but those typed. -/
import Derived.Test.YtkiidmdgdjphjaaGreatShrunkI
import Derived.Test.YtkiidmdgdjphjaaGreatSumI
import Derived.Test.YtkiidmdgdjphjaaGreatHas2
import Derived.Laws.EntriesVeiled
namespace Go.Proofs.YtkiidmdgdjphjaaGreat
open Go.RowKit Go.Sort

/-! ### growing and shrinking as a pair -/
def AdjPost (u : Value) (w : World) (e : Ending) (w' : World) : Prop := ∃ B : Nat, e = .returned (.agg #[.func (.func 137) #[] #[.pointer (some ⟨B, 0, none⟩)], .func (.func 138) #[] #[.pointer (some ⟨B, 0, none⟩)]]) ∧
    B < w'.heap.size ∧ w'.cell? ⟨B, 0, none⟩ = some u ∧ Below w.heap.size w w'
theorem adjointBy_any (A : Option Addr) (n c : Nat) (w : World) : Calls Tryz.prog 123 #[.slice A n c] w (AdjPost (.slice A n c) w) := by
  go_enter Tryz.func123, Tryz.ntmps123
  go_wp2
  refine bodyPost_ret (v := .agg #[.func (.func 137) #[] #[.pointer (some ⟨w.heap.size, 0, none⟩)], .func (.func 138) #[] #[.pointer (some ⟨w.heap.size, 0, none⟩)]]) (by simp [results, Tryz.results123, go_sem]) rfl ⟨w.heap.size, rfl, ?_, ?_, ?_⟩
  · simp; omega
  · simp [go_sem, World.cell?_alloc_past]
  · exact (((Below.refl _ _).alloc (Nat.le_refl _) _).alloc (by simp) _)

theorem grow_any (B : Nat) (ps qs : List Sp) (v u : Value) (w : World) (h : Reads w w.heap.size v ps) (k : Reads w w.heap.size u qs) (hB : w.cell? ⟨B, 0, none⟩ = some u) :
    Calls Tryz.prog 137 #[v, .pointer (some ⟨B, 0, none⟩)] w (Gives2' (sumR ps qs) (sumOk ps qs) w) := by
  obtain ⟨A, c, rfl, _, _⟩ := h.slice
  obtain ⟨A', c', rfl, _, _⟩ := k.slice
  go_enter Tryz.func137, Tryz.ntmps137
  go_wp2_with fail
  refine (implSum_any ps qs _ _ _ h k).mono ?_
  rintro e w1 ⟨v1, rfl, o1, b1⟩
  go_wp2
  go_ret2
  exact ⟨_, rfl, o1, b1⟩
theorem shrinkC_any (B : Nat) (ps qs : List Sp) (v u : Value) (w : World) (h : Reads w w.heap.size v ps) (k : Reads w w.heap.size u qs) (hB : w.cell? ⟨B, 0, none⟩ = some u) :
    Calls Tryz.prog 138 #[v, .pointer (some ⟨B, 0, none⟩)] w (Gives2' (shrinkR ps qs) (shrinkOk ps qs) w) := by
  obtain ⟨A, c, rfl, _, _⟩ := h.slice
  obtain ⟨A', c', rfl, _, _⟩ := k.slice
  go_enter Tryz.func138, Tryz.ntmps138
  go_wp2_with fail
  refine (implShrunk_any ps qs _ _ _ h k).mono ?_
  rintro e w1 ⟨v1, rfl, o1, b1⟩
  go_wp2
  go_ret2
  exact ⟨_, rfl, o1, b1⟩

theorem grownShrunkTurn_any (B : Nat) (ps qs : List Sp) (v u : Value) (w : World) (h : Reads w w.heap.size v ps) (k : Reads w w.heap.size u qs) (hB : B < w.heap.size) (hc : w.cell? ⟨B, 0, none⟩ = some u) :
    Calls Tryz.prog 88 #[v, .func (.func 137) #[] #[.pointer (some ⟨B, 0, none⟩)], .func (.func 138) #[] #[.pointer (some ⟨B, 0, none⟩)]] w (Gives2' (grownShrunkR ps qs) (grownShrunkOk ps qs) w) := by
  obtain ⟨A, c, rfl, _, _⟩ := h.slice
  have c1 := grow_any B ps qs _ _ _ h k hc
  rcases hk : sumOk ps qs with _ | _
  · obtain ⟨e1, e2⟩ := grownShrunk_no hk
    rw [e1, e2]
    rw [hk] at c1
    clear hk hc
    go_enter Tryz.func88, Tryz.ntmps88
    go_wp2_with fail
    refine c1.mono ?_
    rintro e w1 ⟨v1, rfl, _, b1⟩
    go_wp2
    go_ret2
    exact ⟨_, rfl, Owns.nil _ _, b1⟩
  · obtain ⟨e1, e2⟩ := grownShrunk_yes hk
    rw [e1, e2]
    rw [hk] at c1
    clear hk
    go_enter Tryz.func88, Tryz.ntmps88
    go_wp2_with fail
    refine c1.mono ?_
    rintro e w1 ⟨v1, rfl, o1, b1⟩
    have c2 := shrinkC_any B _ qs _ _ _ o1.reads (k.kept b1) ((b1.cell (p := ⟨B, 0, none⟩) hB).trans hc)
    clear c1 hc
    go_wp2_with fail
    refine c2.mono ?_
    rintro e w2 ⟨v2, rfl, o2, b2⟩
    go_wp2
    go_ret2
    exact ⟨_, rfl, o2.base b1.size, below_step b1 b2⟩
theorem shrunkGrownTurn_any (B : Nat) (ps qs : List Sp) (v u : Value) (w : World) (h : Reads w w.heap.size v ps) (k : Reads w w.heap.size u qs) (hB : B < w.heap.size) (hc : w.cell? ⟨B, 0, none⟩ = some u) :
    Calls Tryz.prog 88 #[v, .func (.func 138) #[] #[.pointer (some ⟨B, 0, none⟩)], .func (.func 137) #[] #[.pointer (some ⟨B, 0, none⟩)]] w (Gives2' (shrunkGrownR ps qs) (shrunkGrownOk ps qs) w) := by
  obtain ⟨A, c, rfl, _, _⟩ := h.slice
  have c1 := shrinkC_any B ps qs _ _ _ h k hc
  rcases hk : shrinkOk ps qs with _ | _
  · obtain ⟨e1, e2⟩ := shrunkGrown_no hk
    rw [e1, e2]
    rw [hk] at c1
    clear hk hc
    go_enter Tryz.func88, Tryz.ntmps88
    go_wp2_with fail
    refine c1.mono ?_
    rintro e w1 ⟨v1, rfl, _, b1⟩
    go_wp2
    go_ret2
    exact ⟨_, rfl, Owns.nil _ _, b1⟩
  · obtain ⟨e1, e2⟩ := shrunkGrown_yes hk
    rw [e1, e2]
    rw [hk] at c1
    clear hk
    go_enter Tryz.func88, Tryz.ntmps88
    go_wp2_with fail
    refine c1.mono ?_
    rintro e w1 ⟨v1, rfl, o1, b1⟩
    have c2 := grow_any B _ qs _ _ _ o1.reads (k.kept b1) ((b1.cell (p := ⟨B, 0, none⟩) hB).trans hc)
    clear c1 hc
    go_wp2_with fail
    refine c2.mono ?_
    rintro e w2 ⟨v2, rfl, o2, b2⟩
    go_wp2
    go_ret2
    exact ⟨_, rfl, o2.base b1.size, below_step b1 b2⟩
theorem implShrunkGrown_any (ps qs : List Sp) (v u : Value) (w : World) (h : Reads w w.heap.size v ps) (k : Reads w w.heap.size u qs) :
    Calls Tryz.prog 103 #[v, u] w (Gives2' (shrunkGrownR ps qs) (shrunkGrownOk ps qs) w) := by
  obtain ⟨A, c, rfl, _, _⟩ := h.slice
  obtain ⟨A', c', rfl, _, _⟩ := k.slice
  go_enter Tryz.func103, Tryz.ntmps103
  go_wp2_with fail
  refine (adjointBy_any _ _ _ _).mono ?_
  rintro e w1 ⟨B, rfl, hB, cB, b1⟩
  have b2 := (Below.refl w1.heap.size w1).alloc (Nat.le_refl _) (.cells #[.func (.func 137) #[] #[.pointer (some ⟨B, 0, none⟩)], .func (.func 138) #[] #[.pointer (some ⟨B, 0, none⟩)]] 127)
  have bw2 := below_step b1 b2
  have cB2 := (b2.cell (p := ⟨B, 0, none⟩) hB).trans cB
  have c3 := shrunkGrownTurn_any B ps qs _ _ _ (h.kept bw2) (k.kept bw2) (Nat.lt_of_lt_of_le hB b2.size) cB2
  clear cB
  go_wp2_with fail
  refine c3.mono ?_
  rintro e w3 ⟨v3, rfl, o3, b3⟩
  go_wp2
  go_ret2
  exact ⟨_, rfl, o3.base bw2.size, below_step bw2 b3⟩

end Go.Proofs.YtkiidmdgdjphjaaGreat
