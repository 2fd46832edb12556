/- GrownShrunk, ShrunkGrown and FitsAt of the program. No conditions but those typed. -/
import Derived.Test.YtfofmfkdkihhbabShrunkI
import Derived.Test.YtfofmfkdkihhbabSumI
import Derived.Test.YtfofmfkdkihhbabHas2
import Derived.Laws.EntriesVeiled
namespace Go.Proofs.Ytfofmfkdkihhbab
open Go.RowKit Go.Sort

/-! ### growing and shrinking as a pair -/
def AdjPost (u : Value) (w : World) (e : Ending) (w' : World) : Prop := ∃ B : Nat, e = .returned (.agg #[.func (.func 79) #[] #[.pointer (some ⟨B, 0, none⟩)], .func (.func 80) #[] #[.pointer (some ⟨B, 0, none⟩)]]) ∧
    B < w'.heap.size ∧ w'.cell? ⟨B, 0, none⟩ = some u ∧ Below w.heap.size w w'
theorem adjointBy_any (A : Option Addr) (n c : Nat) (w : World) : Calls Try.prog 55 #[.slice A n c] w (AdjPost (.slice A n c) w) := by
  go_enter Try.func55, Try.ntmps55
  go_wp2
  refine bodyPost_ret (v := .agg #[.func (.func 79) #[] #[.pointer (some ⟨w.heap.size, 0, none⟩)], .func (.func 80) #[] #[.pointer (some ⟨w.heap.size, 0, none⟩)]]) (by simp [results, Try.results55, go_sem]) rfl ⟨w.heap.size, rfl, ?_, ?_, ?_⟩
  · simp; omega
  · simp [go_sem, World.cell?_alloc_past]
  · exact (((Below.refl _ _).alloc (Nat.le_refl _) _).alloc (by simp) _)

theorem grow_any (B : Nat) (ps qs : List Sp) (v u : Value) (w : World) (h : Reads w w.heap.size v ps) (k : Reads w w.heap.size u qs) (hB : w.cell? ⟨B, 0, none⟩ = some u) :
    Calls Try.prog 79 #[v, .pointer (some ⟨B, 0, none⟩)] w (Gives2' (sumR ps qs) (sumOk ps qs) w) := by
  obtain ⟨A, c, rfl, _, _⟩ := h.slice
  obtain ⟨A', c', rfl, _, _⟩ := k.slice
  go_enter Try.func79, Try.ntmps79
  go_wp2_with fail
  refine (implSum_any ps qs _ _ _ h k).mono ?_
  rintro e w1 ⟨v1, rfl, o1, b1⟩
  go_wp2
  go_ret2
  exact ⟨_, rfl, o1, b1⟩
theorem shrinkC_any (B : Nat) (ps qs : List Sp) (v u : Value) (w : World) (h : Reads w w.heap.size v ps) (k : Reads w w.heap.size u qs) (hB : w.cell? ⟨B, 0, none⟩ = some u) :
    Calls Try.prog 80 #[v, .pointer (some ⟨B, 0, none⟩)] w (Gives2' (shrinkR ps qs) (shrinkOk ps qs) w) := by
  obtain ⟨A, c, rfl, _, _⟩ := h.slice
  obtain ⟨A', c', rfl, _, _⟩ := k.slice
  go_enter Try.func80, Try.ntmps80
  go_wp2_with fail
  refine (implShrunk_any ps qs _ _ _ h k).mono ?_
  rintro e w1 ⟨v1, rfl, o1, b1⟩
  go_wp2
  go_ret2
  exact ⟨_, rfl, o1, b1⟩

theorem grownShrunkTurn_any (B : Nat) (ps qs : List Sp) (v u : Value) (w : World) (h : Reads w w.heap.size v ps) (k : Reads w w.heap.size u qs) (hB : B < w.heap.size) (hc : w.cell? ⟨B, 0, none⟩ = some u) :
    Calls Try.prog 56 #[v, .func (.func 79) #[] #[.pointer (some ⟨B, 0, none⟩)], .func (.func 80) #[] #[.pointer (some ⟨B, 0, none⟩)]] w (Gives2' (grownShrunkR ps qs) (grownShrunkOk ps qs) w) := by
  obtain ⟨A, c, rfl, _, _⟩ := h.slice
  have c1 := grow_any B ps qs _ _ _ h k hc
  rcases hk : sumOk ps qs with _ | _
  · obtain ⟨e1, e2⟩ := grownShrunk_no hk
    rw [e1, e2]
    rw [hk] at c1
    clear hk hc
    go_enter Try.func56, Try.ntmps56
    go_wp2_with fail
    refine c1.mono ?_
    rintro e w1 ⟨v1, rfl, _, b1⟩
    go_wp2
    go_ret2
    exact ⟨_, rfl, Owns.nil _ _, b1⟩
  · obtain ⟨e1, e2⟩ := grownShrunk_yes hk
    rw [e1, e2]
    rw [hk] at c1
    clear hk
    go_enter Try.func56, Try.ntmps56
    go_wp2_with fail
    refine c1.mono ?_
    rintro e w1 ⟨v1, rfl, o1, b1⟩
    have c2 := shrinkC_any B _ qs _ _ _ o1.reads (k.kept b1) ((b1.cell (p := ⟨B, 0, none⟩) hB).trans hc)
    clear c1 hc
    go_wp2_with fail
    refine c2.mono ?_
    rintro e w2 ⟨v2, rfl, o2, b2⟩
    go_wp2
    go_ret2
    exact ⟨_, rfl, o2.base b1.size, below_step b1 b2⟩
theorem implGrownShrunk_any (ps qs : List Sp) (v u : Value) (w : World) (h : Reads w w.heap.size v ps) (k : Reads w w.heap.size u qs) :
    Calls Try.prog 26 #[v, u] w (Gives2' (grownShrunkR ps qs) (grownShrunkOk ps qs) w) := by
  obtain ⟨A, c, rfl, _, _⟩ := h.slice
  obtain ⟨A', c', rfl, _, _⟩ := k.slice
  go_enter Try.func26, Try.ntmps26
  go_wp2_with fail
  refine (adjointBy_any _ _ _ _).mono ?_
  rintro e w1 ⟨B, rfl, hB, cB, b1⟩
  have b2 := (Below.refl w1.heap.size w1).alloc (Nat.le_refl _) (.cells #[.func (.func 79) #[] #[.pointer (some ⟨B, 0, none⟩)], .func (.func 80) #[] #[.pointer (some ⟨B, 0, none⟩)]] 69)
  have bw2 := below_step b1 b2
  have cB2 := (b2.cell (p := ⟨B, 0, none⟩) hB).trans cB
  have c3 := grownShrunkTurn_any B ps qs _ _ _ (h.kept bw2) (k.kept bw2) (Nat.lt_of_lt_of_le hB b2.size) cB2
  clear cB
  go_wp2_with fail
  refine c3.mono ?_
  rintro e w3 ⟨v3, rfl, o3, b3⟩
  go_wp2
  go_ret2
  exact ⟨_, rfl, o3.base bw2.size, below_step bw2 b3⟩
theorem shrunkGrownTurn_any (B : Nat) (ps qs : List Sp) (v u : Value) (w : World) (h : Reads w w.heap.size v ps) (k : Reads w w.heap.size u qs) (hB : B < w.heap.size) (hc : w.cell? ⟨B, 0, none⟩ = some u) :
    Calls Try.prog 56 #[v, .func (.func 80) #[] #[.pointer (some ⟨B, 0, none⟩)], .func (.func 79) #[] #[.pointer (some ⟨B, 0, none⟩)]] w (Gives2' (shrunkGrownR ps qs) (shrunkGrownOk ps qs) w) := by
  obtain ⟨A, c, rfl, _, _⟩ := h.slice
  have c1 := shrinkC_any B ps qs _ _ _ h k hc
  rcases hk : shrinkOk ps qs with _ | _
  · obtain ⟨e1, e2⟩ := shrunkGrown_no hk
    rw [e1, e2]
    rw [hk] at c1
    clear hk hc
    go_enter Try.func56, Try.ntmps56
    go_wp2_with fail
    refine c1.mono ?_
    rintro e w1 ⟨v1, rfl, _, b1⟩
    go_wp2
    go_ret2
    exact ⟨_, rfl, Owns.nil _ _, b1⟩
  · obtain ⟨e1, e2⟩ := shrunkGrown_yes hk
    rw [e1, e2]
    rw [hk] at c1
    clear hk
    go_enter Try.func56, Try.ntmps56
    go_wp2_with fail
    refine c1.mono ?_
    rintro e w1 ⟨v1, rfl, o1, b1⟩
    have c2 := grow_any B _ qs _ _ _ o1.reads (k.kept b1) ((b1.cell (p := ⟨B, 0, none⟩) hB).trans hc)
    clear c1 hc
    go_wp2_with fail
    refine c2.mono ?_
    rintro e w2 ⟨v2, rfl, o2, b2⟩
    go_wp2
    go_ret2
    exact ⟨_, rfl, o2.base b1.size, below_step b1 b2⟩
theorem implShrunkGrown_any (ps qs : List Sp) (v u : Value) (w : World) (h : Reads w w.heap.size v ps) (k : Reads w w.heap.size u qs) :
    Calls Try.prog 29 #[v, u] w (Gives2' (shrunkGrownR ps qs) (shrunkGrownOk ps qs) w) := by
  obtain ⟨A, c, rfl, _, _⟩ := h.slice
  obtain ⟨A', c', rfl, _, _⟩ := k.slice
  go_enter Try.func29, Try.ntmps29
  go_wp2_with fail
  refine (adjointBy_any _ _ _ _).mono ?_
  rintro e w1 ⟨B, rfl, hB, cB, b1⟩
  have b2 := (Below.refl w1.heap.size w1).alloc (Nat.le_refl _) (.cells #[.func (.func 79) #[] #[.pointer (some ⟨B, 0, none⟩)], .func (.func 80) #[] #[.pointer (some ⟨B, 0, none⟩)]] 69)
  have bw2 := below_step b1 b2
  have cB2 := (b2.cell (p := ⟨B, 0, none⟩) hB).trans cB
  have c3 := shrunkGrownTurn_any B ps qs _ _ _ (h.kept bw2) (k.kept bw2) (Nat.lt_of_lt_of_le hB b2.size) cB2
  clear cB
  go_wp2_with fail
  refine c3.mono ?_
  rintro e w3 ⟨v3, rfl, o3, b3⟩
  go_wp2
  go_ret2
  exact ⟨_, rfl, o3.base bw2.size, below_step bw2 b3⟩

theorem implHas_is {b : Bool} {p : List Sp} {v : Value} {x y : Int} {w : World} (hk : hasB p (x, y) = b) (h : Reads w w.heap.size v p) : Calls Try.prog 59 #[v, .agg #[.int .i64 x, .int .i64 y]] w (Gives (.bool b) w) := by
  subst hk; exact implHas_any p v x y w h
theorem implFits_any (ps qs : List Sp) (v u : Value) (ax ay : Int) (w : World) (h : Reads w w.heap.size v ps) (k : Reads w w.heap.size u qs) :
    Calls Try.prog 32 #[v, u, .agg #[.int .i64 ax, .int .i64 ay]] w (Gives (.bool (fitsB ps qs (ax, ay))) w) := by
  obtain ⟨A, c, rfl, hc, hm, _⟩ := k.is
  obtain ⟨A', c', rfl, hc', hm', _⟩ := h.is
  have h1 := h.kept (box_below w #[.int .i64 ax, .int .i64 ay] 32)
  have k1 := k.kept (box_below w #[.int .i64 ax, .int .i64 ay] 32)
  rcases hk : shrinkOk ps qs with _ | _
  · rw [fits_no hk]
    go_enter Try.func32, Try.ntmps32
    go_wp2_with fail
    refine (implShrunk_is hk h1 k1).mono ?_
    rintro e w1 ⟨v1, rfl, own1, b1⟩
    go_wp2
    go_ret
    exact ⟨rfl, below_step (box_below _ _ _) b1⟩
  · rw [fits_yes hk]
    have hp : picB (shrinkR ps qs) = true := by rw [(shrink_is hk).eq]; exact (shrink_is hk).ps
    have hh : hasB (shrinkR ps qs) (ax, ay) = decide ((ax, ay) ∈ shrinkR ps qs) := hasB_yes hp
    have HH := Lib.hid hh
    clear hp hh
    go_enter Try.func32, Try.ntmps32
    go_wp2_with fail
    refine (implShrunk_is hk h1 k1).mono ?_
    rintro e w1 ⟨v1, rfl, own1, b1⟩
    have c0 := (b1.cell (p := ⟨w.heap.size, 0, none⟩) (by simp)).trans (show _ = some (Value.int .i64 ax) by simp [go_sem])
    have c1 := (b1.cell (p := ⟨w.heap.size, 1, none⟩) (by simp)).trans (show _ = some (Value.int .i64 ay) by simp [go_sem])
    clear hk
    go_wp2_with fail
    refine (implHas_is HH.out own1.reads).mono ?_
    rintro e w2 ⟨rfl, b2⟩
    go_wp2
    go_ret
    exact ⟨ret_bool (by simp), below_step (below_step (box_below _ _ _) b1) b2⟩
end Go.Proofs.Ytfofmfkdkihhbab
