/- Texts of one kind, merged: Deeds, DeedL. No conditions but those that stand in each theorem. -/
import Derived.Test.YtpdnakiilhohdaaDoorMem
import Derived.Test.YtpdnakiilhohdaaDoorMark
import Derived.Test.YtpdnakiilhohdaaDoorHas
namespace Go.Proofs.YtpdnakiilhohdaaDoor
/-! ### Deeds -/
section
open Go.RowKit Go.Sort

abbrev Cn := Sp × Int
def flatC (l : List Cn) : List Value := l.flatMap fun c => [.int .i64 c.1.1, .int .i64 c.1.2, .int .i64 c.2]
theorem flatC_nil : flatC [] = [] := rfl
theorem flatC_cons (a : Cn) (l : List Cn) : flatC (a :: l) = .int .i64 a.1.1 :: .int .i64 a.1.2 :: .int .i64 a.2 :: flatC l := rfl
theorem flatC_append (p q : List Cn) : flatC (p ++ q) = flatC p ++ flatC q := by simp [flatC]
theorem flatC_length : ∀ l : List Cn, (flatC l).length = l.length * 3
  | [] => rfl
  | a :: l => by rw [flatC_cons]; simp [flatC_length l]; omega
theorem flatC_at : ∀ {l : List Cn} {k : Nat} {x y r : Int}, l[k]? = some ((x, y), r) → (flatC l)[k * 3]? = some (.int .i64 x) ∧ (flatC l)[k * 3 + 1]? = some (.int .i64 y) ∧ (flatC l)[k * 3 + 2]? = some (.int .i64 r)
  | a :: l, 0, x, y, r, h => by cases h; exact ⟨rfl, rfl, rfl⟩
  | a :: l, k + 1, x, y, r, h => by
    have e0 : (k + 1) * 3 = k * 3 + 1 + 1 + 1 := by omega
    have ih := flatC_at (l := l) (k := k) (by simpa using h)
    rw [e0, flatC_cons]
    exact ih
theorem flatC_one : ∀ (l : List Cn), ∀ u ∈ flatC l, u.oneCell' = true := by
  intro l u hu
  obtain ⟨a, _, ha⟩ := List.mem_flatMap.1 hu
  simp at ha
  rcases ha with rfl | rfl | rfl <;> rfl

/-- the three cells of deed number k of a slice at block b from cell off on -/
structure At3 (w : World) (b off k : Nat) (x y r : Int) : Prop where
  c0 : w.cell? ⟨b, off + k * 3, none⟩ = some (.int .i64 x)
  c1 : w.cell? ⟨b, off + k * 3 + 1, none⟩ = some (.int .i64 y)
  c2 : w.cell? ⟨b, off + k * 3 + 2, none⟩ = some (.int .i64 r)
theorem At3.below {w w' : World} {B b off k : Nat} {x y r : Int} (h : At3 w b off k x y r) (hb : Below B w w') (hB : b < B) : At3 w' b off k x y r :=
  ⟨(hb.cell (p := ⟨b, off + k * 3, none⟩) hB).trans h.c0, (hb.cell (p := ⟨b, off + k * 3 + 1, none⟩) hB).trans h.c1, (hb.cell (p := ⟨b, off + k * 3 + 2, none⟩) hB).trans h.c2⟩
structure CReads (w : World) (B : Nat) (v : Value) (l : List Cn) : Prop where
  is : ∃ A c, v = .slice A l.length c ∧ l.length ≤ c ∧ c ≤ maxLen ∧ (A = none → c = 0) ∧
    (0 < c → ∃ b off, A = some ⟨b, off, none⟩ ∧ b < B ∧ ∀ k x y r, l[k]? = some ((x, y), r) → At3 w b off k x y r)
theorem CReads.below {w w' : World} {B : Nat} {v : Value} {l : List Cn} (h : CReads w B v l) (hb : Below B w w') : CReads w' B v l := by
  obtain ⟨A, c, h1, h2, h3, h4, h5⟩ := h.is
  refine ⟨A, c, h1, h2, h3, h4, fun hc => ?_⟩
  obtain ⟨b, off, h6, h7, h8⟩ := h5 hc
  exact ⟨b, off, h6, h7, fun k x y r hk => (h8 k x y r hk).below hb h7⟩
theorem CReads.more {w : World} {B B' : Nat} {v : Value} {l : List Cn} (h : CReads w B v l) (hB : B ≤ B') : CReads w B' v l := by
  obtain ⟨A, c, h1, h2, h3, h4, h5⟩ := h.is
  refine ⟨A, c, h1, h2, h3, h4, fun hc => ?_⟩
  obtain ⟨b, off, h6, h7, h8⟩ := h5 hc
  exact ⟨b, off, h6, by omega, h8⟩
theorem CReads.kept {w w' : World} {v : Value} {l : List Cn} (h : CReads w w.heap.size v l) (hb : Below w.heap.size w w') : CReads w' w'.heap.size v l := (h.below hb).more hb.size
theorem CReads.slice {w : World} {B : Nat} {v : Value} {l : List Cn} (h : CReads w B v l) : ∃ A c, v = .slice A l.length c ∧ l.length ≤ c ∧ c ≤ maxLen := by
  obtain ⟨A, c, h1, h2, h3, _⟩ := h.is
  exact ⟨A, c, h1, h2, h3⟩
theorem CReads.nil (w : World) (B : Nat) : CReads w B (.slice none 0 0) [] := ⟨none, 0, rfl, by simp, by simp [maxLen], fun _ => rfl, fun h => by omega⟩

def COwns (w : World) (base : Nat) (v : Value) (l : List Cn) : Prop := w.ownsRow base 24 3 v l.length (flatC l)
theorem COwns.reads {w : World} {base : Nat} {v : Value} {l : List Cn} (h : COwns w base v l) : CReads w w.heap.size v l := by
  obtain ⟨_, h2⟩ := h
  rcases h2 with ⟨rfl, h0⟩ | ⟨g, cap, cur, rfl, _, hg, hn, hc, hs, ht⟩
  · exact ⟨none, 0, by rw [h0], by omega, by simp [maxLen], fun _ => rfl, fun h => by omega⟩
  · refine ⟨some ⟨g, 0, none⟩, cap, rfl, hn, hc, fun h => (by cases h), fun _ => ⟨g, 0, rfl, (Array.getElem?_eq_some_iff.1 hg).1, fun k x y r hk => ?_⟩⟩
    have hk' : k < l.length := (List.getElem?_eq_some_iff.1 hk).1
    obtain ⟨c0, c1, c2⟩ := flatC_at hk
    rw [← ht, List.getElem?_take, if_pos (by omega)] at c0 c1 c2
    refine ⟨?_, ?_, ?_⟩
    · rw [cell_of_row w g _ cur _ (0, 0) hg, Nat.zero_add]; simpa using c0
    · rw [cell_of_row w g _ cur _ (0, 0) hg, Nat.zero_add]; simpa using c1
    · rw [cell_of_row w g _ cur _ (0, 0) hg, Nat.zero_add]; simpa using c2
theorem COwns.below {w w' : World} {base : Nat} {v : Value} {l : List Cn} (h : COwns w base v l) (hb : Below w.heap.size w w') : COwns w' base v l := by
  refine ⟨h.1, ?_⟩
  rcases h.2 with h0 | ⟨g, cap, cur, rfl, h1, hg, h2⟩
  · exact .inl h0
  · exact .inr ⟨g, cap, cur, rfl, h1, (hb.block g (Array.getElem?_eq_some_iff.1 hg).1).trans hg, h2⟩
theorem COwns.base {w : World} {base base' : Nat} {v : Value} {l : List Cn} (h : COwns w base v l) (hb : base' ≤ base) : COwns w base' v l := by
  refine ⟨h.1, ?_⟩
  rcases h.2 with h0 | ⟨g, cap, cur, rfl, h1, h2⟩
  · exact .inl h0
  · exact .inr ⟨g, cap, cur, rfl, by omega, h2⟩
theorem COwns.lt {w : World} {base : Nat} {v : Value} {l : List Cn} (h : COwns w base v l) : ∀ k, v.ownBlock = some k → base ≤ k ∧ k < w.heap.size := World.ownsRow.lt h
theorem COwns.empty (w : World) (base : Nat) (hb : base ≤ w.heap.size) : COwns (w.alloc (.cells #[] 24)) base (.slice (some ⟨w.heap.size, 0, none⟩) 0 0) [] :=
  World.ownsRow_lit w #[] 0 hb (by simp [maxLen]) rfl
theorem COwns.nil (w : World) (base : Nat) : COwns w base (.slice none 0 0) [] := World.ownsRow_nil w base _ _
theorem COwns.grown {w w' : World} {base : Nat} {v : Value} {l : List Cn} {row : Option Nat} (h : COwns w base v l) (hg : w.grownBy w' row) (hne : v.ownBlock = none ∨ v.ownBlock ≠ row) : COwns w' base v l := World.ownsRow.kept h hg hne
theorem COwns.below_app {a w w' : World} {base : Nat} {v : Value} {l : List Cn} (h : COwns w base v l) (hb : Below base a w) (hB : base ≤ w.heap.size) (hg : w.grownBy w' v.ownBlock) : Below base a w' :=
  hb.grown hg hB fun k hk => (h.lt k hk).1
theorem COwns.len {w : World} {base g n cap : Nat} {l : List Cn} (h : COwns w base (.slice (some ⟨g, 0, none⟩) n cap) l) : n = l.length := by
  obtain ⟨A, c, h1, _⟩ := h.reads.is
  cases h1; rfl
theorem COwns.free {w : World} {base g n cap : Nat} {l : List Cn} (h : COwns w base (.slice (some ⟨g, 0, none⟩) n cap) l) (j : Nat) : w.frozen? ⟨g, j, none⟩ = false := by
  have hn := h.len
  subst hn
  exact World.ownsRow.frozenAt h j
theorem COwns.there {w : World} {base g n cap : Nat} {l : List Cn} (h : COwns w base (.slice (some ⟨g, 0, none⟩) n cap) l) {k : Nat} (hk : k < l.length) : ∃ x y r, l[k]? = some ((x, y), r) ∧ w.cell? ⟨g, k * 3, none⟩ = some (.int .i64 x) ∧ w.cell? ⟨g, k * 3 + 1, none⟩ = some (.int .i64 y) ∧ w.cell? ⟨g, k * 3 + 2, none⟩ = some (.int .i64 r) := by
  have hn := h.len
  subst hn
  obtain ⟨⟨⟨x, y⟩, r⟩, hxy⟩ : ∃ a, l[k]? = some a := ⟨_, List.getElem?_eq_getElem hk⟩
  obtain ⟨c0, c1, c2⟩ := flatC_at hxy
  refine ⟨x, y, r, hxy, ?_, ?_, ?_⟩
  · rw [World.ownsRow.cellAt h _ (by omega), c0]
  · rw [World.ownsRow.cellAt h _ (by omega), c1]
  · rw [World.ownsRow.cellAt h _ (by omega), c2]
theorem COwns.set {w : World} {base g n cap : Nat} {l : List Cn} (h : COwns w base (.slice (some ⟨g, 0, none⟩) n cap) l) (k : Nat) (x y r : Int) (hk : k < l.length) :
    COwns (((w.setCell ⟨g, k * 3, none⟩ (.int .i64 x)).setCell ⟨g, k * 3 + 1, none⟩ (.int .i64 y)).setCell ⟨g, k * 3 + 2, none⟩ (.int .i64 r)) base (.slice (some ⟨g, 0, none⟩) n cap) (l.set k ((x, y), r)) := by
  have hn := h.len
  subst hn
  have h1 := (World.ownsRow.stored h (k * 3) (.int .i64 x)).1
  have h2 := (World.ownsRow.stored h1 (k * 3 + 1) (.int .i64 y)).1
  have h3 := (World.ownsRow.stored h2 (k * 3 + 2) (.int .i64 r)).1
  have e : (((flatC l).set (k * 3) (.int .i64 x)).set (k * 3 + 1) (.int .i64 y)).set (k * 3 + 2) (.int .i64 r) = flatC (l.set k ((x, y), r)) := by
    clear h h1 h2 h3
    induction l generalizing k with
    | nil => simp at hk
    | cons a l ih =>
      cases k with
      | zero => simp [flatC_cons]
      | succ k =>
        have e1 : (k + 1) * 3 = k * 3 + 1 + 1 + 1 := by omega
        rw [e1]
        simp only [flatC_cons, List.set_cons_succ]
        have := ih k (by simpa using hk)
        rw [← this]
  unfold COwns
  rw [List.length_set, ← e]
  exact h3

theorem centInfo : (Tryd.prog.info? 24).map (fun i => (i.zero, i.size, i.bytes)) = some (some (.agg #[.int .i64 0, .int .i64 0, .int .i64 0]), 3, 24) := by kernel_rfl
theorem CReads.cells {w : World} {B : Nat} {v : Value} {l : List Cn} (h : CReads w B v l) : (v = .slice none 0 0 ∧ l = []) ∨
    ∃ ad c, v = .slice (some ad) l.length c ∧ ∀ j u, (flatC l)[j]? = some u → w.cell? (ad.add j) = some u := by
  obtain ⟨A, c, rfl, h2, h3, h4, h5⟩ := h.is
  cases A with
  | none =>
    have hc := h4 rfl
    subst hc
    have hl : l.length = 0 := by omega
    exact .inl ⟨by rw [hl], List.eq_nil_of_length_eq_zero hl⟩
  | some ad =>
    refine .inr ⟨ad, c, rfl, fun j u hj => ?_⟩
    have hjl : j < l.length * 3 := by rw [← flatC_length]; exact (List.getElem?_eq_some_iff.1 hj).1
    obtain ⟨b, off, hA, _, hcell⟩ := h5 (by omega)
    cases hA
    obtain ⟨⟨⟨x, y⟩, r⟩, hxy⟩ : ∃ a, l[j / 3]? = some a := ⟨_, List.getElem?_eq_getElem (by omega)⟩
    have H := hcell _ x y r hxy
    obtain ⟨f0, f1, f2⟩ := flatC_at hxy
    rw [Addr.add_lit]
    have hm : j = j / 3 * 3 ∨ j = j / 3 * 3 + 1 ∨ j = j / 3 * 3 + 2 := by omega
    rcases hm with e | e | e
    · rw [e, f0] at hj; cases hj; rw [e]; exact H.c0
    · rw [e, f1] at hj; cases hj; rw [e, ← Nat.add_assoc]; exact H.c1
    · rw [e, f2] at hj; cases hj; rw [e, ← Nat.add_assoc]; exact H.c2
theorem run_append_cents {w : World} {base B : Nat} {v x : Value} {l m : List Cn} (ty : TypeId) (hown : COwns w base v l) (hx : CReads w B x m) (hl : l.length + m.length ≤ 5000000000000) (hbase : base ≤ w.heap.size) :
    ∃ v' w', (Builtin.append_ #[32, 32] ty #[v, x]).run Tryd.prog w = .ok v' w' ∧ COwns w' base v' (l ++ m) ∧ w.grownBy w' v.ownBlock ∧ (v'.ownBlock = v.ownBlock ∨ v'.ownBlock = some w.heap.size) := by
  obtain ⟨i0, hi, hz0, hz1, hz2⟩ := info_parts centInfo
  rcases hx.cells with ⟨rfl, rfl⟩ | ⟨ad, c, rfl, hc⟩
  · refine ⟨v, w, run_append_owned_none w base 32 ty 24 i0 3 Tryd.underlying32 hi v _ _ hown, ?_, World.grownBy.refl w _, .inl rfl⟩
    rw [List.append_nil]; exact hown
  · obtain ⟨v', w', h1, h2, h3, _, h5⟩ := run_append_own_at (P := Tryd.prog) w base 32 ty 24 i0 _ 3 24 Tryd.underlying32 hi hz0 hz1 hz2 rfl (by decide) v _ _ hown ad m.length c (flatC m) (flatC_length m) hc (flatC_one m) (by simp only [maxLen]; omega) (by omega) hbase
    refine ⟨v', w', h1, ?_, h3, h5⟩
    unfold COwns
    rw [List.length_append, flatC_append]
    exact h2
theorem wpList_append_cents {w : World} {ops : Array Oper} {rest : List Oper} {o : Oper} {a : Act} {Q : Exit → Act → World → Prop} {base B : Nat} {l m : List Cn} {v x : Value}
    (hown : COwns w base v l) (hx : CReads w B x m) (hl : l.length + m.length ≤ 5000000000000) (hbase : base ≤ w.heap.size)
    (hgd : o.guard = none) (s t : Operand) (ho : o.op = .call { callee := .builtin .append, args := #[s, t], argTypes := #[32, 32] })
    (hs : a.eval s = v) (ht : a.eval t = x)
    (h : ∀ v' w', COwns w' base v' (l ++ m) → w.grownBy w' v.ownBlock → (v'.ownBlock = v.ownBlock ∨ v'.ownBlock = some w.heap.size) → wpList Tryd.prog ops Q rest (a.put o.dst v') w') : wpList Tryd.prog ops Q (o :: rest) a w := by
  refine wpList_plain hgd fun K hK => ?_
  obtain ⟨v', w', hrun, h2, h3, h4⟩ := run_append_cents o.type hown hx hl hbase
  unfold Oper.wp execOp
  simp only [ho, resolve, invoke, builtin, Sem.run_bind, Sem.run_pure, Result.andThen_ok, List.map_toArray, List.map_cons, List.map_nil, hs, ht, hrun]
  exact hK _ _ (h v' w' h2 h3 h4)
theorem step_append_cents {w : World} {ops : Array Oper} {o : Oper} {a : Act} {K : Act → World → Prop} {Q : Exit → Act → World → Prop} {E : Prop} {base B : Nat} {l m : List Cn} {v x : Value}
    (hown : COwns w base v l) (hx : CReads w B x m) (hl : l.length + m.length ≤ 5000000000000) (hbase : base ≤ w.heap.size)
    (hgd : o.guard = none) (s t : Operand) (ho : o.op = .call { callee := .builtin .append, args := #[s, t], argTypes := #[32, 32] })
    (hs : a.eval s = v) (ht : a.eval t = x)
    (h : ∀ v' w', COwns w' base v' (l ++ m) → w.grownBy w' v.ownBlock → (v'.ownBlock = v.ownBlock ∨ v'.ownBlock = some w.heap.size) → K (a.put o.dst v') w') :
    if Region.wanted o (yielded ops a.tmps) = true then Oper.wp Tryd.prog o a w K Q else E := by
  have hw : Region.wanted o (yielded ops a.tmps) = true := by simp [Region.wanted, hgd]
  rw [if_pos hw]
  obtain ⟨v', w', hrun, h2, h3, h4⟩ := run_append_cents o.type hown hx hl hbase
  unfold Oper.wp execOp
  simp only [ho, resolve, invoke, builtin, Sem.run_bind, Sem.run_pure, Result.andThen_ok, List.map_toArray, List.map_cons, List.map_nil, hs, ht, hrun]
  exact h v' w' h2 h3 h4
theorem CReads.one {w : World} {g : Nat} {x y r : Int} (h0 : w.cell? ⟨g, 0, none⟩ = some (.int .i64 x)) (h1 : w.cell? ⟨g, 1, none⟩ = some (.int .i64 y)) (h2 : w.cell? ⟨g, 2, none⟩ = some (.int .i64 r)) : CReads w w.heap.size (.slice (some ⟨g, 0, none⟩) 1 1) [((x, y), r)] :=
  ⟨_, 1, rfl, by simp, by simp [maxLen], fun h => (by cases h), fun _ => ⟨g, 0, rfl, World.block_lt_of_cell? w _ h0, fun k u v t hk => by
    match k, hk with
    | 0, hk => cases hk; exact ⟨h0, h1, h2⟩⟩⟩
theorem flatC_replicate (n : Nat) : (madeCells #[Value.int .i64 0, .int .i64 0, .int .i64 0] (n * 3)).toList = flatC (List.replicate n ((0, 0), 0)) := by
  apply List.ext_getElem?
  intro j
  by_cases hj : j < n * 3
  · obtain ⟨⟨⟨x, y⟩, r⟩, hxy⟩ : ∃ a, (List.replicate n (((0 : Int), (0 : Int)), (0 : Int)))[j / 3]? = some a := ⟨_, List.getElem?_eq_getElem (by simp; omega)⟩
    have h0 : ((x, y), r) = (((0 : Int), (0 : Int)), (0 : Int)) := by
      have := List.mem_of_getElem? hxy
      exact (List.mem_replicate.1 this).2
    cases h0
    obtain ⟨f0, f1, f2⟩ := flatC_at hxy
    have hz : ∀ i : Nat, (#[Value.int .i64 0, .int .i64 0, .int .i64 0] : Array Value)[i % 3]! = .int .i64 0 := by
      intro i
      have : i % 3 = 0 ∨ i % 3 = 1 ∨ i % 3 = 2 := by omega
      rcases this with h | h | h <;> rw [h] <;> rfl
    have hm : j = j / 3 * 3 ∨ j = j / 3 * 3 + 1 ∨ j = j / 3 * 3 + 2 := by omega
    rcases hm with e | e | e
    · rw [e, f0, ← e]; simp [madeCells, hz, hj]
    · rw [e, f1, ← e]; simp [madeCells, hz, hj]
    · rw [e, f2, ← e]; simp [madeCells, hz, hj]
  · rw [List.getElem?_eq_none (by simp [madeCells]; omega), List.getElem?_eq_none (by rw [flatC_length]; simp; omega)]
/-- 'make([]Centre, n)' -/
theorem wpList_make_cents {w : World} {ops : Array Oper} {rest : List Oper} {o : Oper} {a : Act} {Q : Exit → Act → World → Prop}
    (n : Nat) (hn : n ≤ 5000000000000) (hg : o.guard = none) (l c : Operand) (hop : o.op = Op.makeSlice 32 l c) (L C : Int) (hl : a.eval l = .int .i64 L) (hc : a.eval c = .int .i64 C) (hL : L = (n : Int)) (hC : C = (n : Int))
    (hK : ∀ w', COwns w' w.heap.size (.slice (some ⟨w.heap.size, 0, none⟩) n n) (List.replicate n ((0, 0), 0)) → w.grownBy w' none → wpList Tryd.prog ops Q rest (a.put o.dst (.slice (some ⟨w.heap.size, 0, none⟩) n n)) w') :
    wpList Tryd.prog ops Q (o :: rest) a w := by
  obtain ⟨i0, hi, hz0, hz1, hz2⟩ := info_parts centInfo
  refine wpList_make_full (P := Tryd.prog) w hg l c _ hop w.heap.size 24 i0 _ 3 Tryd.underlying32 hi hz0 hz1 .i64 .i64 L C n hl hc hL hC (by rw [hz2]; omega) (by simp only [maxLen]; omega) (Nat.le_refl _) fun w' h1 h2 => hK w' ?_ h2
  unfold COwns
  rw [List.length_replicate, ← flatC_replicate]
  exact h1
/-! lists of deeds that agree up to a place -/
def AgreeC (p q : List Cn) (k : Nat) : Prop := ∀ j, j < k → p[j]? = q[j]?
theorem agreeC_all {p q : List Cn} (hl : p.length = q.length) (h : AgreeC p q p.length) : p = q := by
  apply List.ext_getElem?
  intro j
  by_cases hj : j < p.length
  · exact h j hj
  · rw [List.getElem?_eq_none (by omega), List.getElem?_eq_none (by omega)]
theorem agreeC_succ {p q : List Cn} {k : Nat} {a b : Cn} (h : AgreeC p q k) (hp : p[k]? = some a) (hq : q[k]? = some b) (e : a = b) : AgreeC p q (k + 1) := fun j hj => by
  by_cases ej : j = k
  · subst ej; rw [hp, hq, e]
  · exact h j (by omega)
theorem agreeC_set {p q : List Cn} {k : Nat} {a : Cn} (h : AgreeC p q k) (hk : k < p.length) (hq : q[k]? = some a) : AgreeC (p.set k a) q (k + 1) := fun j hj => by
  by_cases e : j = k
  · subst e; rw [hq, List.getElem?_set]; simp [hk]
  · rw [List.getElem?_set]; simp [show ¬ k = j by omega]; exact h j (by omega)
theorem agreeC_not {p q : List Cn} {k : Nat} {a b : Cn} (hp : p[k]? = some a) (hq : q[k]? = some b) (e : a ≠ b) : p ≠ q := by
  rintro rfl; rw [hp] at hq; exact e (Option.some.inj hq)
def GivesC (l : List Cn) (w : World) (e : Ending) (w' : World) : Prop := ∃ v', e = .returned v' ∧ COwns w' w.heap.size v' l ∧ Below w.heap.size w w'
end
/-! ### DeedL -/
section
open Go.RowKit Go.Sort

theorem ne_of_lt {v1 v2 : Value} {lo1 hi1 lo2 hi2 : Nat} (h1 : ∀ k, v1.ownBlock = some k → lo1 ≤ k ∧ k < hi1) (h2 : ∀ k, v2.ownBlock = some k → lo2 ≤ k ∧ k < hi2) (h : hi1 ≤ lo2 ∨ hi2 ≤ lo1) : v1.ownBlock = none ∨ v1.ownBlock ≠ v2.ownBlock := by
  cases e1 : v1.ownBlock with
  | none => exact .inl rfl
  | some k1 =>
    refine .inr fun e => ?_
    have l1 := h1 k1 e1
    have l2 := h2 k1 e.symm
    omega
def marksC : Nat → Int → List Cn
  | 0, _ => []
  | n + 1, k => ((k, k + 1), k + 1 + 1) :: marksC n (k + 3)
theorem marksC_length : ∀ (n : Nat) (k : Int), (marksC n k).length = n
  | 0, _ => rfl
  | n + 1, k => by simp [marksC, marksC_length n]
theorem marksC_at : ∀ (n : Nat) (k : Int) (j : Nat), j < n → (marksC n k)[j]? = some ((k + 3 * j, k + 3 * j + 1), k + 3 * j + 1 + 1)
  | 0, _, j, h => by omega
  | n + 1, k, 0, _ => by simp [marksC]
  | n + 1, k, j + 1, h => by
    simp only [marksC, List.getElem?_cons_succ]
    rw [marksC_at n (k + 3) j (by omega)]
    have e : k + 3 + 3 * (j : Int) = k + 3 * ((j : Nat) + 1 : Nat) := by push_cast; omega
    rw [e]
set_option maxHeartbeats 800000 in
theorem eqDeed_any (x y r u v s : Int) (w : World) : Calls Tryd.prog 23 #[.agg #[.int .i64 x, .int .i64 y, .int .i64 r], .agg #[.int .i64 u, .int .i64 v, .int .i64 s]] w (Gives (.bool (decide ((((x, y), r) : Cn) = ((u, v), s)))) w) := by
  obtain ⟨W, hW⟩ : ∃ W, W = (w.alloc (.cells #[.int .i64 x, .int .i64 y, .int .i64 r] 24)).alloc (.cells #[.int .i64 u, .int .i64 v, .int .i64 s] 24) := ⟨_, rfl⟩
  have b0 : Below w.heap.size w W := by rw [hW]; exact (box_below w _ _).alloc (by simp) _
  have q2 : W.cell? ⟨w.heap.size, 2, none⟩ = some (.int .i64 r) := by rw [hW]; simp [go_sem, World.cell?_alloc_past]
  have q0 : W.cell? ⟨w.heap.size, 0, none⟩ = some (.int .i64 x) := by rw [hW]; simp [go_sem, World.cell?_alloc_past]
  have q1 : W.cell? ⟨w.heap.size, 1, none⟩ = some (.int .i64 y) := by rw [hW]; simp [go_sem, World.cell?_alloc_past]
  have q3 : W.cell? ⟨w.heap.size + 1, 0, none⟩ = some (.int .i64 u) := by rw [hW]; simp [go_sem]
  have q4 : W.cell? ⟨w.heap.size + 1, 1, none⟩ = some (.int .i64 v) := by rw [hW]; simp [go_sem]
  have q5 : W.cell? ⟨w.heap.size + 1, 2, none⟩ = some (.int .i64 s) := by rw [hW]; simp [go_sem]
  by_cases h1 : x = u
  · have f1 : (x != u) = false := by rw [h1]; simp
    by_cases h2 : y = v
    · have f2 : (y != v) = false := by rw [h2]; simp
      by_cases h3 : r = s
      · have f3 : (r != s) = false := by rw [h3]; simp
        have HE := Lib.hid (show decide ((((x, y), r) : Cn) = ((u, v), s)) = true from decide_eq_true (by rw [h1, h2, h3]))
        clear h1 h2 h3
        go_enter Tryd.func23, Tryd.ntmps23
        go_wp2_with (first | (rw [← hW]; clear hW) | fail)
        go_ret
        exact ⟨ret_bool HE.out.symm, b0⟩
      · have f3 : (r != s) = true := by simpa using h3
        have HE := Lib.hid (show decide ((((x, y), r) : Cn) = ((u, v), s)) = false from decide_eq_false (fun e => h3 (by cases e; rfl)))
        clear h1 h2 h3
        go_enter Tryd.func23, Tryd.ntmps23
        go_wp2_with (first | (rw [← hW]; clear hW) | fail)
        go_ret
        exact ⟨ret_bool HE.out.symm, b0⟩
    · have f2 : (y != v) = true := by simpa using h2
      have HE := Lib.hid (show decide ((((x, y), r) : Cn) = ((u, v), s)) = false from decide_eq_false (fun e => h2 (by cases e; rfl)))
      clear h1 h2
      go_enter Tryd.func23, Tryd.ntmps23
      go_wp2_with (first | (rw [← hW]; clear hW) | fail)
      go_ret
      exact ⟨ret_bool HE.out.symm, b0⟩
  · have f1 : (x != u) = true := by simpa using h1
    have HE := Lib.hid (show decide ((((x, y), r) : Cn) = ((u, v), s)) = false from decide_eq_false (fun e => h1 (by cases e; rfl)))
    clear h1
    go_enter Tryd.func23, Tryd.ntmps23
    go_wp2_with (first | (rw [← hW]; clear hW) | fail)
    go_ret
    exact ⟨ret_bool HE.out.symm, b0⟩
theorem eqDeed_is {b : Bool} {x y r u v s : Int} {w : World} (h : decide ((((x, y), r) : Cn) = ((u, v), s)) = b) : Calls Tryd.prog 23 #[.agg #[.int .i64 x, .int .i64 y, .int .i64 r], .agg #[.int .i64 u, .int .i64 v, .int .i64 s]] w (Gives (.bool b) w) := by
  subst h; exact eqDeed_any x y r u v s w
set_option maxHeartbeats 800000 in
theorem eqDeedS_any (ps qs : List Cn) (v v' : Value) (w : World) (h : CReads w w.heap.size v ps) (h' : CReads w w.heap.size v' qs) : Calls Tryd.prog 26 #[v, v'] w (Gives (.bool (decide (ps = qs))) w) := by
  obtain ⟨A, c, rfl, hc, hm, hA, hr⟩ := h.is
  obtain ⟨A', c', rfl, hc', hm', hA', hr'⟩ := h'.is
  unfold maxLen at hm hm'
  by_cases hl : ps.length = qs.length
  · by_cases h0 : ps.length = 0
    · have e : ps = [] := List.eq_nil_of_length_eq_zero h0
      have e' : qs = [] := List.eq_nil_of_length_eq_zero (by omega)
      subst e e'
      go_enter Tryd.func26, Tryd.ntmps26
      go_wp2
      go_rounds 2
      go_ret
      exact ⟨rfl, Below.refl _ _⟩
    · obtain ⟨b, off, rfl, hb, hcell⟩ := hr (by omega)
      obtain ⟨b', off', rfl, hb', hcell'⟩ := hr' (by omega)
      have hne : (((ps.length : Int) != (qs.length : Int))) = false := by simp [hl]
      have h1 : ps.length ≤ qs.length := by omega
      have h2 : qs.length ≤ ps.length := by omega
      have hL := Lib.hid hl
      clear hl
      go_enter Tryd.func26, Tryd.ntmps26
      go_wp2
      go_loopw [5] (fun i wr => ∃ k : Nat, k ≤ ps.length ∧ i = .int .i64 k ∧ AgreeC ps qs k ∧ Below w.heap.size w wr) (fun i _ => ps.length - (intOf i).toNat)
      case atStart => exact ⟨0, Nat.zero_le _, rfl, fun j hj => by omega, Below.refl _ _⟩
      case round =>
        obtain ⟨k, hk, rfl, hok, hbw⟩ := hrel
        have hbs : w.heap.size ≤ wr.heap.size := hbw.size
        by_cases hlt : k < ps.length
        · have hlt' : k < qs.length := by omega
          obtain ⟨⟨⟨x, y⟩, r⟩, hxy⟩ : ∃ a, ps[k]? = some a := ⟨_, List.getElem?_eq_getElem hlt⟩
          obtain ⟨⟨⟨u, v⟩, s⟩, huv⟩ : ∃ a, qs[k]? = some a := ⟨_, List.getElem?_eq_getElem hlt'⟩
          obtain ⟨c0, c1, c2⟩ := hcell k x y r hxy
          obtain ⟨c3, c4, c5⟩ := hcell' k u v s huv
          have d0 := cell_regrown ((hbw.cell (p := ⟨b, off + k * 3, none⟩) hb).trans c0)
          have d1 := cell_regrown ((hbw.cell (p := ⟨b, off + k * 3 + 1, none⟩) hb).trans c1)
          have d2 := cell_regrown ((hbw.cell (p := ⟨b, off + k * 3 + 2, none⟩) hb).trans c2)
          have d3 := cell_regrown ((hbw.cell (p := ⟨b', off' + k * 3, none⟩) hb').trans c3)
          have d4 := cell_regrown ((hbw.cell (p := ⟨b', off' + k * 3 + 1, none⟩) hb').trans c4)
          have d5 := cell_regrown ((hbw.cell (p := ⟨b', off' + k * 3 + 2, none⟩) hb').trans c5)
          have hm3 : (0 : Int) ≤ (k : Int) := Int.natCast_nonneg _
          have hm4 : (k : Int) < (ps.length : Int) := by omega
          have hm5 : (k : Int) < (qs.length : Int) := by omega
          clear c0 c1 c2 c3 c4 c5
          by_cases hx : (((x, y), r) : Cn) = ((u, v), s)
          · have hH := Lib.hid (agreeC_succ hok hxy huv hx)
            have HC := Lib.hid (show decide ((((x, y), r) : Cn) = ((u, v), s)) = true from decide_eq_true hx)
            clear hok hxy huv hx
            go_wp2
            refine wp_region_quiet_below (by kernel_rfl) (by kernel_rfl) ?_
            repeat (go_big_quiet_step (first | (go_at_call 23; with_reducible exact gives_regrown (fun w1 _ => eqDeed_is HC.out) _ _)))
            refine wpQuiet_nil ?_
            intro _ hw'
            obtain ⟨⟨dq, osq⟩, hw''⟩ := hw'
            subst hw''
            go_wp2
            go_roundw
            case rel => exact ⟨k + 1, by omega, by go_num, hH.out, hbw.trans ((below_regrown _ _ _).mono hbs)⟩
            case measure => simp [intOf]; omega
          · have hH := Lib.hid (show decide (ps = qs) = false from decide_eq_false (agreeC_not hxy huv hx))
            have HC := Lib.hid (show decide ((((x, y), r) : Cn) = ((u, v), s)) = false from decide_eq_false hx)
            clear hok hxy huv hx
            go_wp2
            refine wp_region_quiet_below (by kernel_rfl) (by kernel_rfl) ?_
            repeat (go_big_quiet_step (first | (go_at_call 23; with_reducible exact gives_regrown (fun w1 _ => eqDeed_is HC.out) _ _)))
            refine wpQuiet_nil ?_
            intro _ hw'
            obtain ⟨⟨dq, osq⟩, hw''⟩ := hw'
            subst hw''
            go_wp2
            go_ret
            exact ⟨ret_bool hH.out.symm, hbw.trans ((below_regrown _ _ _).mono hbs)⟩
        · have hH := Lib.hid (show decide (ps = qs) = true from decide_eq_true (agreeC_all hL.out (fun j hj => hok j (by omega))))
          clear hok
          go_wp2
          go_ret
          exact ⟨ret_bool hH.out.symm, hbw⟩
  · have e : decide (ps = qs) = false := decide_eq_false (fun e => hl (by rw [e]))
    rw [e]
    have hne : (((ps.length : Int) != (qs.length : Int))) = true := by simp; omega
    clear hl e
    go_enter Tryd.func26, Tryd.ntmps26
    go_wp2
    go_ret
    exact ⟨rfl, Below.refl _ _⟩
theorem szDeedS_any (n c : Nat) (A : Option Addr) (l : Int) (w : World) (hn : n ≤ 9223372036854775807) (h0 : 0 ≤ l) (h1 : l ≤ 1048576) : Calls Tryd.prog 24 #[.slice A n c, .int .i64 l] w (Gives (.int .i64 (if l < n then -1 else l - n)) w) := by
  by_cases h : l < n
  · rw [if_pos h]
    go_enter Tryd.func24, Tryd.ntmps24
    go_wp2
    go_ret
    exact ⟨rfl, Below.refl _ _⟩
  · rw [if_neg h]
    go_enter Tryd.func24, Tryd.ntmps24
    go_wp2
    go_ret
    exact ⟨rfl, Below.refl _ _⟩
theorem szDeedS_yes (n c : Nat) (A : Option Addr) (l : Int) (w : World) (hn : n ≤ 9223372036854775807) (h0 : 0 ≤ l) (h1 : l ≤ 1048576) (h : l < n) : Calls Tryd.prog 24 #[.slice A n c, .int .i64 l] w (Gives (.int .i64 (-1)) w) := by
  have := szDeedS_any n c A l w hn h0 h1
  rwa [if_pos h] at this
theorem szDeedS_no (n c : Nat) (A : Option Addr) (l : Int) (w : World) (hn : n ≤ 9223372036854775807) (h0 : 0 ≤ l) (h1 : l ≤ 1048576) (h : n ≤ l) : Calls Tryd.prog 24 #[.slice A n c, .int .i64 l] w (Gives (.int .i64 (l - n)) w) := by
  have := szDeedS_any n c A l w hn h0 h1
  rwa [if_neg (by omega)] at this
set_option maxHeartbeats 800000 in
theorem markC_any (ps : List Cn) (v : Value) (base : Nat) (k : Int) (w : World) (h : COwns w base v ps) (hl : ps.length ≤ 1100000) (h0 : 0 ≤ k) (h1 : k ≤ 10000000) :
    Calls Tryd.prog 28 #[v, .int .i64 k] w fun e w' => e = .returned (.int .i64 (k + 3 * ps.length)) ∧ COwns w' base v (marksC ps.length k) ∧ w.grownBy w' v.ownBlock := by
  have hpr := h
  rcases h.2 with ⟨rfl, hz⟩ | ⟨g, cap, cur0, rfl, hb0, hg0, hn0, hc0, _, _⟩
  · have e : ps = [] := List.eq_nil_of_length_eq_zero hz
    subst e
    go_enter Tryd.func28, Tryd.ntmps28
    go_wp2
    go_rounds 2
    go_ret
    exact ⟨by simp, hpr, World.grownBy.refl _ _⟩
  · clear hg0
    unfold maxLen at hc0
    go_enter Tryd.func28, Tryd.ntmps28
    go_wp2
    go_loopw [1, 5] (fun kk i wr => ∃ (j : Nat) (cur : List Cn), j ≤ ps.length ∧ i = .int .i64 j ∧ kk = .int .i64 (k + 3 * (j : Int)) ∧ cur.length = ps.length ∧ AgreeC cur (marksC ps.length k) j ∧ COwns wr base (.slice (some ⟨g, 0, none⟩) ps.length cap) cur ∧ w.grownBy wr (some g)) (fun _ i _ => ps.length - (intOf i).toNat)
    case atStart => exact ⟨0, ps, Nat.zero_le _, rfl, by simp, rfl, fun j hj => by omega, hpr, World.grownBy.refl _ _⟩
    case round =>
      obtain ⟨j, cur, hj, rfl, rfl, hcl, hag, hown, hgr⟩ := hrel
      have hcl1 : cur.length ≤ ps.length := by omega
      have hcl2 : ps.length ≤ cur.length := by omega
      have hCL := Lib.hid hcl
      clear hcl
      by_cases hlt : j < ps.length
      · have fz := hown.free
        obtain ⟨px, py, pr, _, q0, q1, q2⟩ := hown.there (k := j) (by omega)
        have hM := Lib.hid (marksC_at ps.length k j hlt)
        go_wp2
        go_roundw
        case rel => exact ⟨j + 1, cur.set j ((k + 3 * (j : Int), k + 3 * (j : Int) + 1), k + 3 * (j : Int) + 1 + 1), by omega, by go_num, by go_num, by rw [List.length_set]; exact hCL.out, agreeC_set hag (by omega) hM.out, hown.set j _ _ _ (by omega), grown2 hgr (grown2 (grownSet _ _ _ _) (grown2 (grownSet _ _ _ _) (grownSet _ _ _ _)))⟩
        case measure => simp [intOf]; omega
      · have hE := Lib.hid (agreeC_all (hCL.out.trans (marksC_length _ _).symm) (fun i hi => hag i (by omega)))
        have hjn : j = ps.length := by omega
        have hJ := Lib.hid hjn
        clear hjn
        go_wp2
        go_ret
        exact ⟨by have := hJ.out; rw [this]; rfl, by have e := hE.out; rw [e] at hown; exact hown, hgr⟩
set_option maxHeartbeats 800000 in
theorem heldC_any (n : Nat) (v : Value) (k : Int) (w : World) (h : CReads w w.heap.size v (marksC n k)) (hl : n ≤ 1100000) (h0 : 0 ≤ k) (h1 : k ≤ 10000000) :
    Calls Tryd.prog 29 #[v, .int .i64 k] w (Gives (.int .i64 (k + 3 * n)) w) := by
  obtain ⟨A, c, rfl, hc, hm, hA, hr⟩ := h.is
  unfold maxLen at hm
  rw [marksC_length] at hc ⊢
  by_cases hz : n = 0
  · subst hz
    go_enter Tryd.func29, Tryd.ntmps29
    go_wp2
    go_rounds 2
    go_ret
    exact ⟨by simp, Below.refl _ _⟩
  · obtain ⟨b, off, rfl, hb, hcell⟩ := hr (by omega)
    go_enter Tryd.func29, Tryd.ntmps29
    go_wp2
    go_loopw [1, 5] (fun kk i wr => ∃ (j : Nat), j ≤ n ∧ i = .int .i64 j ∧ kk = .int .i64 (k + 3 * (j : Int)) ∧ Below w.heap.size w wr) (fun _ i _ => n - (intOf i).toNat)
    case atStart => exact ⟨0, Nat.zero_le _, rfl, by simp, Below.refl _ _⟩
    case round =>
      obtain ⟨j, hj, rfl, rfl, hbw⟩ := hrel
      by_cases hlt : j < n
      · obtain ⟨c0, c1, c2⟩ := hcell j _ _ _ (marksC_at n k j hlt)
        have d0 := (hbw.cell (p := ⟨b, off + j * 3, none⟩) hb).trans c0
        have d1 := (hbw.cell (p := ⟨b, off + j * 3 + 1, none⟩) hb).trans c1
        have d2 := (hbw.cell (p := ⟨b, off + j * 3 + 2, none⟩) hb).trans c2
        clear c0 c1 c2
        go_wp2
        go_roundw
        case rel => exact ⟨j + 1, by omega, by go_num, by go_num, hbw⟩
        case measure => simp [intOf]; omega
      · have hjn : j = n := by omega
        have hJ := Lib.hid hjn
        clear hjn
        go_wp2
        go_ret
        exact ⟨by have := hJ.out; rw [this]; rfl, hbw⟩

theorem toDeed_any (x y r : Int) (w : World) : Calls Tryd.prog 22 #[.agg #[.int .i64 x, .int .i64 y, .int .i64 r]] w (Gives (.agg #[.int .i64 x, .int .i64 y, .int .i64 r]) w) := by
  obtain ⟨W, hW⟩ : ∃ W, W = ((w.alloc (.cells #[.int .i64 x, .int .i64 y, .int .i64 r] 38)).alloc (.cells #[.int .i64 0, .int .i64 0, .int .i64 0] 24)).alloc (.cells #[.int .i64 0, .int .i64 0, .int .i64 0] 24) := ⟨_, rfl⟩
  have b0 : Below w.heap.size w W := by rw [hW]; exact ((box_below w _ _).alloc (by simp) _).alloc (by simp; omega) _
  have q2 : W.cell? ⟨w.heap.size, 2, none⟩ = some (.int .i64 r) := by rw [hW]; simp [go_sem, World.cell?_alloc_past]
  have q0 : W.cell? ⟨w.heap.size, 0, none⟩ = some (.int .i64 x) := by rw [hW]; simp [go_sem, World.cell?_alloc_past]
  have q1 : W.cell? ⟨w.heap.size, 1, none⟩ = some (.int .i64 y) := by rw [hW]; simp [go_sem, World.cell?_alloc_past]
  have s0 : W.heap.size = w.heap.size + 3 := by rw [hW]; simp
  have r1 : W.heap[w.heap.size + 1]? = some (.cells #[.int .i64 0, .int .i64 0, .int .i64 0] 24 (0, 0)) := by
    rw [hW]
    have h1 := heap_alloc_new (w.alloc (.cells #[.int .i64 x, .int .i64 y, .int .i64 r] 38)) (.cells #[.int .i64 0, .int .i64 0, .int .i64 0] 24)
    rw [World.size_alloc] at h1
    exact (((Below.refl (w.heap.size + 2) _).alloc (by simp) _).block (w.heap.size + 1) (by omega)).trans h1
  have r2 : W.heap[w.heap.size + 2]? = some (.cells #[.int .i64 0, .int .i64 0, .int .i64 0] 24 (0, 0)) := by
    rw [hW]
    have h1 := heap_alloc_new ((w.alloc (.cells #[.int .i64 x, .int .i64 y, .int .i64 r] 38)).alloc (.cells #[.int .i64 0, .int .i64 0, .int .i64 0] 24)) (.cells #[.int .i64 0, .int .i64 0, .int .i64 0] 24)
    rw [World.size_alloc, World.size_alloc] at h1
    exact h1
  have c10 := cell_of_row W _ 0 _ _ _ r1
  have c11 := cell_of_row W _ 1 _ _ _ r1
  have c12 := cell_of_row W _ 2 _ _ _ r1
  have c20 := cell_of_row W _ 0 _ _ _ r2
  have c21 := cell_of_row W _ 1 _ _ _ r2
  have c22 := cell_of_row W _ 2 _ _ _ r2
  simp only [List.getElem?_toArray, List.getElem?_cons_zero, List.getElem?_cons_succ] at c10 c11 c12 c20 c21 c22
  have f1 := fun j => frozen_of_row W _ j _ _ r1
  have f2 := fun j => frozen_of_row W _ j _ _ r2
  have z1 : w.heap.size + 1 + 1 < W.heap.size := by omega
  have z2 : w.heap.size + 1 < W.heap.size := by omega
  have n1 : w.heap.size ≠ w.heap.size + 1 + 1 := by omega
  have n2 : w.heap.size + 1 ≠ w.heap.size + 1 + 1 := by omega
  have n3 : w.heap.size + 1 + 1 ≠ w.heap.size + 1 := by omega
  have bb := b0
  go_enter Tryd.func22, Tryd.ntmps22
  go_wp2_with (first | (rw [← hW]; clear hW) | fail)
  go_wp2
  refine bodyPost_ret (v := .agg #[.int .i64 x, .int .i64 y, .int .i64 r]) (by simp [results, Tryd.results22, go_sem, *]) rfl ⟨rfl, ?_⟩
  exact (((((bb.setCell (p := ⟨w.heap.size + 1 + 1, 0, none⟩) (by simp only []; omega) _).setCell (p := ⟨w.heap.size + 1 + 1, 1, none⟩) (by simp only []; omega) _).setCell (p := ⟨w.heap.size + 1 + 1, 2, none⟩) (by simp only []; omega) _).setCell (p := ⟨w.heap.size + 1, 0, none⟩) (by simp only []; omega) _).setCell (p := ⟨w.heap.size + 1, 1, none⟩) (by simp only []; omega) _).setCell (p := ⟨w.heap.size + 1, 2, none⟩) (by simp only []; omega) _
set_option maxHeartbeats 800000 in
theorem toDeedS_any (ps : List Cn) (v : Value) (w : World) (h : CReads w w.heap.size v ps) (hl : ps.length ≤ 1048576) :
    Calls Tryd.prog 25 #[v] w fun e w' => ∃ v', e = .returned v' ∧ COwns w' w.heap.size v' ps ∧ Below w.heap.size w w' := by
  obtain ⟨A, c, rfl, hc, hm, hA, hr⟩ := h.is
  unfold maxLen at hm
  go_enter Tryd.func25, Tryd.ntmps25
  go_wp2_with (at_make; refine wpList_make_cents ps.length (by omega) rfl _ _ rfl _ _ rfl rfl rfl rfl ?_; intro w1 ho1 hg1)
  have hb1 : Below w.heap.size w w1 := (Below.refl _ _).grown hg1 (Nat.le_refl _) (by simp)
  clear hg1
  by_cases h0 : ps.length = 0
  · have e : ps = [] := List.eq_nil_of_length_eq_zero h0
    subst e
    go_rounds 2
    go_ret
    exact ⟨_, rfl, ho1, hb1⟩
  · obtain ⟨b, off, rfl, hb, hcell⟩ := hr (by omega)
    have hO := Lib.hid ho1
    clear ho1
    go_loopw [4] (fun i wr => ∃ (k : Nat) (cur : List Cn), k ≤ ps.length ∧ i = .int .i64 k ∧ cur.length = ps.length ∧ AgreeC cur ps k ∧ COwns wr w.heap.size (.slice (some ⟨w.heap.size, 0, none⟩) ps.length ps.length) cur ∧ Below w.heap.size w wr) (fun i _ => ps.length - (intOf i).toNat)
    case atStart => exact ⟨0, _, Nat.zero_le _, rfl, List.length_replicate, fun j hj => by omega, hO.out, hb1⟩
    case round =>
      obtain ⟨k, cur, hk, rfl, hcl, hag, hown, hbw⟩ := hrel
      have hbs : w.heap.size ≤ wr.heap.size := hbw.size
      have hcl1 : cur.length ≤ ps.length := by omega
      have hcl2 : ps.length ≤ cur.length := by omega
      have hCL := Lib.hid hcl
      clear hcl
      by_cases hlt : k < ps.length
      · obtain ⟨⟨⟨x, y⟩, r⟩, hxy⟩ : ∃ a, ps[k]? = some a := ⟨_, List.getElem?_eq_getElem hlt⟩
        obtain ⟨c0, c1, c2⟩ := hcell k x y r hxy
        have d0 := (hbw.cell (p := ⟨b, off + k * 3, none⟩) hb).trans c0
        have d1 := (hbw.cell (p := ⟨b, off + k * 3 + 1, none⟩) hb).trans c1
        have d2 := (hbw.cell (p := ⟨b, off + k * 3 + 2, none⟩) hb).trans c2
        have hH := Lib.hid hxy
        clear c0 c1 c2 hxy
        go_wp2_with (go_at_call 22; refine (toDeed_any x y r _).mono ?_; rintro e w2 ⟨rfl, hb2⟩; have hown2 := hown.below hb2; have fz := hown2.free; obtain ⟨px, py, pr, _, q0, q1, q2⟩ := hown2.there (k := k) (by omega))
        go_roundw
        case rel => exact ⟨k + 1, cur.set k ((x, y), r), by omega, by go_num, by rw [List.length_set]; exact hCL.out, agreeC_set hag (by omega) hH.out, hown2.set k x y r (by omega), (((hbw.trans (hb2.mono hbs)).setCell (by simp) _).setCell (by simp) _).setCell (by simp) _⟩
        case measure => simp [intOf]; omega
      · have hE := Lib.hid (agreeC_all hCL.out (fun j hj => hag j (by omega)))
        go_wp2
        go_ret
        exact ⟨_, rfl, by have e := hE.out; rw [e] at hown; exact hown, hbw⟩
end
end Go.Proofs.YtpdnakiilhohdaaDoor
