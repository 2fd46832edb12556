/- Texts of one kind, merged: Deeds, DeedL. No conditions but those that stand in each theorem. -/
import Derived.Test.YtkiidmdgdjphjaaGreatMem
import Derived.Test.YtkiidmdgdjphjaaGreatMark
import Derived.Test.YtkiidmdgdjphjaaGreatHas
namespace Go.Proofs.YtkiidmdgdjphjaaGreat
/-! ### Deeds -/
section
open Go.RowKit Go.Sort

abbrev Cn := Sp × Int
def flatC (l : List Cn) : List Value := l.flatMap fun c => [.int .i64 c.1.1, .int .i64 c.1.2, .int .i64 c.2]
theorem flatC_nil : flatC [] = [] := rfl
theorem flatC_cons (a : Cn) (l : List Cn) : flatC (a :: l) = .int .i64 a.1.1 :: .int .i64 a.1.2 :: .int .i64 a.2 :: flatC l := rfl
theorem flatC_append (p q : List Cn) : flatC (p ++ q) = flatC p ++ flatC q := by simp [flatC]
theorem flatC_length : ∀ l : List Cn, (flatC l).length = l.length * 3
  | [] => rfl
  | a :: l => by rw [flatC_cons]; simp [flatC_length l]; omega
theorem flatC_at : ∀ {l : List Cn} {k : Nat} {x y r : Int}, l[k]? = some ((x, y), r) → (flatC l)[k * 3]? = some (.int .i64 x) ∧ (flatC l)[k * 3 + 1]? = some (.int .i64 y) ∧ (flatC l)[k * 3 + 2]? = some (.int .i64 r)
  | a :: l, 0, x, y, r, h => by cases h; exact ⟨rfl, rfl, rfl⟩
  | a :: l, k + 1, x, y, r, h => by
    have e0 : (k + 1) * 3 = k * 3 + 1 + 1 + 1 := by omega
    have ih := flatC_at (l := l) (k := k) (by simpa using h)
    rw [e0, flatC_cons]
    exact ih
theorem flatC_one : ∀ (l : List Cn), ∀ u ∈ flatC l, u.oneCell' = true := by
  intro l u hu
  obtain ⟨a, _, ha⟩ := List.mem_flatMap.1 hu
  simp at ha
  rcases ha with rfl | rfl | rfl <;> rfl

/-- the three cells of deed number k of a slice at block b from cell off on -/
structure At3 (w : World) (b off k : Nat) (x y r : Int) : Prop where
  c0 : w.cell? ⟨b, off + k * 3, none⟩ = some (.int .i64 x)
  c1 : w.cell? ⟨b, off + k * 3 + 1, none⟩ = some (.int .i64 y)
  c2 : w.cell? ⟨b, off + k * 3 + 2, none⟩ = some (.int .i64 r)
theorem At3.below {w w' : World} {B b off k : Nat} {x y r : Int} (h : At3 w b off k x y r) (hb : Below B w w') (hB : b < B) : At3 w' b off k x y r :=
  ⟨(hb.cell (p := ⟨b, off + k * 3, none⟩) hB).trans h.c0, (hb.cell (p := ⟨b, off + k * 3 + 1, none⟩) hB).trans h.c1, (hb.cell (p := ⟨b, off + k * 3 + 2, none⟩) hB).trans h.c2⟩
structure CReads (w : World) (B : Nat) (v : Value) (l : List Cn) : Prop where
  is : ∃ A c, v = .slice A l.length c ∧ l.length ≤ c ∧ c ≤ maxLen ∧ (A = none → c = 0) ∧
    (0 < c → ∃ b off, A = some ⟨b, off, none⟩ ∧ b < B ∧ ∀ k x y r, l[k]? = some ((x, y), r) → At3 w b off k x y r)
theorem CReads.below {w w' : World} {B : Nat} {v : Value} {l : List Cn} (h : CReads w B v l) (hb : Below B w w') : CReads w' B v l := by
  obtain ⟨A, c, h1, h2, h3, h4, h5⟩ := h.is
  refine ⟨A, c, h1, h2, h3, h4, fun hc => ?_⟩
  obtain ⟨b, off, h6, h7, h8⟩ := h5 hc
  exact ⟨b, off, h6, h7, fun k x y r hk => (h8 k x y r hk).below hb h7⟩
theorem CReads.more {w : World} {B B' : Nat} {v : Value} {l : List Cn} (h : CReads w B v l) (hB : B ≤ B') : CReads w B' v l := by
  obtain ⟨A, c, h1, h2, h3, h4, h5⟩ := h.is
  refine ⟨A, c, h1, h2, h3, h4, fun hc => ?_⟩
  obtain ⟨b, off, h6, h7, h8⟩ := h5 hc
  exact ⟨b, off, h6, by omega, h8⟩
theorem CReads.kept {w w' : World} {v : Value} {l : List Cn} (h : CReads w w.heap.size v l) (hb : Below w.heap.size w w') : CReads w' w'.heap.size v l := (h.below hb).more hb.size
theorem CReads.slice {w : World} {B : Nat} {v : Value} {l : List Cn} (h : CReads w B v l) : ∃ A c, v = .slice A l.length c ∧ l.length ≤ c ∧ c ≤ maxLen := by
  obtain ⟨A, c, h1, h2, h3, _⟩ := h.is
  exact ⟨A, c, h1, h2, h3⟩
theorem CReads.nil (w : World) (B : Nat) : CReads w B (.slice none 0 0) [] := ⟨none, 0, rfl, by simp, by simp [maxLen], fun _ => rfl, fun h => by omega⟩

def COwns (w : World) (base : Nat) (v : Value) (l : List Cn) : Prop := w.ownsRow base 28 3 v l.length (flatC l)
theorem COwns.reads {w : World} {base : Nat} {v : Value} {l : List Cn} (h : COwns w base v l) : CReads w w.heap.size v l := by
  obtain ⟨_, h2⟩ := h
  rcases h2 with ⟨rfl, h0⟩ | ⟨g, cap, cur, rfl, _, hg, hn, hc, hs, ht⟩
  · exact ⟨none, 0, by rw [h0], by omega, by simp [maxLen], fun _ => rfl, fun h => by omega⟩
  · refine ⟨some ⟨g, 0, none⟩, cap, rfl, hn, hc, fun h => (by cases h), fun _ => ⟨g, 0, rfl, (Array.getElem?_eq_some_iff.1 hg).1, fun k x y r hk => ?_⟩⟩
    have hk' : k < l.length := (List.getElem?_eq_some_iff.1 hk).1
    obtain ⟨c0, c1, c2⟩ := flatC_at hk
    rw [← ht, List.getElem?_take, if_pos (by omega)] at c0 c1 c2
    refine ⟨?_, ?_, ?_⟩
    · rw [cell_of_row w g _ cur _ (0, 0) hg, Nat.zero_add]; simpa using c0
    · rw [cell_of_row w g _ cur _ (0, 0) hg, Nat.zero_add]; simpa using c1
    · rw [cell_of_row w g _ cur _ (0, 0) hg, Nat.zero_add]; simpa using c2
theorem COwns.below {w w' : World} {base : Nat} {v : Value} {l : List Cn} (h : COwns w base v l) (hb : Below w.heap.size w w') : COwns w' base v l := by
  refine ⟨h.1, ?_⟩
  rcases h.2 with h0 | ⟨g, cap, cur, rfl, h1, hg, h2⟩
  · exact .inl h0
  · exact .inr ⟨g, cap, cur, rfl, h1, (hb.block g (Array.getElem?_eq_some_iff.1 hg).1).trans hg, h2⟩
theorem COwns.base {w : World} {base base' : Nat} {v : Value} {l : List Cn} (h : COwns w base v l) (hb : base' ≤ base) : COwns w base' v l := by
  refine ⟨h.1, ?_⟩
  rcases h.2 with h0 | ⟨g, cap, cur, rfl, h1, h2⟩
  · exact .inl h0
  · exact .inr ⟨g, cap, cur, rfl, by omega, h2⟩
theorem COwns.lt {w : World} {base : Nat} {v : Value} {l : List Cn} (h : COwns w base v l) : ∀ k, v.ownBlock = some k → base ≤ k ∧ k < w.heap.size := World.ownsRow.lt h
theorem COwns.empty (w : World) (base : Nat) (hb : base ≤ w.heap.size) : COwns (w.alloc (.cells #[] 28)) base (.slice (some ⟨w.heap.size, 0, none⟩) 0 0) [] :=
  World.ownsRow_lit w #[] 0 hb (by simp [maxLen]) rfl
theorem COwns.nil (w : World) (base : Nat) : COwns w base (.slice none 0 0) [] := World.ownsRow_nil w base _ _
theorem COwns.grown {w w' : World} {base : Nat} {v : Value} {l : List Cn} {row : Option Nat} (h : COwns w base v l) (hg : w.grownBy w' row) (hne : v.ownBlock = none ∨ v.ownBlock ≠ row) : COwns w' base v l := World.ownsRow.kept h hg hne
theorem COwns.below_app {a w w' : World} {base : Nat} {v : Value} {l : List Cn} (h : COwns w base v l) (hb : Below base a w) (hB : base ≤ w.heap.size) (hg : w.grownBy w' v.ownBlock) : Below base a w' :=
  hb.grown hg hB fun k hk => (h.lt k hk).1
theorem COwns.len {w : World} {base g n cap : Nat} {l : List Cn} (h : COwns w base (.slice (some ⟨g, 0, none⟩) n cap) l) : n = l.length := by
  obtain ⟨A, c, h1, _⟩ := h.reads.is
  cases h1; rfl
theorem COwns.free {w : World} {base g n cap : Nat} {l : List Cn} (h : COwns w base (.slice (some ⟨g, 0, none⟩) n cap) l) (j : Nat) : w.frozen? ⟨g, j, none⟩ = false := by
  have hn := h.len
  subst hn
  exact World.ownsRow.frozenAt h j
theorem COwns.there {w : World} {base g n cap : Nat} {l : List Cn} (h : COwns w base (.slice (some ⟨g, 0, none⟩) n cap) l) {k : Nat} (hk : k < l.length) : ∃ x y r, l[k]? = some ((x, y), r) ∧ w.cell? ⟨g, k * 3, none⟩ = some (.int .i64 x) ∧ w.cell? ⟨g, k * 3 + 1, none⟩ = some (.int .i64 y) ∧ w.cell? ⟨g, k * 3 + 2, none⟩ = some (.int .i64 r) := by
  have hn := h.len
  subst hn
  obtain ⟨⟨⟨x, y⟩, r⟩, hxy⟩ : ∃ a, l[k]? = some a := ⟨_, List.getElem?_eq_getElem hk⟩
  obtain ⟨c0, c1, c2⟩ := flatC_at hxy
  refine ⟨x, y, r, hxy, ?_, ?_, ?_⟩
  · rw [World.ownsRow.cellAt h _ (by omega), c0]
  · rw [World.ownsRow.cellAt h _ (by omega), c1]
  · rw [World.ownsRow.cellAt h _ (by omega), c2]
theorem COwns.set {w : World} {base g n cap : Nat} {l : List Cn} (h : COwns w base (.slice (some ⟨g, 0, none⟩) n cap) l) (k : Nat) (x y r : Int) (hk : k < l.length) :
    COwns (((w.setCell ⟨g, k * 3, none⟩ (.int .i64 x)).setCell ⟨g, k * 3 + 1, none⟩ (.int .i64 y)).setCell ⟨g, k * 3 + 2, none⟩ (.int .i64 r)) base (.slice (some ⟨g, 0, none⟩) n cap) (l.set k ((x, y), r)) := by
  have hn := h.len
  subst hn
  have h1 := (World.ownsRow.stored h (k * 3) (.int .i64 x)).1
  have h2 := (World.ownsRow.stored h1 (k * 3 + 1) (.int .i64 y)).1
  have h3 := (World.ownsRow.stored h2 (k * 3 + 2) (.int .i64 r)).1
  have e : (((flatC l).set (k * 3) (.int .i64 x)).set (k * 3 + 1) (.int .i64 y)).set (k * 3 + 2) (.int .i64 r) = flatC (l.set k ((x, y), r)) := by
    clear h h1 h2 h3
    induction l generalizing k with
    | nil => simp at hk
    | cons a l ih =>
      cases k with
      | zero => simp [flatC_cons]
      | succ k =>
        have e1 : (k + 1) * 3 = k * 3 + 1 + 1 + 1 := by omega
        rw [e1]
        simp only [flatC_cons, List.set_cons_succ]
        have := ih k (by simpa using hk)
        rw [← this]
  unfold COwns
  rw [List.length_set, ← e]
  exact h3

theorem centInfo : (Tryz.prog.info? 28).map (fun i => (i.zero, i.size, i.bytes)) = some (some (.agg #[.int .i64 0, .int .i64 0, .int .i64 0]), 3, 24) := by kernel_rfl
theorem CReads.cells {w : World} {B : Nat} {v : Value} {l : List Cn} (h : CReads w B v l) : (v = .slice none 0 0 ∧ l = []) ∨
    ∃ ad c, v = .slice (some ad) l.length c ∧ ∀ j u, (flatC l)[j]? = some u → w.cell? (ad.add j) = some u := by
  obtain ⟨A, c, rfl, h2, h3, h4, h5⟩ := h.is
  cases A with
  | none =>
    have hc := h4 rfl
    subst hc
    have hl : l.length = 0 := by omega
    exact .inl ⟨by rw [hl], List.eq_nil_of_length_eq_zero hl⟩
  | some ad =>
    refine .inr ⟨ad, c, rfl, fun j u hj => ?_⟩
    have hjl : j < l.length * 3 := by rw [← flatC_length]; exact (List.getElem?_eq_some_iff.1 hj).1
    obtain ⟨b, off, hA, _, hcell⟩ := h5 (by omega)
    cases hA
    obtain ⟨⟨⟨x, y⟩, r⟩, hxy⟩ : ∃ a, l[j / 3]? = some a := ⟨_, List.getElem?_eq_getElem (by omega)⟩
    have H := hcell _ x y r hxy
    obtain ⟨f0, f1, f2⟩ := flatC_at hxy
    rw [Addr.add_lit]
    have hm : j = j / 3 * 3 ∨ j = j / 3 * 3 + 1 ∨ j = j / 3 * 3 + 2 := by omega
    rcases hm with e | e | e
    · rw [e, f0] at hj; cases hj; rw [e]; exact H.c0
    · rw [e, f1] at hj; cases hj; rw [e, ← Nat.add_assoc]; exact H.c1
    · rw [e, f2] at hj; cases hj; rw [e, ← Nat.add_assoc]; exact H.c2
theorem run_append_cents {w : World} {base B : Nat} {v x : Value} {l m : List Cn} (ty : TypeId) (hown : COwns w base v l) (hx : CReads w B x m) (hl : l.length + m.length ≤ 5000000000000) (hbase : base ≤ w.heap.size) :
    ∃ v' w', (Builtin.append_ #[38, 38] ty #[v, x]).run Tryz.prog w = .ok v' w' ∧ COwns w' base v' (l ++ m) ∧ w.grownBy w' v.ownBlock ∧ (v'.ownBlock = v.ownBlock ∨ v'.ownBlock = some w.heap.size) := by
  obtain ⟨i0, hi, hz0, hz1, hz2⟩ := info_parts centInfo
  rcases hx.cells with ⟨rfl, rfl⟩ | ⟨ad, c, rfl, hc⟩
  · refine ⟨v, w, run_append_owned_none w base 38 ty 28 i0 3 Tryz.underlying38 hi v _ _ hown, ?_, World.grownBy.refl w _, .inl rfl⟩
    rw [List.append_nil]; exact hown
  · obtain ⟨v', w', h1, h2, h3, _, h5⟩ := run_append_own_at (P := Tryz.prog) w base 38 ty 28 i0 _ 3 24 Tryz.underlying38 hi hz0 hz1 hz2 rfl (by decide) v _ _ hown ad m.length c (flatC m) (flatC_length m) hc (flatC_one m) (by simp only [maxLen]; omega) (by omega) hbase
    refine ⟨v', w', h1, ?_, h3, h5⟩
    unfold COwns
    rw [List.length_append, flatC_append]
    exact h2
theorem wpList_append_cents {w : World} {ops : Array Oper} {rest : List Oper} {o : Oper} {a : Act} {Q : Exit → Act → World → Prop} {base B : Nat} {l m : List Cn} {v x : Value}
    (hown : COwns w base v l) (hx : CReads w B x m) (hl : l.length + m.length ≤ 5000000000000) (hbase : base ≤ w.heap.size)
    (hgd : o.guard = none) (s t : Operand) (ho : o.op = .call { callee := .builtin .append, args := #[s, t], argTypes := #[38, 38] })
    (hs : a.eval s = v) (ht : a.eval t = x)
    (h : ∀ v' w', COwns w' base v' (l ++ m) → w.grownBy w' v.ownBlock → (v'.ownBlock = v.ownBlock ∨ v'.ownBlock = some w.heap.size) → wpList Tryz.prog ops Q rest (a.put o.dst v') w') : wpList Tryz.prog ops Q (o :: rest) a w := by
  refine wpList_plain hgd fun K hK => ?_
  obtain ⟨v', w', hrun, h2, h3, h4⟩ := run_append_cents o.type hown hx hl hbase
  unfold Oper.wp execOp
  simp only [ho, resolve, invoke, builtin, Sem.run_bind, Sem.run_pure, Result.andThen_ok, List.map_toArray, List.map_cons, List.map_nil, hs, ht, hrun]
  exact hK _ _ (h v' w' h2 h3 h4)
theorem step_append_cents {w : World} {ops : Array Oper} {o : Oper} {a : Act} {K : Act → World → Prop} {Q : Exit → Act → World → Prop} {E : Prop} {base B : Nat} {l m : List Cn} {v x : Value}
    (hown : COwns w base v l) (hx : CReads w B x m) (hl : l.length + m.length ≤ 5000000000000) (hbase : base ≤ w.heap.size)
    (hgd : o.guard = none) (s t : Operand) (ho : o.op = .call { callee := .builtin .append, args := #[s, t], argTypes := #[38, 38] })
    (hs : a.eval s = v) (ht : a.eval t = x)
    (h : ∀ v' w', COwns w' base v' (l ++ m) → w.grownBy w' v.ownBlock → (v'.ownBlock = v.ownBlock ∨ v'.ownBlock = some w.heap.size) → K (a.put o.dst v') w') :
    if Region.wanted o (yielded ops a.tmps) = true then Oper.wp Tryz.prog o a w K Q else E := by
  have hw : Region.wanted o (yielded ops a.tmps) = true := by simp [Region.wanted, hgd]
  rw [if_pos hw]
  obtain ⟨v', w', hrun, h2, h3, h4⟩ := run_append_cents o.type hown hx hl hbase
  unfold Oper.wp execOp
  simp only [ho, resolve, invoke, builtin, Sem.run_bind, Sem.run_pure, Result.andThen_ok, List.map_toArray, List.map_cons, List.map_nil, hs, ht, hrun]
  exact h v' w' h2 h3 h4
theorem CReads.one {w : World} {g : Nat} {x y r : Int} (h0 : w.cell? ⟨g, 0, none⟩ = some (.int .i64 x)) (h1 : w.cell? ⟨g, 1, none⟩ = some (.int .i64 y)) (h2 : w.cell? ⟨g, 2, none⟩ = some (.int .i64 r)) : CReads w w.heap.size (.slice (some ⟨g, 0, none⟩) 1 1) [((x, y), r)] :=
  ⟨_, 1, rfl, by simp, by simp [maxLen], fun h => (by cases h), fun _ => ⟨g, 0, rfl, World.block_lt_of_cell? w _ h0, fun k u v t hk => by
    match k, hk with
    | 0, hk => cases hk; exact ⟨h0, h1, h2⟩⟩⟩
theorem flatC_replicate (n : Nat) : (madeCells #[Value.int .i64 0, .int .i64 0, .int .i64 0] (n * 3)).toList = flatC (List.replicate n ((0, 0), 0)) := by
  apply List.ext_getElem?
  intro j
  by_cases hj : j < n * 3
  · obtain ⟨⟨⟨x, y⟩, r⟩, hxy⟩ : ∃ a, (List.replicate n (((0 : Int), (0 : Int)), (0 : Int)))[j / 3]? = some a := ⟨_, List.getElem?_eq_getElem (by simp; omega)⟩
    have h0 : ((x, y), r) = (((0 : Int), (0 : Int)), (0 : Int)) := by
      have := List.mem_of_getElem? hxy
      exact (List.mem_replicate.1 this).2
    cases h0
    obtain ⟨f0, f1, f2⟩ := flatC_at hxy
    have hz : ∀ i : Nat, (#[Value.int .i64 0, .int .i64 0, .int .i64 0] : Array Value)[i % 3]! = .int .i64 0 := by
      intro i
      have : i % 3 = 0 ∨ i % 3 = 1 ∨ i % 3 = 2 := by omega
      rcases this with h | h | h <;> rw [h] <;> rfl
    have hm : j = j / 3 * 3 ∨ j = j / 3 * 3 + 1 ∨ j = j / 3 * 3 + 2 := by omega
    rcases hm with e | e | e
    · rw [e, f0, ← e]; simp [madeCells, hz, hj]
    · rw [e, f1, ← e]; simp [madeCells, hz, hj]
    · rw [e, f2, ← e]; simp [madeCells, hz, hj]
  · rw [List.getElem?_eq_none (by simp [madeCells]; omega), List.getElem?_eq_none (by rw [flatC_length]; simp; omega)]
/-- 'make([]Centre, n)' -/
theorem wpList_make_cents {w : World} {ops : Array Oper} {rest : List Oper} {o : Oper} {a : Act} {Q : Exit → Act → World → Prop}
    (n : Nat) (hn : n ≤ 5000000000000) (hg : o.guard = none) (l c : Operand) (hop : o.op = Op.makeSlice 38 l c) (L C : Int) (hl : a.eval l = .int .i64 L) (hc : a.eval c = .int .i64 C) (hL : L = (n : Int)) (hC : C = (n : Int))
    (hK : ∀ w', COwns w' w.heap.size (.slice (some ⟨w.heap.size, 0, none⟩) n n) (List.replicate n ((0, 0), 0)) → w.grownBy w' none → wpList Tryz.prog ops Q rest (a.put o.dst (.slice (some ⟨w.heap.size, 0, none⟩) n n)) w') :
    wpList Tryz.prog ops Q (o :: rest) a w := by
  obtain ⟨i0, hi, hz0, hz1, hz2⟩ := info_parts centInfo
  refine wpList_make_full (P := Tryz.prog) w hg l c _ hop w.heap.size 28 i0 _ 3 Tryz.underlying38 hi hz0 hz1 .i64 .i64 L C n hl hc hL hC (by rw [hz2]; omega) (by simp only [maxLen]; omega) (Nat.le_refl _) fun w' h1 h2 => hK w' ?_ h2
  unfold COwns
  rw [List.length_replicate, ← flatC_replicate]
  exact h1
/-! lists of deeds that agree up to a place -/
def AgreeC (p q : List Cn) (k : Nat) : Prop := ∀ j, j < k → p[j]? = q[j]?
theorem agreeC_all {p q : List Cn} (hl : p.length = q.length) (h : AgreeC p q p.length) : p = q := by
  apply List.ext_getElem?
  intro j
  by_cases hj : j < p.length
  · exact h j hj
  · rw [List.getElem?_eq_none (by omega), List.getElem?_eq_none (by omega)]
theorem agreeC_succ {p q : List Cn} {k : Nat} {a b : Cn} (h : AgreeC p q k) (hp : p[k]? = some a) (hq : q[k]? = some b) (e : a = b) : AgreeC p q (k + 1) := fun j hj => by
  by_cases ej : j = k
  · subst ej; rw [hp, hq, e]
  · exact h j (by omega)
theorem agreeC_set {p q : List Cn} {k : Nat} {a : Cn} (h : AgreeC p q k) (hk : k < p.length) (hq : q[k]? = some a) : AgreeC (p.set k a) q (k + 1) := fun j hj => by
  by_cases e : j = k
  · subst e; rw [hq, List.getElem?_set]; simp [hk]
  · rw [List.getElem?_set]; simp [show ¬ k = j by omega]; exact h j (by omega)
theorem agreeC_not {p q : List Cn} {k : Nat} {a b : Cn} (hp : p[k]? = some a) (hq : q[k]? = some b) (e : a ≠ b) : p ≠ q := by
  rintro rfl; rw [hp] at hq; exact e (Option.some.inj hq)
def GivesC (l : List Cn) (w : World) (e : Ending) (w' : World) : Prop := ∃ v', e = .returned v' ∧ COwns w' w.heap.size v' l ∧ Below w.heap.size w w'
end
/-! ### DeedL -/
section
open Go.RowKit Go.Sort

theorem ne_of_lt {v1 v2 : Value} {lo1 hi1 lo2 hi2 : Nat} (h1 : ∀ k, v1.ownBlock = some k → lo1 ≤ k ∧ k < hi1) (h2 : ∀ k, v2.ownBlock = some k → lo2 ≤ k ∧ k < hi2) (h : hi1 ≤ lo2 ∨ hi2 ≤ lo1) : v1.ownBlock = none ∨ v1.ownBlock ≠ v2.ownBlock := by
  cases e1 : v1.ownBlock with
  | none => exact .inl rfl
  | some k1 =>
    refine .inr fun e => ?_
    have l1 := h1 k1 e1
    have l2 := h2 k1 e.symm
    omega
def marksC : Nat → Int → List Cn
  | 0, _ => []
  | n + 1, k => ((k, k + 1), k + 1 + 1) :: marksC n (k + 3)
theorem marksC_length : ∀ (n : Nat) (k : Int), (marksC n k).length = n
  | 0, _ => rfl
  | n + 1, k => by simp [marksC, marksC_length n]
theorem marksC_at : ∀ (n : Nat) (k : Int) (j : Nat), j < n → (marksC n k)[j]? = some ((k + 3 * j, k + 3 * j + 1), k + 3 * j + 1 + 1)
  | 0, _, j, h => by omega
  | n + 1, k, 0, _ => by simp [marksC]
  | n + 1, k, j + 1, h => by
    simp only [marksC, List.getElem?_cons_succ]
    rw [marksC_at n (k + 3) j (by omega)]
    have e : k + 3 + 3 * (j : Int) = k + 3 * ((j : Nat) + 1 : Nat) := by push_cast; omega
    rw [e]
end
end Go.Proofs.YtkiidmdgdjphjaaGreat
