/-
  Words for slices of runs (three numbers, three cells each), as Base and Mem have them for spots: 'RReads' (a slice value reads as a list of runs), 'ROwns' (a slice made by the call holds one), append, one number stored. No conditions but those typed.
-/
import Derived.Test.YtkiidmdgdjphjaaGreatMem
import Derived.Test.YtkiidmdgdjphjaaGreatPlain
namespace Go.Proofs.YtkiidmdgdjphjaaGreat
open Go.RowKit Go.Sort

def flatR (l : List Rn) : List Value := l.flatMap fun c => [.int .i64 c.1.1, .int .i64 c.1.2, .int .i64 c.2]
theorem flatR_nil : flatR [] = [] := rfl
theorem flatR_cons (a : Rn) (l : List Rn) : flatR (a :: l) = .int .i64 a.1.1 :: .int .i64 a.1.2 :: .int .i64 a.2 :: flatR l := rfl
theorem flatR_append (p q : List Rn) : flatR (p ++ q) = flatR p ++ flatR q := by simp [flatR]
theorem flatR_length : ∀ l : List Rn, (flatR l).length = l.length * 3
  | [] => rfl
  | a :: l => by rw [flatR_cons]; simp [flatR_length l]; omega
theorem flatR_at : ∀ {l : List Rn} {k : Nat} {x y r : Int}, l[k]? = some ((x, y), r) → (flatR l)[k * 3]? = some (.int .i64 x) ∧ (flatR l)[k * 3 + 1]? = some (.int .i64 y) ∧ (flatR l)[k * 3 + 2]? = some (.int .i64 r)
  | a :: l, 0, x, y, r, h => by cases h; exact ⟨rfl, rfl, rfl⟩
  | a :: l, k + 1, x, y, r, h => by
    have e0 : (k + 1) * 3 = k * 3 + 1 + 1 + 1 := by omega
    have ih := flatR_at (l := l) (k := k) (by simpa using h)
    rw [e0, flatR_cons]
    exact ih
theorem flatR_one : ∀ (l : List Rn), ∀ u ∈ flatR l, u.oneCell' = true := by
  intro l u hu
  obtain ⟨a, _, ha⟩ := List.mem_flatMap.1 hu
  simp at ha
  rcases ha with rfl | rfl | rfl <;> rfl

/-- the three cells of centre number k of a slice at block b from cell off on -/
structure AtR (w : World) (b off k : Nat) (x y r : Int) : Prop where
  c0 : w.cell? ⟨b, off + k * 3, none⟩ = some (.int .i64 x)
  c1 : w.cell? ⟨b, off + k * 3 + 1, none⟩ = some (.int .i64 y)
  c2 : w.cell? ⟨b, off + k * 3 + 2, none⟩ = some (.int .i64 r)
theorem AtR.below {w w' : World} {B b off k : Nat} {x y r : Int} (h : AtR w b off k x y r) (hb : Below B w w') (hB : b < B) : AtR w' b off k x y r :=
  ⟨(hb.cell (p := ⟨b, off + k * 3, none⟩) hB).trans h.c0, (hb.cell (p := ⟨b, off + k * 3 + 1, none⟩) hB).trans h.c1, (hb.cell (p := ⟨b, off + k * 3 + 2, none⟩) hB).trans h.c2⟩
structure RReads (w : World) (B : Nat) (v : Value) (l : List Rn) : Prop where
  is : ∃ A c, v = .slice A l.length c ∧ l.length ≤ c ∧ c ≤ maxLen ∧ (A = none → c = 0) ∧
    (0 < c → ∃ b off, A = some ⟨b, off, none⟩ ∧ b < B ∧ ∀ k x y r, l[k]? = some ((x, y), r) → AtR w b off k x y r)
theorem RReads.below {w w' : World} {B : Nat} {v : Value} {l : List Rn} (h : RReads w B v l) (hb : Below B w w') : RReads w' B v l := by
  obtain ⟨A, c, h1, h2, h3, h4, h5⟩ := h.is
  refine ⟨A, c, h1, h2, h3, h4, fun hc => ?_⟩
  obtain ⟨b, off, h6, h7, h8⟩ := h5 hc
  exact ⟨b, off, h6, h7, fun k x y r hk => (h8 k x y r hk).below hb h7⟩
theorem RReads.more {w : World} {B B' : Nat} {v : Value} {l : List Rn} (h : RReads w B v l) (hB : B ≤ B') : RReads w B' v l := by
  obtain ⟨A, c, h1, h2, h3, h4, h5⟩ := h.is
  refine ⟨A, c, h1, h2, h3, h4, fun hc => ?_⟩
  obtain ⟨b, off, h6, h7, h8⟩ := h5 hc
  exact ⟨b, off, h6, by omega, h8⟩
theorem RReads.kept {w w' : World} {v : Value} {l : List Rn} (h : RReads w w.heap.size v l) (hb : Below w.heap.size w w') : RReads w' w'.heap.size v l := (h.below hb).more hb.size
theorem RReads.slice {w : World} {B : Nat} {v : Value} {l : List Rn} (h : RReads w B v l) : ∃ A c, v = .slice A l.length c ∧ l.length ≤ c ∧ c ≤ maxLen := by
  obtain ⟨A, c, h1, h2, h3, _⟩ := h.is
  exact ⟨A, c, h1, h2, h3⟩
theorem RReads.nil (w : World) (B : Nat) : RReads w B (.slice none 0 0) [] := ⟨none, 0, rfl, by simp, by simp [maxLen], fun _ => rfl, fun h => by omega⟩

def ROwns (w : World) (base : Nat) (v : Value) (l : List Rn) : Prop := w.ownsRow base 115 3 v l.length (flatR l)
theorem ROwns.reads {w : World} {base : Nat} {v : Value} {l : List Rn} (h : ROwns w base v l) : RReads w w.heap.size v l := by
  obtain ⟨_, h2⟩ := h
  rcases h2 with ⟨rfl, h0⟩ | ⟨g, cap, cur, rfl, _, hg, hn, hc, hs, ht⟩
  · exact ⟨none, 0, by rw [h0], by omega, by simp [maxLen], fun _ => rfl, fun h => by omega⟩
  · refine ⟨some ⟨g, 0, none⟩, cap, rfl, hn, hc, fun h => (by cases h), fun _ => ⟨g, 0, rfl, (Array.getElem?_eq_some_iff.1 hg).1, fun k x y r hk => ?_⟩⟩
    have hk' : k < l.length := (List.getElem?_eq_some_iff.1 hk).1
    obtain ⟨c0, c1, c2⟩ := flatR_at hk
    rw [← ht, List.getElem?_take, if_pos (by omega)] at c0 c1 c2
    refine ⟨?_, ?_, ?_⟩
    · rw [cell_of_row w g _ cur _ (0, 0) hg, Nat.zero_add]; simpa using c0
    · rw [cell_of_row w g _ cur _ (0, 0) hg, Nat.zero_add]; simpa using c1
    · rw [cell_of_row w g _ cur _ (0, 0) hg, Nat.zero_add]; simpa using c2
theorem ROwns.below {w w' : World} {base : Nat} {v : Value} {l : List Rn} (h : ROwns w base v l) (hb : Below w.heap.size w w') : ROwns w' base v l := by
  refine ⟨h.1, ?_⟩
  rcases h.2 with h0 | ⟨g, cap, cur, rfl, h1, hg, h2⟩
  · exact .inl h0
  · exact .inr ⟨g, cap, cur, rfl, h1, (hb.block g (Array.getElem?_eq_some_iff.1 hg).1).trans hg, h2⟩
theorem ROwns.base {w : World} {base base' : Nat} {v : Value} {l : List Rn} (h : ROwns w base v l) (hb : base' ≤ base) : ROwns w base' v l := by
  refine ⟨h.1, ?_⟩
  rcases h.2 with h0 | ⟨g, cap, cur, rfl, h1, h2⟩
  · exact .inl h0
  · exact .inr ⟨g, cap, cur, rfl, by omega, h2⟩
theorem ROwns.lt {w : World} {base : Nat} {v : Value} {l : List Rn} (h : ROwns w base v l) : ∀ k, v.ownBlock = some k → base ≤ k ∧ k < w.heap.size := World.ownsRow.lt h
theorem ROwns.empty (w : World) (base : Nat) (hb : base ≤ w.heap.size) : ROwns (w.alloc (.cells #[] 115)) base (.slice (some ⟨w.heap.size, 0, none⟩) 0 0) [] :=
  World.ownsRow_lit w #[] 0 hb (by simp [maxLen]) rfl
theorem ROwns.nil (w : World) (base : Nat) : ROwns w base (.slice none 0 0) [] := World.ownsRow_nil w base _ _
theorem ROwns.grown {w w' : World} {base : Nat} {v : Value} {l : List Rn} {row : Option Nat} (h : ROwns w base v l) (hg : w.grownBy w' row) (hne : v.ownBlock = none ∨ v.ownBlock ≠ row) : ROwns w' base v l := World.ownsRow.kept h hg hne
theorem ROwns.below_app {a w w' : World} {base : Nat} {v : Value} {l : List Rn} (h : ROwns w base v l) (hb : Below base a w) (hB : base ≤ w.heap.size) (hg : w.grownBy w' v.ownBlock) : Below base a w' :=
  hb.grown hg hB fun k hk => (h.lt k hk).1
theorem ROwns.len {w : World} {base g n cap : Nat} {l : List Rn} (h : ROwns w base (.slice (some ⟨g, 0, none⟩) n cap) l) : n = l.length := by
  obtain ⟨A, c, h1, _⟩ := h.reads.is
  cases h1; rfl
theorem ROwns.free {w : World} {base g n cap : Nat} {l : List Rn} (h : ROwns w base (.slice (some ⟨g, 0, none⟩) n cap) l) (j : Nat) : w.frozen? ⟨g, j, none⟩ = false := by
  have hn := h.len
  subst hn
  exact World.ownsRow.frozenAt h j
theorem ROwns.there {w : World} {base g n cap : Nat} {l : List Rn} (h : ROwns w base (.slice (some ⟨g, 0, none⟩) n cap) l) {k : Nat} (hk : k < l.length) : ∃ x y r, l[k]? = some ((x, y), r) ∧ w.cell? ⟨g, k * 3, none⟩ = some (.int .i64 x) ∧ w.cell? ⟨g, k * 3 + 1, none⟩ = some (.int .i64 y) ∧ w.cell? ⟨g, k * 3 + 2, none⟩ = some (.int .i64 r) := by
  have hn := h.len
  subst hn
  obtain ⟨⟨⟨x, y⟩, r⟩, hxy⟩ : ∃ a, l[k]? = some a := ⟨_, List.getElem?_eq_getElem hk⟩
  obtain ⟨c0, c1, c2⟩ := flatR_at hxy
  refine ⟨x, y, r, hxy, ?_, ?_, ?_⟩
  · rw [World.ownsRow.cellAt h _ (by omega), c0]
  · rw [World.ownsRow.cellAt h _ (by omega), c1]
  · rw [World.ownsRow.cellAt h _ (by omega), c2]
theorem ROwns.set {w : World} {base g n cap : Nat} {l : List Rn} (h : ROwns w base (.slice (some ⟨g, 0, none⟩) n cap) l) (k : Nat) (x y r : Int) (hk : k < l.length) :
    ROwns (((w.setCell ⟨g, k * 3, none⟩ (.int .i64 x)).setCell ⟨g, k * 3 + 1, none⟩ (.int .i64 y)).setCell ⟨g, k * 3 + 2, none⟩ (.int .i64 r)) base (.slice (some ⟨g, 0, none⟩) n cap) (l.set k ((x, y), r)) := by
  have hn := h.len
  subst hn
  have h1 := (World.ownsRow.stored h (k * 3) (.int .i64 x)).1
  have h2 := (World.ownsRow.stored h1 (k * 3 + 1) (.int .i64 y)).1
  have h3 := (World.ownsRow.stored h2 (k * 3 + 2) (.int .i64 r)).1
  have e : (((flatR l).set (k * 3) (.int .i64 x)).set (k * 3 + 1) (.int .i64 y)).set (k * 3 + 2) (.int .i64 r) = flatR (l.set k ((x, y), r)) := by
    clear h h1 h2 h3
    induction l generalizing k with
    | nil => simp at hk
    | cons a l ih =>
      cases k with
      | zero => simp [flatR_cons]
      | succ k =>
        have e1 : (k + 1) * 3 = k * 3 + 1 + 1 + 1 := by omega
        rw [e1]
        simp only [flatR_cons, List.set_cons_succ]
        have := ih k (by simpa using hk)
        rw [← this]
  unfold ROwns
  rw [List.length_set, ← e]
  exact h3

theorem flatR_setTo (l : List Rn) (k : Nat) (y f u x : Int) (h : l[k]? = some ((y, f), u)) : (flatR l).set (k * 3 + 2) (.int .i64 x) = flatR (l.set k ((y, f), x)) := by
  induction l generalizing k with
  | nil => simp at h
  | cons a l ih =>
    cases k with
    | zero => cases h; simp [flatR_cons]
    | succ k =>
      have e1 : (k + 1) * 3 + 2 = (k * 3 + 2) + 1 + 1 + 1 := by omega
      rw [e1]
      simp only [flatR_cons, List.set_cons_succ]
      rw [ih k (by simpa using h)]
/-- where a run ends is stored -/
theorem ROwns.setTo {w : World} {base g n cap : Nat} {l : List Rn} (h : ROwns w base (.slice (some ⟨g, 0, none⟩) n cap) l) {k : Nat} {y f u : Int} (x : Int) (hk : l[k]? = some ((y, f), u)) :
    ROwns (w.setCell ⟨g, k * 3 + 2, none⟩ (.int .i64 x)) base (.slice (some ⟨g, 0, none⟩) n cap) (l.set k ((y, f), x)) := by
  have hn := h.len
  subst hn
  have h1 := (World.ownsRow.stored h (k * 3 + 2) (.int .i64 x)).1
  unfold ROwns
  rw [List.length_set, ← flatR_setTo l k y f u x hk]
  exact h1

theorem runInfo : (Tryz.prog.info? 115).map (fun i => (i.zero, i.size, i.bytes)) = some (some (.agg #[.int .i64 0, .int .i64 0, .int .i64 0]), 3, 24) := by kernel_rfl
theorem RReads.cells {w : World} {B : Nat} {v : Value} {l : List Rn} (h : RReads w B v l) : (v = .slice none 0 0 ∧ l = []) ∨
    ∃ ad c, v = .slice (some ad) l.length c ∧ ∀ j u, (flatR l)[j]? = some u → w.cell? (ad.add j) = some u := by
  obtain ⟨A, c, rfl, h2, h3, h4, h5⟩ := h.is
  cases A with
  | none =>
    have hc := h4 rfl
    subst hc
    have hl : l.length = 0 := by omega
    exact .inl ⟨by rw [hl], List.eq_nil_of_length_eq_zero hl⟩
  | some ad =>
    refine .inr ⟨ad, c, rfl, fun j u hj => ?_⟩
    have hjl : j < l.length * 3 := by rw [← flatR_length]; exact (List.getElem?_eq_some_iff.1 hj).1
    obtain ⟨b, off, hA, _, hcell⟩ := h5 (by omega)
    cases hA
    obtain ⟨⟨⟨x, y⟩, r⟩, hxy⟩ : ∃ a, l[j / 3]? = some a := ⟨_, List.getElem?_eq_getElem (by omega)⟩
    have H := hcell _ x y r hxy
    obtain ⟨f0, f1, f2⟩ := flatR_at hxy
    rw [Addr.add_lit]
    have hm : j = j / 3 * 3 ∨ j = j / 3 * 3 + 1 ∨ j = j / 3 * 3 + 2 := by omega
    rcases hm with e | e | e
    · rw [e, f0] at hj; cases hj; rw [e]; exact H.c0
    · rw [e, f1] at hj; cases hj; rw [e, ← Nat.add_assoc]; exact H.c1
    · rw [e, f2] at hj; cases hj; rw [e, ← Nat.add_assoc]; exact H.c2
theorem run_append_runs {w : World} {base B : Nat} {v x : Value} {l m : List Rn} (ty : TypeId) (hown : ROwns w base v l) (hx : RReads w B x m) (hl : l.length + m.length ≤ 5000000000000) (hbase : base ≤ w.heap.size) :
    ∃ v' w', (Builtin.append_ #[116, 116] ty #[v, x]).run Tryz.prog w = .ok v' w' ∧ ROwns w' base v' (l ++ m) ∧ w.grownBy w' v.ownBlock ∧ (v'.ownBlock = v.ownBlock ∨ v'.ownBlock = some w.heap.size) := by
  obtain ⟨i0, hi, hz0, hz1, hz2⟩ := info_parts runInfo
  rcases hx.cells with ⟨rfl, rfl⟩ | ⟨ad, c, rfl, hc⟩
  · refine ⟨v, w, run_append_owned_none w base 116 ty 115 i0 3 Tryz.underlying116 hi v _ _ hown, ?_, World.grownBy.refl w _, .inl rfl⟩
    rw [List.append_nil]; exact hown
  · obtain ⟨v', w', h1, h2, h3, _, h5⟩ := run_append_own_at (P := Tryz.prog) w base 116 ty 115 i0 _ 3 24 Tryz.underlying116 hi hz0 hz1 hz2 rfl (by decide) v _ _ hown ad m.length c (flatR m) (flatR_length m) hc (flatR_one m) (by simp only [maxLen]; omega) (by omega) hbase
    refine ⟨v', w', h1, ?_, h3, h5⟩
    unfold ROwns
    rw [List.length_append, flatR_append]
    exact h2
theorem wpList_append_runs {w : World} {ops : Array Oper} {rest : List Oper} {o : Oper} {a : Act} {Q : Exit → Act → World → Prop} {base B : Nat} {l m : List Rn} {v x : Value}
    (hown : ROwns w base v l) (hx : RReads w B x m) (hl : l.length + m.length ≤ 5000000000000) (hbase : base ≤ w.heap.size)
    (hgd : o.guard = none) (s t : Operand) (ho : o.op = .call { callee := .builtin .append, args := #[s, t], argTypes := #[116, 116] })
    (hs : a.eval s = v) (ht : a.eval t = x)
    (h : ∀ v' w', ROwns w' base v' (l ++ m) → w.grownBy w' v.ownBlock → (v'.ownBlock = v.ownBlock ∨ v'.ownBlock = some w.heap.size) → wpList Tryz.prog ops Q rest (a.put o.dst v') w') : wpList Tryz.prog ops Q (o :: rest) a w := by
  refine wpList_plain hgd fun K hK => ?_
  obtain ⟨v', w', hrun, h2, h3, h4⟩ := run_append_runs o.type hown hx hl hbase
  unfold Oper.wp execOp
  simp only [ho, resolve, invoke, builtin, Sem.run_bind, Sem.run_pure, Result.andThen_ok, List.map_toArray, List.map_cons, List.map_nil, hs, ht, hrun]
  exact hK _ _ (h v' w' h2 h3 h4)
theorem step_append_runs {w : World} {ops : Array Oper} {o : Oper} {a : Act} {K : Act → World → Prop} {Q : Exit → Act → World → Prop} {E : Prop} {base B : Nat} {l m : List Rn} {v x : Value}
    (hown : ROwns w base v l) (hx : RReads w B x m) (hl : l.length + m.length ≤ 5000000000000) (hbase : base ≤ w.heap.size)
    (hgd : o.guard = none) (s t : Operand) (ho : o.op = .call { callee := .builtin .append, args := #[s, t], argTypes := #[116, 116] })
    (hs : a.eval s = v) (ht : a.eval t = x)
    (h : ∀ v' w', ROwns w' base v' (l ++ m) → w.grownBy w' v.ownBlock → (v'.ownBlock = v.ownBlock ∨ v'.ownBlock = some w.heap.size) → K (a.put o.dst v') w') :
    if Region.wanted o (yielded ops a.tmps) = true then Oper.wp Tryz.prog o a w K Q else E := by
  have hw : Region.wanted o (yielded ops a.tmps) = true := by simp [Region.wanted, hgd]
  rw [if_pos hw]
  obtain ⟨v', w', hrun, h2, h3, h4⟩ := run_append_runs o.type hown hx hl hbase
  unfold Oper.wp execOp
  simp only [ho, resolve, invoke, builtin, Sem.run_bind, Sem.run_pure, Result.andThen_ok, List.map_toArray, List.map_cons, List.map_nil, hs, ht, hrun]
  exact h v' w' h2 h3 h4
theorem RReads.one {w : World} {g : Nat} {x y r : Int} (h0 : w.cell? ⟨g, 0, none⟩ = some (.int .i64 x)) (h1 : w.cell? ⟨g, 1, none⟩ = some (.int .i64 y)) (h2 : w.cell? ⟨g, 2, none⟩ = some (.int .i64 r)) : RReads w w.heap.size (.slice (some ⟨g, 0, none⟩) 1 1) [((x, y), r)] :=
  ⟨_, 1, rfl, by simp, by simp [maxLen], fun h => (by cases h), fun _ => ⟨g, 0, rfl, World.block_lt_of_cell? w _ h0, fun k u v t hk => by
    match k, hk with
    | 0, hk => cases hk; exact ⟨h0, h1, h2⟩⟩⟩
def GivesR (l : List Rn) (w : World) (e : Ending) (w' : World) : Prop := ∃ v', e = .returned v' ∧ ROwns w' w.heap.size v' l ∧ Below w.heap.size w w'
end Go.Proofs.YtkiidmdgdjphjaaGreat
