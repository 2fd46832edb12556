/- Texts of one kind, merged: Ones, Parts. No conditions but those that stand in each theorem. -/
import Derived.Test.YtpdnakiilhohdaaDoorMem
import Derived.Deep.LoopGhost
import Derived.Deep.RegionHeld3
namespace Go.Proofs.YtpdnakiilhohdaaDoor
/-! ### Ones -/
section
open Go.RowKit Go.Sort

/-- A slice that the call itself made, of elements of type T, one cell each. -/
def VOwns (T : TypeId) (w : World) (base : Nat) (v : Value) (l : List Value) : Prop := w.ownsRow base T 1 v l.length l
section
variable {T : TypeId} {w w' : World} {base base' : Nat} {v : Value} {l : List Value}
theorem VOwns.below (h : VOwns T w base v l) (hb : Below w.heap.size w w') : VOwns T w' base v l := by
  refine ⟨h.1, ?_⟩
  rcases h.2 with h0 | ⟨g, cap, cur, rfl, h1, hg, h2⟩
  · exact .inl h0
  · exact .inr ⟨g, cap, cur, rfl, h1, (hb.block g (Array.getElem?_eq_some_iff.1 hg).1).trans hg, h2⟩
theorem VOwns.lower (h : VOwns T w base v l) (hb : base' ≤ base) : VOwns T w base' v l := by
  refine ⟨h.1, ?_⟩
  rcases h.2 with h0 | ⟨g, cap, cur, rfl, h1, h2⟩
  · exact .inl h0
  · exact .inr ⟨g, cap, cur, rfl, by omega, h2⟩
theorem VOwns.lt (h : VOwns T w base v l) : ∀ k, v.ownBlock = some k → base ≤ k ∧ k < w.heap.size := World.ownsRow.lt h
theorem VOwns.nil (T : TypeId) (w : World) (base : Nat) : VOwns T w base (.slice none 0 0) [] := World.ownsRow_nil w base _ _
theorem VOwns.empty (T : TypeId) (w : World) (base : Nat) (hb : base ≤ w.heap.size) : VOwns T (w.alloc (.cells #[] T)) base (.slice (some ⟨w.heap.size, 0, none⟩) 0 0) [] :=
  World.ownsRow_lit w #[] 0 hb (by simp [maxLen]) rfl
theorem VOwns.one (T : TypeId) (w : World) (base : Nat) (x : Value) (hb : base ≤ w.heap.size) : VOwns T (w.alloc (.cells #[x] T)) base (.slice (some ⟨w.heap.size, 0, none⟩) 1 1) [x] :=
  World.ownsRow_lit w #[x] 1 hb (by simp [maxLen]) rfl
theorem VOwns.grown {row : Option Nat} (h : VOwns T w base v l) (hg : w.grownBy w' row) (hne : v.ownBlock = none ∨ v.ownBlock ≠ row) : VOwns T w' base v l := World.ownsRow.kept h hg hne
theorem VOwns.below_app {a : World} (h : VOwns T w base v l) (hb : Below base a w) (hB : base ≤ w.heap.size) (hg : w.grownBy w' v.ownBlock) : Below base a w' :=
  hb.grown hg hB fun k hk => (h.lt k hk).1
theorem VOwns.shape (h : VOwns T w base v l) : ∃ A c, v = .slice A l.length c ∧ l.length ≤ c ∧ c ≤ maxLen ∧ (0 < l.length → ∃ g, A = some ⟨g, 0, none⟩ ∧ base ≤ g ∧ g < w.heap.size) := by
  have h' := h
  rcases h.2 with ⟨rfl, h0⟩ | ⟨g, cap, cur, rfl, hb, hg, hn, hc, hs, ht⟩
  · exact ⟨none, 0, by rw [h0], by omega, by simp [maxLen], fun k => by omega⟩
  · exact ⟨some ⟨g, 0, none⟩, cap, rfl, hn, hc, fun _ => ⟨g, rfl, h'.lt g rfl⟩⟩
theorem VOwns.setOther (h : VOwns T w base v l) {a : Addr} (ha : v.ownBlock = none ∨ v.ownBlock ≠ some a.block) (x : Value) : VOwns T (w.setCell a x) base v l := by
  refine ⟨h.1, ?_⟩
  rcases h.2 with h0 | ⟨g, cap, cur, rfl, h1, hg, h2⟩
  · exact .inl h0
  · refine .inr ⟨g, cap, cur, rfl, h1, (heap_setCell_other _ _ _ _ (fun e => ?_)).trans hg, h2⟩
    rcases ha with ha | ha
    · cases ha
    · exact ha (by rw [← e]; rfl)
variable {g n cap : Nat}
theorem VOwns.len (h : VOwns T w base (.slice (some ⟨g, 0, none⟩) n cap) l) : n = l.length := by
  obtain ⟨A, c, h1, _⟩ := h.shape
  injection h1
theorem VOwns.free (h : VOwns T w base (.slice (some ⟨g, 0, none⟩) n cap) l) (j : Nat) : w.frozen? ⟨g, j, none⟩ = false := by
  have hn := h.len
  subst hn
  exact World.ownsRow.frozenAt h j
theorem VOwns.cell (h : VOwns T w base (.slice (some ⟨g, 0, none⟩) n cap) l) {k : Nat} (hk : k < l.length) : w.cell? ⟨g, k, none⟩ = l[k]? := by
  have hn := h.len
  subst hn
  exact World.ownsRow.cellAt h k (by omega)
theorem VOwns.set (h : VOwns T w base (.slice (some ⟨g, 0, none⟩) n cap) l) (k : Nat) (x : Value) : VOwns T (w.setCell ⟨g, k, none⟩ x) base (.slice (some ⟨g, 0, none⟩) n cap) (l.set k x) := by
  have hn := h.len
  subst hn
  have h1 := (World.ownsRow.stored h k x).1
  unfold VOwns
  rw [List.length_set]; exact h1
theorem VOwns.take (h : VOwns T w base (.slice (some ⟨g, 0, none⟩) n cap) l) {k : Nat} (hk : k ≤ l.length) : VOwns T w base (.slice (some ⟨g, 0, none⟩) k cap) (l.take k) := by
  have hn := h.len
  subst hn
  have e : (l.take k).length = k := by rw [List.length_take]; omega
  unfold VOwns
  rw [e]
  refine ⟨by rw [e]; omega, ?_⟩
  rcases h.2 with ⟨h0, _⟩ | ⟨g', cap', cur, h0, h1, hg, h2, h3, h4, h5⟩
  · cases h0
  · injection h0 with e1 e2 e3
    injection e1 with e1
    injection e1 with e1
    subst e1 e3
    refine .inr ⟨g, cap, cur, rfl, h1, hg, by omega, h3, h4, ?_⟩
    rw [Nat.mul_one] at h5 ⊢
    rw [← h5, List.take_take, Nat.min_eq_left hk]
end
theorem setGrown (w : World) (g j : Nat) (u : Value) : w.grownBy (w.setCell ⟨g, j, none⟩ u) (some g) :=
  ⟨rfl, rfl, rfl, by simp [World.setCell], fun k _ hne => Below.heap_setCell w ⟨g, j, none⟩ u k (fun e => hne (by rw [e]))⟩
theorem made_one (z : Value) (n : Nat) : (madeCells #[z] (n * 1)).toList = List.replicate n z := by
  apply List.ext_getElem?
  intro j
  by_cases hj : j < n
  · rw [List.getElem?_replicate, if_pos hj]
    have e : j % 1 = 0 := Nat.mod_one j
    simp [madeCells, hj, e]
  · rw [List.getElem?_eq_none (by simp [madeCells]; omega), List.getElem?_eq_none (by simp; omega)]
theorem one_at {w : World} {g : Nat} {x : Value} (h : w.cell? ⟨g, 0, none⟩ = some x) : ∀ j u, ([x] : List Value)[j]? = some u → w.cell? ((⟨g, 0, none⟩ : Addr).add j) = some u := fun j u hj => by
  match j, hj with
  | 0, hj => cases hj; exact h
theorem infoInt : (Tryd.prog.info? 3).map (fun i => (i.zero, i.size, i.bytes)) = some (some (.int .i64 0), 1, 8) := by kernel_rfl
theorem run_append_Int {w : World} {base g : Nat} {v x : Value} {l : List Value} (ty : TypeId) (hown : VOwns 3 w base v l) (h0 : w.cell? ⟨g, 0, none⟩ = some x) (hx : x.oneCell' = true) (hl : l.length ≤ 4000000000000) (hbase : base ≤ w.heap.size) :
    ∃ v' w', (Builtin.append_ #[53, 53] ty #[v, .slice (some ⟨g, 0, none⟩) 1 1]).run Tryd.prog w = .ok v' w' ∧ VOwns 3 w' base v' (l ++ [x]) ∧ w.grownBy w' v.ownBlock ∧ (v'.ownBlock = v.ownBlock ∨ v'.ownBlock = some w.heap.size) := by
  obtain ⟨i0, hi, hz0, hz1, hz2⟩ := info_parts infoInt
  obtain ⟨v', w', h1, h2, h3, _, h5⟩ := run_append_own_at (P := Tryd.prog) w base 53 ty 3 i0 _ 1 8 Tryd.underlying53 hi hz0 hz1 hz2 rfl (by decide) v _ _ hown ⟨g, 0, none⟩ 1 1 [x] rfl (one_at h0) (fun u hu => by rw [List.mem_singleton] at hu; rw [hu]; exact hx) (by simp only [maxLen]; omega) (by omega) hbase
  refine ⟨v', w', h1, ?_, h3, h5⟩
  unfold VOwns
  rw [List.length_append]
  exact h2
theorem wpList_append_Int {w : World} {ops : Array Oper} {rest : List Oper} {o : Oper} {a : Act} {Q : Exit → Act → World → Prop} {base g : Nat} {l : List Value} {v x : Value}
    (hown : VOwns 3 w base v l) (h0 : w.cell? ⟨g, 0, none⟩ = some x) (hx : x.oneCell' = true) (hl : l.length ≤ 4000000000000) (hbase : base ≤ w.heap.size)
    (hgd : o.guard = none) (s t : Operand) (ho : o.op = .call { callee := .builtin .append, args := #[s, t], argTypes := #[53, 53] })
    (hs : a.eval s = v) (ht : a.eval t = .slice (some ⟨g, 0, none⟩) 1 1)
    (h : ∀ v' w', VOwns 3 w' base v' (l ++ [x]) → w.grownBy w' v.ownBlock → (v'.ownBlock = v.ownBlock ∨ v'.ownBlock = some w.heap.size) → wpList Tryd.prog ops Q rest (a.put o.dst v') w') : wpList Tryd.prog ops Q (o :: rest) a w := by
  refine wpList_plain hgd fun K hK => ?_
  obtain ⟨v', w', hrun, h2, h3, h4⟩ := run_append_Int o.type hown h0 hx hl hbase
  unfold Oper.wp execOp
  simp only [ho, resolve, invoke, builtin, Sem.run_bind, Sem.run_pure, Result.andThen_ok, List.map_toArray, List.map_cons, List.map_nil, hs, ht, hrun]
  exact hK _ _ (h v' w' h2 h3 h4)
theorem step_append_Int {w : World} {ops : Array Oper} {o : Oper} {a : Act} {K : Act → World → Prop} {Q : Exit → Act → World → Prop} {E : Prop} {base g : Nat} {l : List Value} {v x : Value}
    (hown : VOwns 3 w base v l) (h0 : w.cell? ⟨g, 0, none⟩ = some x) (hx : x.oneCell' = true) (hl : l.length ≤ 4000000000000) (hbase : base ≤ w.heap.size)
    (hgd : o.guard = none) (s t : Operand) (ho : o.op = .call { callee := .builtin .append, args := #[s, t], argTypes := #[53, 53] })
    (hs : a.eval s = v) (ht : a.eval t = .slice (some ⟨g, 0, none⟩) 1 1)
    (h : ∀ v' w', VOwns 3 w' base v' (l ++ [x]) → w.grownBy w' v.ownBlock → (v'.ownBlock = v.ownBlock ∨ v'.ownBlock = some w.heap.size) → K (a.put o.dst v') w') :
    if Region.wanted o (yielded ops a.tmps) = true then Oper.wp Tryd.prog o a w K Q else E := by
  have hw : Region.wanted o (yielded ops a.tmps) = true := by simp [Region.wanted, hgd]
  rw [if_pos hw]
  obtain ⟨v', w', hrun, h2, h3, h4⟩ := run_append_Int o.type hown h0 hx hl hbase
  unfold Oper.wp execOp
  simp only [ho, resolve, invoke, builtin, Sem.run_bind, Sem.run_pure, Result.andThen_ok, List.map_toArray, List.map_cons, List.map_nil, hs, ht, hrun]
  exact h v' w' h2 h3 h4
theorem wpList_make_Int {w : World} {ops : Array Oper} {rest : List Oper} {o : Oper} {a : Act} {Q : Exit → Act → World → Prop}
    (n : Nat) (hn : n ≤ 4000000000000) (hg : o.guard = none) (l c : Operand) (hop : o.op = Op.makeSlice 53 l c) (L C : Int) (hl : a.eval l = .int .i64 L) (hc : a.eval c = .int .i64 C) (hL : L = (n : Int)) (hC : C = (n : Int))
    (hK : ∀ w', VOwns 3 w' w.heap.size (.slice (some ⟨w.heap.size, 0, none⟩) n n) (List.replicate n (.int .i64 0)) → w.grownBy w' none → wpList Tryd.prog ops Q rest (a.put o.dst (.slice (some ⟨w.heap.size, 0, none⟩) n n)) w') :
    wpList Tryd.prog ops Q (o :: rest) a w := by
  obtain ⟨i0, hi, hz0, hz1, hz2⟩ := info_parts infoInt
  refine wpList_make_full (P := Tryd.prog) w hg l c _ hop w.heap.size 3 i0 _ 1 Tryd.underlying53 hi hz0 hz1 .i64 .i64 L C n hl hc hL hC (by rw [hz2]; omega) (by simp only [maxLen]; omega) (Nat.le_refl _) fun w' h1 h2 => hK w' ?_ h2
  unfold VOwns
  rw [List.length_replicate, ← made_one]
  exact h1
theorem infoBool : (Tryd.prog.info? 4).map (fun i => (i.zero, i.size, i.bytes)) = some (some (.bool false), 1, 1) := by kernel_rfl
theorem infoStr : (Tryd.prog.info? 9).map (fun i => (i.zero, i.size, i.bytes)) = some (some (.string ⟨#[]⟩), 1, 16) := by kernel_rfl
theorem run_append_Str {w : World} {base g : Nat} {v x : Value} {l : List Value} (ty : TypeId) (hown : VOwns 9 w base v l) (h0 : w.cell? ⟨g, 0, none⟩ = some x) (hx : x.oneCell' = true) (hl : l.length ≤ 4000000000000) (hbase : base ≤ w.heap.size) :
    ∃ v' w', (Builtin.append_ #[62, 62] ty #[v, .slice (some ⟨g, 0, none⟩) 1 1]).run Tryd.prog w = .ok v' w' ∧ VOwns 9 w' base v' (l ++ [x]) ∧ w.grownBy w' v.ownBlock ∧ (v'.ownBlock = v.ownBlock ∨ v'.ownBlock = some w.heap.size) := by
  obtain ⟨i0, hi, hz0, hz1, hz2⟩ := info_parts infoStr
  obtain ⟨v', w', h1, h2, h3, _, h5⟩ := run_append_own_at (P := Tryd.prog) w base 62 ty 9 i0 _ 1 16 Tryd.underlying62 hi hz0 hz1 hz2 rfl (by decide) v _ _ hown ⟨g, 0, none⟩ 1 1 [x] rfl (one_at h0) (fun u hu => by rw [List.mem_singleton] at hu; rw [hu]; exact hx) (by simp only [maxLen]; omega) (by omega) hbase
  refine ⟨v', w', h1, ?_, h3, h5⟩
  unfold VOwns
  rw [List.length_append]
  exact h2
theorem wpList_append_Str {w : World} {ops : Array Oper} {rest : List Oper} {o : Oper} {a : Act} {Q : Exit → Act → World → Prop} {base g : Nat} {l : List Value} {v x : Value}
    (hown : VOwns 9 w base v l) (h0 : w.cell? ⟨g, 0, none⟩ = some x) (hx : x.oneCell' = true) (hl : l.length ≤ 4000000000000) (hbase : base ≤ w.heap.size)
    (hgd : o.guard = none) (s t : Operand) (ho : o.op = .call { callee := .builtin .append, args := #[s, t], argTypes := #[62, 62] })
    (hs : a.eval s = v) (ht : a.eval t = .slice (some ⟨g, 0, none⟩) 1 1)
    (h : ∀ v' w', VOwns 9 w' base v' (l ++ [x]) → w.grownBy w' v.ownBlock → (v'.ownBlock = v.ownBlock ∨ v'.ownBlock = some w.heap.size) → wpList Tryd.prog ops Q rest (a.put o.dst v') w') : wpList Tryd.prog ops Q (o :: rest) a w := by
  refine wpList_plain hgd fun K hK => ?_
  obtain ⟨v', w', hrun, h2, h3, h4⟩ := run_append_Str o.type hown h0 hx hl hbase
  unfold Oper.wp execOp
  simp only [ho, resolve, invoke, builtin, Sem.run_bind, Sem.run_pure, Result.andThen_ok, List.map_toArray, List.map_cons, List.map_nil, hs, ht, hrun]
  exact hK _ _ (h v' w' h2 h3 h4)
theorem step_append_Str {w : World} {ops : Array Oper} {o : Oper} {a : Act} {K : Act → World → Prop} {Q : Exit → Act → World → Prop} {E : Prop} {base g : Nat} {l : List Value} {v x : Value}
    (hown : VOwns 9 w base v l) (h0 : w.cell? ⟨g, 0, none⟩ = some x) (hx : x.oneCell' = true) (hl : l.length ≤ 4000000000000) (hbase : base ≤ w.heap.size)
    (hgd : o.guard = none) (s t : Operand) (ho : o.op = .call { callee := .builtin .append, args := #[s, t], argTypes := #[62, 62] })
    (hs : a.eval s = v) (ht : a.eval t = .slice (some ⟨g, 0, none⟩) 1 1)
    (h : ∀ v' w', VOwns 9 w' base v' (l ++ [x]) → w.grownBy w' v.ownBlock → (v'.ownBlock = v.ownBlock ∨ v'.ownBlock = some w.heap.size) → K (a.put o.dst v') w') :
    if Region.wanted o (yielded ops a.tmps) = true then Oper.wp Tryd.prog o a w K Q else E := by
  have hw : Region.wanted o (yielded ops a.tmps) = true := by simp [Region.wanted, hgd]
  rw [if_pos hw]
  obtain ⟨v', w', hrun, h2, h3, h4⟩ := run_append_Str o.type hown h0 hx hl hbase
  unfold Oper.wp execOp
  simp only [ho, resolve, invoke, builtin, Sem.run_bind, Sem.run_pure, Result.andThen_ok, List.map_toArray, List.map_cons, List.map_nil, hs, ht, hrun]
  exact h v' w' h2 h3 h4
theorem wpList_make_Str {w : World} {ops : Array Oper} {rest : List Oper} {o : Oper} {a : Act} {Q : Exit → Act → World → Prop}
    (n : Nat) (hn : n ≤ 4000000000000) (hg : o.guard = none) (l c : Operand) (hop : o.op = Op.makeSlice 62 l c) (L C : Int) (hl : a.eval l = .int .i64 L) (hc : a.eval c = .int .i64 C) (hL : L = (n : Int)) (hC : C = (n : Int))
    (hK : ∀ w', VOwns 9 w' w.heap.size (.slice (some ⟨w.heap.size, 0, none⟩) n n) (List.replicate n (.string ⟨#[]⟩)) → w.grownBy w' none → wpList Tryd.prog ops Q rest (a.put o.dst (.slice (some ⟨w.heap.size, 0, none⟩) n n)) w') :
    wpList Tryd.prog ops Q (o :: rest) a w := by
  obtain ⟨i0, hi, hz0, hz1, hz2⟩ := info_parts infoStr
  refine wpList_make_full (P := Tryd.prog) w hg l c _ hop w.heap.size 9 i0 _ 1 Tryd.underlying62 hi hz0 hz1 .i64 .i64 L C n hl hc hL hC (by rw [hz2]; omega) (by simp only [maxLen]; omega) (Nat.le_refl _) fun w' h1 h2 => hK w' ?_ h2
  unfold VOwns
  rw [List.length_replicate, ← made_one]
  exact h1
theorem infoPart : (Tryd.prog.info? 51).map (fun i => (i.zero, i.size, i.bytes)) = some (some (.slice none 0 0), 1, 24) := by kernel_rfl
theorem VOwns.neS {T : TypeId} {w1 w2 : World} {b1 b2 : Nat} {v1 v2 : Value} {l : List Value} {p : List Sp} (h1 : VOwns T w1 b1 v1 l) (h2 : Owns w2 b2 v2 p) (hb : w1.heap.size ≤ b2) : v1.ownBlock = none ∨ v1.ownBlock ≠ v2.ownBlock := by
  cases e1 : v1.ownBlock with
  | none => exact .inl rfl
  | some k1 =>
    refine .inr fun e => ?_
    have l1 := h1.lt k1 e1
    have l2 := h2.lt k1 e.symm
    omega
theorem VOwns.neS' {T : TypeId} {w1 w2 : World} {b1 b2 : Nat} {v1 v2 : Value} {l : List Value} {p : List Sp} (h1 : VOwns T w1 b1 v1 l) (h2 : Owns w2 b2 v2 p) (hb : w2.heap.size ≤ b1) : v1.ownBlock = none ∨ v1.ownBlock ≠ v2.ownBlock := by
  cases e1 : v1.ownBlock with
  | none => exact .inl rfl
  | some k1 =>
    refine .inr fun e => ?_
    have l1 := h1.lt k1 e1
    have l2 := h2.lt k1 e.symm
    omega
theorem VOwns.neV {T : TypeId} {w1 w2 : World} {b1 b2 : Nat} {v1 v2 : Value} {l m : List Value} (h1 : VOwns T w1 b1 v1 l) (h2 : VOwns T w2 b2 v2 m) (hb : w1.heap.size ≤ b2) : v1.ownBlock = none ∨ v1.ownBlock ≠ v2.ownBlock := by
  cases e1 : v1.ownBlock with
  | none => exact .inl rfl
  | some k1 =>
    refine .inr fun e => ?_
    have l1 := h1.lt k1 e1
    have l2 := h2.lt k1 e.symm
    omega
/-- what is handed back in new memory -/
def GivesOwn (ps : List Sp) (w : World) (e : Ending) (w' : World) : Prop := ∃ v', e = .returned v' ∧ Owns w' w.heap.size v' ps ∧ Below w.heap.size w w'
end
/-! ### Parts -/
section
open Go.RowKit Go.Sort

/-- the slices of a list of lists, each in blocks from base on, no two in one block -/
structure Inner (w : World) (base : Nat) (vs : List Value) (ls : List (List Sp)) : Prop where
  len : vs.length = ls.length
  own : ∀ (k : Nat) p, ls[k]? = some p → ∃ u, vs[k]? = some u ∧ Owns w base u p
  ne : ∀ (i j : Nat) u u', i < j → vs[i]? = some u → vs[j]? = some u' → u.ownBlock = none ∨ u.ownBlock ≠ u'.ownBlock
/-- a slice of slices that the call itself made -/
def Parts (w : World) (base : Nat) (v : Value) (ls : List (List Sp)) : Prop := ∃ vs, VOwns 51 w base v vs ∧ Inner w base vs ls
/-- a slice of slices that reads as a list of lists -/
structure PReads (w : World) (B : Nat) (v : Value) (ls : List (List Sp)) : Prop where
  is : ∃ A c, ∃ vs : List Value, v = .slice A ls.length c ∧ ls.length ≤ c ∧ c ≤ maxLen ∧ vs.length = ls.length ∧
    (0 < ls.length → ∃ b off, A = some ⟨b, off, none⟩ ∧ b < B ∧ ∀ (k : Nat) u, vs[k]? = some u → w.cell? ⟨b, off + k, none⟩ = some u) ∧ ∀ (k : Nat) p, ls[k]? = some p → ∃ u, vs[k]? = some u ∧ Reads w B u p
theorem PReads.below {w w' : World} {B : Nat} {v : Value} {ls : List (List Sp)} (h : PReads w B v ls) (hb : Below B w w') : PReads w' B v ls := by
  obtain ⟨A, c, vs, h1, h2, h3, h4, h5, h6⟩ := h.is
  refine ⟨A, c, vs, h1, h2, h3, h4, fun hl => ?_, fun k p hk => ?_⟩
  · obtain ⟨b, off, h7, h8, h9⟩ := h5 hl
    exact ⟨b, off, h7, h8, fun k u hk => (hb.cell (p := ⟨b, off + k, none⟩) h8).trans (h9 k u hk)⟩
  · obtain ⟨u, h7, h8⟩ := h6 k p hk
    exact ⟨u, h7, h8.below hb⟩
theorem PReads.more {w : World} {B B' : Nat} {v : Value} {ls : List (List Sp)} (h : PReads w B v ls) (hB : B ≤ B') : PReads w B' v ls := by
  obtain ⟨A, c, vs, h1, h2, h3, h4, h5, h6⟩ := h.is
  refine ⟨A, c, vs, h1, h2, h3, h4, fun hl => ?_, fun k p hk => ?_⟩
  · obtain ⟨b, off, h7, h8, h9⟩ := h5 hl
    exact ⟨b, off, h7, by omega, h9⟩
  · obtain ⟨u, h7, h8⟩ := h6 k p hk
    exact ⟨u, h7, h8.more hB⟩
theorem PReads.kept {w w' : World} {v : Value} {ls : List (List Sp)} (h : PReads w w.heap.size v ls) (hb : Below w.heap.size w w') : PReads w' w'.heap.size v ls := (h.below hb).more hb.size
theorem PReads.slice {w : World} {B : Nat} {v : Value} {ls : List (List Sp)} (h : PReads w B v ls) : ∃ A c, v = .slice A ls.length c ∧ ls.length ≤ c ∧ c ≤ maxLen := by
  obtain ⟨A, c, _, h1, h2, h3, _⟩ := h.is
  exact ⟨A, c, h1, h2, h3⟩
theorem Inner.below {w w' : World} {base : Nat} {vs : List Value} {ls : List (List Sp)} (h : Inner w base vs ls) (hb : Below w.heap.size w w') : Inner w' base vs ls :=
  ⟨h.len, fun k p hk => by obtain ⟨u, h1, h2⟩ := h.own k p hk; exact ⟨u, h1, h2.below hb⟩, h.ne⟩
theorem Inner.lower {w : World} {base base' : Nat} {vs : List Value} {ls : List (List Sp)} (h : Inner w base vs ls) (hb : base' ≤ base) : Inner w base' vs ls :=
  ⟨h.len, fun k p hk => by obtain ⟨u, h1, h2⟩ := h.own k p hk; exact ⟨u, h1, h2.base hb⟩, h.ne⟩
theorem Inner.lt {w : World} {base : Nat} {vs : List Value} {ls : List (List Sp)} (h : Inner w base vs ls) {k : Nat} {u : Value} (hu : vs[k]? = some u) : ∀ g, u.ownBlock = some g → base ≤ g ∧ g < w.heap.size := by
  have hk := (List.getElem?_eq_some_iff.1 hu).1
  obtain ⟨u', h1, h2⟩ := h.own k _ (List.getElem?_eq_getElem (by have := h.len; omega))
  rw [hu] at h1; cases h1
  exact h2.lt
theorem Parts.below {w w' : World} {base : Nat} {v : Value} {ls : List (List Sp)} (h : Parts w base v ls) (hb : Below w.heap.size w w') : Parts w' base v ls := by
  obtain ⟨vs, h1, h2⟩ := h
  exact ⟨vs, h1.below hb, h2.below hb⟩
theorem Parts.lower {w : World} {base base' : Nat} {v : Value} {ls : List (List Sp)} (h : Parts w base v ls) (hb : base' ≤ base) : Parts w base' v ls := by
  obtain ⟨vs, h1, h2⟩ := h
  exact ⟨vs, h1.lower hb, h2.lower hb⟩
theorem Parts.nil (w : World) (base : Nat) : Parts w base (.slice none 0 0) [] := ⟨[], VOwns.nil _ _ _, rfl, fun k p h => (by cases h), fun i j u u' _ h => (by cases h)⟩
theorem Parts.empty (w : World) (base : Nat) (hb : base ≤ w.heap.size) : Parts (w.alloc (.cells #[] 51)) base (.slice (some ⟨w.heap.size, 0, none⟩) 0 0) [] := ⟨[], VOwns.empty _ _ _ hb, rfl, fun k p h => (by cases h), fun i j u u' _ h => (by cases h)⟩
theorem Parts.reads {w : World} {base : Nat} {v : Value} {ls : List (List Sp)} (h : Parts w base v ls) : PReads w w.heap.size v ls := by
  obtain ⟨vs, h1, h2⟩ := h
  obtain ⟨A, c, rfl, h3, h4, h5⟩ := h1.shape
  have hl := h2.len
  refine ⟨A, c, vs, by rw [hl], by omega, h4, hl, fun h0 => ?_, fun k p hk => ?_⟩
  · obtain ⟨g, rfl, h6, h7⟩ := h5 (by omega)
    exact ⟨g, 0, rfl, h7, fun k u hk => by rw [Nat.zero_add]; exact (h1.cell (List.getElem?_eq_some_iff.1 hk).1).trans hk⟩
  · obtain ⟨u, h6, h7⟩ := h2.own k p hk
    exact ⟨u, h6, h7.reads⟩
/-- a slice of slices is in no block of a slice of spots -/
theorem VOwns.apartO {T : TypeId} (hT : T ≠ 58) {w : World} {base base' : Nat} {v u : Value} {l : List Value} {ps : List Sp} (h : VOwns T w base v l) (k : Owns w base' u ps) : u.ownBlock = none ∨ u.ownBlock ≠ v.ownBlock := by
  rcases k.2 with ⟨rfl, _⟩ | ⟨g, cap, cur, rfl, _, hg, _⟩
  · exact .inl rfl
  · right
    rcases h.2 with ⟨rfl, _⟩ | ⟨g', cap', cur', rfl, _, hg', _⟩
    · intro e; cases e
    · intro e
      injection e with e
      subst e
      rw [hg] at hg'
      injection hg' with hg'
      injection hg' with _ e2
      exact hT e2.symm
theorem VOwns.apartV {T : TypeId} (hT : T ≠ 58) {w : World} {base base' : Nat} {v u : Value} {l : List Value} {ps : List Sp} (h : VOwns T w base v l) (k : Owns w base' u ps) : v.ownBlock = none ∨ v.ownBlock ≠ u.ownBlock := by
  rcases h.apartO hT k with e | e
  · rw [e]
    cases hv : v.ownBlock with
    | none => exact .inl rfl
    | some g => exact .inr fun e => by cases e
  · exact .inr fun e' => e e'.symm
theorem parts_apart : 51 ≠ 58 := by decide
/-- a further list behind the others -/
theorem parts_push {w w' : World} {base base' : Nat} {v v' u : Value} {vs : List Value} {ls : List (List Sp)} {p : List Sp} (hv : VOwns 51 w base v vs) (hI : Inner w base vs ls) (o : Owns w base u p) (hnew : ∀ g, u.ownBlock = some g → base' ≤ g) (hold : ∀ (k : Nat) u', vs[k]? = some u' → ∀ g, u'.ownBlock = some g → g < base')
    (hv' : VOwns 51 w' base v' (vs ++ [u])) (hg : w.grownBy w' v.ownBlock) : Parts w' base v' (ls ++ [p]) := by
  refine ⟨vs ++ [u], hv', by rw [List.length_append, List.length_append, hI.len]; rfl, fun k q hk => ?_, fun i j a b hij ha hb => ?_⟩
  · by_cases hl : k < ls.length
    · rw [List.getElem?_append_left hl] at hk
      obtain ⟨a, h1, h2⟩ := hI.own k q hk
      exact ⟨a, by rw [List.getElem?_append_left (by rw [hI.len]; exact hl)]; exact h1, h2.grown hg (hv.apartO parts_apart h2)⟩
    · rw [List.getElem?_append_right (by omega)] at hk
      have e : k - ls.length = 0 := by
        have := (List.getElem?_eq_some_iff.1 hk).1
        simp only [List.length_singleton] at this; omega
      rw [e] at hk
      cases hk
      exact ⟨u, by rw [List.getElem?_append_right (by rw [hI.len]; omega), hI.len, e]; rfl, o.grown hg (hv.apartO parts_apart o)⟩
  · have hj := (List.getElem?_eq_some_iff.1 hb).1
    rw [List.length_append, List.length_singleton] at hj
    rw [List.getElem?_append_left (by omega)] at ha
    by_cases hl : j < vs.length
    · rw [List.getElem?_append_left hl] at hb
      exact hI.ne i j a b hij ha hb
    · have e : j = vs.length := by omega
      subst e
      rw [List.getElem?_append_right (Nat.le_refl _), Nat.sub_self] at hb
      cases hb
      cases hx : a.ownBlock with
      | none => exact .inl rfl
      | some g => exact .inr fun e => by have h1 := hold i a ha g hx; have h2 := hnew g e.symm; omega
def GivesParts (ls : List (List Sp)) (w : World) (e : Ending) (w' : World) : Prop := ∃ v', e = .returned v' ∧ Parts w' w.heap.size v' ls ∧ Below w.heap.size w w'
end
end Go.Proofs.YtpdnakiilhohdaaDoor
