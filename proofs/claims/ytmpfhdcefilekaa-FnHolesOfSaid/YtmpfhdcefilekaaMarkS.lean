/- Texts of one kind, merged: Ones, PlaceS, MarkS, ReachS. No conditions but those that stand in each theorem. -/
import Derived.Test.YtmpfhdcefilekaaMem
import Derived.Test.YtmpfhdcefilekaaHas2
import Derived.Test.YtmpfhdcefilekaaFarS
import Derived.Test.YtmpfhdcefilekaaReach
import Derived.Test.YtmpfhdcefilekaaSpots
import Derived.Deep.LoopGhost
import Derived.Deep.RegionHeld3
import Derived.Test.YtmpfhdcefilekaaCommonS
namespace Go.Proofs.Ytmpfhdcefilekaa
/-! ### Ones -/
section
open Go.RowKit Go.Sort

/-- A slice that the call itself made, of elements of type T, one cell each. -/
def VOwns (T : TypeId) (w : World) (base : Nat) (v : Value) (l : List Value) : Prop := w.ownsRow base T 1 v l.length l
section
variable {T : TypeId} {w w' : World} {base base' : Nat} {v : Value} {l : List Value}
theorem VOwns.below (h : VOwns T w base v l) (hb : Below w.heap.size w w') : VOwns T w' base v l := by
  refine ⟨h.1, ?_⟩
  rcases h.2 with h0 | ⟨g, cap, cur, rfl, h1, hg, h2⟩
  · exact .inl h0
  · exact .inr ⟨g, cap, cur, rfl, h1, (hb.block g (Array.getElem?_eq_some_iff.1 hg).1).trans hg, h2⟩
theorem VOwns.lower (h : VOwns T w base v l) (hb : base' ≤ base) : VOwns T w base' v l := by
  refine ⟨h.1, ?_⟩
  rcases h.2 with h0 | ⟨g, cap, cur, rfl, h1, h2⟩
  · exact .inl h0
  · exact .inr ⟨g, cap, cur, rfl, by omega, h2⟩
theorem VOwns.lt (h : VOwns T w base v l) : ∀ k, v.ownBlock = some k → base ≤ k ∧ k < w.heap.size := World.ownsRow.lt h
theorem VOwns.nil (T : TypeId) (w : World) (base : Nat) : VOwns T w base (.slice none 0 0) [] := World.ownsRow_nil w base _ _
theorem VOwns.empty (T : TypeId) (w : World) (base : Nat) (hb : base ≤ w.heap.size) : VOwns T (w.alloc (.cells #[] T)) base (.slice (some ⟨w.heap.size, 0, none⟩) 0 0) [] :=
  World.ownsRow_lit w #[] 0 hb (by simp [maxLen]) rfl
theorem VOwns.one (T : TypeId) (w : World) (base : Nat) (x : Value) (hb : base ≤ w.heap.size) : VOwns T (w.alloc (.cells #[x] T)) base (.slice (some ⟨w.heap.size, 0, none⟩) 1 1) [x] :=
  World.ownsRow_lit w #[x] 1 hb (by simp [maxLen]) rfl
theorem VOwns.grown {row : Option Nat} (h : VOwns T w base v l) (hg : w.grownBy w' row) (hne : v.ownBlock = none ∨ v.ownBlock ≠ row) : VOwns T w' base v l := World.ownsRow.kept h hg hne
theorem VOwns.below_app {a : World} (h : VOwns T w base v l) (hb : Below base a w) (hB : base ≤ w.heap.size) (hg : w.grownBy w' v.ownBlock) : Below base a w' :=
  hb.grown hg hB fun k hk => (h.lt k hk).1
theorem VOwns.shape (h : VOwns T w base v l) : ∃ A c, v = .slice A l.length c ∧ l.length ≤ c ∧ c ≤ maxLen ∧ (0 < l.length → ∃ g, A = some ⟨g, 0, none⟩ ∧ base ≤ g ∧ g < w.heap.size) := by
  have h' := h
  rcases h.2 with ⟨rfl, h0⟩ | ⟨g, cap, cur, rfl, hb, hg, hn, hc, hs, ht⟩
  · exact ⟨none, 0, by rw [h0], by omega, by simp [maxLen], fun k => by omega⟩
  · exact ⟨some ⟨g, 0, none⟩, cap, rfl, hn, hc, fun _ => ⟨g, rfl, h'.lt g rfl⟩⟩
theorem VOwns.setOther (h : VOwns T w base v l) {a : Addr} (ha : v.ownBlock = none ∨ v.ownBlock ≠ some a.block) (x : Value) : VOwns T (w.setCell a x) base v l := by
  refine ⟨h.1, ?_⟩
  rcases h.2 with h0 | ⟨g, cap, cur, rfl, h1, hg, h2⟩
  · exact .inl h0
  · refine .inr ⟨g, cap, cur, rfl, h1, (heap_setCell_other _ _ _ _ (fun e => ?_)).trans hg, h2⟩
    rcases ha with ha | ha
    · cases ha
    · exact ha (by rw [← e]; rfl)
variable {g n cap : Nat}
theorem VOwns.len (h : VOwns T w base (.slice (some ⟨g, 0, none⟩) n cap) l) : n = l.length := by
  obtain ⟨A, c, h1, _⟩ := h.shape
  injection h1
theorem VOwns.free (h : VOwns T w base (.slice (some ⟨g, 0, none⟩) n cap) l) (j : Nat) : w.frozen? ⟨g, j, none⟩ = false := by
  have hn := h.len
  subst hn
  exact World.ownsRow.frozenAt h j
theorem VOwns.cell (h : VOwns T w base (.slice (some ⟨g, 0, none⟩) n cap) l) {k : Nat} (hk : k < l.length) : w.cell? ⟨g, k, none⟩ = l[k]? := by
  have hn := h.len
  subst hn
  exact World.ownsRow.cellAt h k (by omega)
theorem VOwns.set (h : VOwns T w base (.slice (some ⟨g, 0, none⟩) n cap) l) (k : Nat) (x : Value) : VOwns T (w.setCell ⟨g, k, none⟩ x) base (.slice (some ⟨g, 0, none⟩) n cap) (l.set k x) := by
  have hn := h.len
  subst hn
  have h1 := (World.ownsRow.stored h k x).1
  unfold VOwns
  rw [List.length_set]; exact h1
theorem VOwns.take (h : VOwns T w base (.slice (some ⟨g, 0, none⟩) n cap) l) {k : Nat} (hk : k ≤ l.length) : VOwns T w base (.slice (some ⟨g, 0, none⟩) k cap) (l.take k) := by
  have hn := h.len
  subst hn
  have e : (l.take k).length = k := by rw [List.length_take]; omega
  unfold VOwns
  rw [e]
  refine ⟨by rw [e]; omega, ?_⟩
  rcases h.2 with ⟨h0, _⟩ | ⟨g', cap', cur, h0, h1, hg, h2, h3, h4, h5⟩
  · cases h0
  · injection h0 with e1 e2 e3
    injection e1 with e1
    injection e1 with e1
    subst e1 e3
    refine .inr ⟨g, cap, cur, rfl, h1, hg, by omega, h3, h4, ?_⟩
    rw [Nat.mul_one] at h5 ⊢
    rw [← h5, List.take_take, Nat.min_eq_left hk]
end
theorem setGrown (w : World) (g j : Nat) (u : Value) : w.grownBy (w.setCell ⟨g, j, none⟩ u) (some g) :=
  ⟨rfl, rfl, rfl, by simp [World.setCell], fun k _ hne => Below.heap_setCell w ⟨g, j, none⟩ u k (fun e => hne (by rw [e]))⟩
theorem made_one (z : Value) (n : Nat) : (madeCells #[z] (n * 1)).toList = List.replicate n z := by
  apply List.ext_getElem?
  intro j
  by_cases hj : j < n
  · rw [List.getElem?_replicate, if_pos hj]
    have e : j % 1 = 0 := Nat.mod_one j
    simp [madeCells, hj, e]
  · rw [List.getElem?_eq_none (by simp [madeCells]; omega), List.getElem?_eq_none (by simp; omega)]
theorem one_at {w : World} {g : Nat} {x : Value} (h : w.cell? ⟨g, 0, none⟩ = some x) : ∀ j u, ([x] : List Value)[j]? = some u → w.cell? ((⟨g, 0, none⟩ : Addr).add j) = some u := fun j u hj => by
  match j, hj with
  | 0, hj => cases hj; exact h
theorem infoInt : (Try.prog.info? 3).map (fun i => (i.zero, i.size, i.bytes)) = some (some (.int .i64 0), 1, 8) := by kernel_rfl
theorem run_append_Int {w : World} {base g : Nat} {v x : Value} {l : List Value} (ty : TypeId) (hown : VOwns 3 w base v l) (h0 : w.cell? ⟨g, 0, none⟩ = some x) (hx : x.oneCell' = true) (hl : l.length ≤ 4000000000000) (hbase : base ≤ w.heap.size) :
    ∃ v' w', (Builtin.append_ #[97, 97] ty #[v, .slice (some ⟨g, 0, none⟩) 1 1]).run Try.prog w = .ok v' w' ∧ VOwns 3 w' base v' (l ++ [x]) ∧ w.grownBy w' v.ownBlock ∧ (v'.ownBlock = v.ownBlock ∨ v'.ownBlock = some w.heap.size) := by
  obtain ⟨i0, hi, hz0, hz1, hz2⟩ := info_parts infoInt
  obtain ⟨v', w', h1, h2, h3, _, h5⟩ := run_append_own_at (P := Try.prog) w base 97 ty 3 i0 _ 1 8 Try.underlying97 hi hz0 hz1 hz2 rfl (by decide) v _ _ hown ⟨g, 0, none⟩ 1 1 [x] rfl (one_at h0) (fun u hu => by rw [List.mem_singleton] at hu; rw [hu]; exact hx) (by simp only [maxLen]; omega) (by omega) hbase
  refine ⟨v', w', h1, ?_, h3, h5⟩
  unfold VOwns
  rw [List.length_append]
  exact h2
theorem wpList_append_Int {w : World} {ops : Array Oper} {rest : List Oper} {o : Oper} {a : Act} {Q : Exit → Act → World → Prop} {base g : Nat} {l : List Value} {v x : Value}
    (hown : VOwns 3 w base v l) (h0 : w.cell? ⟨g, 0, none⟩ = some x) (hx : x.oneCell' = true) (hl : l.length ≤ 4000000000000) (hbase : base ≤ w.heap.size)
    (hgd : o.guard = none) (s t : Operand) (ho : o.op = .call { callee := .builtin .append, args := #[s, t], argTypes := #[97, 97] })
    (hs : a.eval s = v) (ht : a.eval t = .slice (some ⟨g, 0, none⟩) 1 1)
    (h : ∀ v' w', VOwns 3 w' base v' (l ++ [x]) → w.grownBy w' v.ownBlock → (v'.ownBlock = v.ownBlock ∨ v'.ownBlock = some w.heap.size) → wpList Try.prog ops Q rest (a.put o.dst v') w') : wpList Try.prog ops Q (o :: rest) a w := by
  refine wpList_plain hgd fun K hK => ?_
  obtain ⟨v', w', hrun, h2, h3, h4⟩ := run_append_Int o.type hown h0 hx hl hbase
  unfold Oper.wp execOp
  simp only [ho, resolve, invoke, builtin, Sem.run_bind, Sem.run_pure, Result.andThen_ok, List.map_toArray, List.map_cons, List.map_nil, hs, ht, hrun]
  exact hK _ _ (h v' w' h2 h3 h4)
theorem step_append_Int {w : World} {ops : Array Oper} {o : Oper} {a : Act} {K : Act → World → Prop} {Q : Exit → Act → World → Prop} {E : Prop} {base g : Nat} {l : List Value} {v x : Value}
    (hown : VOwns 3 w base v l) (h0 : w.cell? ⟨g, 0, none⟩ = some x) (hx : x.oneCell' = true) (hl : l.length ≤ 4000000000000) (hbase : base ≤ w.heap.size)
    (hgd : o.guard = none) (s t : Operand) (ho : o.op = .call { callee := .builtin .append, args := #[s, t], argTypes := #[97, 97] })
    (hs : a.eval s = v) (ht : a.eval t = .slice (some ⟨g, 0, none⟩) 1 1)
    (h : ∀ v' w', VOwns 3 w' base v' (l ++ [x]) → w.grownBy w' v.ownBlock → (v'.ownBlock = v.ownBlock ∨ v'.ownBlock = some w.heap.size) → K (a.put o.dst v') w') :
    if Region.wanted o (yielded ops a.tmps) = true then Oper.wp Try.prog o a w K Q else E := by
  have hw : Region.wanted o (yielded ops a.tmps) = true := by simp [Region.wanted, hgd]
  rw [if_pos hw]
  obtain ⟨v', w', hrun, h2, h3, h4⟩ := run_append_Int o.type hown h0 hx hl hbase
  unfold Oper.wp execOp
  simp only [ho, resolve, invoke, builtin, Sem.run_bind, Sem.run_pure, Result.andThen_ok, List.map_toArray, List.map_cons, List.map_nil, hs, ht, hrun]
  exact h v' w' h2 h3 h4
theorem wpList_make_Int {w : World} {ops : Array Oper} {rest : List Oper} {o : Oper} {a : Act} {Q : Exit → Act → World → Prop}
    (n : Nat) (hn : n ≤ 4000000000000) (hg : o.guard = none) (l c : Operand) (hop : o.op = Op.makeSlice 97 l c) (L C : Int) (hl : a.eval l = .int .i64 L) (hc : a.eval c = .int .i64 C) (hL : L = (n : Int)) (hC : C = (n : Int))
    (hK : ∀ w', VOwns 3 w' w.heap.size (.slice (some ⟨w.heap.size, 0, none⟩) n n) (List.replicate n (.int .i64 0)) → w.grownBy w' none → wpList Try.prog ops Q rest (a.put o.dst (.slice (some ⟨w.heap.size, 0, none⟩) n n)) w') :
    wpList Try.prog ops Q (o :: rest) a w := by
  obtain ⟨i0, hi, hz0, hz1, hz2⟩ := info_parts infoInt
  refine wpList_make_full (P := Try.prog) w hg l c _ hop w.heap.size 3 i0 _ 1 Try.underlying97 hi hz0 hz1 .i64 .i64 L C n hl hc hL hC (by rw [hz2]; omega) (by simp only [maxLen]; omega) (Nat.le_refl _) fun w' h1 h2 => hK w' ?_ h2
  unfold VOwns
  rw [List.length_replicate, ← made_one]
  exact h1
theorem infoBool : (Try.prog.info? 4).map (fun i => (i.zero, i.size, i.bytes)) = some (some (.bool false), 1, 1) := by kernel_rfl
theorem run_append_Bool {w : World} {base g : Nat} {v x : Value} {l : List Value} (ty : TypeId) (hown : VOwns 4 w base v l) (h0 : w.cell? ⟨g, 0, none⟩ = some x) (hx : x.oneCell' = true) (hl : l.length ≤ 4000000000000) (hbase : base ≤ w.heap.size) :
    ∃ v' w', (Builtin.append_ #[74, 74] ty #[v, .slice (some ⟨g, 0, none⟩) 1 1]).run Try.prog w = .ok v' w' ∧ VOwns 4 w' base v' (l ++ [x]) ∧ w.grownBy w' v.ownBlock ∧ (v'.ownBlock = v.ownBlock ∨ v'.ownBlock = some w.heap.size) := by
  obtain ⟨i0, hi, hz0, hz1, hz2⟩ := info_parts infoBool
  obtain ⟨v', w', h1, h2, h3, _, h5⟩ := run_append_own_at (P := Try.prog) w base 74 ty 4 i0 _ 1 1 Try.underlying74 hi hz0 hz1 hz2 rfl (by decide) v _ _ hown ⟨g, 0, none⟩ 1 1 [x] rfl (one_at h0) (fun u hu => by rw [List.mem_singleton] at hu; rw [hu]; exact hx) (by simp only [maxLen]; omega) (by omega) hbase
  refine ⟨v', w', h1, ?_, h3, h5⟩
  unfold VOwns
  rw [List.length_append]
  exact h2
theorem wpList_append_Bool {w : World} {ops : Array Oper} {rest : List Oper} {o : Oper} {a : Act} {Q : Exit → Act → World → Prop} {base g : Nat} {l : List Value} {v x : Value}
    (hown : VOwns 4 w base v l) (h0 : w.cell? ⟨g, 0, none⟩ = some x) (hx : x.oneCell' = true) (hl : l.length ≤ 4000000000000) (hbase : base ≤ w.heap.size)
    (hgd : o.guard = none) (s t : Operand) (ho : o.op = .call { callee := .builtin .append, args := #[s, t], argTypes := #[74, 74] })
    (hs : a.eval s = v) (ht : a.eval t = .slice (some ⟨g, 0, none⟩) 1 1)
    (h : ∀ v' w', VOwns 4 w' base v' (l ++ [x]) → w.grownBy w' v.ownBlock → (v'.ownBlock = v.ownBlock ∨ v'.ownBlock = some w.heap.size) → wpList Try.prog ops Q rest (a.put o.dst v') w') : wpList Try.prog ops Q (o :: rest) a w := by
  refine wpList_plain hgd fun K hK => ?_
  obtain ⟨v', w', hrun, h2, h3, h4⟩ := run_append_Bool o.type hown h0 hx hl hbase
  unfold Oper.wp execOp
  simp only [ho, resolve, invoke, builtin, Sem.run_bind, Sem.run_pure, Result.andThen_ok, List.map_toArray, List.map_cons, List.map_nil, hs, ht, hrun]
  exact hK _ _ (h v' w' h2 h3 h4)
theorem step_append_Bool {w : World} {ops : Array Oper} {o : Oper} {a : Act} {K : Act → World → Prop} {Q : Exit → Act → World → Prop} {E : Prop} {base g : Nat} {l : List Value} {v x : Value}
    (hown : VOwns 4 w base v l) (h0 : w.cell? ⟨g, 0, none⟩ = some x) (hx : x.oneCell' = true) (hl : l.length ≤ 4000000000000) (hbase : base ≤ w.heap.size)
    (hgd : o.guard = none) (s t : Operand) (ho : o.op = .call { callee := .builtin .append, args := #[s, t], argTypes := #[74, 74] })
    (hs : a.eval s = v) (ht : a.eval t = .slice (some ⟨g, 0, none⟩) 1 1)
    (h : ∀ v' w', VOwns 4 w' base v' (l ++ [x]) → w.grownBy w' v.ownBlock → (v'.ownBlock = v.ownBlock ∨ v'.ownBlock = some w.heap.size) → K (a.put o.dst v') w') :
    if Region.wanted o (yielded ops a.tmps) = true then Oper.wp Try.prog o a w K Q else E := by
  have hw : Region.wanted o (yielded ops a.tmps) = true := by simp [Region.wanted, hgd]
  rw [if_pos hw]
  obtain ⟨v', w', hrun, h2, h3, h4⟩ := run_append_Bool o.type hown h0 hx hl hbase
  unfold Oper.wp execOp
  simp only [ho, resolve, invoke, builtin, Sem.run_bind, Sem.run_pure, Result.andThen_ok, List.map_toArray, List.map_cons, List.map_nil, hs, ht, hrun]
  exact h v' w' h2 h3 h4
theorem wpList_make_Bool {w : World} {ops : Array Oper} {rest : List Oper} {o : Oper} {a : Act} {Q : Exit → Act → World → Prop}
    (n : Nat) (hn : n ≤ 4000000000000) (hg : o.guard = none) (l c : Operand) (hop : o.op = Op.makeSlice 74 l c) (L C : Int) (hl : a.eval l = .int .i64 L) (hc : a.eval c = .int .i64 C) (hL : L = (n : Int)) (hC : C = (n : Int))
    (hK : ∀ w', VOwns 4 w' w.heap.size (.slice (some ⟨w.heap.size, 0, none⟩) n n) (List.replicate n (.bool false)) → w.grownBy w' none → wpList Try.prog ops Q rest (a.put o.dst (.slice (some ⟨w.heap.size, 0, none⟩) n n)) w') :
    wpList Try.prog ops Q (o :: rest) a w := by
  obtain ⟨i0, hi, hz0, hz1, hz2⟩ := info_parts infoBool
  refine wpList_make_full (P := Try.prog) w hg l c _ hop w.heap.size 4 i0 _ 1 Try.underlying74 hi hz0 hz1 .i64 .i64 L C n hl hc hL hC (by rw [hz2]; omega) (by simp only [maxLen]; omega) (Nat.le_refl _) fun w' h1 h2 => hK w' ?_ h2
  unfold VOwns
  rw [List.length_replicate, ← made_one]
  exact h1
theorem infoPart : (Try.prog.info? 23).map (fun i => (i.zero, i.size, i.bytes)) = some (some (.slice none 0 0), 1, 24) := by kernel_rfl
theorem run_append_Part {w : World} {base g : Nat} {v x : Value} {l : List Value} (ty : TypeId) (hown : VOwns 23 w base v l) (h0 : w.cell? ⟨g, 0, none⟩ = some x) (hx : x.oneCell' = true) (hl : l.length ≤ 4000000000000) (hbase : base ≤ w.heap.size) :
    ∃ v' w', (Builtin.append_ #[32, 32] ty #[v, .slice (some ⟨g, 0, none⟩) 1 1]).run Try.prog w = .ok v' w' ∧ VOwns 23 w' base v' (l ++ [x]) ∧ w.grownBy w' v.ownBlock ∧ (v'.ownBlock = v.ownBlock ∨ v'.ownBlock = some w.heap.size) := by
  obtain ⟨i0, hi, hz0, hz1, hz2⟩ := info_parts infoPart
  obtain ⟨v', w', h1, h2, h3, _, h5⟩ := run_append_own_at (P := Try.prog) w base 32 ty 23 i0 _ 1 24 Try.underlying32 hi hz0 hz1 hz2 rfl (by decide) v _ _ hown ⟨g, 0, none⟩ 1 1 [x] rfl (one_at h0) (fun u hu => by rw [List.mem_singleton] at hu; rw [hu]; exact hx) (by simp only [maxLen]; omega) (by omega) hbase
  refine ⟨v', w', h1, ?_, h3, h5⟩
  unfold VOwns
  rw [List.length_append]
  exact h2
theorem wpList_append_Part {w : World} {ops : Array Oper} {rest : List Oper} {o : Oper} {a : Act} {Q : Exit → Act → World → Prop} {base g : Nat} {l : List Value} {v x : Value}
    (hown : VOwns 23 w base v l) (h0 : w.cell? ⟨g, 0, none⟩ = some x) (hx : x.oneCell' = true) (hl : l.length ≤ 4000000000000) (hbase : base ≤ w.heap.size)
    (hgd : o.guard = none) (s t : Operand) (ho : o.op = .call { callee := .builtin .append, args := #[s, t], argTypes := #[32, 32] })
    (hs : a.eval s = v) (ht : a.eval t = .slice (some ⟨g, 0, none⟩) 1 1)
    (h : ∀ v' w', VOwns 23 w' base v' (l ++ [x]) → w.grownBy w' v.ownBlock → (v'.ownBlock = v.ownBlock ∨ v'.ownBlock = some w.heap.size) → wpList Try.prog ops Q rest (a.put o.dst v') w') : wpList Try.prog ops Q (o :: rest) a w := by
  refine wpList_plain hgd fun K hK => ?_
  obtain ⟨v', w', hrun, h2, h3, h4⟩ := run_append_Part o.type hown h0 hx hl hbase
  unfold Oper.wp execOp
  simp only [ho, resolve, invoke, builtin, Sem.run_bind, Sem.run_pure, Result.andThen_ok, List.map_toArray, List.map_cons, List.map_nil, hs, ht, hrun]
  exact hK _ _ (h v' w' h2 h3 h4)
theorem step_append_Part {w : World} {ops : Array Oper} {o : Oper} {a : Act} {K : Act → World → Prop} {Q : Exit → Act → World → Prop} {E : Prop} {base g : Nat} {l : List Value} {v x : Value}
    (hown : VOwns 23 w base v l) (h0 : w.cell? ⟨g, 0, none⟩ = some x) (hx : x.oneCell' = true) (hl : l.length ≤ 4000000000000) (hbase : base ≤ w.heap.size)
    (hgd : o.guard = none) (s t : Operand) (ho : o.op = .call { callee := .builtin .append, args := #[s, t], argTypes := #[32, 32] })
    (hs : a.eval s = v) (ht : a.eval t = .slice (some ⟨g, 0, none⟩) 1 1)
    (h : ∀ v' w', VOwns 23 w' base v' (l ++ [x]) → w.grownBy w' v.ownBlock → (v'.ownBlock = v.ownBlock ∨ v'.ownBlock = some w.heap.size) → K (a.put o.dst v') w') :
    if Region.wanted o (yielded ops a.tmps) = true then Oper.wp Try.prog o a w K Q else E := by
  have hw : Region.wanted o (yielded ops a.tmps) = true := by simp [Region.wanted, hgd]
  rw [if_pos hw]
  obtain ⟨v', w', hrun, h2, h3, h4⟩ := run_append_Part o.type hown h0 hx hl hbase
  unfold Oper.wp execOp
  simp only [ho, resolve, invoke, builtin, Sem.run_bind, Sem.run_pure, Result.andThen_ok, List.map_toArray, List.map_cons, List.map_nil, hs, ht, hrun]
  exact h v' w' h2 h3 h4
theorem wpList_make_Part {w : World} {ops : Array Oper} {rest : List Oper} {o : Oper} {a : Act} {Q : Exit → Act → World → Prop}
    (n : Nat) (hn : n ≤ 4000000000000) (hg : o.guard = none) (l c : Operand) (hop : o.op = Op.makeSlice 32 l c) (L C : Int) (hl : a.eval l = .int .i64 L) (hc : a.eval c = .int .i64 C) (hL : L = (n : Int)) (hC : C = (n : Int))
    (hK : ∀ w', VOwns 23 w' w.heap.size (.slice (some ⟨w.heap.size, 0, none⟩) n n) (List.replicate n (.slice none 0 0)) → w.grownBy w' none → wpList Try.prog ops Q rest (a.put o.dst (.slice (some ⟨w.heap.size, 0, none⟩) n n)) w') :
    wpList Try.prog ops Q (o :: rest) a w := by
  obtain ⟨i0, hi, hz0, hz1, hz2⟩ := info_parts infoPart
  refine wpList_make_full (P := Try.prog) w hg l c _ hop w.heap.size 23 i0 _ 1 Try.underlying32 hi hz0 hz1 .i64 .i64 L C n hl hc hL hC (by rw [hz2]; omega) (by simp only [maxLen]; omega) (Nat.le_refl _) fun w' h1 h2 => hK w' ?_ h2
  unfold VOwns
  rw [List.length_replicate, ← made_one]
  exact h1
end
/-! ### PlaceS -/
section
open Go.RowKit Go.Sort

theorem ret_beq {P : Program} {f : FuncId} {args : Array Value} {w : World} {b c : Bool} (h : b = c) (hc : Calls P f args w (Gives (.bool b) w)) : Calls P f args w (Gives (.bool c) w) := h ▸ hc
theorem l7Near_any (x y u v : Int) (b : Bool) (w : World) (h : -1000 ≤ x ∧ x ≤ 1000 ∧ -1000 ≤ y ∧ y ≤ 1000) (k : -1000 ≤ u ∧ u ≤ 1000 ∧ -1000 ≤ v ∧ v ≤ 1000) :
    Calls Try.prog 94 #[.agg #[.int .i64 x, .int .i64 y], .agg #[.int .i64 u, .int .i64 v], .bool b] w (Gives (.bool (nearB b (x, y) (u, v))) w) := by
  have b0 : Below w.heap.size w ((w.alloc (.cells #[.int .i64 x, .int .i64 y] 42)).alloc (.cells #[.int .i64 u, .int .i64 v] 42)) := (box_below w _ _).alloc (by simp) _
  cases b
  · obtain ⟨n, hn⟩ : ∃ n, farI (x, y) (u, v) 0 = n := ⟨_, rfl⟩
    have HN := Lib.hid hn
    have hN : nearB false (x, y) (u, v) = decide (n = 1) := by unfold nearB; rw [if_neg (by decide), hn]
    rw [hN]
    clear hN hn
    go_enter Try.func94, Try.ntmps94
    go_wp2_with fail
    refine (l4Far_any x y u v 0 _ h k).mono ?_
    rintro e w1 ⟨rfl, b1⟩
    rw [HN.out]
    have bb := below_step b0 b1
    go_wp2
    go_ret
    refine ⟨ret_bool ?_, bb⟩
    first | rfl | (rw [Bool.eq_iff_iff]; simp)
  · obtain ⟨n, hn⟩ : ∃ n, farI (x, y) (u, v) 1 = n := ⟨_, rfl⟩
    have HN := Lib.hid hn
    have hN : nearB true (x, y) (u, v) = decide (n = 1) := by unfold nearB; rw [if_pos rfl, hn]
    rw [hN]
    clear hN hn
    go_enter Try.func94, Try.ntmps94
    go_wp2_with fail
    refine (l4Far_any x y u v 1 _ h k).mono ?_
    rintro e w1 ⟨rfl, b1⟩
    rw [HN.out]
    have bb := below_step b0 b1
    go_wp2
    go_ret
    refine ⟨ret_bool ?_, bb⟩
    first | rfl | (rw [Bool.eq_iff_iff]; simp)
theorem l7Near_lit {b c : Bool} {x y u v : Int} {w : World} (hk : nearB b (x, y) (u, v) = c) (h : -1000 ≤ x ∧ x ≤ 1000 ∧ -1000 ≤ y ∧ y ≤ 1000) (k : -1000 ≤ u ∧ u ≤ 1000 ∧ -1000 ≤ v ∧ v ≤ 1000) :
    Calls Try.prog 94 #[.agg #[.int .i64 x, .int .i64 y], .agg #[.int .i64 u, .int .i64 v], .bool b] w (Gives (.bool c) w) := by
  subst hk; exact l7Near_any x y u v b w h k

/-- the place of a spot in a list, or -1 -/
def PlaceIs (ps : List Sp) (a : Sp) (i : Int) : Prop := (∃ k : Nat, i = (k : Int) ∧ ps[k]? = some a) ∨ (i = -1 ∧ ¬ a ∈ ps)
theorem placeIs_no {ps : List Sp} {a : Sp} (h : decide (a ∈ ps) = false) : PlaceIs ps a (-1) := .inr ⟨rfl, of_decide_eq_false h⟩
def GivesPlace (ps : List Sp) (a : Sp) (w : World) (e : Ending) (w' : World) : Prop := (∃ i : Int, e = .returned (.int .i64 i) ∧ PlaceIs ps a i) ∧ Below w.heap.size w w'
set_option maxHeartbeats 800000 in
theorem l7Place_any (ps : List Sp) (v : Value) (ax ay : Int) (w : World) (h : Reads w w.heap.size v ps) (hs : Sorted ps) (hl : ps.length ≤ 1000000) :
    Calls Try.prog 84 #[v, .agg #[.int .i64 ax, .int .i64 ay]] w (GivesPlace ps (ax, ay) w) := by
  obtain ⟨A, c, rfl, hc, hm, hA, hr⟩ := h.is
  unfold maxLen at hm
  by_cases h0 : ps.length = 0
  · have e : ps = [] := List.eq_nil_of_length_eq_zero h0
    subst e
    go_enter Try.func84, Try.ntmps84
    go_wp2
    go_rounds 2
    refine wp_region_quiet_below (by kernel_rfl) (by kernel_rfl) ?_
    repeat (go_big_quiet_step (fail))
    refine wpQuiet_nil ?_
    intro _ hw'
    obtain ⟨⟨dq, osq⟩, hw''⟩ := hw'
    subst hw''
    go_wp2
    go_ret
    exact ⟨⟨_, rfl, .inr ⟨rfl, fun h => (by cases h)⟩⟩, (box_below _ _ _).trans ((below_regrown _ _ _).mono (by simp))⟩
  · obtain ⟨b, off, rfl, hb, hcell⟩ := hr (by omega)
    go_enter Try.func84, Try.ntmps84
    go_wp2
    have hb0 := box_below w #[.int .i64 ax, .int .i64 ay] 42
    obtain ⟨W, hW⟩ : ∃ W, W = w.alloc (.cells #[.int .i64 ax, .int .i64 ay] 42) := ⟨_, rfl⟩
    rw [← hW] at hb0 ⊢
    have hWs : W.heap.size = w.heap.size + 1 := by rw [hW]; simp
    have hWs1 := Lib.hid hWs
    have hWs2 : w.heap.size + 1 ≤ W.heap.size := by omega
    clear hWs
    have HW := Lib.hid hW
    clear hW
    go_loopw [5, 6] (fun l h wr => ∃ lo hi : Nat, lo ≤ hi ∧ hi ≤ ps.length ∧ l = .int .i64 lo ∧ h = .int .i64 hi ∧ Lo ps (ax, ay) lo ∧ Hi ps (ax, ay) hi ∧ Below W.heap.size W wr) (fun l h _ => (intOf h).toNat - (intOf l).toNat)
    case atStart => exact ⟨0, ps.length, by omega, Nat.le_refl _, rfl, rfl, fun j x hj => by omega, fun j x hj hx => by have := (List.getElem?_eq_some_iff.1 hx).1; omega, Below.refl _ _⟩
    case round =>
      obtain ⟨lo, hi, hlh, hhl, rfl, rfl, hlo, hhi, hbw⟩ := hrel
      have hbs : W.heap.size ≤ wr.heap.size := hbw.size
      by_cases hlt : lo < hi
      · have hm1 : (lo + hi) / 2 < ps.length := by omega
        obtain ⟨⟨x, y⟩, hxy⟩ : ∃ a, ps[(lo + hi) / 2]? = some a := ⟨_, List.getElem?_eq_getElem hm1⟩
        obtain ⟨c0, c1⟩ := hcell ((lo + hi) / 2) x y hxy
        have f0 := cell_regrown ((hbw.cell (p := ⟨b, off + ((lo + hi) / 2) * 2, none⟩) (show b < W.heap.size by omega)).trans ((hb0.cell (p := ⟨b, off + ((lo + hi) / 2) * 2, none⟩) hb).trans c0))
        have f1 := cell_regrown ((hbw.cell (p := ⟨b, off + ((lo + hi) / 2) * 2 + 1, none⟩) (show b < W.heap.size by omega)).trans ((hb0.cell (p := ⟨b, off + ((lo + hi) / 2) * 2 + 1, none⟩) hb).trans c1))
        clear c0 c1
        have hW := HW.out
        have a0 := (hbw.cell (p := ⟨w.heap.size, 0, none⟩) (by simp [hW])).trans (show _ = some (Value.int .i64 ax) by rw [hW]; simp [go_sem])
        have a1 := (hbw.cell (p := ⟨w.heap.size, 1, none⟩) (by simp [hW])).trans (show _ = some (Value.int .i64 ay) by rw [hW]; simp [go_sem])
        have g0 := cell_regrown a0
        have g1 := cell_regrown a1
        clear hW
        by_cases hl : Lt (x, y) (ax, ay)
        · have fl := ltB_iff.2 hl
          have hH := Lib.hid (lo_mid hs hxy hl)
          have hG := Lib.hid hhi
          clear hxy hl hlo hhi
          go_wp2
          refine wp_region_quiet_below (by kernel_rfl) (by kernel_rfl) ?_
          repeat (go_big_quiet_step (first | (go_at_call 86; exact gives_regrown (fun w1 _ => gives_is fl (l1Before_any x y ax ay w1)) _ _)))
          refine wpQuiet_nil ?_
          intro _ hw'
          obtain ⟨⟨dq, osq⟩, hw''⟩ := hw'
          subst hw''
          go_wp2
          go_roundw
          case rel => exact ⟨(lo + hi) / 2 + 1, hi, by omega, by omega, by go_num, rfl, hH.out, hG.out, hbw.trans ((below_regrown _ _ _).mono hbs)⟩
          case measure => simp [intOf]; omega
        · have fl := ltB_no.2 hl
          have hH := Lib.hid (hi_mid hs hxy hl)
          have hG := Lib.hid hlo
          clear hxy hl hlo hhi
          go_wp2
          refine wp_region_quiet_below (by kernel_rfl) (by kernel_rfl) ?_
          repeat (go_big_quiet_step (first | (go_at_call 86; exact gives_regrown (fun w1 _ => gives_is fl (l1Before_any x y ax ay w1)) _ _)))
          refine wpQuiet_nil ?_
          intro _ hw'
          obtain ⟨⟨dq, osq⟩, hw''⟩ := hw'
          subst hw''
          go_wp2
          go_roundw
          case rel => exact ⟨lo, (lo + hi) / 2, by omega, by omega, rfl, by go_num, hG.out, hH.out, hbw.trans ((below_regrown _ _ _).mono hbs)⟩
          case measure => simp [intOf]; omega
      · obtain rfl : lo = hi := by omega
        by_cases hll : lo < ps.length
        · have hd : decide (lo < ps.length) = true := decide_eq_true hll
          obtain ⟨⟨x, y⟩, hxy⟩ : ∃ a, ps[lo]? = some a := ⟨_, List.getElem?_eq_getElem hll⟩
          obtain ⟨c0, c1⟩ := hcell (lo) x y hxy
          have f0 := cell_regrown ((hbw.cell (p := ⟨b, off + (lo) * 2, none⟩) (show b < W.heap.size by omega)).trans ((hb0.cell (p := ⟨b, off + (lo) * 2, none⟩) hb).trans c0))
          have f1 := cell_regrown ((hbw.cell (p := ⟨b, off + (lo) * 2 + 1, none⟩) (show b < W.heap.size by omega)).trans ((hb0.cell (p := ⟨b, off + (lo) * 2 + 1, none⟩) hb).trans c1))
          clear c0 c1
          have hW := HW.out
          have a0 := (hbw.cell (p := ⟨w.heap.size, 0, none⟩) (by simp [hW])).trans (show _ = some (Value.int .i64 ax) by rw [hW]; simp [go_sem])
          have a1 := (hbw.cell (p := ⟨w.heap.size, 1, none⟩) (by simp [hW])).trans (show _ = some (Value.int .i64 ay) by rw [hW]; simp [go_sem])
          have g0 := cell_regrown a0
          have g1 := cell_regrown a1
          clear hW
          by_cases hx : x = ax
          · by_cases hy : y = ay
            · subst hx hy
              have HI := Lib.hid hxy
              clear hxy hlo hhi
              go_wp2
              refine wp_region_quiet_below (by kernel_rfl) (by kernel_rfl) ?_
              repeat (go_big_quiet_step (first | fail))
              refine wpQuiet_nil ?_
              intro _ hw'
              obtain ⟨⟨dq, osq⟩, hw''⟩ := hw'
              subst hw''
              go_wp2
              go_ret
              exact ⟨⟨_, rfl, .inl ⟨lo, rfl, HI.out⟩⟩, (hb0.trans (hbw.mono (by omega))).trans ((below_regrown _ _ _).mono (by omega))⟩
            · have hH := Lib.hid (has_no hs hlo hhi hxy (fun e => hy (Prod.mk.inj e).2))
              subst hx
              clear hxy hlo hhi
              go_wp2
              refine wp_region_quiet_below (by kernel_rfl) (by kernel_rfl) ?_
              repeat (go_big_quiet_step (first | fail))
              refine wpQuiet_nil ?_
              intro _ hw'
              obtain ⟨⟨dq, osq⟩, hw''⟩ := hw'
              subst hw''
              go_wp2
              go_ret
              exact ⟨⟨_, rfl, placeIs_no hH.out⟩, (hb0.trans (hbw.mono (by omega))).trans ((below_regrown _ _ _).mono (by omega))⟩
          · have hH := Lib.hid (has_no hs hlo hhi hxy (fun e => hx (Prod.mk.inj e).1))
            clear hxy hlo hhi
            go_wp2
            refine wp_region_quiet_below (by kernel_rfl) (by kernel_rfl) ?_
            repeat (go_big_quiet_step (first | fail))
            refine wpQuiet_nil ?_
            intro _ hw'
            obtain ⟨⟨dq, osq⟩, hw''⟩ := hw'
            subst hw''
            go_wp2
            go_ret
            exact ⟨⟨_, rfl, placeIs_no hH.out⟩, (hb0.trans (hbw.mono (by omega))).trans ((below_regrown _ _ _).mono (by omega))⟩
        · have hd : decide (lo < ps.length) = false := decide_eq_false hll
          have hH := Lib.hid (has_end hlo (by omega))
          clear hlo hhi
          go_wp2
          refine wp_region_quiet_below (by kernel_rfl) (by kernel_rfl) ?_
          repeat (go_big_quiet_step (first | fail))
          refine wpQuiet_nil ?_
          intro _ hw'
          obtain ⟨⟨dq, osq⟩, hw''⟩ := hw'
          subst hw''
          go_wp2
          go_ret
          exact ⟨⟨_, rfl, placeIs_no hH.out⟩, (hb0.trans (hbw.mono (by omega))).trans ((below_regrown _ _ _).mono (by omega))⟩
theorem l7Place_yes {ps : List Sp} {v : Value} {ax ay : Int} {k : Nat} {w : World} (hk : ps[k]? = some (ax, ay)) (h : Reads w w.heap.size v ps) (hs : Sorted ps) (hl : ps.length ≤ 1000000) :
    Calls Try.prog 84 #[v, .agg #[.int .i64 ax, .int .i64 ay]] w (Gives (.int .i64 k) w) := by
  refine (l7Place_any ps v ax ay w h hs hl).mono ?_
  rintro e w' ⟨⟨i, rfl, hi⟩, hb⟩
  rcases hi with ⟨j, rfl, hj⟩ | ⟨_, hj⟩
  · obtain rfl := idx_unique hs hj hk
    exact ⟨rfl, hb⟩
  · exact absurd (List.mem_of_getElem? hk) hj
theorem l7Place_no {ps : List Sp} {v : Value} {ax ay : Int} {w : World} (hk : ¬ (ax, ay) ∈ ps) (h : Reads w w.heap.size v ps) (hs : Sorted ps) (hl : ps.length ≤ 1000000) :
    Calls Try.prog 84 #[v, .agg #[.int .i64 ax, .int .i64 ay]] w (Gives (.int .i64 (-1)) w) := by
  refine (l7Place_any ps v ax ay w h hs hl).mono ?_
  rintro e w' ⟨⟨i, rfl, hi⟩, hb⟩
  rcases hi with ⟨j, _, hj⟩ | ⟨rfl, _⟩
  · exact absurd (List.mem_of_getElem? hj) hk
  · exact ⟨rfl, hb⟩
end
/-! ### MarkS -/
section
open Go.RowKit Go.Sort

def boolsV (l : List Bool) : List Value := l.map fun b => .bool b
def intsV (l : List Nat) : List Value := l.map fun (k : Nat) => .int .i64 (k : Int)
theorem boolsV_length (l : List Bool) : (boolsV l).length = l.length := List.length_map _
theorem intsV_length (l : List Nat) : (intsV l).length = l.length := List.length_map _
theorem boolsV_at {l : List Bool} {k : Nat} {b : Bool} (h : l[k]? = some b) : (boolsV l)[k]? = some (.bool b) := by unfold boolsV; rw [List.getElem?_map, h]; rfl
theorem boolsV_set (l : List Bool) (k : Nat) (b : Bool) : (boolsV l).set k (.bool b) = boolsV (l.set k b) := by unfold boolsV; rw [List.map_set]
theorem intsV_append (l m : List Nat) : intsV (l ++ m) = intsV l ++ intsV m := List.map_append
theorem intsV_last (l : List Nat) (k : Nat) : (intsV (l ++ [k]))[l.length]? = some (.int .i64 (k : Int)) := by
  unfold intsV
  rw [List.getElem?_map, List.getElem?_append_right (Nat.le_refl _), Nat.sub_self]; rfl
theorem intsV_take (l : List Nat) (k : Nat) : (intsV (l ++ [k])).take l.length = intsV l := by
  unfold intsV
  rw [← List.map_take, List.take_left]
theorem boolsV_replicate (n : Nat) : List.replicate n (Value.bool false) = boolsV (List.replicate n false) := by
  unfold boolsV; rw [List.map_replicate]
/-- the state between two rounds -/
structure MarkW (e : Bool) (p : List Sp) (sn0 : List Bool) (s : Sp) (w wr : World) (base g n cap : Nat) (t : Value) (k : Nat) (m : Int) (sn : List Bool) (td : List Nat) : Prop where
  I : MarkI e p sn0 s sn td k m
  so : VOwns 4 wr base (.slice (some ⟨g, 0, none⟩) n cap) (boolsV sn)
  to : VOwns 3 wr w.heap.size t (intsV td)
  gr : w.grownBy wr (some g)
theorem MarkW.below {e : Bool} {p : List Sp} {sn0 : List Bool} {s : Sp} {w wr w' : World} {base g n cap : Nat} {t : Value} {k : Nat} {m : Int} {sn : List Bool} {td : List Nat} (M : MarkW e p sn0 s w wr base g n cap t k m sn td) (hb : Below wr.heap.size wr w') : MarkW e p sn0 s w w' base g n cap t k m sn td := ⟨M.I, M.so.below hb, M.to.below hb, grown_below M.gr hb⟩
theorem MarkW.by {e : Bool} {p : List Sp} {sn0 : List Bool} {s : Sp} {w wr : World} {base g n cap : Nat} {t : Value} {k : Nat} {m m' : Int} {sn : List Bool} {td : List Nat} (M : MarkW e p sn0 s w wr base g n cap t k m sn td) (I : MarkI e p sn0 s sn td k m') : MarkW e p sn0 s w wr base g n cap t k m' sn td := ⟨I, M.so, M.to, M.gr⟩
theorem off_at (px py xx yy : Int) : offI (px, py) (px + xx, py + yy) = (yy + 1) * 3 + (xx + 1) := by unfold offI; simp only []; omega
theorem VOwns.notat {T : TypeId} {w : World} {base g : Nat} {v : Value} {l : List Value} (h : VOwns T w base v l) (hg : g < base) : v.ownBlock = none ∨ v.ownBlock ≠ some g := by
  cases hv : v.ownBlock with
  | none => exact .inl rfl
  | some k => exact .inr fun e => by have := (h.lt k hv).1; injection e with e; omega
def MarkPost (e : Bool) (p : List Sp) (sn0 : List Bool) (s : Sp) (w : World) (base g n cap : Nat) (en : Ending) (w' : World) : Prop :=
  en = .returned (.tuple #[]) ∧ ∃ sn k, MarkI e p sn0 s sn [] k 9 ∧ VOwns 4 w' base (.slice (some ⟨g, 0, none⟩) n cap) (boolsV sn) ∧ w.grownBy w' (some g)
set_option maxRecDepth 100000 in
set_option maxHeartbeats 3200000 in
theorem l7Mark_any (e : Bool) (ps : List Sp) (v : Value) (sn0 : List Bool) (at' base g n cap : Nat) (s : Sp) (w : World) (h : Reads w g v ps) (hs : Sorted ps) (hl : ps.length ≤ 10000) (hn : ∀ a ∈ ps, NearS a)
    (hso : VOwns 4 w base (.slice (some ⟨g, 0, none⟩) n cap) (boolsV sn0)) (hsl : sn0.length = ps.length) (hat : ps[at']? = some s) (hc : Closed e ps sn0) :
    Calls Try.prog 71 #[v, .int .i64 at', .bool e, .slice (some ⟨g, 0, none⟩) n cap] w (MarkPost e ps sn0 s w base g n cap) := by
  obtain ⟨A, c, rfl, hcc, hm, hA, hr⟩ := h.is
  unfold maxLen at hm
  have hatl := (List.getElem?_eq_some_iff.1 hat).1
  obtain ⟨b, off, rfl, hb, hcell⟩ := hr (by omega)
  obtain ⟨hbg, hgw⟩ := hso.lt g rfl
  have hn0 := hso.len
  rw [boolsV_length] at hn0
  have hnl : n = ps.length := by omega
  have hfz := hso.free at'
  have hcapn : n ≤ cap ∧ cap ≤ maxLen := by
    obtain ⟨A, c, h1, h2, h3, _⟩ := hso.shape
    cases h1
    exact ⟨by omega, h3⟩
  unfold maxLen at hcapn
  have hb0' : at' < n := by omega
  obtain ⟨z0, hz0⟩ : ∃ z, sn0[at']? = some z := ⟨_, List.getElem?_eq_getElem (by omega)⟩
  have hcs := (hso.cell (k := at') (by rw [boolsV_length]; omega)).trans (boolsV_at hz0)
  have hset := hso.set at' (.bool true)
  rw [boolsV_set] at hset
  have hg1 := setGrown w g at' (.bool true)
  have HB := Lib.hid (MarkI.begin hsl hat hc)
  clear hz0 hso
  have HI := Lib.hid (And.intro hnl hn0)
  clear hnl hn0
  go_enter Try.func71, Try.ntmps71
  go_wp2
  have hsz : (w.setCell ⟨g, at', none⟩ (.bool true)).heap.size = w.heap.size := by simp [World.setCell]
  have hto := VOwns.one 3 (w.setCell ⟨g, at', none⟩ (.bool true)) w.heap.size (.int .i64 (at' : Int)) (by rw [hsz]; exact Nat.le_refl _)
  rw [hsz] at hto
  have hso1 := hset.below ((Below.refl _ _).alloc (Nat.le_refl _) (.cells #[.int .i64 (at' : Int)] 3))
  have hgr1 := grown_below hg1 ((Below.refl _ _).alloc (Nat.le_refl _) (.cells #[.int .i64 (at' : Int)] 3))
  have hf1 : falses (sn0.set at' true) ≤ 10000 := by
    have := List.count_le_length (a := false) (l := sn0.set at' true)
    rw [List.length_set] at this
    unfold falses; omega
  obtain ⟨W, hW⟩ : ∃ W, W = (w.setCell ⟨g, at', none⟩ (.bool true)).alloc (.cells #[.int .i64 at'] 3) := ⟨_, rfl⟩
  rw [← hW] at hto hso1 hgr1 ⊢
  clear hW hset hg1 hcs hfz hsz
  go_loopg [8] (2 * falses (sn0.set at' true) + 1) (fun gk t wr => ∃ (sn : List Bool) (td : List Nat) (k : Nat), gk = 2 * falses sn + td.length ∧ gk ≤ 30000 ∧ MarkW e ps sn0 s w wr base g n cap t k 9 sn td)
  case atStart => exact ⟨_, [at'], 0, rfl, by omega, ⟨HB.out, hso1, hto, hgr1⟩⟩
  case round =>
    clear hto hso1 hgr1 hf1
    obtain ⟨sn, td, k0, hgk, hgl, M⟩ := hrel
    obtain ⟨At, ct, rfl, hct1, hct2, hAt⟩ := M.to.shape
    unfold maxLen at hct2
    rw [intsV_length] at hct1 hAt ⊢
    by_cases h0 : td.length = 0
    · obtain rfl := List.eq_nil_of_length_eq_zero h0
      have HM := Lib.hid M
      clear M
      go_wp2
      go_end0
      exact ⟨rfl, sn, k0, HM.out.I, HM.out.so, HM.out.gr⟩
    · obtain ⟨td, k, rfl⟩ : ∃ l k, td = l ++ [k] := ⟨td.dropLast, td.getLast (fun h => h0 (by rw [h]; rfl)), (List.dropLast_concat_getLast _).symm⟩
      obtain ⟨gt, rfl, hgt1, hgt2⟩ := hAt (by omega)
      rw [List.length_append, List.length_singleton] at *
      have htc := (M.to.cell (k := td.length) (by rw [intsV_length]; simp)).trans (intsV_last td k)
      have hsm : td.length ≤ 30000 := by omega
      obtain ⟨a, hka, hra⟩ := M.I.popped
      obtain ⟨px, py⟩ := a
      have M1 : MarkW e ps sn0 s w wr base g n cap (.slice (some ⟨gt, 0, none⟩) td.length ct) k 0 sn td := by
        have := M.to.take (k := td.length) (by rw [intsV_length]; simp)
        rw [intsV_take] at this
        exact ⟨M.I.pop, M.so, this, M.gr⟩
      have hlt1 : 2 * falses sn + td.length < gk := by omega
      have HKA := Lib.hid (And.intro hka hra)
      clear hgk M hka hra hAt h0
      go_wp2
      go_loopw [8, 10] (fun t y wr => ∃ (yy : Int) (sn : List Bool) (td : List Nat), y = .int .i64 yy ∧ -1 ≤ yy ∧ yy ≤ 2 ∧ 2 * falses sn + td.length < gk ∧ MarkW e ps sn0 s w wr base g n cap t k ((yy + 1) * 3) sn td) (fun _ y _ => (2 - intOf y).toNat)
      case atStart => exact ⟨-1, sn, td, rfl, by omega, by omega, hlt1, M1⟩
      case round =>
        clear M1 hlt1 htc hsm hct1 hct2 hgt1 hgt2
        obtain ⟨yy, sn, td, rfl, hy1, hy2, hlt1, M1⟩ := hrel
        by_cases hy : yy ≤ 1
        · go_wp2
          go_loopw [8, 11] (fun t x wr => ∃ (xx : Int) (sn : List Bool) (td : List Nat), x = .int .i64 xx ∧ -1 ≤ xx ∧ xx ≤ 2 ∧ 2 * falses sn + td.length < gk ∧ MarkW e ps sn0 s w wr base g n cap t k ((yy + 1) * 3 + (xx + 1)) sn td) (fun _ x _ => (2 - intOf x).toNat)
          case atStart => exact ⟨-1, sn, td, rfl, by omega, by omega, hlt1, by rw [show (-1 : Int) + 1 = 0 from rfl, Int.add_zero]; exact M1⟩
          case round =>
            clear M1 hlt1
            obtain ⟨xx, sn, td, rfl, hx1, hx2, hlt1, M1⟩ := hrel
            by_cases hx : xx ≤ 1
            · have hka := HKA.out.1
              have hna := hn _ (List.mem_of_getElem? hka)
              unfold NearS at hna
              simp only at hna
              have hbW : Below g w wr := (Below.refl _ _).grown M1.gr (Nat.le_of_lt hgw) (fun k hk => by cases hk; exact Nat.le_refl _)
              obtain ⟨c0, c1⟩ := hcell k px py hka
              have hkl := (List.getElem?_eq_some_iff.1 hka).1
              have d0 := (hbW.cell (p := ⟨b, off + k * 2, none⟩) hb).trans c0
              have d1 := (hbW.cell (p := ⟨b, off + k * 2 + 1, none⟩) hb).trans c1
              have hgr := M1.gr.size
              have hwx : IntKind.i64.wrap (px + xx) = px + xx := IntWalk.i64_in _ (by omega)
              have hwy : IntKind.i64.wrap (py + yy) = py + yy := IntWalk.i64_in _ (by omega)
              have ne0 := World.new_ne wr _ d0
              have ne1 := World.new_ne wr _ d1
              have hm3 : (0 : Int) ≤ (k : Int) := Int.natCast_nonneg _
              have hm4 : (k : Int) < (ps.length : Int) := by omega
              have hb2 : b < wr.heap.size := by omega
              clear c0 c1 hka
              go_wp2_with fail
              go_region_held3 (fun w' => w'.cell? ⟨b, off + k * 2, none⟩ = some (.int .i64 px) ∧ w'.cell? ⟨b, off + k * 2 + 1, none⟩ = some (.int .i64 py)) (go_keep) (fail)
              have hbA : Below wr.heap.size wr ((wr.alloc (.cells #[.int .i64 (px + xx), .int .i64 (py + yy)] 42)).drew) := ((Below.refl _ _).alloc (Nat.le_refl _) _).drew
              have g0 : ((wr.alloc (.cells #[.int .i64 (px + xx), .int .i64 (py + yy)] 42)).drew).cell? ⟨wr.heap.size, 0, none⟩ = some (.int .i64 (px + xx)) := by simp [go_sem]
              have g1 : ((wr.alloc (.cells #[.int .i64 (px + xx), .int .i64 (py + yy)] 42)).drew).cell? ⟨wr.heap.size, 1, none⟩ = some (.int .i64 (py + yy)) := by simp [go_sem]
              have hgs : wr.heap.size < ((wr.alloc (.cells #[.int .i64 (px + xx), .int .i64 (py + yy)] 42)).drew).heap.size := by simp [go_sem]
              go_wp2_with fail
              generalize (wr.alloc (.cells #[.int .i64 (px + xx), .int .i64 (py + yy)] 42)).drew = W1 at hbA g0 g1 hgs ⊢
              have hwq : w.heap.size ≤ wr.heap.size := hgr
              have MA := M1.below hbA
              have hbg' : g < wr.heap.size := by omega
              have hbB := hbW.trans (hbA.mono (Nat.le_of_lt hbg'))
              have e0 := cell_regrown ((hbA.cell (p := ⟨b, off + k * 2, none⟩) hb2).trans d0)
              have e1 := cell_regrown ((hbA.cell (p := ⟨b, off + k * 2 + 1, none⟩) hb2).trans d1)
              have e2 := cell_regrown g0
              have e3 := cell_regrown g1
              clear M1 d0 d1 ne0 ne1
              generalize wr.heap.size = q at hbA g0 g1 hgs hgr hb2 hbW e2 e3 hwq hbg' ⊢
              have hoff := off_at px py xx yy
              have hcc2 : -1 ≤ ((px + xx, py + yy) : Sp).1 - ((px, py) : Sp).1 ∧ ((px + xx, py + yy) : Sp).1 - ((px, py) : Sp).1 ≤ 1 := by simp only []; omega
              have HO := Lib.hid (And.intro hoff hcc2)
              clear hoff hcc2
              rcases hnb : nearB e (px, py) (px + xx, py + yy) with _ | _
              · have HNB := Lib.hid hnb
                have I2 := MA.I.skip hs HKA.out.1 HO.out.1 HO.out.2 (.inl hnb)
                clear hnb
                go_wp2
                refine wp_region_quiet_below (by kernel_rfl) (by kernel_rfl) ?_
                repeat (go_big_quiet_step (first | (go_at_call 94; with_reducible exact gives_regrown (fun w1 _ => l7Near_lit HNB.out (by omega) (by omega)) _ _)))
                refine wpQuiet_nil ?_
                intro W2 hw'
                obtain ⟨⟨dq, osq⟩, hw''⟩ := hw'
                have hb3 : Below W1.heap.size W1 W2 := by rw [hw'']; exact below_regrown _ _ _
                clear hw'' dq osq
                have M2 := (MA.by I2).below hb3
                go_wp2
                go_roundw
                case rel => exact ⟨xx + 1, sn, td, by go_num, by omega, by omega, hlt1, by rw [show (yy + 1) * 3 + (xx + 1 + 1) = (yy + 1) * 3 + (xx + 1) + 1 by omega]; exact M2⟩
                case measure => simp [intOf]; omega
              · have HNB := Lib.hid hnb
                clear hnb
                go_wp2
                refine wp_region_quiet_below (by kernel_rfl) (by kernel_rfl) ?_
                repeat (go_big_quiet_step (first | (go_at_call 94; with_reducible exact gives_regrown (fun w1 _ => l7Near_lit HNB.out (by omega) (by omega)) _ _)))
                refine wpQuiet_nil ?_
                intro W2 hw'
                obtain ⟨⟨dq, osq⟩, hw''⟩ := hw'
                have hb3 : Below W1.heap.size W1 W2 := by rw [hw'']; exact below_regrown _ _ _
                clear hw'' dq osq
                have M2 := MA.below hb3
                have q0 := (hb3.cell (p := ⟨q, 0, none⟩) hgs).trans g0
                have q1 := (hb3.cell (p := ⟨q, 1, none⟩) hgs).trans g1
                have hgW2 : g ≤ W2.heap.size := by have := hb3.size; omega
                have hrp := (h.below (hbB.trans (hb3.mono (by omega)))).more hgW2
                clear e0 e1 e2 e3 MA g0 g1
                by_cases hin : (px + xx, py + yy) ∈ ps
                · obtain ⟨j, hj⟩ := List.mem_iff_getElem?.1 hin
                  have hjl := (List.getElem?_eq_some_iff.1 hj).1
                  obtain ⟨z, hz⟩ : ∃ z, sn[j]? = some z := ⟨_, List.getElem?_eq_getElem (by rw [M2.I.len]; exact hjl)⟩
                  have HJ := Lib.hid (And.intro hj hz)
                  clear hin hj
                  go_wp2_with fail
                  refine (l7Place_yes HJ.out.1 hrp hs (by omega)).mono ?_
                  rintro e' w3 ⟨rfl, hb4⟩
                  have M3 := M2.below hb4
                  have hcz := (M3.so.cell (k := j) (by rw [boolsV_length, M3.I.len]; exact hjl)).trans (boolsV_at HJ.out.2)
                  have hj0 : (0 : Int) ≤ (j : Int) := Int.natCast_nonneg _
                  have hjn : j < n := by have := HI.out.1; omega
                  have hjn2 : (j : Int) < (n : Int) := by omega
                  clear M2 hz
                  cases z
                  · have hfz := M3.so.free j
                    have I4 := M3.I.push hs HKA.out.1 HKA.out.2 HO.out.1 HNB.out HJ.out.1
                    have so4 := M3.so.set j (.bool true)
                    rw [boolsV_set] at so4
                    have to4 := M3.to.setOther (a := ⟨g, j, none⟩) (M3.to.notat hgw) (.bool true)
                    have gr4 := grown_trans M3.gr (setGrown w3 g j (.bool true))
                    have hf4 := falses_set HJ.out.2
                    have hw3 : w.heap.size ≤ w3.heap.size := M3.gr.size
                    have hlen5 : td.length ≤ 30000 := by omega
                    have hsz4 : (w3.setCell ⟨g, j, none⟩ (.bool true)).heap.size = w3.heap.size := by simp [World.setCell]
                    have box4 : Below (w3.setCell ⟨g, j, none⟩ (.bool true)).heap.size (w3.setCell ⟨g, j, none⟩ (.bool true)) ((w3.setCell ⟨g, j, none⟩ (.bool true)).alloc (.cells #[.int .i64 j] 3)) := box_below _ _ _
                    have so5 := so4.below box4
                    have to5 := to4.below box4
                    have gr5 := grown_below gr4 box4
                    clear M3 so4 to4 gr4
                    go_wp2_with (at_builtin; refine wpList_append_Int (g := w3.heap.size) (x := .int .i64 (j : Int)) to5 (by simp [go_sem]) rfl (by rw [intsV_length]; omega) (by simp only [World.size_alloc, hsz4]; omega) rfl (.tmp 79) (.tmp 81) rfl rfl rfl ?_)
                    intro v6 w6 to6 g6 hv6
                    have so6 := so5.grown g6 (.inr fun e => by
                      rcases to5.notat hgw with h | h
                      · rw [h] at e; cases e
                      · exact h e.symm)
                    have gr6 := grown_app gr5 g6 (fun k hk => (to5.lt k hk).1)
                    have to7 : VOwns 3 w6 w.heap.size v6 (intsV (td ++ [j])) := by rw [intsV_append]; exact to6
                    clear to5 so5 gr5 to6
                    go_wp2
                    go_roundw
                    case rel => exact ⟨xx + 1, sn.set j true, td ++ [j], by go_num, by omega, by omega, by rw [List.length_append, List.length_singleton]; omega, by rw [show (yy + 1) * 3 + (xx + 1 + 1) = (yy + 1) * 3 + (xx + 1) + 1 by omega]; exact ⟨I4, so6, to7, gr6⟩⟩
                    case measure => simp [intOf]; omega
                  · have I4 := M3.I.skip hs HKA.out.1 HO.out.1 HO.out.2 (.inr (.inr ⟨j, HJ.out.1, HJ.out.2⟩))
                    have M4 := M3.by I4
                    clear M3
                    go_wp2
                    go_roundw
                    case rel => exact ⟨xx + 1, sn, td, by go_num, by omega, by omega, hlt1, by rw [show (yy + 1) * 3 + (xx + 1 + 1) = (yy + 1) * 3 + (xx + 1) + 1 by omega]; exact M4⟩
                    case measure => simp [intOf]; omega
                · have HJ := Lib.hid hin
                  clear hin
                  go_wp2_with fail
                  refine (l7Place_no HJ.out hrp hs (by omega)).mono ?_
                  rintro e' w3 ⟨rfl, hb4⟩
                  have I4 := M2.I.skip hs HKA.out.1 HO.out.1 HO.out.2 (.inr (.inl HJ.out))
                  have M4 := (M2.by I4).below hb4
                  clear M2
                  go_wp2
                  go_roundw
                  case rel => exact ⟨xx + 1, sn, td, by go_num, by omega, by omega, hlt1, by rw [show (yy + 1) * 3 + (xx + 1 + 1) = (yy + 1) * 3 + (xx + 1) + 1 by omega]; exact M4⟩
                  case measure => simp [intOf]; omega
            · obtain rfl : xx = 2 := by omega
              go_wp2
              go_roundw
              case rel => exact ⟨yy + 1, sn, td, by go_num, by omega, by omega, hlt1, by rw [show (yy + 1 + 1) * 3 = (yy + 1) * 3 + (2 + 1) by omega]; exact M1⟩
              case measure => simp [intOf]; omega
        · obtain rfl : yy = 2 := by omega
          go_wp2
          go_roundg (2 * falses sn + td.length)
          case measure => exact hlt1
          case rel => exact ⟨sn, td, k, rfl, by omega, M1⟩
end
/-! ### ReachS -/
section
open Go.RowKit Go.Sort

theorem Owns.apartV {w : World} {base' g n cap : Nat} {u : Value} {ps : List Sp} (k : Owns w base' u ps) (hg : g < base') : (Value.slice (some ⟨g, 0, none⟩) n cap).ownBlock = none ∨ (Value.slice (some ⟨g, 0, none⟩) n cap).ownBlock ≠ u.ownBlock :=
  .inr fun e => by have := (k.lt g e.symm).1; omega
/-- what is handed back in new memory -/
def GivesOwn (ps : List Sp) (w : World) (e : Ending) (w' : World) : Prop := ∃ v', e = .returned v' ∧ Owns w' w.heap.size v' ps ∧ Below w.heap.size w w'
set_option maxRecDepth 100000 in
set_option maxHeartbeats 1600000 in
theorem l7Reach_any (e : Bool) (ps ms : List Sp) (v u : Value) (w : World) (h : Reads w w.heap.size v ps) (k : Reads w w.heap.size u ms) (hs : Sorted ps) (hl : ps.length ≤ 10000) (hn : ∀ a ∈ ps, NearS a) (hsub : Sub ms ps) :
    Calls Try.prog 54 #[v, u, .bool e] w (GivesOwn (reachL e ps ms) w) := by
  obtain ⟨A, c, rfl, hc, hm, hA, hr⟩ := h.is
  obtain ⟨A', c', rfl, hc', hm', hA', hr'⟩ := k.is
  unfold maxLen at hm hm'
  have HD := Lib.hid (fun (sn : List Bool) (hh : Says ps sn (reachB e ps (ms.take ms.length))) => (by rw [List.take_length] at hh; exact hh : Says ps sn (reachB e ps ms)))
  go_enter Try.func54, Try.ntmps54
  go_wp2_with (at_make; refine wpList_make_Bool ps.length (by omega) rfl _ _ rfl _ _ rfl rfl rfl rfl ?_; intro w1 ho1 hg1)
  have hb1 : Below w.heap.size w w1 := (Below.refl _ _).grown hg1 (Nat.le_refl _) (by simp)
  rw [boolsV_replicate] at ho1
  have hs0 : Says ps (List.replicate ps.length false) (reachB e ps (ms.take 0)) := by rw [List.take_zero]; exact says_none
  clear hg1
  go_loopw [8] (fun i wr => ∃ (k : Nat) (sn : List Bool), k ≤ ms.length ∧ i = .int .i64 k ∧ Says ps sn (reachB e ps (ms.take k)) ∧ VOwns 4 wr w.heap.size (.slice (some ⟨w.heap.size, 0, none⟩) ps.length ps.length) (boolsV sn) ∧ Below w.heap.size w wr) (fun i _ => ms.length - (intOf i).toNat)
  case atStart => exact ⟨0, _, Nat.zero_le _, rfl, hs0, ho1, hb1⟩
  case round =>
    clear hs0 ho1 hb1
    obtain ⟨i, sn, hi, rfl, hsay, hown, hbw⟩ := hrel
    have hrp := (h.below hbw)
    by_cases hlt : i < ms.length
    · obtain ⟨⟨x, y⟩, hxy⟩ : ∃ a, ms[i]? = some a := ⟨_, List.getElem?_eq_getElem hlt⟩
      obtain ⟨j, hj⟩ := List.mem_iff_getElem?.1 (hsub _ (List.mem_of_getElem? hxy))
      obtain ⟨b, off, rfl, hb, hcell⟩ := hr' (by omega)
      obtain ⟨c0, c1⟩ := hcell i x y hxy
      have d0 := (hbw.cell (p := ⟨b, off + i * 2, none⟩) hb).trans c0
      have d1 := (hbw.cell (p := ⟨b, off + i * 2 + 1, none⟩) hb).trans c1
      have hjl := (List.getElem?_eq_some_iff.1 hj).1
      obtain ⟨z, hz⟩ : ∃ z, sn[j]? = some z := ⟨_, List.getElem?_eq_getElem (by rw [hsay.1]; exact hjl)⟩
      have hm3 : (0 : Int) ≤ (i : Int) := Int.natCast_nonneg _
      have hm4 : (i : Int) < (ms.length : Int) := by omega
      have hj0 : (0 : Int) ≤ (j : Int) := Int.natCast_nonneg _
      have hj1 : (j : Int) < (ps.length : Int) := by omega
      have HX := Lib.hid (And.intro hxy (And.intro hj hz))
      have HS := Lib.hid hsay
      clear c0 c1 hxy hj hsay
      go_wp2_with fail
      refine (l7Place_yes HX.out.2.1 (hrp.more hbw.size) hs (by omega)).mono ?_
      rintro e' w2 ⟨rfl, hb2⟩
      have hw2 := below_step hbw hb2
      have hown2 := hown.below hb2
      have hcz := (hown2.cell (k := j) (by rw [boolsV_length, HS.out.1]; exact hjl)).trans (boolsV_at hz)
      clear hz hown hbw
      cases z
      · have hcl := reachB_closed HS.out
        have HCL := Lib.hid hcl
        clear hcl
        go_wp2_with fail
        refine (l7Mark_any e ps _ sn j w.heap.size w.heap.size ps.length ps.length (x, y) w2 (h.below hw2) hs hl hn hown2 HS.out.1 HX.out.2.1 HCL.out).mono ?_
        rintro e' w3 ⟨rfl, sn3, k3, hI3, hown3, hg3⟩
        have hw3 := hw2.grown hg3 hw2.size (fun k hk => by cases hk; exact Nat.le_refl _)
        have HT := Lib.hid (says_mark HS.out hs HX.out.1 hI3)
        clear hI3 hcz
        go_wp2
        go_roundw
        case rel => exact ⟨i + 1, sn3, by omega, by go_num, HT.out, hown3, hw3⟩
        case measure => simp [intOf]; omega
      · have HT := Lib.hid (says_skip HS.out HX.out.1 HX.out.2.1 HX.out.2.2)
        go_wp2
        go_roundw
        case rel => exact ⟨i + 1, sn, by omega, by go_num, HT.out, hown2, hw2⟩
        case measure => simp [intOf]; omega
    · obtain rfl : i = ms.length := by omega
      have hsay := HD.out sn hsay
      have HS := Lib.hid hsay
      clear hsay
      have hal : Below wr.heap.size wr (wr.alloc (.cells #[] 42)) := (Below.refl _ _).alloc (Nat.le_refl _) _
      have hoE := Owns.empty wr wr.heap.size (Nat.le_refl _)
      have hsO := hown.below hal
      have hwO := below_step hbw hal
      have hwlt : w.heap.size < wr.heap.size := (hown.lt w.heap.size rfl).2
      go_wp2
      go_loopw [10, 11] (fun o i wr' => ∃ k : Nat, k ≤ ps.length ∧ i = .int .i64 k ∧ Owns wr' wr.heap.size o ((ps.take k).filter (reachB e ps ms)) ∧ VOwns 4 wr' w.heap.size (.slice (some ⟨w.heap.size, 0, none⟩) ps.length ps.length) (boolsV sn) ∧ Below w.heap.size w wr' ∧ wr.heap.size ≤ wr'.heap.size) (fun _ i _ => ps.length - (intOf i).toNat)
      case atStart => exact ⟨0, Nat.zero_le _, rfl, hoE, hsO, hwO, by simp⟩
      case round =>
        rename_i wq _ _ _ _
        clear hoE hsO hwO hown hbw hal hrp
        obtain ⟨k, hk, rfl, hown, hsn, hbw, hge⟩ := hrel
        by_cases hlk : k < ps.length
        · obtain ⟨⟨x, y⟩, hxy⟩ : ∃ a, ps[k]? = some a := ⟨_, List.getElem?_eq_getElem hlk⟩
          obtain ⟨b, off, rfl, hb, hcell⟩ := hr (by omega)
          obtain ⟨c0, c1⟩ := hcell k x y hxy
          have d0 := (hbw.cell (p := ⟨b, off + k * 2, none⟩) hb).trans c0
          have d1 := (hbw.cell (p := ⟨b, off + k * 2 + 1, none⟩) hb).trans c1
          have hcz := (hsn.cell (k := k) (by rw [boolsV_length, HS.out.1]; exact hlk)).trans (boolsV_at (HS.out.2 k _ hxy))
          have hm3 : (0 : Int) ≤ (k : Int) := Int.natCast_nonneg _
          have hm4 : (k : Int) < (ps.length : Int) := by omega
          have hlen := filt_len ps (reachB e ps ms) k
          rcases hf : reachB e ps ms (x, y) with _ | _
          · rw [hf] at hcz
            have HT := Lib.hid (filt_no hxy hf)
            clear c0 c1 hxy hf
            go_wp2
            go_roundw
            case rel => exact ⟨k + 1, by omega, by go_num, by rw [← HT.out]; exact hown, hsn, hbw, hge⟩
            case measure => simp [intOf]; omega
          · rw [hf] at hcz
            have HT := Lib.hid (filt_yes hxy hf)
            clear c0 c1 hxy hf
            have bal := box_below wr #[.int .i64 x, .int .i64 y] 42
            have o2 := hown.below bal
            have s2 := hsn.below bal
            have b2 := below_step hbw bal
            clear hown hsn hbw
            go_wp2_with (at_builtin; refine wpList_append_spots (qs := [(x, y)]) o2 (Reads.one (g := wr.heap.size) (by simp [go_sem]) (by simp [go_sem])) (by simp only [List.length_cons, List.length_nil]; omega) (by simp only [World.size_alloc]; omega) rfl (.tmp 48) (.tmp 53) rfl rfl rfl ?_)
            intro v4 w4 o4 g4 hv4
            have s4 := s2.grown g4 (Owns.apartV o2 hwlt)
            have b4 := b2.grown g4 b2.size (fun k hk => by have := (o2.lt k hk).1; omega)
            have hge4 := Nat.le_trans (Nat.le_trans hge bal.size) g4.size
            go_wp2
            go_roundw
            case rel => exact ⟨k + 1, by omega, by go_num, by rw [← HT.out]; exact o4, s4, b4, hge4⟩
            case measure => simp [intOf]; omega
        · obtain rfl : k = ps.length := by omega
          rw [List.take_length] at hown
          go_wp2
          go_ret
          exact ⟨_, rfl, hown.base (Nat.le_of_lt hwlt), hbw⟩
theorem specReached_any (e : Bool) (ps ms : List Sp) (v u : Value) (w : World) (h : Reads w w.heap.size v ps) (k : Reads w w.heap.size u ms) :
    Calls Try.prog 15 #[v, u, .bool e] w (Gives2' (reachR e ps ms) (withinB ms ps) w) := by
  obtain ⟨A, c, rfl, hc, hm⟩ := h.slice
  obtain ⟨A', c', rfl, hc', hm'⟩ := k.slice
  rcases hw : withinB ms ps with _ | _
  · rw [show reachR e ps ms = [] by unfold reachR; rw [hw]; rfl]
    go_enter Try.func15, Try.ntmps15
    go_wp2_with fail
    refine (gives_is hw (specWithin_any ms ps _ _ _ k h)).mono ?_
    rintro e' w1 ⟨rfl, b1⟩
    go_wp2
    go_ret2
    exact ⟨_, rfl, Owns.empty _ _ b1.size, b1.alloc b1.size _⟩
  · rw [show reachR e ps ms = reachL e ps ms by unfold reachR; rw [hw]; rfl]
    have hwi := within_parts hw
    have hpp := picB_pic hwi.2.1
    have HN := Lib.hid (nearS_pic hwi.2.1)
    have HS := Lib.hid hwi.2.2
    have hpl := hpp.1
    have hps := hpp.2.2
    clear hwi hpp
    go_enter Try.func15, Try.ntmps15
    go_wp2_with fail
    refine (gives_is hw (specWithin_any ms ps _ _ _ k h)).mono ?_
    rintro e' w1 ⟨rfl, b1⟩
    clear hw
    go_wp2_with fail
    refine (l7Reach_any e ps ms _ _ w1 (h.kept b1) (k.kept b1) hps (by omega) HN.out HS.out).mono ?_
    rintro e' w2 ⟨v2, rfl, o2, b2⟩
    go_wp2
    go_ret2
    exact ⟨_, rfl, o2.base b1.size, below_step b1 b2⟩
end
end Go.Proofs.Ytmpfhdcefilekaa
