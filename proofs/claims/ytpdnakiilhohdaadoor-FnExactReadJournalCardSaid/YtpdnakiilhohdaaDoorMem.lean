/-
  Laws for slices of spots: append onto a slice of the call's own, make, storing one spot, cutting; each keeps 'Owns' or 'Reads'. No conditions but those typed (lengths within Go's own reach).
-/
import Derived.Test.YtpdnakiilhohdaaDoorBase
import Derived.Maps.AppendAt
import Derived.Laws.AppendOwnNone
namespace Go.Proofs.YtpdnakiilhohdaaDoor
open Go.RowKit Go.Sort

theorem spotInfo : (Tryd.prog.info? 58).map (fun i => (i.zero, i.size, i.bytes)) = some (some (.agg #[.int .i64 0, .int .i64 0]), 2, 16) := by kernel_rfl

theorem Reads.slice {w : World} {B : Nat} {v : Value} {ps : List Sp} (h : Reads w B v ps) : ∃ A c, v = .slice A ps.length c ∧ ps.length ≤ c ∧ c ≤ maxLen := by
  obtain ⟨A, c, h1, h2, h3, _⟩ := h.is
  exact ⟨A, c, h1, h2, h3⟩
theorem Reads.nil (w : World) (B : Nat) : Reads w B (.slice none 0 0) [] := ⟨none, 0, rfl, by simp, by simp [maxLen], fun _ => rfl, fun h => by omega⟩

/-- all cells of a slice, as the laws on append ask -/
theorem Reads.cells {w : World} {B : Nat} {v : Value} {ps : List Sp} (h : Reads w B v ps) : (v = .slice none 0 0 ∧ ps = []) ∨
    ∃ ad c, v = .slice (some ad) ps.length c ∧ ∀ j u, (flat ps)[j]? = some u → w.cell? (ad.add j) = some u := by
  obtain ⟨A, c, rfl, h2, h3, h4, h5⟩ := h.is
  cases A with
  | none =>
    have hc := h4 rfl
    subst hc
    have hl : ps.length = 0 := by omega
    exact .inl ⟨by rw [hl], List.eq_nil_of_length_eq_zero hl⟩
  | some ad =>
    refine .inr ⟨ad, c, rfl, fun j u hj => ?_⟩
    have hjl : j < ps.length * 2 := by rw [← flat_length]; exact (List.getElem?_eq_some_iff.1 hj).1
    obtain ⟨b, off, hA, _, hcell⟩ := h5 (by omega)
    cases hA
    obtain ⟨⟨x, y⟩, hxy⟩ : ∃ a, ps[j / 2]? = some a := ⟨_, List.getElem?_eq_getElem (by omega)⟩
    obtain ⟨c0, c1⟩ := hcell _ x y hxy
    rw [Addr.add_lit]
    rcases Nat.mod_two_eq_zero_or_one j with hm | hm
    · have e : j = j / 2 * 2 := by omega
      rw [e, flat_at0 hxy] at hj
      cases hj
      rw [e]; exact c0
    · have e : j = j / 2 * 2 + 1 := by omega
      rw [e, flat_at1 hxy] at hj
      cases hj
      rw [e, ← Nat.add_assoc]; exact c1

theorem run_append_spots {w : World} {base B : Nat} {v x : Value} {ps qs : List Sp} (ty : TypeId) (hown : Owns w base v ps) (hx : Reads w B x qs) (hl : ps.length + qs.length ≤ 8000000000000) (hbase : base ≤ w.heap.size) :
    ∃ v' w', (Builtin.append_ #[51, 51] ty #[v, x]).run Tryd.prog w = .ok v' w' ∧ Owns w' base v' (ps ++ qs) ∧ w.grownBy w' v.ownBlock ∧ (v'.ownBlock = v.ownBlock ∨ v'.ownBlock = some w.heap.size) := by
  obtain ⟨i0, hi, hz0, hz1, hz2⟩ := info_parts spotInfo
  rcases hx.cells with ⟨rfl, rfl⟩ | ⟨ad, c, rfl, hc⟩
  · refine ⟨v, w, run_append_owned_none w base 51 ty 58 i0 2 Tryd.underlying51 hi v _ _ hown, ?_, World.grownBy.refl w _, .inl rfl⟩
    rw [List.append_nil]; exact hown
  · obtain ⟨v', w', h1, h2, h3, _, h5⟩ := run_append_own_at (P := Tryd.prog) w base 51 ty 58 i0 _ 2 16 Tryd.underlying51 hi hz0 hz1 hz2 rfl (by decide) v _ _ hown ad qs.length c (flat qs) (flat_length qs) hc (flat_one qs) (by simp only [maxLen]; omega) (by omega) hbase
    refine ⟨v', w', h1, ?_, h3, h5⟩
    unfold Owns
    rw [List.length_append, flat_append]
    exact h2

theorem wpList_append_spots {w : World} {ops : Array Oper} {rest : List Oper} {o : Oper} {a : Act} {Q : Exit → Act → World → Prop} {base B : Nat} {ps qs : List Sp} {v x : Value}
    (hown : Owns w base v ps) (hx : Reads w B x qs) (hl : ps.length + qs.length ≤ 8000000000000) (hbase : base ≤ w.heap.size)
    (hgd : o.guard = none) (s t : Operand) (ho : o.op = .call { callee := .builtin .append, args := #[s, t], argTypes := #[51, 51] })
    (hs : a.eval s = v) (ht : a.eval t = x)
    (h : ∀ v' w', Owns w' base v' (ps ++ qs) → w.grownBy w' v.ownBlock → (v'.ownBlock = v.ownBlock ∨ v'.ownBlock = some w.heap.size) → wpList Tryd.prog ops Q rest (a.put o.dst v') w') : wpList Tryd.prog ops Q (o :: rest) a w := by
  refine wpList_plain hgd fun K hK => ?_
  obtain ⟨v', w', hrun, h2, h3, h4⟩ := run_append_spots o.type hown hx hl hbase
  unfold Oper.wp execOp
  simp only [ho, resolve, invoke, builtin, Sem.run_bind, Sem.run_pure, Result.andThen_ok, List.map_toArray, List.map_cons, List.map_nil, hs, ht, hrun]
  exact hK _ _ (h v' w' h2 h3 h4)

theorem step_append_spots {w : World} {ops : Array Oper} {o : Oper} {a : Act} {K : Act → World → Prop} {Q : Exit → Act → World → Prop} {E : Prop} {base B : Nat} {ps qs : List Sp} {v x : Value}
    (hown : Owns w base v ps) (hx : Reads w B x qs) (hl : ps.length + qs.length ≤ 8000000000000) (hbase : base ≤ w.heap.size)
    (hgd : o.guard = none) (s t : Operand) (ho : o.op = .call { callee := .builtin .append, args := #[s, t], argTypes := #[51, 51] })
    (hs : a.eval s = v) (ht : a.eval t = x)
    (h : ∀ v' w', Owns w' base v' (ps ++ qs) → w.grownBy w' v.ownBlock → (v'.ownBlock = v.ownBlock ∨ v'.ownBlock = some w.heap.size) → K (a.put o.dst v') w') :
    if Region.wanted o (yielded ops a.tmps) = true then Oper.wp Tryd.prog o a w K Q else E := by
  have hw : Region.wanted o (yielded ops a.tmps) = true := by simp [Region.wanted, hgd]
  rw [if_pos hw]
  obtain ⟨v', w', hrun, h2, h3, h4⟩ := run_append_spots o.type hown hx hl hbase
  unfold Oper.wp execOp
  simp only [ho, resolve, invoke, builtin, Sem.run_bind, Sem.run_pure, Result.andThen_ok, List.map_toArray, List.map_cons, List.map_nil, hs, ht, hrun]
  exact h v' w' h2 h3 h4

/-- the block that 'append' made for its one new element -/
theorem Reads.one {w : World} {g : Nat} {x y : Int} (h0 : w.cell? ⟨g, 0, none⟩ = some (.int .i64 x)) (h1 : w.cell? ⟨g, 1, none⟩ = some (.int .i64 y)) : Reads w w.heap.size (.slice (some ⟨g, 0, none⟩) 1 1) [(x, y)] :=
  ⟨_, 1, rfl, by simp, by simp [maxLen], fun h => (by cases h), fun _ => ⟨g, 0, rfl, World.block_lt_of_cell? w _ h0, fun k u v hk => by
    match k, hk with
    | 0, hk => cases hk; exact ⟨h0, h1⟩⟩⟩

theorem Owns.empty (w : World) (base : Nat) (hb : base ≤ w.heap.size) : Owns (w.alloc (.cells #[] 58)) base (.slice (some ⟨w.heap.size, 0, none⟩) 0 0) [] :=
  World.ownsRow_lit w #[] 0 hb (by simp [maxLen]) rfl
theorem Owns.nil (w : World) (base : Nat) : Owns w base (.slice none 0 0) [] := World.ownsRow_nil w base _ _
theorem Owns.grown {w w' : World} {base : Nat} {v : Value} {ps : List Sp} {row : Option Nat} (h : Owns w base v ps) (hg : w.grownBy w' row) (hne : v.ownBlock = none ∨ v.ownBlock ≠ row) : Owns w' base v ps := World.ownsRow.kept h hg hne
theorem Reads.grown {w w' : World} {B : Nat} {v : Value} {ps : List Sp} {row : Option Nat} (h : Reads w B v ps) (hg : w.grownBy w' row) (hB : B ≤ w.heap.size) (hne : ∀ k, row = some k → B ≤ k) : Reads w' B v ps :=
  h.below ((Below.refl _ _).grown hg hB hne)

/-- behind an append onto a slice of the call's own, all below its base is as it was -/
theorem Owns.below_app {a w w' : World} {base : Nat} {v : Value} {ps : List Sp} (h : Owns w base v ps) (hb : Below base a w) (hB : base ≤ w.heap.size) (hg : w.grownBy w' v.ownBlock) : Below base a w' :=
  hb.grown hg hB fun k hk => (h.lt k hk).1

/-- one spot stored into a slice of the call's own -/
theorem Owns.set {w : World} {base g n cap : Nat} {ps : List Sp} (h : Owns w base (.slice (some ⟨g, 0, none⟩) n cap) ps) (k : Nat) (x y : Int) (hk : k < ps.length) :
    Owns ((w.setCell ⟨g, k * 2, none⟩ (.int .i64 x)).setCell ⟨g, k * 2 + 1, none⟩ (.int .i64 y)) base (.slice (some ⟨g, 0, none⟩) n cap) (ps.set k (x, y)) := by
  have hn : n = ps.length := by
    obtain ⟨A, c, h1, _⟩ := h.reads.is
    cases h1; rfl
  subst hn
  have h1 := (World.ownsRow.stored h (k * 2) (.int .i64 x)).1
  have h2 := (World.ownsRow.stored h1 (k * 2 + 1) (.int .i64 y)).1
  have e : ((flat ps).set (k * 2) (.int .i64 x)).set (k * 2 + 1) (.int .i64 y) = flat (ps.set k (x, y)) := by
    clear h h1 h2
    induction ps generalizing k with
    | nil => simp at hk
    | cons a ps ih =>
      cases k with
      | zero => simp [flat_cons]
      | succ k =>
        have e1 : (k + 1) * 2 = k * 2 + 1 + 1 := by omega
        rw [e1]
        simp only [flat_cons, List.set_cons_succ]
        rw [ih k (by simpa using hk)]
  unfold Owns
  rw [List.length_set, ← e]
  exact h2

theorem Owns.len {w : World} {base g n cap : Nat} {ps : List Sp} (h : Owns w base (.slice (some ⟨g, 0, none⟩) n cap) ps) : n = ps.length := by
  obtain ⟨A, c, h1, _⟩ := h.reads.is
  cases h1; rfl
theorem Owns.free {w : World} {base g n cap : Nat} {ps : List Sp} (h : Owns w base (.slice (some ⟨g, 0, none⟩) n cap) ps) (j : Nat) : w.frozen? ⟨g, j, none⟩ = false := by
  have hn := h.len
  subst hn
  exact World.ownsRow.frozenAt h j
theorem Owns.there {w : World} {base g n cap : Nat} {ps : List Sp} (h : Owns w base (.slice (some ⟨g, 0, none⟩) n cap) ps) {k : Nat} (hk : k < ps.length) : ∃ x y, ps[k]? = some (x, y) ∧ w.cell? ⟨g, k * 2, none⟩ = some (.int .i64 x) ∧ w.cell? ⟨g, k * 2 + 1, none⟩ = some (.int .i64 y) := by
  have hn := h.len
  subst hn
  obtain ⟨⟨x, y⟩, hxy⟩ : ∃ a, ps[k]? = some a := ⟨_, List.getElem?_eq_getElem hk⟩
  refine ⟨x, y, hxy, ?_, ?_⟩
  · rw [World.ownsRow.cellAt h _ (by omega), flat_at0 hxy]
  · rw [World.ownsRow.cellAt h _ (by omega), flat_at1 hxy]
theorem Owns.lo {w : World} {base g n cap : Nat} {ps : List Sp} (h : Owns w base (.slice (some ⟨g, 0, none⟩) n cap) ps) : base ≤ g ∧ g < w.heap.size := h.lt g rfl

theorem Owns.parts {w : World} {base : Nat} {v : Value} {ps : List Sp} (h : Owns w base v ps) : (v = .slice none 0 0 ∧ ps = []) ∨
    ∃ b off c, v = .slice (some ⟨b, off, none⟩) ps.length c ∧ ps.length ≤ c ∧ c ≤ maxLen ∧ b < w.heap.size ∧ ∀ k x y, ps[k]? = some (x, y) → w.cell? ⟨b, off + k * 2, none⟩ = some (.int .i64 x) ∧ w.cell? ⟨b, off + k * 2 + 1, none⟩ = some (.int .i64 y) := by
  have h' := h
  rcases h.2 with ⟨rfl, h0⟩ | ⟨g, cap, cur, rfl, _, hg, hn, hc, hs, ht⟩
  · exact .inl ⟨rfl, List.eq_nil_of_length_eq_zero h0⟩
  · refine .inr ⟨g, 0, cap, rfl, hn, hc, h'.lo.2, fun k x y hk => ?_⟩
    obtain ⟨x', y', h1, h2, h3⟩ := h'.there (List.getElem?_eq_some_iff.1 hk).1
    rw [hk] at h1
    cases h1
    exact ⟨by rw [Nat.zero_add]; exact h2, by rw [Nat.zero_add]; exact h3⟩

theorem flat_replicate (n : Nat) : (madeCells #[Value.int .i64 0, .int .i64 0] (n * 2)).toList = flat (List.replicate n (0, 0)) := by
  apply List.ext_getElem?
  intro j
  by_cases hj : j < n * 2
  · obtain ⟨⟨x, y⟩, hxy⟩ : ∃ a, (List.replicate n ((0 : Int), (0 : Int)))[j / 2]? = some a := ⟨_, List.getElem?_eq_getElem (by simp; omega)⟩
    have h0 : (x, y) = ((0 : Int), (0 : Int)) := by
      have := List.mem_of_getElem? hxy
      exact (List.mem_replicate.1 this).2
    cases h0
    have hz : ∀ i : Nat, (#[Value.int .i64 0, .int .i64 0] : Array Value)[i % 2]! = .int .i64 0 := by
      intro i
      rcases Nat.mod_two_eq_zero_or_one i with h | h <;> rw [h] <;> rfl
    rcases Nat.mod_two_eq_zero_or_one j with hm | hm
    · have e : j = j / 2 * 2 := by omega
      rw [e, flat_at0 hxy]
      rw [← e]; simp [madeCells, hz, hj]
    · have e : j = j / 2 * 2 + 1 := by omega
      rw [e, flat_at1 hxy]
      rw [← e]; simp [madeCells, hz, hj]
  · rw [List.getElem?_eq_none (by simp [madeCells]; omega), List.getElem?_eq_none (by rw [flat_length]; simp; omega)]

/-- 'make([]Spot, n)' -/
theorem wpList_make_spots {w : World} {ops : Array Oper} {rest : List Oper} {o : Oper} {a : Act} {Q : Exit → Act → World → Prop}
    (n : Nat) (hn : n ≤ 8000000000000) (hg : o.guard = none) (l c : Operand) (hop : o.op = Op.makeSlice 51 l c) (L C : Int) (hl : a.eval l = .int .i64 L) (hc : a.eval c = .int .i64 C) (hL : L = (n : Int)) (hC : C = (n : Int))
    (hK : ∀ w', Owns w' w.heap.size (.slice (some ⟨w.heap.size, 0, none⟩) n n) (List.replicate n (0, 0)) → w.grownBy w' none → wpList Tryd.prog ops Q rest (a.put o.dst (.slice (some ⟨w.heap.size, 0, none⟩) n n)) w') :
    wpList Tryd.prog ops Q (o :: rest) a w := by
  obtain ⟨i0, hi, hz0, hz1, hz2⟩ := info_parts spotInfo
  refine wpList_make_full (P := Tryd.prog) w hg l c _ hop w.heap.size 58 i0 _ 2 Tryd.underlying51 hi hz0 hz1 .i64 .i64 L C n hl hc hL hC (by rw [hz2]; omega) (by simp only [maxLen]; omega) (Nat.le_refl _) fun w' h1 h2 => hK w' ?_ h2
  unfold Owns
  rw [List.length_replicate, ← flat_replicate]
  exact h1

/-- 'p[:k]' -/
theorem Reads.take {w : World} {B n c k : Nat} {A : Option Addr} {ps : List Sp} (h : Reads w B (.slice A n c) ps) (hk : k ≤ ps.length) : Reads w B (.slice A k c) (ps.take k) := by
  obtain ⟨A', c', h1, h2, h3, h4, h5⟩ := h.is
  cases h1
  refine ⟨A, c, by rw [List.length_take, Nat.min_eq_left hk], by rw [List.length_take]; omega, h3, h4, fun hc => ?_⟩
  obtain ⟨b, off, h6, h7, h8⟩ := h5 hc
  refine ⟨b, off, h6, h7, fun j x y hj => h8 j x y ?_⟩
  rw [List.getElem?_take] at hj
  split at hj
  · exact hj
  · cases hj

/-- 'p[k:]' -/
theorem Reads.drop {w : World} {B n c k b off : Nat} {ps : List Sp} (h : Reads w B (.slice (some ⟨b, off, none⟩) n c) ps) (hk : k ≤ ps.length) (A' : Option Addr) (hA : ¬ c = k → A' = some ⟨b, off + k * 2, none⟩) : Reads w B (.slice A' (n - k) (c - k)) (ps.drop k) := by
  obtain ⟨A, c', h1, h2, h3, h4, h5⟩ := h.is
  cases h1
  refine ⟨A', c - k, by rw [List.length_drop], by rw [List.length_drop]; omega, by omega, fun e => ?_, fun hc => ?_⟩
  · by_cases hck : c = k
    · omega
    · rw [hA hck] at e; cases e
  · obtain ⟨b', off', h6, h7, h8⟩ := h5 (by omega)
    cases h6
    refine ⟨b, off + k * 2, hA (by omega), h7, fun j x y hj => ?_⟩
    rw [List.getElem?_drop] at hj
    have := h8 (k + j) x y hj
    rwa [show off + (k + j) * 2 = off + k * 2 + j * 2 by omega] at this
end Go.Proofs.YtpdnakiilhohdaaDoor
