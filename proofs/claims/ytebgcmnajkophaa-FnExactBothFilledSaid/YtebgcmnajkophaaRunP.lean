/-
  Plain facts on runs of rows: for each row of a list in order the run from its first spot to its last one; all their spots are the rows filled. No program is named. No conditions but those that stand in each theorem.
-/
import Derived.Test.YtebgcmnajkophaaRowsP
namespace Go.Proofs.Ytebgcmnajkophaa

/-- a run: its row and where it begins, and where it ends -/
abbrev Rn := Sp × Int
def runCells (r : Rn) : List Sp := betw (fun _ => true) (r.1.2, r.1.1) (r.2, r.1.1)
def runsCells (l : List Rn) : List Sp := l.flatMap runCells
theorem runsCells_snoc (l : List Rn) (r : Rn) : runsCells (l ++ [r]) = runsCells l ++ runCells r := by
  unfold runsCells
  rw [List.flatMap_append]; simp
theorem mem_runCells {r : Rn} {x : Sp} : x ∈ runCells r ↔ r.1.2 ≤ x.1 ∧ x.1 ≤ r.2 ∧ x.2 = r.1.1 := by
  unfold runCells
  rw [mem_betw]
  constructor
  · rintro ⟨h1, h2, h3, h4, _⟩
    simp only at h3 h4
    exact ⟨h1, h2, by omega⟩
  · rintro ⟨h1, h2, h3⟩
    exact ⟨h1, h2, by simp only []; omega, by simp only []; omega, rfl⟩
theorem runCells_at (y f t : Int) : runCells ((y, f), t) = betw (fun _ => true) (f, y) (t, y) := rfl
/-- behind a spot more: its row's run goes on, or a new one begins -/
def runStep (l : List Rn) (a : Sp) : List Rn :=
  if 0 < l.length ∧ (l.getD (l.length - 1) ((0, 0), 0)).1.1 = a.2 then l.set (l.length - 1) ((a.2, (l.getD (l.length - 1) ((0, 0), 0)).1.2), a.1) else l ++ [((a.2, a.1), a.1)]
theorem runStep_nil (a : Sp) : runStep [] a = [((a.2, a.1), a.1)] := rfl
theorem snoc_last {l : List Rn} (h : 0 < l.length) : ∃ init y f t, l = init ++ [((y, f), t)] :=
  ⟨l.dropLast, (l.getLast (List.ne_nil_of_length_pos h)).1.1, (l.getLast (List.ne_nil_of_length_pos h)).1.2, (l.getLast (List.ne_nil_of_length_pos h)).2, (List.dropLast_concat_getLast (List.ne_nil_of_length_pos h)).symm⟩
theorem getD_last (init : List Rn) (r : Rn) : (init ++ [r]).getD ((init ++ [r]).length - 1) ((0, 0), 0) = r := by
  rw [List.length_append, List.length_singleton, Nat.add_sub_cancel, List.getD_eq_getElem?_getD, List.getElem?_append_right (Nat.le_refl _), Nat.sub_self]
  rfl
theorem set_last (init : List Rn) (r s : Rn) : (init ++ [r]).set ((init ++ [r]).length - 1) s = init ++ [s] := by
  rw [List.length_append, List.length_singleton, Nat.add_sub_cancel, List.set_append_right _ _ (Nat.le_refl _), Nat.sub_self]
  rfl
theorem runStep_same (init : List Rn) (y f t x : Int) : runStep (init ++ [((y, f), t)]) (x, y) = init ++ [((y, f), x)] := by
  unfold runStep
  rw [getD_last, if_pos ⟨by rw [List.length_append, List.length_singleton]; omega, rfl⟩, set_last]
theorem runStep_new (init : List Rn) {y f t x y' : Int} (h : y ≠ y') : runStep (init ++ [((y, f), t)]) (x, y') = init ++ [((y, f), t)] ++ [((y', x), x)] := by
  unfold runStep
  rw [getD_last, if_neg fun e => h e.2]
def runsUpto (p : List Sp) (k : Nat) : List Rn := (p.take k).foldl runStep []
theorem runsUpto_zero (p : List Sp) : runsUpto p 0 = [] := rfl
theorem runsUpto_succ {p : List Sp} {k : Nat} {a : Sp} (h : p[k]? = some a) : runsUpto p (k + 1) = runStep (runsUpto p k) a := by
  unfold runsUpto
  rw [List.take_add_one, h, List.foldl_append]; rfl
def runsL (p : List Sp) : List Rn := runsUpto p p.length
/-- what is known of the runs of the first spots -/
structure RunI (p : List Sp) (k : Nat) (l : List Rn) : Prop where
  all : ∀ r ∈ l, -30 ≤ r.1.1 ∧ r.1.1 ≤ 30 ∧ -30 ≤ r.1.2 ∧ r.1.2 ≤ 30 ∧ -30 ≤ r.2 ∧ r.2 ≤ 30
  len : l.length ≤ k
  flat : runsCells l = rowsUpto p k
  last : 0 < k → ∃ init y f t, l = init ++ [((y, f), t)] ∧ (p.getD (k - 1) (0, 0)).2 = y ∧ (p.getD (k - 1) (0, 0)).1 = t ∧ f ≤ t
  zero : k = 0 → l = []
theorem sorted_runCells (r : Rn) : Sorted (runCells r) := sorted_betw _ _ _
theorem seg_new {p : List Sp} {k : Nat} {x y : Int} (h : p.getD k (0, 0) = (x, y)) (hn : ¬ (0 < k ∧ (p.getD (k - 1) (0, 0)).2 = y)) : segAt p k = runCells ((y, x), x) := by
  refine sorted_ext (sorted_rowB _ _ _ _) (sorted_runCells _) fun z => ?_
  rw [mem_segAt, mem_runCells, h]
  have : fromAt p k (x, y) = x := by unfold fromAt; rw [if_neg hn]
  rw [this]
  simp only []
  constructor
  · rintro ⟨a, b, c⟩; exact ⟨b, c, a⟩
  · rintro ⟨a, b, c⟩; exact ⟨c, a, b⟩
theorem seg_same {p : List Sp} {k : Nat} {x y f t : Int} (h : p.getD k (0, 0) = (x, y)) (h0 : 0 < k) (hy : (p.getD (k - 1) (0, 0)).2 = y) (ht : (p.getD (k - 1) (0, 0)).1 = t) (hf : f ≤ t) (hx : t < x) : runCells ((y, f), t) ++ segAt p k = runCells ((y, f), x) := by
  have e : fromAt p k (x, y) = t + 1 := by unfold fromAt; rw [if_pos ⟨h0, hy⟩, ht]
  refine sorted_ext (sorted_append (sorted_runCells _) (sorted_rowB _ _ _ _) fun a ha b hb => ?_) (sorted_runCells _) fun z => ?_
  · have h1 := mem_runCells.1 ha
    have h2 : b ∈ segAt p k := hb
    rw [mem_segAt, h, e] at h2
    simp only at h1 h2
    unfold Lt; omega
  · rw [List.mem_append, mem_runCells, mem_runCells, mem_segAt, h, e]
    simp only []
    constructor
    · rintro (h | h) <;> exact ⟨by omega, by omega, by omega⟩
    · rintro ⟨h1, h2, h3⟩
      by_cases h4 : z.1 ≤ t
      · exact .inl ⟨h1, h4, h3⟩
      · exact .inr ⟨h3, by omega, h2⟩
theorem run_ok {p : List Sp} (hp : picB p = true) : ∀ k, k ≤ p.length → RunI p k (runsUpto p k)
  | 0, _ => ⟨fun r h => (by cases h), Nat.le_refl _, rfl, fun h => by omega, fun _ => rfl⟩
  | k + 1, hk => by
    have I := run_ok hp k (by omega)
    obtain ⟨⟨x, y⟩, hxy⟩ : ∃ a, p[k]? = some a := ⟨_, List.getElem?_eq_getElem (by omega)⟩
    rw [runsUpto_succ hxy]
    have hin := (picB_pic hp).2.1 _ (List.mem_of_getElem? hxy)
    unfold InR at hin
    simp only at hin
    have hD : p.getD k (0, 0) = (x, y) := by rw [List.getD_eq_getElem?_getD, hxy]; rfl
    have hlen := I.len
    by_cases h0 : k = 0
    · subst h0
      rw [I.zero rfl, runStep_nil]
      refine ⟨fun r hr => ?_, by simp, ?_, fun _ => ⟨[], y, x, x, rfl, by rw [Nat.zero_add, Nat.sub_self, hD], by rw [Nat.zero_add, Nat.sub_self, hD], Int.le_refl _⟩, fun h => by omega⟩
      · rw [List.mem_singleton] at hr; subst hr; exact ⟨hin.2.2.1, hin.2.2.2, hin.1, hin.2.1, hin.1, hin.2.1⟩
      · rw [rowsUpto_succ, seg_new hD (fun h => by omega)]
        show runsCells ([] ++ [_]) = _
        rw [runsCells_snoc]; rfl
    · obtain ⟨init, y', f, t, hl, hy, ht, hft⟩ := I.last (by omega)
      have hall := I.all
      have hflat := I.flat
      rw [hl] at hall hflat hlen
      rw [hl]
      rw [List.length_append, List.length_singleton] at hlen
      have hlast := hall ((y', f), t) (List.mem_append_right _ (List.mem_singleton.2 rfl))
      simp only at hlast
      by_cases e : y' = y
      · subst e
        have hlt := step_lt (picB_pic hp).2.2 (i := k - 1) (j := k) (by omega) (by omega)
        rw [hD] at hlt
        unfold Lt at hlt
        simp only at hlt
        rw [hy, ht] at hlt
        rw [runStep_same]
        refine ⟨fun r hr => ?_, by rw [List.length_append, List.length_singleton]; omega, ?_, fun _ => ⟨init, y', f, x, rfl, by rw [Nat.add_sub_cancel, hD], by rw [Nat.add_sub_cancel, hD], by omega⟩, fun h => by omega⟩
        · rcases List.mem_append.1 hr with hr | hr
          · exact hall r (List.mem_append_left _ hr)
          · rw [List.mem_singleton] at hr; subst hr; exact ⟨hlast.1, hlast.2.1, hlast.2.2.1, hlast.2.2.2.1, hin.1, hin.2.1⟩
        · rw [runsCells_snoc] at hflat ⊢
          rw [rowsUpto_succ, ← hflat, List.append_assoc, seg_same hD (by omega) hy ht hft (by omega)]
      · rw [runStep_new init e]
        refine ⟨fun r hr => ?_, by rw [List.length_append, List.length_append, List.length_singleton, List.length_singleton]; omega, ?_, fun _ => ⟨_, y, x, x, rfl, by rw [Nat.add_sub_cancel, hD], by rw [Nat.add_sub_cancel, hD], Int.le_refl _⟩, fun h => by omega⟩
        · rcases List.mem_append.1 hr with hr | hr
          · exact hall r hr
          · rw [List.mem_singleton] at hr; subst hr; exact ⟨hin.2.2.1, hin.2.2.2, hin.1, hin.2.1, hin.1, hin.2.1⟩
        · rw [runsCells_snoc, hflat, rowsUpto_succ, seg_new hD (fun h => e (by rw [← hy]; exact h.2))]
theorem runs_cells {p : List Sp} (hp : picB p = true) : runsCells (runsL p) = rowsL p := (run_ok hp _ (Nat.le_refl _)).flat
theorem runs_len {p : List Sp} (hp : picB p = true) : (runsL p).length ≤ 60 := Nat.le_trans (run_ok hp _ (Nat.le_refl _)).len (picB_pic hp).1
theorem runs_all {p : List Sp} (hp : picB p = true) : ∀ r ∈ runsL p, -30 ≤ r.1.1 ∧ r.1.1 ≤ 30 ∧ -30 ≤ r.1.2 ∧ r.1.2 ≤ 30 ∧ -30 ≤ r.2 ∧ r.2 ≤ 30 := (run_ok hp _ (Nat.le_refl _)).all
theorem runCells_len {r : Rn} (h : -30 ≤ r.1.1 ∧ r.1.1 ≤ 30 ∧ -30 ≤ r.1.2 ∧ r.1.2 ≤ 30 ∧ -30 ≤ r.2 ∧ r.2 ≤ 30) : (runCells r).length ≤ 61 := by
  unfold runCells betw
  refine Nat.le_trans (length_rowsB _ _ _ _ _) ?_
  have h1 : span r.1.1 r.1.1 = 1 := by unfold span; omega
  have h2 : span r.1.2 r.2 ≤ 61 := by unfold span; omega
  simp only []
  rw [h1]; omega
theorem runsCells_succ {l : List Rn} {k : Nat} {r : Rn} (h : l[k]? = some r) : runsCells (l.take (k + 1)) = runsCells (l.take k) ++ runCells r := by
  rw [List.take_add_one, h]; exact runsCells_snoc _ _
theorem runsCells_len {l : List Rn} (h : ∀ r ∈ l, -30 ≤ r.1.1 ∧ r.1.1 ≤ 30 ∧ -30 ≤ r.1.2 ∧ r.1.2 ≤ 30 ∧ -30 ≤ r.2 ∧ r.2 ≤ 30) : ∀ k, (runsCells (l.take k)).length ≤ 61 * k
  | 0 => Nat.zero_le _
  | k + 1 => by
    have ih := runsCells_len h k
    by_cases hk : k < l.length
    · obtain ⟨r, hr⟩ : ∃ a, l[k]? = some a := ⟨_, List.getElem?_eq_getElem hk⟩
      rw [runsCells_succ hr, List.length_append]
      have := runCells_len (h r (List.mem_of_getElem? hr))
      omega
    · rw [List.take_of_length_le (by omega)] at ih ⊢
      omega
end Go.Proofs.Ytebgcmnajkophaa
