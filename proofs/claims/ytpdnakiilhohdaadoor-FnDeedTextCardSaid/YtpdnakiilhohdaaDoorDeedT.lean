/- Texts of deeds and of journals, plainly: words and numbers, what is read, journals cut anywhere. No program is named. No conditions but those that stand in each theorem. -/
import Derived.Test.YtpdnakiilhohdaaDoorTextP
namespace Go.Proofs.YtpdnakiilhohdaaDoor

/-- the words of deeds, by kind -/
def wordsD : List Bs := [[112, 117, 116], [116, 97, 107, 101], [109, 111, 118, 101], [116, 117, 114, 110], [103, 114, 111, 119], [115, 104, 114, 105, 110, 107], [115, 105, 101, 118, 101], [102, 105, 108, 108], [98, 97, 99, 107]]
def wordD (k : Nat) : Bs := wordsD.getD k []
/-- how many numbers are named behind it -/
def numsD (k : Nat) : Nat := [2, 2, 2, 0, 1, 1, 1, 0, 0].getD k 0
/-- a word and numbers, with one space ahead of each -/
def lineT (w : Bs) (l : List Int) : Bs := joinB 32 (w :: l.map numB)
def in99 (x : Int) : Bool := decide (-99 ≤ x ∧ x ≤ 99)
/-- a deed that has a word, and whose other numbers are 0 -/
def namedA (a : Sp × Int) : Bool := decide (0 ≤ a.1.1 ∧ a.1.1 ≤ 8) && (([a.1.2, a.2] : List Int).drop (numsD a.1.1.toNat)).all fun n => decide (n = 0)
def deedOk (a : Sp × Int) : Bool := namedA a && (in99 a.1.2 && in99 a.2)
def deedT (a : Sp × Int) : Bs := if deedOk a then lineT (wordD a.1.1.toNat) (([a.1.2, a.2] : List Int).take (numsD a.1.1.toNat)) else []

theorem lineT_nil (w : Bs) : lineT w [] = w := rfl
theorem lineT_one (w : Bs) (x : Int) : lineT w [x] = w ++ 32 :: numB x := rfl
theorem lineT_two (w : Bs) (x y : Int) : lineT w [x, y] = w ++ 32 :: (numB x ++ 32 :: numB y) := rfl
theorem lineT_snoc (w : Bs) (l : List Int) (n : Int) : lineT w (l ++ [n]) = lineT w l ++ 32 :: numB n := by
  unfold lineT
  rw [List.map_append, List.map_singleton, ← List.cons_append, joinB_snoc 32 _ (by simp)]
theorem num_space (n : Int) : (32 : UInt8) ∉ numB n := no_byte (by decide) (by decide)
theorem cut_line {w : Bs} (l : List Int) (h : (32 : UInt8) ∉ w) : cutB 32 (lineT w l) = w :: l.map numB :=
  cutB_joinB (by simp) fun m hm => by
    rcases List.mem_cons.1 hm with rfl | hm
    · exact h
    · obtain ⟨n, _, rfl⟩ := List.mem_map.1 hm
      exact num_space n
theorem word_space : ∀ k : Nat, (32 : UInt8) ∉ wordD k := fun k => by
  by_cases h : k < 9
  · have : ∀ j : Fin 9, (32 : UInt8) ∉ wordD j := by decide
    exact this ⟨k, h⟩
  · unfold wordD
    rw [List.getD_eq_getElem?_getD, List.getElem?_eq_none (by simp only [wordsD, List.length_cons, List.length_nil]; omega)]
    exact List.not_mem_nil
theorem word_inj {j k : Nat} (hj : j < 9) (hk : k < 9) (h : wordD j = wordD k) : j = k := by
  have : ∀ a b : Fin 9, wordD a = wordD b → a = b := by decide
  have := this ⟨j, hj⟩ ⟨k, hk⟩ h
  exact Fin.mk.inj this
theorem word_ne {k : Nat} (h : k < 9) : wordD k ≠ [] := by
  have : ∀ j : Fin 9, wordD j ≠ [] := by decide
  exact this ⟨k, h⟩
theorem map_numB_inj : ∀ {l m : List Int}, (∀ x ∈ l, in99 x = true) → (∀ x ∈ m, in99 x = true) → l.map numB = m.map numB → l = m
  | [], [], _, _, _ => rfl
  | [], _ :: _, _, _, h => by cases h
  | _ :: _, [], _, _, h => by cases h
  | a :: l, b :: m, ha, hb, h => by
    rw [List.map_cons, List.map_cons] at h
    injection h with h1 h2
    have ka := of_decide_eq_true (ha a (by simp))
    have kb := of_decide_eq_true (hb b (by simp))
    rw [numB_inj (by omega) (by omega) h1, map_numB_inj (fun x hx => ha x (List.mem_cons_of_mem _ hx)) (fun x hx => hb x (List.mem_cons_of_mem _ hx)) h2]
structure DeedIs (a : Sp × Int) : Prop where
  kind : 0 ≤ a.1.1 ∧ a.1.1 ≤ 8
  rest : ∀ n ∈ ([a.1.2, a.2] : List Int).drop (numsD a.1.1.toNat), n = 0
  x : -99 ≤ a.1.2 ∧ a.1.2 ≤ 99
  y : -99 ≤ a.2 ∧ a.2 ≤ 99
theorem deed_is {a : Sp × Int} (h : deedOk a = true) : DeedIs a := by
  unfold deedOk namedA in99 at h
  rw [Bool.and_eq_true, Bool.and_eq_true, Bool.and_eq_true, decide_eq_true_eq, decide_eq_true_eq, decide_eq_true_eq, List.all_eq_true] at h
  exact ⟨h.1.1, fun n hn => of_decide_eq_true (h.1.2 n hn), h.2.1, h.2.2⟩
theorem deedT_yes {a : Sp × Int} (h : deedOk a = true) : deedT a = lineT (wordD a.1.1.toNat) (([a.1.2, a.2] : List Int).take (numsD a.1.1.toNat)) := if_pos h
theorem deedT_no {a : Sp × Int} (h : deedOk a = false) : deedT a = [] := if_neg (by rw [h]; simp)
theorem line_ne {w : Bs} (l : List Int) (h : w ≠ []) : lineT w l ≠ [] := fun e => by
  cases l with
  | nil => exact h e
  | cons x l =>
    unfold lineT at e
    rw [List.map_cons, joinB_cons 32 w (by simp)] at e
    simp at e
theorem deedT_ok {a : Sp × Int} (h : deedT a ≠ []) : deedOk a = true := by
  rcases e : deedOk a with _ | _
  · exact absurd (deedT_no e) h
  · rfl
theorem deedT_ne {a : Sp × Int} (h : deedOk a = true) : deedT a ≠ [] := by
  have D := deed_is h
  rw [deedT_yes h]
  exact line_ne _ (word_ne (by have := D.kind; omega))
theorem cut_deed {a : Sp × Int} (h : deedOk a = true) : cutB 32 (deedT a) = wordD a.1.1.toNat :: ((([a.1.2, a.2] : List Int).take (numsD a.1.1.toNat)).map numB) := by
  rw [deedT_yes h, cut_line _ (word_space _)]
theorem numsD_cases (k : Nat) : numsD k = 0 ∨ numsD k = 1 ∨ numsD k = 2 := by
  by_cases h : k < 9
  · have : ∀ j : Fin 9, numsD j = 0 ∨ numsD j = 1 ∨ numsD j = 2 := by decide
    exact this ⟨k, h⟩
  · left
    unfold numsD
    rw [List.getD_eq_getElem?_getD, List.getElem?_eq_none (by simp only [List.length_cons, List.length_nil]; omega)]
    rfl
theorem pair_of {x y u v : Int} {n : Nat} (h1 : ([x, y] : List Int).take n = ([u, v] : List Int).take n) (h2 : ∀ z ∈ ([x, y] : List Int).drop n, z = 0) (h3 : ∀ z ∈ ([u, v] : List Int).drop n, z = 0) (hn : n = 0 ∨ n = 1 ∨ n = 2) : x = u ∧ y = v := by
  rcases hn with rfl | rfl | rfl
  · simp at h2 h3; omega
  · simp at h1 h2 h3; omega
  · simp at h1; exact h1
/-- a text is that of one deed -/
theorem deedT_inj {a b : Sp × Int} (ha : deedOk a = true) (hb : deedOk b = true) (h : deedT a = deedT b) : a = b := by
  have A := deed_is ha
  have B := deed_is hb
  have hc := cut_deed ha
  rw [h, cut_deed hb] at hc
  injection hc with h1 h2
  have hk : b.1.1.toNat = a.1.1.toNat := word_inj (by have := B.kind; omega) (by have := A.kind; omega) h1
  have hk2 : a.1.1 = b.1.1 := by have := A.kind; have := B.kind; omega
  rw [hk] at h2
  have hA : ∀ x ∈ ([a.1.2, a.2] : List Int).take (numsD a.1.1.toNat), in99 x = true := fun x hx => by
    have := List.mem_of_mem_take hx
    simp at this
    rcases this with rfl | rfl
    · exact decide_eq_true A.x
    · exact decide_eq_true A.y
  have hB : ∀ x ∈ ([b.1.2, b.2] : List Int).take (numsD a.1.1.toNat), in99 x = true := fun x hx => by
    have := List.mem_of_mem_take hx
    simp at this
    rcases this with rfl | rfl
    · exact decide_eq_true B.x
    · exact decide_eq_true B.y
  have hl := map_numB_inj hB hA h2
  have hr := B.rest
  rw [hk] at hr
  obtain ⟨hx, hy⟩ := pair_of hl.symm A.rest hr (numsD_cases _)
  obtain ⟨⟨k, x⟩, y⟩ := a
  obtain ⟨⟨k', x'⟩, y'⟩ := b
  simp only at hk2 hx hy
  rw [hk2, hx, hy]

/-! ### what is read -/
open Classical in
/-- the deed whose text it is -/
noncomputable def readDR (s : Bs) : Sp × Int := if h : ∃ a, deedOk a = true ∧ deedT a = s then h.choose else ((0, 0), 0)
open Classical in
noncomputable def readDOk (s : Bs) : Bool := decide (∃ a, deedOk a = true ∧ deedT a = s)
open Classical in
theorem readD_yes {a : Sp × Int} {s : Bs} (h : deedOk a = true) (e : deedT a = s) : readDR s = a ∧ readDOk s = true := by
  have hx : ∃ a, deedOk a = true ∧ deedT a = s := ⟨a, h, e⟩
  refine ⟨?_, decide_eq_true hx⟩
  unfold readDR
  rw [dif_pos hx]
  exact deedT_inj hx.choose_spec.1 h (hx.choose_spec.2.trans e.symm)
open Classical in
theorem readD_no {s : Bs} (h : ∀ a, deedOk a = true → deedT a ≠ s) : readDR s = ((0, 0), 0) ∧ readDOk s = false := by
  have hx : ¬ ∃ a, deedOk a = true ∧ deedT a = s := fun ⟨a, h1, h2⟩ => h a h1 h2
  refine ⟨?_, decide_eq_false hx⟩
  unfold readDR
  rw [dif_neg hx]
open Classical in
theorem readD_ok {s : Bs} (h : readDOk s = true) : deedOk (readDR s) = true ∧ deedT (readDR s) = s := by
  have hx := of_decide_eq_true h
  unfold readDR
  rw [dif_pos hx]
  exact hx.choose_spec
open Classical in
theorem readD_fail {s : Bs} (h : readDOk s = false) : readDR s = ((0, 0), 0) ∧ ∀ a, deedOk a = true → deedT a ≠ s := by
  have hx := of_decide_eq_false h
  refine ⟨?_, fun a h1 h2 => hx ⟨a, h1, h2⟩⟩
  unfold readDR
  rw [dif_neg hx]
/-- what a way of reading that writes its answer again tells -/
theorem readD_try {a : Sp × Int} {s : Bs} (hs : s ≠ []) (e : deedT a = s) : readDR s = a ∧ readDOk s = true := readD_yes (deedT_ok (by rw [e]; exact hs)) e
theorem readD_nil : readDR [] = ((0, 0), 0) ∧ readDOk [] = false := readD_no fun _ h => deedT_ne h
theorem line_last {w : Bs} (l : List Int) (hw : w.getLast? ≠ some 32) : (lineT w l).getLast? ≠ some 32 := by
  rcases List.eq_nil_or_concat l with rfl | ⟨m, n, rfl⟩
  · exact hw
  · rw [List.concat_eq_append, lineT_snoc]
    intro k
    have hn := numB_ne n
    rw [List.getLast?_append, List.getLast?_cons] at k
    rcases e : (numB n).getLast? with _ | x
    · rw [List.getLast?_eq_none_iff] at e; exact hn e
    · rw [e] at k
      have hx : x = 32 := by simpa using k
      subst hx
      exact num_space n (List.mem_of_getLast? e)
theorem no_space {a : Sp × Int} {s : Bs} (h : deedOk a = true) : deedT a ≠ s ++ [32] := fun e => by
  have D := deed_is h
  have h9 : a.1.1.toNat < 9 := by have := D.kind; omega
  have hw : ∀ j : Fin 9, (wordD j).getLast? ≠ some 32 := by decide
  have h3 := line_last (([a.1.2, a.2] : List Int).take (numsD a.1.1.toNat)) (hw ⟨_, h9⟩)
  rw [deedT_yes h] at e
  apply h3
  rw [e, List.getLast?_append]
  rfl
theorem readD_space (s : Bs) : readDOk (s ++ [32]) = false := (readD_no fun _ h => no_space h).2
theorem numB_len99 {n : Int} (h : -99 ≤ n ∧ n ≤ 99) : (numB n).length ≤ 3 := by
  unfold numB
  split
  · have := natB_length 1 n.natAbs (by omega)
    simp only [List.length_cons]; omega
  · have := natB_length 1 n.toNat (by omega)
    omega
theorem word_len (k : Nat) : (wordD k).length ≤ 6 := by
  by_cases h : k < 9
  · have : ∀ j : Fin 9, (wordD j).length ≤ 6 := by decide
    exact this ⟨k, h⟩
  · unfold wordD
    rw [List.getD_eq_getElem?_getD, List.getElem?_eq_none (by simp only [wordsD, List.length_cons, List.length_nil]; omega)]
    simp
theorem deedT_len (a : Sp × Int) : (deedT a).length ≤ 14 := by
  rcases h : deedOk a with _ | _
  · rw [deedT_no h]; simp
  · have D := deed_is h
    have hw := word_len a.1.1.toNat
    have hx := numB_len99 D.x
    have hy := numB_len99 D.y
    rw [deedT_yes h]
    rcases numsD_cases a.1.1.toNat with e | e | e <;> rw [e]
    · show (lineT _ []).length ≤ 14; rw [lineT_nil]; omega
    · show (lineT _ [a.1.2]).length ≤ 14; rw [lineT_one]; simp only [List.length_append, List.length_cons]; omega
    · show (lineT _ [a.1.2, a.2]).length ≤ 14; rw [lineT_two]; simp only [List.length_append, List.length_cons]; omega
theorem numB_byte {n : Int} {b : UInt8} (h : b ∈ numB n) : b ≠ 10 := fun e => by
  subst e
  exact no_byte (c := 10) (by decide) (by decide) h
theorem word_line (k : Nat) : (10 : UInt8) ∉ wordD k := by
  by_cases h : k < 9
  · have : ∀ j : Fin 9, (10 : UInt8) ∉ wordD j := by decide
    exact this ⟨k, h⟩
  · unfold wordD
    rw [List.getD_eq_getElem?_getD, List.getElem?_eq_none (by simp only [wordsD, List.length_cons, List.length_nil]; omega)]
    exact List.not_mem_nil
theorem deedT_line (a : Sp × Int) : (10 : UInt8) ∉ deedT a := by
  rcases h : deedOk a with _ | _
  · rw [deedT_no h]; exact List.not_mem_nil
  · rw [deedT_yes h]
    have hw := word_line a.1.1.toNat
    have hx : (10 : UInt8) ∉ numB a.1.2 := fun k => numB_byte k rfl
    have hy : (10 : UInt8) ∉ numB a.2 := fun k => numB_byte k rfl
    rcases numsD_cases a.1.1.toNat with e | e | e <;> rw [e]
    · exact hw
    · show (10 : UInt8) ∉ lineT _ [a.1.2]; rw [lineT_one]; simp [hw, hx]
    · show (10 : UInt8) ∉ lineT _ [a.1.2, a.2]; rw [lineT_two]; simp [hw, hx, hy]

/-! ### journals -/
def jourL (l : List (Sp × Int)) : Bs := l.flatMap fun a => deedT a ++ [10]
def jourOk (l : List (Sp × Int)) : Bool := l.all deedOk
def jourT (l : List (Sp × Int)) : Bs := if jourOk l then jourL l else []
theorem jourL_snoc (l : List (Sp × Int)) (a : Sp × Int) : jourL (l ++ [a]) = jourL l ++ (deedT a ++ [10]) := by unfold jourL; rw [List.flatMap_append]; simp
theorem jourL_cons (l : List (Sp × Int)) (a : Sp × Int) : jourL (a :: l) = deedT a ++ 10 :: jourL l := by unfold jourL; rw [List.flatMap_cons, List.append_assoc]; rfl
theorem jourT_yes {l : List (Sp × Int)} (h : jourOk l = true) : jourT l = jourL l := if_pos h
theorem jourT_no {l : List (Sp × Int)} (h : jourOk l = false) : jourT l = [] := if_neg (by rw [h]; simp)
theorem jourOk_is {l : List (Sp × Int)} : jourOk l = true ↔ ∀ a ∈ l, deedOk a = true := by unfold jourOk; rw [List.all_eq_true]
theorem jourOk_bad {l : List (Sp × Int)} {k : Nat} {a : Sp × Int} (h : l[k]? = some a) (hb : deedOk a = false) : jourOk l = false := by
  rcases e : jourOk l with _ | _
  · rfl
  · rw [jourOk_is.1 e a (List.mem_of_getElem? h)] at hb; cases hb
theorem jourL_len (l : List (Sp × Int)) : (jourL l).length ≤ 15 * l.length := by
  induction l with
  | nil => exact Nat.le_refl _
  | cons a l ih =>
    rw [jourL_cons, List.length_append, List.length_cons, List.length_cons]
    have := deedT_len a
    omega
/-- the deeds of the lines with which a text begins; 'g' is what was read since the last newline -/
noncomputable def jread : Bs → Bs → List (Sp × Int) × Nat
  | _, [] => ([], 0)
  | g, b :: r => if b = 10 then (if readDOk g then (readDR g :: (jread [] r).1, g.length + 1 + (jread [] r).2) else ([], 0)) else jread (g ++ [b]) r
theorem jread_nil (g : Bs) : jread g [] = ([], 0) := by unfold jread; rfl
theorem jread_other {g r : Bs} {b : UInt8} (h : b ≠ 10) : jread g (b :: r) = jread (g ++ [b]) r := by
  conv => lhs; unfold jread
  rw [if_neg h]
theorem jread_line {g r : Bs} (h : readDOk g = true) : jread g (10 :: r) = (readDR g :: (jread [] r).1, g.length + 1 + (jread [] r).2) := by
  conv => lhs; unfold jread
  rw [if_pos rfl, if_pos h]
theorem jread_bad {g r : Bs} (h : readDOk g = false) : jread g (10 :: r) = ([], 0) := by
  conv => lhs; unfold jread
  rw [if_pos rfl, if_neg (by rw [h]; simp)]
theorem jread_skip : ∀ {l : Bs} (g r : Bs), (10 : UInt8) ∉ l → jread g (l ++ r) = jread (g ++ l) r
  | [], g, r, _ => by rw [List.nil_append, List.append_nil]
  | b :: l, g, r, h => by
    rw [List.cons_append, jread_other fun e => h (by rw [e]; exact List.mem_cons_self ..), jread_skip _ _ fun k => h (List.mem_cons_of_mem _ k), List.append_assoc]; rfl
theorem jread_none {l : Bs} (g : Bs) (h : (10 : UInt8) ∉ l) : jread g l = ([], 0) := by
  have := jread_skip g [] h
  rw [List.append_nil] at this
  rw [this, jread_nil]
theorem line_split : ∀ (s : Bs), (10 : UInt8) ∉ s ∨ ∃ l r, s = l ++ 10 :: r ∧ (10 : UInt8) ∉ l
  | [] => .inl List.not_mem_nil
  | b :: s => by
    by_cases h : b = 10
    · exact .inr ⟨[], s, by rw [h]; rfl, List.not_mem_nil⟩
    · rcases line_split s with k | ⟨l, r, e, k⟩
      · exact .inl fun hm => (List.mem_cons.1 hm).elim (fun e => h e.symm) k
      · exact .inr ⟨b :: l, r, by rw [e]; rfl, fun hm => (List.mem_cons.1 hm).elim (fun e => h e.symm) k⟩
/-- journals are read -/
theorem jread_jourL : ∀ {l : List (Sp × Int)} (r : Bs), (∀ a ∈ l, deedOk a = true) → jread [] (jourL l ++ r) = (l ++ (jread [] r).1, (jourL l).length + (jread [] r).2)
  | [], r, _ => by show jread [] r = _; simp [jourL]
  | a :: l, r, h => by
    have ha := h a (by simp)
    rw [jourL_cons, List.append_assoc, List.cons_append, jread_skip [] _ (deedT_line a), List.nil_append]
    have hy := readD_yes ha rfl
    rw [jread_line hy.2, hy.1, jread_jourL r fun b hb => h b (List.mem_cons_of_mem _ hb)]
    simp only [List.cons_append, List.length_append, List.length_cons]
    congr 1; omega
theorem jread_is {l : List (Sp × Int)} (h : jourOk l = true) : jread [] (jourL l) = (l, (jourL l).length) := by
  have := jread_jourL [] (jourOk_is.1 h)
  rw [List.append_nil, jread_nil] at this
  rw [this, List.append_nil, Nat.add_zero]
/-- what is read is what was written -/
theorem jread_take : ∀ (n : Nat) (s : Bs), s.length ≤ n → (jread [] s).2 ≤ s.length ∧ jourOk (jread [] s).1 = true ∧ jourL (jread [] s).1 = s.take (jread [] s).2
  | 0, s, h => by
    have : s = [] := List.eq_nil_of_length_eq_zero (by omega)
    subst this
    rw [jread_nil]
    exact ⟨Nat.le_refl _, rfl, rfl⟩
  | n + 1, s, h => by
    rcases line_split s with k | ⟨l, r, rfl, k⟩
    · rw [jread_none [] k]
      exact ⟨Nat.zero_le _, rfl, rfl⟩
    · rw [jread_skip [] _ k, List.nil_append]
      rcases e : readDOk l with _ | _
      · rw [jread_bad e]
        exact ⟨Nat.zero_le _, rfl, rfl⟩
      · rw [jread_line e]
        rw [List.length_append, List.length_cons] at h
        obtain ⟨i1, i2, i3⟩ := jread_take n r (by omega)
        obtain ⟨d1, d2⟩ := readD_ok e
        refine ⟨by simp only [List.length_append, List.length_cons]; omega, ?_, ?_⟩
        · unfold jourOk; rw [List.all_cons, d1]; exact i2
        · simp only
          have e1 : l.length ≤ l.length + 1 + (jread [] r).2 := by omega
          have e2 : l.length + 1 + (jread [] r).2 - l.length = (jread [] r).2 + 1 := by omega
          rw [jourL_cons, d2, i3, List.take_append, List.take_of_length_le e1, e2, List.take_succ_cons]
theorem jread_jour (s : Bs) : (jread [] s).2 ≤ s.length ∧ jourT (jread [] s).1 = s.take (jread [] s).2 := by
  obtain ⟨h1, h2, h3⟩ := jread_take s.length s (Nat.le_refl _)
  exact ⟨h1, by rw [jourT_yes h2, h3]⟩
theorem jread_cut : ∀ (n : Nat) (s : Bs) (k : Nat), s.length ≤ n → (jread [] (s.take k)).1 <+: (jread [] s).1 ∧ (jread [] (s.take k)).2 ≤ k
  | 0, s, k, h => by
    have : s = [] := List.eq_nil_of_length_eq_zero (by omega)
    subst this
    rw [List.take_nil, jread_nil]
    exact ⟨List.prefix_refl _, Nat.zero_le _⟩
  | n + 1, s, k, h => by
    rcases line_split s with hk | ⟨l, r, rfl, hk⟩
    · rw [jread_none [] fun hm => hk (List.mem_of_mem_take hm)]
      exact ⟨List.nil_prefix, Nat.zero_le _⟩
    · by_cases hl : k ≤ l.length
      · rw [List.take_append_of_le_length hl, jread_none [] fun hm => hk (List.mem_of_mem_take hm)]
        exact ⟨List.nil_prefix, Nat.zero_le _⟩
      · have e : (l ++ 10 :: r).take k = l ++ 10 :: r.take (k - l.length - 1) := by
          rw [List.take_append, List.take_of_length_le (by omega)]
          congr 1
          rw [show k - l.length = (k - l.length - 1) + 1 by omega, List.take_succ_cons]; rfl
        rw [e, jread_skip [] _ hk, List.nil_append, jread_skip [] _ hk, List.nil_append]
        rcases he : readDOk l with _ | _
        · rw [jread_bad he, jread_bad he]
          exact ⟨List.prefix_refl _, Nat.zero_le _⟩
        · rw [jread_line he, jread_line he]
          rw [List.length_append, List.length_cons] at h
          obtain ⟨i1, i2⟩ := jread_cut n r (k - l.length - 1) (by omega)
          refine ⟨(List.cons_prefix_cons).2 ⟨rfl, i1⟩, by simp only; omega⟩
theorem jread_len : ∀ (n : Nat) (s : Bs), s.length ≤ n → (jread [] s).1.length ≤ s.length
  | 0, s, h => by
    have : s = [] := List.eq_nil_of_length_eq_zero (by omega)
    subst this
    rw [jread_nil]
    exact Nat.le_refl _
  | n + 1, s, h => by
    rcases line_split s with hk | ⟨l, r, rfl, hk⟩
    · rw [jread_none [] hk]; exact Nat.zero_le _
    · rw [jread_skip [] _ hk, List.nil_append]
      rw [List.length_append, List.length_cons] at h ⊢
      rcases he : readDOk l with _ | _
      · rw [jread_bad he]; exact Nat.zero_le _
      · rw [jread_line he]
        have := jread_len n r (by omega)
        simp only [List.length_cons]; omega
end Go.Proofs.YtpdnakiilhohdaaDoor
