/- How texts of deeds are read, plainly: the deeds that a text can be, and the parts of a line. No program is named. No conditions but those that stand in each theorem. -/
import Derived.Test.YtpdnakiilhohdaaDoorDeedT
namespace Go.Proofs.YtpdnakiilhohdaaDoor

/-! ### texts of deeds, case by case -/
theorem deedT_mk {k x y : Int} (h0 : 0 ≤ k ∧ k ≤ 8) (hr : ∀ n ∈ ([x, y] : List Int).drop (numsD k.toNat), n = 0) (hx : -99 ≤ x ∧ x ≤ 99) (hy : -99 ≤ y ∧ y ≤ 99) : deedT ((k, x), y) = lineT (wordD k.toNat) (([x, y] : List Int).take (numsD k.toNat)) := by
  refine deedT_yes ?_
  unfold deedOk namedA in99
  rw [Bool.and_eq_true, Bool.and_eq_true, Bool.and_eq_true, decide_eq_true_eq, decide_eq_true_eq, decide_eq_true_eq, List.all_eq_true]
  exact ⟨⟨h0, fun n hn => decide_eq_true (hr n hn)⟩, hx, hy⟩
theorem deedT_two {k x y : Int} (h0 : 0 ≤ k ∧ k ≤ 2) (hx : -99 ≤ x ∧ x ≤ 99) (hy : -99 ≤ y ∧ y ≤ 99) : deedT ((k, x), y) = wordD k.toNat ++ 32 :: (numB x ++ 32 :: numB y) := by
  have hn : numsD k.toNat = 2 := by
    rcases (by omega : k = 0 ∨ k = 1 ∨ k = 2) with rfl | rfl | rfl <;> rfl
  rw [deedT_mk (by omega) (by rw [hn]; simp) hx hy, hn]
  exact lineT_two _ _ _
theorem deedT_one {k x : Int} (h0 : 4 ≤ k ∧ k ≤ 6) (hx : -99 ≤ x ∧ x ≤ 99) : deedT ((k, x), 0) = wordD k.toNat ++ 32 :: numB x := by
  have hn : numsD k.toNat = 1 := by
    rcases (by omega : k = 4 ∨ k = 5 ∨ k = 6) with rfl | rfl | rfl <;> rfl
  rw [deedT_mk (by omega) (by rw [hn]; simp) hx (by omega), hn]
  exact lineT_one _ _
theorem deedT_turn : deedT ((3, 0), 0) = [116, 117, 114, 110] := by
  rw [deedT_mk (by omega) (by simp [numsD]) (by omega) (by omega)]; rfl
theorem deedT_fill : deedT ((7, 0), 0) = [102, 105, 108, 108] := by
  rw [deedT_mk (by omega) (by simp [numsD]) (by omega) (by omega)]; rfl
theorem deedT_back : deedT ((8, 0), 0) = [98, 97, 99, 107] := by
  rw [deedT_mk (by omega) (by simp [numsD]) (by omega) (by omega)]; rfl
/-- what a deed with a text is -/
theorem deed_kinds {k x y : Int} (h : deedOk ((k, x), y) = true) : ((0 ≤ k ∧ k ≤ 2) ∨ ((4 ≤ k ∧ k ≤ 6) ∧ y = 0) ∨ ((k = 3 ∨ k = 7 ∨ k = 8) ∧ x = 0 ∧ y = 0)) ∧ (-99 ≤ x ∧ x ≤ 99) ∧ -99 ≤ y ∧ y ≤ 99 := by
  have D := deed_is h
  have hk := D.kind
  have hr := D.rest
  refine ⟨?_, D.x, D.y⟩
  simp only at hk hr
  rcases (by omega : k = 0 ∨ k = 1 ∨ k = 2 ∨ k = 3 ∨ k = 4 ∨ k = 5 ∨ k = 6 ∨ k = 7 ∨ k = 8) with rfl | rfl | rfl | rfl | rfl | rfl | rfl | rfl | rfl
  · left; omega
  · left; omega
  · left; omega
  · have h1 := hr x (by simp [numsD]); have h2 := hr y (by simp [numsD]); right; right; omega
  · have h2 := hr y (by simp [numsD]); right; left; omega
  · have h2 := hr y (by simp [numsD]); right; left; omega
  · have h2 := hr y (by simp [numsD]); right; left; omega
  · have h1 := hr x (by simp [numsD]); have h2 := hr y (by simp [numsD]); right; right; omega
  · have h1 := hr x (by simp [numsD]); have h2 := hr y (by simp [numsD]); right; right; omega
theorem deedT_bad {k x y : Int} (h : ¬ (((0 ≤ k ∧ k ≤ 2) ∨ ((4 ≤ k ∧ k ≤ 6) ∧ y = 0) ∨ ((k = 3 ∨ k = 7 ∨ k = 8) ∧ x = 0 ∧ y = 0)) ∧ (-99 ≤ x ∧ x ≤ 99) ∧ -99 ≤ y ∧ y ≤ 99)) : deedT ((k, x), y) = [] := by
  rcases e : deedOk ((k, x), y) with _ | _
  · exact deedT_no e
  · exact absurd (deed_kinds e) h

/-! ### what a text can be -/
def candB : List (Sp × Int) := [((3, 0), 0), ((7, 0), 0), ((8, 0), 0)]
/-- the deeds of three words, and those of two -/
def cand3 (x y : Int) : List (Sp × Int) := [((0, x), y), ((1, x), y), ((2, x), y)]
def cand2 (x : Int) : List (Sp × Int) := [((4, x), 0), ((5, x), 0), ((6, x), 0)]
def candD (s : Bs) : List (Sp × Int) := candB ++ ((match cutB 32 s with | [_, b, c] => cand3 (digR b).1 (digR c).1 | _ => []) ++ (match cutB 32 s with | [_, b] => cand2 (digR b).1 | _ => []))
theorem cand_all {a : Sp × Int} {s : Bs} (h : deedOk a = true) (e : deedT a = s) : a ∈ candD s := by
  obtain ⟨⟨k, x⟩, y⟩ := a
  have hc := cut_deed h
  rw [e] at hc
  obtain ⟨hk, hx, hy⟩ := deed_kinds h
  have dx : digR (numB x) = (x, true) := digR_numB (by omega)
  have dy : digR (numB y) = (y, true) := digR_numB (by omega)
  unfold candD
  rw [hc]
  rcases hk with hk | ⟨hk, rfl⟩ | ⟨hk, rfl, rfl⟩
  · have hn : numsD k.toNat = 2 := by
      rcases (by omega : k = 0 ∨ k = 1 ∨ k = 2) with rfl | rfl | rfl <;> rfl
    simp only [hn, List.take, List.map, dx, dy]
    rcases (by omega : k = 0 ∨ k = 1 ∨ k = 2) with rfl | rfl | rfl <;> simp [cand3]
  · have hn : numsD k.toNat = 1 := by
      rcases (by omega : k = 4 ∨ k = 5 ∨ k = 6) with rfl | rfl | rfl <;> rfl
    simp only [hn, List.take, List.map, dx]
    rcases (by omega : k = 4 ∨ k = 5 ∨ k = 6) with rfl | rfl | rfl <;> simp [cand2]
  · rcases hk with rfl | rfl | rfl <;> simp [candB]
/-- one of them is it, or none is -/
theorem cand_hit {s : Bs} {a : Sp × Int} (hs : s ≠ []) (e : deedT a = s) : readDR s = a ∧ readDOk s = true := readD_try hs e
theorem cand_miss {s : Bs} (h : ∀ a ∈ candD s, deedT a ≠ s) : readDR s = ((0, 0), 0) ∧ readDOk s = false :=
  readD_no fun a h1 h2 => h a (cand_all h1 h2) h2

/-! ### parts of a line -/
def cutAt (c : UInt8) : Bs → Bs × Bs × Bool
  | [] => ([], [], false)
  | b :: l => if b = c then ([], l, true) else (b :: (cutAt c l).1, (cutAt c l).2.1, (cutAt c l).2.2)
theorem cutAt_none {c : UInt8} : ∀ {l : Bs}, c ∉ l → cutAt c l = (l, [], false)
  | [], _ => rfl
  | b :: l, h => by
    unfold cutAt
    rw [if_neg fun e => h (by rw [e]; exact List.mem_cons_self ..), cutAt_none fun k => h (List.mem_cons_of_mem _ k)]
theorem cutAt_app {c : UInt8} (m : Bs) : ∀ {l : Bs}, c ∉ l → cutAt c (l ++ c :: m) = (l, m, true)
  | [], _ => by
    show cutAt c (c :: m) = _
    unfold cutAt
    rw [if_pos rfl]
  | b :: l, h => by
    rw [List.cons_append]
    unfold cutAt
    rw [if_neg fun e => h (by rw [e]; exact List.mem_cons_self ..), cutAt_app m fun k => h (List.mem_cons_of_mem _ k)]
theorem cutAt_le (c : UInt8) : ∀ l : Bs, (cutAt c l).1.length ≤ l.length ∧ (cutAt c l).2.1.length ≤ l.length
  | [] => ⟨Nat.le_refl _, Nat.le_refl _⟩
  | b :: l => by
    have ih := cutAt_le c l
    unfold cutAt
    split
    · exact ⟨Nat.zero_le _, by simp⟩
    · simp only [List.length_cons]; omega
/-- the kind of deeds with a word -/
def kindR (w : Bs) : Int := if w ∈ wordsD then (wordsD.idxOf w : Int) else -1
theorem kindR_word {k : Nat} (h : k < 9) : kindR (wordD k) = (k : Int) := by
  have : ∀ j : Fin 9, kindR (wordD j) = (j : Int) := by decide
  exact this ⟨k, h⟩
theorem kindR_none {w : Bs} (h : ∀ k, k < 9 → wordD k ≠ w) : kindR w = -1 := by
  unfold kindR
  rw [if_neg]
  intro hm
  obtain ⟨k, hk, e⟩ := List.mem_iff_getElem.1 hm
  refine h k (by simpa [wordsD] using hk) ?_
  unfold wordD
  rw [List.getD_eq_getElem?_getD, List.getElem?_eq_getElem hk]
  exact e
/-- the texts of both numbers behind a line's word -/
def firstS (s : Bs) : Bs := (cutAt 32 (cutAt 32 s).2.1).1
def secondS (s : Bs) : Bs := (cutAt 32 (cutAt 32 s).2.1).2.1
theorem parts_line {w : Bs} (h : (32 : UInt8) ∉ w) : ∀ (l : List Int), l.length ≤ 2 → (cutAt 32 (lineT w l)).1 = w ∧ (firstS (lineT w l) = (l[0]?.map numB).getD []) ∧ secondS (lineT w l) = (l[1]?.map numB).getD []
  | [], _ => by
    unfold firstS secondS
    rw [lineT_nil, cutAt_none h]
    exact ⟨rfl, rfl, rfl⟩
  | [x], _ => by
    unfold firstS secondS
    rw [lineT_one, cutAt_app _ h, cutAt_none (num_space x)]
    exact ⟨rfl, rfl, rfl⟩
  | [x, y], _ => by
    unfold firstS secondS
    rw [lineT_two, cutAt_app _ h, cutAt_app _ (num_space x)]
    exact ⟨rfl, rfl, rfl⟩
  | _ :: _ :: _ :: _, h => by simp at h
theorem parts_le (s : Bs) : (firstS s).length ≤ s.length ∧ (secondS s).length ≤ s.length := by
  have h1 := cutAt_le 32 s
  have h2 := cutAt_le 32 (cutAt 32 s).2.1
  unfold firstS secondS
  omega
/-- what a number's text is read as: 0 where there is none -/
def ReadsAs (s : Bs) (z : Int) : Prop := (s = [] → z = 0) ∧ ∀ n : Int, -10 ^ 9 < n ∧ n < 10 ^ 9 → s = numB n → z = n
/-- whoever writes a line's parts again has the line, if it is a deed's -/
theorem parts_deed {a : Sp × Int} {s : Bs} {x y : Int} (h : deedOk a = true) (e : deedT a = s) (hx : ReadsAs (firstS s) x) (hy : ReadsAs (secondS s) y) : ((kindR (cutAt 32 s).1, x), y) = a := by
  have D := deed_is h
  obtain ⟨⟨k, u⟩, v⟩ := a
  obtain ⟨hk, hu, hv⟩ := deed_kinds h
  have hkk := D.kind
  simp only at hkk
  have h9 : k.toNat < 9 := by omega
  rw [deedT_yes h] at e
  subst e
  obtain ⟨p1, p2, p3⟩ := parts_line (word_space k.toNat) (([u, v] : List Int).take (numsD k.toNat)) (by rw [List.length_take]; simp; omega)
  rw [p1, kindR_word h9]
  rw [p2] at hx
  rw [p3] at hy
  have hkk2 : (k.toNat : Int) = k := by omega
  have hx' : x = u := by
    rcases hk with hk | ⟨hk, rfl⟩ | ⟨hk, rfl, rfl⟩
    · have hn : numsD k.toNat = 2 := by
        rcases (by omega : k = 0 ∨ k = 1 ∨ k = 2) with rfl | rfl | rfl <;> rfl
      rw [hn] at hx
      exact hx.2 u (by omega) rfl
    · have hn : numsD k.toNat = 1 := by
        rcases (by omega : k = 4 ∨ k = 5 ∨ k = 6) with rfl | rfl | rfl <;> rfl
      rw [hn] at hx
      exact hx.2 u (by omega) rfl
    · have hn : numsD k.toNat = 0 := by rcases hk with rfl | rfl | rfl <;> rfl
      rw [hn] at hx
      exact hx.1 rfl
  have hy' : y = v := by
    rcases hk with hk | ⟨hk, rfl⟩ | ⟨hk, rfl, rfl⟩
    · have hn : numsD k.toNat = 2 := by
        rcases (by omega : k = 0 ∨ k = 1 ∨ k = 2) with rfl | rfl | rfl <;> rfl
      rw [hn] at hy
      exact hy.2 v (by omega) rfl
    · have hn : numsD k.toNat = 1 := by
        rcases (by omega : k = 4 ∨ k = 5 ∨ k = 6) with rfl | rfl | rfl <;> rfl
      rw [hn] at hy
      exact hy.1 rfl
    · have hn : numsD k.toNat = 0 := by rcases hk with rfl | rfl | rfl <;> rfl
      rw [hn] at hy
      exact hy.1 rfl
  rw [hkk2, hx', hy']
/-- so what is written again and is the text, or is not, tells what is read -/
theorem again_yes {a : Sp × Int} {s : Bs} (hs : s ≠ []) (e : deedT a = s) : readDR s = a ∧ readDOk s = true := readD_try hs e
theorem again_no {s : Bs} {x y : Int} (hx : ReadsAs (firstS s) x) (hy : ReadsAs (secondS s) y) (e : deedT ((kindR (cutAt 32 s).1, x), y) ≠ s) : readDR s = ((0, 0), 0) ∧ readDOk s = false :=
  readD_no fun a h1 h2 => e (by rw [parts_deed h1 h2 hx hy]; exact h2)

/-! ### what a journal's next line does -/
theorem jread_stop {s : Bs} (h : (cutAt 10 s).2.2 = false ∨ readDOk (cutAt 10 s).1 = false) : jread [] s = ([], 0) := by
  rcases line_split s with k | ⟨l, r, rfl, k⟩
  · exact jread_none [] k
  · rw [cutAt_app r k] at h
    rcases h with h | h
    · cases h
    · rw [jread_skip [] _ k, List.nil_append, jread_bad h]
theorem jread_go {s : Bs} (h1 : (cutAt 10 s).2.2 = true) (h2 : readDOk (cutAt 10 s).1 = true) : (cutAt 10 s).1.length + 1 ≤ s.length ∧ s.drop ((cutAt 10 s).1.length + 1) = (cutAt 10 s).2.1 ∧ jread [] s = (readDR (cutAt 10 s).1 :: (jread [] (cutAt 10 s).2.1).1, (cutAt 10 s).1.length + 1 + (jread [] (cutAt 10 s).2.1).2) := by
  rcases line_split s with k | ⟨l, r, rfl, k⟩
  · rw [cutAt_none k] at h1; cases h1
  · rw [cutAt_app r k] at h2 ⊢
    refine ⟨by simp, ?_, ?_⟩
    · simp only
      rw [show l.length + 1 = (l ++ [10]).length by simp, show l ++ (10 : UInt8) :: r = (l ++ [10]) ++ r by simp, List.drop_left]
    · rw [jread_skip [] _ k, List.nil_append, jread_line h2]
end Go.Proofs.YtpdnakiilhohdaaDoor
