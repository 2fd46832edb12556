/- Texts of pictures: rows, whole texts, what is read of them; rows told shorter. Plain; no program is named. No conditions but those that stand in each theorem. -/
import Derived.Test.YtpdnakiilhohdaaDoorTexts
namespace Go.Proofs.YtpdnakiilhohdaaDoor

/-! ### rows of signs -/
def signB (b : Bool) : UInt8 := if b then 35 else 46
def txtRow (p : List Sp) (x y : Int) (n : Nat) : Bs := (List.range n).map fun i : Nat => signB (decide ((x + (i : Int), y) ∈ p))
def txtRows (p : List Sp) (x hy : Int) (n m : Nat) : List Bs := (List.range m).map fun j : Nat => txtRow p x (hy - (j : Int)) n
theorem txtRow_length (p : List Sp) (x y : Int) (n : Nat) : (txtRow p x y n).length = n := by unfold txtRow; simp
theorem txtRows_length (p : List Sp) (x y : Int) (n m : Nat) : (txtRows p x y n m).length = m := by unfold txtRows; simp
theorem txtRow_succ (p : List Sp) (x y : Int) (n : Nat) : txtRow p x y (n + 1) = txtRow p x y n ++ [signB (decide ((x + (n : Int), y) ∈ p))] := by
  unfold txtRow
  rw [List.range_succ, List.map_append]; rfl
theorem txtRows_succ (p : List Sp) (x hy : Int) (n m : Nat) : txtRows p x hy n (m + 1) = txtRows p x hy n m ++ [txtRow p x (hy - (m : Int)) n] := by
  unfold txtRows
  rw [List.range_succ, List.map_append]; rfl
theorem txtRow_at (p : List Sp) (x y : Int) {n i : Nat} (h : i < n) : (txtRow p x y n)[i]? = some (signB (decide ((x + (i : Int), y) ∈ p))) := by
  unfold txtRow
  rw [List.getElem?_map, List.getElem?_range h]; rfl
theorem txtRow_sign {p : List Sp} {x y : Int} {n : Nat} {b : UInt8} (h : b ∈ txtRow p x y n) : b = 35 ∨ b = 46 := by
  unfold txtRow at h
  obtain ⟨i, _, rfl⟩ := List.mem_map.1 h
  unfold signB
  split
  · exact .inl rfl
  · exact .inr rfl
theorem mem_txtRows {p : List Sp} {x hy : Int} {n m : Nat} {l : Bs} (h : l ∈ txtRows p x hy n m) : ∃ y, l = txtRow p x y n := by
  unfold txtRows at h
  obtain ⟨j, _, rfl⟩ := List.mem_map.1 h
  exact ⟨_, rfl⟩
def rowsT (p : List Sp) : List Bs := if picB p = true ∧ p ≠ [] then txtRows p (boxL p).1.1 (boxL p).2.2 (span (boxL p).1.1 (boxL p).2.1) (span (boxL p).1.2 (boxL p).2.2) else []
theorem rowsT_no {p : List Sp} (h : ¬ (picB p = true ∧ p ≠ [])) : rowsT p = [] := by unfold rowsT; rw [if_neg h]
theorem rowsT_yes {p : List Sp} (h : picB p = true) (h0 : p ≠ []) : rowsT p = txtRows p (boxL p).1.1 (boxL p).2.2 (span (boxL p).1.1 (boxL p).2.1) (span (boxL p).1.2 (boxL p).2.2) := by unfold rowsT; rw [if_pos ⟨h, h0⟩]
def textT (p : List Sp) : Bs := if picB p then (if p = [] then [45] else numB (boxL p).1.1 ++ 44 :: (numB (boxL p).1.2 ++ 58 :: joinB 47 (rowsT p))) else []
theorem textT_no {p : List Sp} (h : picB p = false) : textT p = [] := by unfold textT; rw [h]; rfl
theorem textT_nil : textT [] = [45] := rfl
theorem textT_yes {p : List Sp} (h : picB p = true) (h0 : p ≠ []) : textT p = numB (boxL p).1.1 ++ 44 :: (numB (boxL p).1.2 ++ 58 :: joinB 47 (rowsT p)) := by unfold textT; rw [if_pos h, if_neg h0]
/-- numbers of a picture's box -/
theorem box_in {p : List Sp} (h : picB p = true) (h0 : p ≠ []) : (-30 ≤ (boxL p).1.1 ∧ (boxL p).1.1 ≤ (boxL p).2.1 ∧ (boxL p).2.1 ≤ 30) ∧ -30 ≤ (boxL p).1.2 ∧ (boxL p).1.2 ≤ (boxL p).2.2 ∧ (boxL p).2.2 ≤ 30 := by
  have hb := isBox_boxL h0
  have hin := (picB_pic h).2.1
  obtain ⟨a, ha, e1⟩ := hb.lx
  obtain ⟨b, hbb, e2⟩ := hb.ly
  obtain ⟨c, hc, e3⟩ := hb.hx
  obtain ⟨d, hd, e4⟩ := hb.hy
  have i1 := hin a ha
  have i2 := hin b hbb
  have i3 := hin c hc
  have i4 := hin d hd
  have j1 := hb.all a ha
  have j2 := hb.all b hbb
  unfold InR at i1 i2 i3 i4
  omega
theorem span_eq {a b : Int} (h : a ≤ b) : (span a b : Int) = b - a + 1 := by unfold span; omega

/-! ### what rows tell -/
def scanRow (x y : Int) : Bs → List Sp
  | [] => []
  | b :: l => (if b = 35 then [(x, y)] else []) ++ scanRow (x + 1) y l
def scanRows (x y : Int) : List Bs → List Sp
  | [] => []
  | r :: rs => scanRow x y r ++ scanRows x (y - 1) rs
theorem scanRow_append (y : Int) : ∀ (l m : Bs) (x : Int), scanRow x y (l ++ m) = scanRow x y l ++ scanRow (x + (l.length : Int)) y m
  | [], m, x => by simp [scanRow]
  | b :: l, m, x => by
    rw [List.cons_append, scanRow, scanRow, scanRow_append y l m, List.append_assoc]
    congr 3
    simp; omega
theorem scanRows_append : ∀ (r s : List Bs) (x y : Int), scanRows x y (r ++ s) = scanRows x y r ++ scanRows x (y - (r.length : Int)) s
  | [], s, x, y => by simp [scanRows]
  | a :: r, s, x, y => by
    rw [List.cons_append, scanRows, scanRows, scanRows_append r s, List.append_assoc]
    congr 3
    simp; omega
theorem mem_scanRow {y : Int} : ∀ {l : Bs} {x : Int} {a : Sp}, a ∈ scanRow x y l ↔ a.2 = y ∧ ∃ i : Nat, a.1 = x + (i : Int) ∧ l[i]? = some 35
  | [], x, a => by simp [scanRow]
  | b :: l, x, a => by
    rw [scanRow, List.mem_append, mem_scanRow]
    constructor
    · rintro (h | ⟨h1, i, h2, h3⟩)
      · split at h
        · rename_i hb
          rw [List.mem_singleton] at h
          subst h
          exact ⟨rfl, 0, by simp, by rw [hb]; rfl⟩
        · cases h
      · exact ⟨h1, i + 1, by rw [h2]; push_cast; omega, by simpa using h3⟩
    · rintro ⟨h1, i, h2, h3⟩
      cases i with
      | zero =>
        refine .inl ?_
        simp only [List.getElem?_cons_zero, Option.some.injEq] at h3
        rw [if_pos h3, List.mem_singleton]
        exact Prod.ext (by rw [h2]; simp) h1
      | succ i => exact .inr ⟨h1, i, by rw [h2]; push_cast; omega, by simpa using h3⟩
theorem mem_scanRows : ∀ {r : List Bs} {x y : Int} {a : Sp}, a ∈ scanRows x y r ↔ ∃ j : Nat, ∃ l, r[j]? = some l ∧ a ∈ scanRow x (y - (j : Int)) l
  | [], x, y, a => by simp [scanRows]
  | l :: r, x, y, a => by
    rw [scanRows, List.mem_append, mem_scanRows]
    constructor
    · rintro (h | ⟨j, l', h1, h2⟩)
      · exact ⟨0, l, rfl, by simpa using h⟩
      · exact ⟨j + 1, l', by simpa using h1, by
          have e : y - ((j + 1 : Nat) : Int) = y - 1 - (j : Int) := by push_cast; omega
          rw [e]; exact h2⟩
    · rintro ⟨j, l', h1, h2⟩
      cases j with
      | zero =>
        simp only [List.getElem?_cons_zero, Option.some.injEq] at h1
        subst h1
        exact .inl (by simpa using h2)
      | succ j =>
        have e : y - ((j + 1 : Nat) : Int) = y - 1 - (j : Int) := by push_cast; omega
        rw [e] at h2
        exact .inr ⟨j, l', by simpa using h1, h2⟩
/-- the rows of a picture tell its spots -/
theorem mem_scan {p : List Sp} (h : picB p = true) (h0 : p ≠ []) {a : Sp} : a ∈ scanRows (boxL p).1.1 (boxL p).2.2 (rowsT p) ↔ a ∈ p := by
  rw [rowsT_yes h h0, mem_scanRows]
  obtain ⟨b1, b2⟩ := box_in h h0
  have s1 := span_eq (a := (boxL p).1.1) (b := (boxL p).2.1) (by omega)
  have s2 := span_eq (a := (boxL p).1.2) (b := (boxL p).2.2) (by omega)
  constructor
  · rintro ⟨j, l, h1, h2⟩
    have hj : j < span (boxL p).1.2 (boxL p).2.2 := by
      have := (List.getElem?_eq_some_iff.1 h1).1
      rwa [txtRows_length] at this
    unfold txtRows at h1
    rw [List.getElem?_map, List.getElem?_range hj] at h1
    simp only [Option.map_some, Option.some.injEq] at h1
    subst h1
    obtain ⟨e1, i, e2, e3⟩ := mem_scanRow.1 h2
    have hi : i < span (boxL p).1.1 (boxL p).2.1 := by
      have := (List.getElem?_eq_some_iff.1 e3).1
      rwa [txtRow_length] at this
    rw [txtRow_at p _ _ hi, Option.some.injEq] at e3
    unfold signB at e3
    split at e3
    · rename_i hd
      have := of_decide_eq_true hd
      have ea : a = ((boxL p).1.1 + (i : Int), (boxL p).2.2 - (j : Int)) := Prod.ext e2 e1
      rw [ea]; exact this
    · exact absurd e3 (by decide)
  · intro ha
    have k := (isBox_boxL h0).all a ha
    have hj : ((boxL p).2.2 - a.2).toNat < span (boxL p).1.2 (boxL p).2.2 := by omega
    have hi : (a.1 - (boxL p).1.1).toNat < span (boxL p).1.1 (boxL p).2.1 := by omega
    refine ⟨((boxL p).2.2 - a.2).toNat, txtRow p (boxL p).1.1 ((boxL p).2.2 - (((boxL p).2.2 - a.2).toNat : Int)) (span (boxL p).1.1 (boxL p).2.1), ?_, mem_scanRow.2 ⟨by omega, (a.1 - (boxL p).1.1).toNat, by omega, ?_⟩⟩
    · unfold txtRows
      rw [List.getElem?_map, List.getElem?_range hj]; rfl
    · rw [txtRow_at p _ _ hi]
      have e : (((boxL p).1.1 + ((a.1 - (boxL p).1.1).toNat : Int), (boxL p).2.2 - (((boxL p).2.2 - a.2).toNat : Int)) : Sp) = a := Prod.ext (by show _ = a.1; omega) (by show _ = a.2; omega)
      rw [e, decide_eq_true ha]; rfl
theorem nodup_scanRow {y : Int} : ∀ {l : Bs} {x : Int}, (scanRow x y l).Nodup
  | [], _ => List.nodup_nil
  | b :: l, x => by
    rw [scanRow]
    refine List.nodup_append.2 ⟨by split <;> simp, nodup_scanRow, fun u hu v hv e => ?_⟩
    subst e
    obtain ⟨_, i, h2, _⟩ := mem_scanRow.1 hv
    split at hu
    · rw [List.mem_singleton] at hu
      subst hu
      simp only at h2
      omega
    · cases hu
theorem nodup_scanRows : ∀ {r : List Bs} {x y : Int}, (scanRows x y r).Nodup
  | [], _, _ => List.nodup_nil
  | l :: r, x, y => by
    rw [scanRows]
    refine List.nodup_append.2 ⟨nodup_scanRow, nodup_scanRows, fun u hu v hv e => ?_⟩
    subst e
    obtain ⟨e1, _⟩ := mem_scanRow.1 hu
    obtain ⟨j, l', _, h2⟩ := mem_scanRows.1 hv
    obtain ⟨e2, _⟩ := mem_scanRow.1 h2
    omega
theorem scan_length {p : List Sp} (h : picB p = true) (h0 : p ≠ []) : (scanRows (boxL p).1.1 (boxL p).2.2 (rowsT p)).length = p.length :=
  ((List.perm_ext_iff_of_nodup nodup_scanRows (sorted_nodup (picB_pic h).2.2)).2 fun _ => mem_scan h h0).length_eq
theorem puts_scan {p : List Sp} (h : picB p = true) (h0 : p ≠ []) : puts [] (scanRows (boxL p).1.1 (boxL p).2.2 (rowsT p)) = p :=
  sorted_ext (sorted_puts (p := []) List.Pairwise.nil) (picB_pic h).2.2 fun x => by
    rw [mem_puts, mem_scan h h0]; simp
theorem puts_snoc (p q : List Sp) (a : Sp) : puts p (q ++ [a]) = put (puts p q) a := by
  unfold puts
  rw [List.foldl_append]; rfl
/-! ### texts and pictures -/
theorem rowsT_ne {p : List Sp} (h : picB p = true) (h0 : p ≠ []) : rowsT p ≠ [] := fun e => by
  have := congrArg List.length e
  rw [rowsT_yes h h0, txtRows_length] at this
  obtain ⟨_, b2⟩ := box_in h h0
  have s2 := span_eq (a := (boxL p).1.2) (b := (boxL p).2.2) (by omega)
  simp at this; omega
theorem rowsT_sign {p : List Sp} {l : Bs} (h : l ∈ rowsT p) : ∀ b ∈ l, b = 35 ∨ b = 46 := by
  unfold rowsT at h
  split at h
  · obtain ⟨y, rfl⟩ := mem_txtRows h
    exact fun b hb => txtRow_sign hb
  · cases h
theorem joinB_mem {c b : UInt8} : ∀ {r : List Bs}, b ∈ joinB c r → b = c ∨ ∃ l ∈ r, b ∈ l
  | [], h => by cases h
  | [l], h => .inr ⟨l, by simp, h⟩
  | l :: m :: r, h => by
    rw [joinB_cons c l (by simp), List.mem_append, List.mem_cons] at h
    rcases h with h | h | h
    · exact .inr ⟨l, by simp, h⟩
    · exact .inl h
    · rcases joinB_mem h with h | ⟨k, hk, h⟩
      · exact .inl h
      · exact .inr ⟨k, List.mem_cons_of_mem _ hk, h⟩
theorem no_byte {n : Int} {c : UInt8} (h : isDig c = false) (h2 : c ≠ 45) : c ∉ numB n := fun k => by
  rcases numB_bytes n c k with e | e
  · rw [h] at e; cases e
  · exact h2 e
theorem cut_colon {p : List Sp} (h : picB p = true) (h0 : p ≠ []) : cutB 58 (textT p) = [numB (boxL p).1.1 ++ 44 :: numB (boxL p).1.2, joinB 47 (rowsT p)] := by
  rw [textT_yes h h0]
  have e : numB (boxL p).1.1 ++ 44 :: (numB (boxL p).1.2 ++ 58 :: joinB 47 (rowsT p)) = (numB (boxL p).1.1 ++ 44 :: numB (boxL p).1.2) ++ 58 :: joinB 47 (rowsT p) := by simp
  rw [e, cutB_app, cutB_none]
  · intro k
    rcases joinB_mem k with k | ⟨l, hl, k⟩
    · exact absurd k (by decide)
    · rcases rowsT_sign hl _ k with k | k <;> exact absurd k (by decide)
  · intro k
    rw [List.mem_append, List.mem_cons] at k
    rcases k with k | k | k
    · exact no_byte (by decide) (by decide) k
    · exact absurd k (by decide)
    · exact no_byte (by decide) (by decide) k
theorem cut_comma (p : List Sp) : cutB 44 (numB (boxL p).1.1 ++ 44 :: numB (boxL p).1.2) = [numB (boxL p).1.1, numB (boxL p).1.2] := by
  rw [cutB_app _ (no_byte (by decide) (by decide)), cutB_none (no_byte (by decide) (by decide))]
theorem cut_rows {p : List Sp} (h : picB p = true) (h0 : p ≠ []) : cutB 47 (joinB 47 (rowsT p)) = rowsT p :=
  cutB_joinB (rowsT_ne h h0) fun l hl k => by
    rcases rowsT_sign hl _ k with k | k <;> exact absurd k (by decide)
theorem digR_box {p : List Sp} (h : picB p = true) (h0 : p ≠ []) : digR (numB (boxL p).1.1) = ((boxL p).1.1, true) ∧ digR (numB (boxL p).1.2) = ((boxL p).1.2, true) := by
  obtain ⟨b1, b2⟩ := box_in h h0
  exact ⟨digR_numB (by omega), digR_numB (by omega)⟩
theorem textT_dash {p : List Sp} (h : picB p = true) (h0 : p ≠ []) : textT p ≠ [45] := fun e => by
  have h1 := cut_colon h h0
  rw [e] at h1
  have h2 : (cutB 58 [45]).length = 2 := congrArg List.length h1
  exact absurd h2 (by decide)
/-- each picture has a text of its own -/
theorem textT_inj {p q : List Sp} (hp : picB p = true) (hq : picB q = true) (e : textT p = textT q) : p = q := by
  by_cases p0 : p = []
  · subst p0
    by_cases q0 : q = []
    · exact q0.symm
    · exact absurd e.symm (textT_dash hq q0)
  · by_cases q0 : q = []
    · subst q0; exact absurd e (textT_dash hp p0)
    · have c1 := cut_colon hp p0
      rw [e, cut_colon hq q0] at c1
      obtain ⟨e1, e2⟩ := List.cons.inj c1
      obtain ⟨e2, _⟩ := List.cons.inj e2
      have c2 := cut_comma p
      rw [← e1, cut_comma q] at c2
      obtain ⟨f1, f2⟩ := List.cons.inj c2
      obtain ⟨f2, _⟩ := List.cons.inj f2
      have c3 := cut_rows hp p0
      rw [← e2, cut_rows hq q0] at c3
      have d1 := digR_box hp p0
      have d2 := digR_box hq q0
      rw [← f1, ← f2] at d1
      have g1 := (Prod.mk.inj (d1.1.symm.trans d2.1)).1
      have g2 := (Prod.mk.inj (d1.2.symm.trans d2.2)).1
      have k1 := congrArg List.length c3
      rw [rowsT_yes hp p0, rowsT_yes hq q0, txtRows_length, txtRows_length] at k1
      obtain ⟨_, b2⟩ := box_in hp p0
      obtain ⟨_, b3⟩ := box_in hq q0
      have s1 := span_eq (a := (boxL p).1.2) (b := (boxL p).2.2) (by omega)
      have s2 := span_eq (a := (boxL q).1.2) (b := (boxL q).2.2) (by omega)
      have g3 : (boxL p).2.2 = (boxL q).2.2 := by omega
      rw [← puts_scan hp p0, ← puts_scan hq q0, c3, g1, g3]
open Classical in
/-- the picture that a text tells -/
noncomputable def readR (s : Bs) : List Sp := if h : ∃ p, picB p = true ∧ textT p = s then h.choose else []
open Classical in
noncomputable def readOk (s : Bs) : Bool := decide (∃ p, picB p = true ∧ textT p = s)
open Classical in
theorem read_yes {p : List Sp} {s : Bs} (h : picB p = true) (e : textT p = s) : readR s = p ∧ readOk s = true := by
  have hx : ∃ p, picB p = true ∧ textT p = s := ⟨p, h, e⟩
  refine ⟨?_, decide_eq_true hx⟩
  unfold readR
  rw [dif_pos hx]
  exact textT_inj hx.choose_spec.1 h (hx.choose_spec.2.trans e.symm)
open Classical in
theorem read_no {s : Bs} (h : ∀ p, picB p = true → textT p ≠ s) : readR s = [] ∧ readOk s = false := by
  have hx : ¬ ∃ p, picB p = true ∧ textT p = s := fun ⟨p, h1, h2⟩ => h p h1 h2
  refine ⟨?_, decide_eq_false hx⟩
  unfold readR
  rw [dif_neg hx]
open Classical in
theorem read_ok {s : Bs} (h : readOk s = true) : picB (readR s) = true ∧ textT (readR s) = s := by
  have hx : ∃ p, picB p = true ∧ textT p = s := of_decide_eq_true h
  unfold readR
  rw [dif_pos hx]
  exact hx.choose_spec
open Classical in
theorem read_fail {s : Bs} (h : readOk s = false) : readR s = [] ∧ ∀ p, picB p = true → textT p ≠ s := by
  have hx : ¬ ∃ p, picB p = true ∧ textT p = s := of_decide_eq_false h
  unfold readR
  rw [dif_neg hx]
  exact ⟨rfl, fun p h1 h2 => hx ⟨p, h1, h2⟩⟩
end Go.Proofs.YtpdnakiilhohdaaDoor
