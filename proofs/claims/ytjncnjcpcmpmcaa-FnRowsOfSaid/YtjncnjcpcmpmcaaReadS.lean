/- The model's ReadText. No conditions but those typed. -/
import Derived.Test.YtjncnjcpcmpmcaaCutS
import Derived.Test.YtjncnjcpcmpmcaaPut
import Derived.Test.YtjncnjcpcmpmcaaMove
namespace Go.Proofs.Ytjncnjcpcmpmcaa
open Go.RowKit Go.Sort

/-- what has been scanned: k rows, and j signs of the next one -/
def scanK (x y : Int) (rows : List Bs) (k j : Nat) : List Sp := scanRows x y (rows.take k) ++ scanRow x (y - (k : Int)) ((rows.getD k []).take j)
theorem scanK_zero (x y : Int) (rows : List Bs) : scanK x y rows 0 0 = [] := by unfold scanK; simp [scanRows, scanRow]
theorem scanK_next {x y : Int} {rows : List Bs} {k : Nat} {l : Bs} (h : rows[k]? = some l) : scanK x y rows k l.length = scanK x y rows (k + 1) 0 := by
  have hk := (List.getElem?_eq_some_iff.1 h).1
  unfold scanK
  rw [List.getD_eq_getElem?_getD, h]
  simp only [Option.getD_some, List.take_length, List.take_zero, scanRow, List.append_nil]
  rw [List.take_add_one, h, Option.toList_some, scanRows_append, List.length_take, Nat.min_eq_left (Nat.le_of_lt hk)]
  simp [scanRows]
theorem scanK_step {x y : Int} {rows : List Bs} {k j : Nat} {l : Bs} {b : UInt8} (h : rows[k]? = some l) (hb : l[j]? = some b) : scanK x y rows k (j + 1) = scanK x y rows k j ++ (if b = 35 then [(x + (j : Int), y - (k : Int))] else []) := by
  have hj := (List.getElem?_eq_some_iff.1 hb).1
  unfold scanK
  rw [List.getD_eq_getElem?_getD, h]
  simp only [Option.getD_some]
  rw [List.take_add_one, hb, Option.toList_some, scanRow_append, List.length_take, Nat.min_eq_left (Nat.le_of_lt hj), List.append_assoc]
  simp [scanRow]
theorem scanK_all (x y : Int) (rows : List Bs) : scanK x y rows rows.length 0 = scanRows x y rows := by
  unfold scanK
  simp [scanRow]
theorem scanK_le {x y : Int} {rows : List Bs} {k j : Nat} : (scanK x y rows k j).length ≤ (scanRows x y rows).length := by
  by_cases hk : k < rows.length
  · obtain ⟨l, hl⟩ : ∃ l, rows[k]? = some l := ⟨_, List.getElem?_eq_getElem hk⟩
    have e : rows = rows.take k ++ l :: rows.drop (k + 1) := by
      have h2 := (List.getElem?_eq_some_iff.1 hl).2
      rw [← h2, ← List.drop_eq_getElem_cons hk, List.take_append_drop]
    have e2 : scanRows x y rows = scanRows x y (rows.take k) ++ (scanRow x (y - (k : Int)) l ++ scanRows x (y - (k : Int) - 1) (rows.drop (k + 1))) := by
      conv => lhs; rw [e, scanRows_append, List.length_take, Nat.min_eq_left (Nat.le_of_lt hk)]
      rfl
    have e3 : scanRow x (y - (k : Int)) l = scanRow x (y - (k : Int)) (l.take j) ++ scanRow (x + ((l.take j).length : Int)) (y - (k : Int)) (l.drop j) := by
      conv => lhs; rw [← List.take_append_drop j l, scanRow_append]
    unfold scanK
    rw [e2, List.getD_eq_getElem?_getD, hl, e3]
    simp only [Option.getD_some, List.length_append]
    omega
  · unfold scanK
    rw [List.take_of_length_le (by omega), List.getD_eq_getElem?_getD, List.getElem?_eq_none (by omega)]
    simp [scanRow]
/-- what the text of a picture is cut into -/
theorem text_parts {p : List Sp} {s : Bs} (hp : picB p = true) (e : textT p = s) (hs : s ≠ [45]) : p ≠ [] ∧ cutB 58 s = [numB (boxL p).1.1 ++ 44 :: numB (boxL p).1.2, joinB 47 (rowsT p)] := by
  have h0 : p ≠ [] := fun k => hs (by rw [← e, k]; rfl)
  exact ⟨h0, by rw [← e]; exact cut_colon hp h0⟩
/-- all that is asked of the parts, if the text is that of a picture -/
theorem text_all {p : List Sp} {s a b c d : Bs} (hp : picB p = true) (e : textT p = s) (hs : s ≠ [45]) (hab : cutB 58 s = [a, b]) (hcd : cutB 44 a = [c, d]) :
    (digR c).2 = true ∧ (digR d).2 = true ∧ (cutB 47 b).length ≤ 61 ∧ (scanRows (digR c).1 ((digR d).1 + ((cutB 47 b).length : Int) - 1) (cutB 47 b)).length ≤ 60 ∧ puts [] (scanRows (digR c).1 ((digR d).1 + ((cutB 47 b).length : Int) - 1) (cutB 47 b)) = p := by
  obtain ⟨h0, h1⟩ := text_parts hp e hs
  rw [hab] at h1
  obtain ⟨e1, e2⟩ := List.cons.inj h1
  obtain ⟨e2, _⟩ := List.cons.inj e2
  have h2 := cut_comma p
  rw [← e1, hcd] at h2
  obtain ⟨e3, e4⟩ := List.cons.inj h2
  obtain ⟨e4, _⟩ := List.cons.inj e4
  obtain ⟨d1, d2⟩ := digR_box hp h0
  rw [e3, e4, e2, cut_rows hp h0, d1, d2]
  have hr := rows_are hp h0
  have hy : (boxL p).1.2 + ((rowsT p).length : Int) - 1 = (boxL p).2.2 := by have := hr.many; omega
  obtain ⟨_, b2⟩ := box_in hp h0
  simp only []
  rw [hy]
  refine ⟨trivial, trivial, by have := hr.many; omega, ?_, puts_scan hp h0⟩
  rw [scan_length hp h0]
  exact (picB_pic hp).1
theorem cutB_part {c : UInt8} : ∀ {l e : Bs}, e ∈ cutB c l → e.length ≤ l.length
  | [], e, h => by
    simp [cutB] at h
    rw [h]; simp
  | b :: l, e, h => by
    unfold cutB at h
    split at h
    · rcases List.mem_cons.1 h with rfl | h
      · simp
      · have := cutB_part h
        rw [List.length_cons]; omega
    · split at h
      · rename_i h1 t1 e1
        rcases List.mem_cons.1 h with rfl | h
        · have := cutB_part (c := c) (l := l) (e := h1) (by rw [e1]; simp)
          simp only [List.length_cons]; omega
        · have := cutB_part (c := c) (l := l) (e := e) (by rw [e1]; exact List.mem_cons_of_mem _ h)
          rw [List.length_cons]; omega
      · simp at h
        rw [h]; simp
end Go.Proofs.Ytjncnjcpcmpmcaa
