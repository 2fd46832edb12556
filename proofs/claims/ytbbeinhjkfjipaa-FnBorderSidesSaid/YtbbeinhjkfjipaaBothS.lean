/- Texts of one kind, merged: RowsS, BothS. No conditions but those that stand in each theorem. -/
import Derived.Test.YtbbeinhjkfjipaaPut
import Derived.Test.YtbbeinhjkfjipaaPicWalk
import Derived.Test.YtbbeinhjkfjipaaPlain
import Derived.Test.YtbbeinhjkfjipaaOnes
import Derived.Deep.RegionHeld3
namespace Go.Proofs.Ytbbeinhjkfjipaa
/-! ### RowsS -/
section
open Go.RowKit Go.Sort

def overUpto (ps : List Sp) (k : Nat) : List Sp := puts [] ((ps.take k).map overS)
theorem overUpto_zero (ps : List Sp) : overUpto ps 0 = [] := rfl
theorem overUpto_succ {ps : List Sp} {k : Nat} {x y : Int} (h : ps[k]? = some (x, y)) : put (overUpto ps k) (y, x) = overUpto ps (k + 1) := by
  unfold overUpto puts
  rw [List.take_add_one, h, List.map_append, List.foldl_append]; rfl
theorem overUpto_all (ps : List Sp) : overUpto ps ps.length = overL ps := by unfold overUpto overL; rw [List.take_length]
theorem overUpto_le (ps : List Sp) (k : Nat) : (overUpto ps k).length ≤ ps.length := by
  unfold overUpto
  have := length_puts_le ((ps.take k).map overS) []
  rw [List.length_map, List.length_take, List.length_nil] at this
  omega

def allF : Sp → Bool := fun _ => true
theorem seg_is {ps : List Sp} {k : Nat} {x y F : Int} (h : ps[k]? = some (x, y)) (hF : fromAt ps k (x, y) = F) : segAt ps k = rowB allF F y (x + 1 - F).toNat := by
  have e : ps.getD k (0, 0) = (x, y) := by rw [List.getD_eq_getElem?_getD, h]; rfl
  unfold segAt
  rw [e, hF]; rfl
theorem from_zero {ps : List Sp} {x y : Int} : fromAt ps 0 (x, y) = x := by unfold fromAt; rw [if_neg (by omega)]
theorem from_same {ps : List Sp} {j : Nat} {x y u : Int} (h : ps[j]? = some (u, y)) : fromAt ps (j + 1) (x, y) = u + 1 := by
  have e : ps.getD j (0, 0) = (u, y) := by rw [List.getD_eq_getElem?_getD, h]; rfl
  unfold fromAt
  rw [Nat.add_sub_cancel, e, if_pos ⟨by omega, rfl⟩]
theorem from_other {ps : List Sp} {j : Nat} {x y u z : Int} (h : ps[j]? = some (u, z)) (hne : ¬ z = y) : fromAt ps (j + 1) (x, y) = x := by
  have e : ps.getD j (0, 0) = (u, z) := by rw [List.getD_eq_getElem?_getD, h]; rfl
  unfold fromAt
  rw [Nat.add_sub_cancel, e, if_neg (fun k => hne k.2)]
structure SegFacts (ps : List Sp) (k : Nat) (x y F : Int) : Prop where
  le : F ≤ x
  lo : -31 ≤ F
  hi : x ≤ 30
  ylo : -30 ≤ y
  yhi : y ≤ 30
  seg : segAt ps k = rowB allF F y (x + 1 - F).toNat
theorem seg_facts {ps : List Sp} (hp : picB ps = true) {k : Nat} {x y F : Int} (h : ps[k]? = some (x, y)) (hF : fromAt ps k (x, y) = F) : SegFacts ps k x y F := by
  have hk := (List.getElem?_eq_some_iff.1 h).1
  have e : ps.getD k (0, 0) = (x, y) := by rw [List.getD_eq_getElem?_getD, h]; rfl
  have h1 := from_le (picB_pic hp).2.2 hk
  rw [e, hF] at h1
  have h2 := (picB_pic hp).2.1 _ (List.mem_of_getElem? h)
  unfold InR at h2
  refine ⟨h1, ?_, by omega, by omega, by omega, seg_is h hF⟩
  rw [← hF]
  unfold fromAt
  split
  · have := (picB_pic hp).2.1 _ (getD_mem (j := k - 1) (by omega : k - 1 < ps.length))
    unfold InR at this; omega
  · simp only []; omega
theorem row_next (F y : Int) (t : Nat) : rowB allF F y (t + 1) = rowB allF F y t ++ [(F + (t : Int), y)] := by
  rw [rowB_succ]; rfl
end
/-! ### BothS -/
section
open Go.RowKit Go.Sort

theorem rowsOk_pic {p : List Sp} (h : picB p = false) : rowsOk p = false := by unfold rowsOk; rw [h]; rfl
theorem rowsOk_rows {p : List Sp} (h : picB (rowsL p) = false) : rowsOk p = false := by unfold rowsOk; rw [h, Bool.and_false]
theorem rowsOk_yes {p : List Sp} (h : picB p = true) (k : picB (rowsL p) = true) : rowsOk p = true := by unfold rowsOk; rw [h, k]; rfl
theorem colsOk_pic {p : List Sp} (h : picB p = false) : colsOk p = false := by unfold colsOk; rw [h]; rfl
theorem colsOk_yes {p : List Sp} (h : picB p = true) : colsOk p = rowsOk (overL p) := by unfold colsOk; rw [h]; rfl
theorem rows_lit {S : FuncId} {P : Program} {p r : List Sp} {b : Bool} {v : Value} {w : World} (hb : rowsOk p = b) (hr : rowsR p = r) (h : Calls P S #[v] w (Gives2' (rowsR p) (rowsOk p) w)) : Calls P S #[v] w (Gives2' r b w) := by
  subst hb hr; exact h
def lenOfV : Value → Nat
  | .slice _ n _ => n
  | _ => 0
theorem both_none {p q : List Sp} (h : bothV q = bothV p) (k : stepOk q = false) : bothOk p = false ∧ bothR p = [] := by
  have := both_no k
  unfold bothOk bothR
  rw [← h, this]
  exact ⟨rfl, rfl⟩
theorem both_some {p q : List Sp} (h : bothV q = bothV p) (k : stepOk q = true) (hl : (stepL q).length = q.length) : bothOk p = true ∧ bothR p = stepL q := by
  have := both_end k hl
  unfold bothOk bothR
  rw [← h, this]
  exact ⟨rfl, rfl⟩
theorem stepOk_rows {p : List Sp} (h : rowsOk p = false) : stepOk p = false := by unfold stepOk; rw [h]; rfl
theorem stepOk_cols {p : List Sp} (h : rowsOk p = true) : stepOk p = colsOk (rowsL p) := by unfold stepOk; rw [h]; rfl
theorem cols_lit {S : FuncId} {P : Program} {p r : List Sp} {b : Bool} {v : Value} {w : World} (hb : colsOk p = b) (hr : colsR p = r) (h : Calls P S #[v] w (Gives2' (colsR p) (colsOk p) w)) : Calls P S #[v] w (Gives2' r b w) := by
  subst hb hr; exact h
end
end Go.Proofs.Ytbbeinhjkfjipaa
