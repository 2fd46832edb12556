/- Contracts of chapter 9 with what they hand back written out, and plain facts that its laws ask. No conditions but those typed. -/
import Derived.Test.YtebgcmnajkophaaRowsI
import Derived.Test.YtebgcmnajkophaaUnion
import Derived.Test.YtebgcmnajkophaaEq
namespace Go.Proofs.Ytebgcmnajkophaa
open Go.RowKit Go.Sort

theorem over_lit {p q : List Sp} {v : Value} {w : World} (hq : overR p = q) (h : Reads w w.heap.size v p) : Calls Try.prog 14 #[v] w (GivesOwn q w) := by
  subst hq; exact implOver_any p v w h
theorem overS_lit {p q : List Sp} {v : Value} {w : World} (hq : overR p = q) (h : Reads w w.heap.size v p) : Calls Try.prog 16 #[v] w (GivesOwn q w) := by
  subst hq; exact specOver_any p v w h
theorem rowsI_lit {p q : List Sp} {b : Bool} {v : Value} {w : World} (hb : rowsOk p = b) (hq : rowsR p = q) (h : Reads w w.heap.size v p) : Calls Try.prog 21 #[v] w (Gives2' q b w) := by
  subst hb hq; exact implRows_any p v w h
theorem rowsS_lit {p q : List Sp} {b : Bool} {v : Value} {w : World} (hb : rowsOk p = b) (hq : rowsR p = q) (h : Reads w w.heap.size v p) : Calls Try.prog 22 #[v] w (Gives2' q b w) := by
  subst hb hq; exact specRows_any p v w h
theorem colsI_lit {p q : List Sp} {b : Bool} {v : Value} {w : World} (hb : colsOk p = b) (hq : colsR p = q) (h : Reads w w.heap.size v p) : Calls Try.prog 26 #[v] w (Gives2' q b w) := by
  subst hb hq; exact implCols_any p v w h
theorem colsS_lit {p q : List Sp} {b : Bool} {v : Value} {w : World} (hb : colsOk p = b) (hq : colsR p = q) (h : Reads w w.heap.size v p) : Calls Try.prog 27 #[v] w (Gives2' q b w) := by
  subst hb hq; exact specCols_any p v w h
theorem bothI_lit {p q : List Sp} {b : Bool} {v : Value} {w : World} (hb : bothOk p = b) (hq : bothR p = q) (hl : p.length ≤ 1000000) (h : Reads w w.heap.size v p) : Calls Try.prog 29 #[v] w (Gives2' q b w) := by
  subst hb hq; exact implBoth_any p v w h (by omega)
theorem bothS_lit {p q : List Sp} {b : Bool} {v : Value} {w : World} (hb : bothOk p = b) (hq : bothR p = q) (hl : p.length ≤ 1000000) (h : Reads w w.heap.size v p) : Calls Try.prog 30 #[v] w (Gives2' q b w) := by
  subst hb hq; exact specBoth_any p v w h (by omega)
theorem fullI_lit {p : List Sp} {b : Bool} {v : Value} {w : World} (hb : filledB p = b) (hl : p.length ≤ 1000000) (h : Reads w w.heap.size v p) : Calls Try.prog 32 #[v] w (Gives (.bool b) w) := by
  subst hb; exact implFullOk_any p v w h (by omega)
theorem fullS_lit {p : List Sp} {b : Bool} {v : Value} {w : World} (hb : filledB p = b) (hl : p.length ≤ 1000000) (h : Reads w w.heap.size v p) : Calls Try.prog 35 #[v] w (Gives (.bool b) w) := by
  subst hb; exact specFullOk_any p v w h (by omega)
theorem within_lit9 {b : Bool} {p q : List Sp} {v u : Value} {w : World} (hk : withinB p q = b) (h : Reads w w.heap.size v p) (h' : Reads w w.heap.size u q) : Calls Try.prog 24 #[v, u] w (Gives (.bool b) w) := by
  subst hk; exact implWithin_any p q v u w h h'
theorem same_lit {p : List Sp} {v u : Value} {w : World} (h : Reads w w.heap.size v p) (h' : Reads w w.heap.size u p) : Calls Try.prog 15 #[v, u] w (Gives (.bool true) w) :=
  gives_is (show decide (p = p) = true by simp) (sameSpots_any p p v u w h h')
theorem within9 {a b : List Sp} (ha : picB a = true) (hb : picB b = true) (h : Sub a b) : withinB a b = true := by
  unfold withinB bothB
  rw [ha, hb]
  have e : common a b = a := List.filter_eq_self.2 fun x hx => decide_eq_true (h x hx)
  rw [e]
  exact decide_eq_true rfl
end Go.Proofs.Ytebgcmnajkophaa
