/- Texts of one kind, merged: Eq, Copy, Mark. No conditions but those that stand in each theorem. -/
import Derived.Test.YtpdnakiilhohdaaDoorMem
import Derived.Test.YtpdnakiilhohdaaDoorPicWalk
namespace Go.Proofs.YtpdnakiilhohdaaDoor
/-! ### Eq -/
section
open Go.RowKit Go.Sort

/-- the lists agree below k -/
def Agree (p q : List Sp) (k : Nat) : Prop := ∀ j, j < k → p[j]? = q[j]?
theorem agree_all {p q : List Sp} (hl : p.length = q.length) (h : Agree p q p.length) : p = q := by
  apply List.ext_getElem?
  intro j
  by_cases hj : j < p.length
  · exact h j hj
  · rw [List.getElem?_eq_none (by omega), List.getElem?_eq_none (by omega)]
theorem agree_succ {p q : List Sp} {k : Nat} {a b : Sp} (h : Agree p q k) (hp : p[k]? = some a) (hq : q[k]? = some b) (e : a = b) : Agree p q (k + 1) := upto_succ h (by rw [hp, hq, e])
theorem agree_set {p q : List Sp} {k : Nat} {a : Sp} (h : Agree p q k) (hk : k < p.length) (hq : q[k]? = some a) : Agree (p.set k a) q (k + 1) := fun j hj => by
  by_cases e : j = k
  · subst e; rw [hq, List.getElem?_set]; simp [hk]
  · rw [List.getElem?_set]; simp [show ¬ k = j by omega]; exact h j (by omega)
theorem agree_not {p q : List Sp} {k : Nat} {a b : Sp} (hp : p[k]? = some a) (hq : q[k]? = some b) (e : a ≠ b) : p ≠ q := by
  rintro rfl; rw [hp] at hq; exact e (Option.some.inj hq)


end
/-! ### Copy -/
section
open Go.RowKit Go.Sort

end
/-! ### Mark -/
section
open Go.RowKit Go.Sort

/-- the marks from k on -/
def marks : Nat → Int → List Sp
  | 0, _ => []
  | n + 1, k => (k, k + 1) :: marks n (k + 2)
theorem marks_length : ∀ (n : Nat) (k : Int), (marks n k).length = n
  | 0, _ => rfl
  | n + 1, k => by simp [marks, marks_length n]
theorem marks_at : ∀ (n : Nat) (k : Int) (j : Nat), j < n → (marks n k)[j]? = some (k + 2 * j, k + 2 * j + 1)
  | 0, _, j, h => by omega
  | n + 1, k, 0, _ => by simp [marks]
  | n + 1, k, j + 1, h => by
    simp only [marks, List.getElem?_cons_succ]
    rw [marks_at n (k + 2) j (by omega)]
    congr 2 <;> omega

theorem Owns.ne {w1 w2 : World} {b1 b2 : Nat} {v1 v2 : Value} {p1 p2 : List Sp} (h1 : Owns w1 b1 v1 p1) (h2 : Owns w2 b2 v2 p2) (hb : w1.heap.size ≤ b2) : v1.ownBlock = none ∨ v1.ownBlock ≠ v2.ownBlock := by
  cases e1 : v1.ownBlock with
  | none => exact .inl rfl
  | some k1 =>
    refine .inr fun e => ?_
    have l1 := h1.lt k1 e1
    have l2 := h2.lt k1 e.symm
    omega
theorem Owns.ne' {w1 w2 : World} {b1 b2 : Nat} {v1 v2 : Value} {p1 p2 : List Sp} (h1 : Owns w1 b1 v1 p1) (h2 : Owns w2 b2 v2 p2) (hb : w2.heap.size ≤ b1) : v1.ownBlock = none ∨ v1.ownBlock ≠ v2.ownBlock := by
  cases e1 : v1.ownBlock with
  | none => exact .inl rfl
  | some k1 =>
    refine .inr fun e => ?_
    have l1 := h1.lt k1 e1
    have l2 := h2.lt k1 e.symm
    omega
theorem grown2 {w w1 w2 : World} {row : Option Nat} (h : w.grownBy w1 row) (k : w1.grownBy w2 row) : w.grownBy w2 row :=
  ⟨k.os.trans h.os, k.tape.trans h.tape, k.output.trans h.output, Nat.le_trans h.size k.size, fun i hi hne => (k.block i (Nat.lt_of_lt_of_le hi h.size) hne).trans (h.block i hi hne)⟩
theorem grownSet (w : World) (g j : Nat) (u : Value) : w.grownBy (w.setCell ⟨g, j, none⟩ u) (some g) :=
  ⟨rfl, rfl, rfl, by simp [World.setCell], fun k _ hne => Below.heap_setCell w ⟨g, j, none⟩ u k (fun e => hne (by rw [e]))⟩

end
end Go.Proofs.YtpdnakiilhohdaaDoor
