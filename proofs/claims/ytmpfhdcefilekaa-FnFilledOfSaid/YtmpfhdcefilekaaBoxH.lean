/- Plain facts for the model's BoxOf, and stores into blocks of two cells. No conditions but those typed. -/
import Derived.Test.YtmpfhdcefilekaaBox
namespace Go.Proofs.Ytmpfhdcefilekaa
open Go.RowKit Go.Sort

theorem IsBox.step {ps : List Sp} {k : Nat} {lx ly gx gy x y : Int} (h : IsBox (ps.take k) (lx, ly) (gx, gy)) (hx : ps[k]? = some (x, y)) :
    IsBox (ps.take (k + 1)) ((if x < lx then x else lx), (if y < ly then y else ly)) ((if gx < x then x else gx), (if gy < y then y else gy)) := by
  have h' := h.more (x, y)
  have e : ps.take (k + 1) = ps.take k ++ [(x, y)] := by rw [List.take_add_one, hx]; rfl
  have e1 : ((if x < lx then x else lx), (if y < ly then y else ly)) = lowS (lx, ly) (x, y) := by
    unfold lowS; simp only [Int.min_def]; apply sp_ext <;> simp only [] <;> split <;> split <;> omega
  have e2 : ((if gx < x then x else gx), (if gy < y then y else gy)) = highS (gx, gy) (x, y) := by
    unfold highS; simp only [Int.max_def]; apply sp_ext <;> simp only [] <;> split <;> split <;> omega
  rw [e, e1, e2]
  exact h'

end Go.Proofs.Ytmpfhdcefilekaa
