/- MovedBy of the program and of the model. No conditions but those typed. -/
import Derived.Test.YtbdmppejflokaaaTurn
import Derived.Test.YtbdmppejflokaaaAdded
import Derived.Test.YtbdmppejflokaaaTold
import Derived.Test.YtbdmppejflokaaaSpicWalk
namespace Go.Proofs.Ytbdmppejflokaaa
open Go.RowKit Go.Sort

/-- moved, as int's arithmetic has it -/
def movedW (p : List Sp) (a : Sp) : List Sp := p.map fun b => (wrap64 (b.1 + a.1), wrap64 (b.2 + a.2))
def wide (a : Sp) : Bool := decide (-60 ≤ a.1 ∧ a.1 ≤ 60 ∧ -60 ≤ a.2 ∧ a.2 ≤ 60)
def moveOk (p : List Sp) (a : Sp) : Bool := picB p && wide a && picB (moved p a)
def moveL (p : List Sp) (a : Sp) : List Sp := if moveOk p a then moved p a else []
theorem moved_at {p : List Sp} {a : Sp} {k : Nat} {x y : Int} (h : p[k]? = some (x, y)) : (moved p a)[k]? = some (x + a.1, y + a.2) := by
  unfold moved; rw [List.getElem?_map, h]; rfl
theorem movedW_at {p : List Sp} {a : Sp} {k : Nat} {x y : Int} (h : p[k]? = some (x, y)) : (movedW p a)[k]? = some (wrap64 (x + a.1), wrap64 (y + a.2)) := by
  unfold movedW; rw [List.getElem?_map, h]; rfl
theorem length_moved (p : List Sp) (a : Sp) : (moved p a).length = p.length := by simp [moved]
theorem length_movedW (p : List Sp) (a : Sp) : (movedW p a).length = p.length := by simp [movedW]
theorem moved_eq {p : List Sp} {a : Sp} (hp : Pic p) (ha : wide a = true) : movedW p a = moved p a := by
  unfold movedW moved
  refine List.map_congr_left fun b hb => ?_
  have hi := hp.2.1 b hb
  have hw := of_decide_eq_true ha
  unfold InR at hi
  rw [IntWalk.wrap64_in _ (by omega), IntWalk.wrap64_in _ (by omega)]
theorem move_no1 {p : List Sp} {a : Sp} (h : picB p = false) : moveOk p a = false ∧ moveL p a = [] := by
  have : moveOk p a = false := by unfold moveOk; rw [h]; rfl
  exact ⟨this, by unfold moveL; rw [this]; rfl⟩
theorem move_no2 {p : List Sp} {a : Sp} (h : wide a = false) : moveOk p a = false ∧ moveL p a = [] := by
  have : moveOk p a = false := by unfold moveOk; rw [h]; simp
  exact ⟨this, by unfold moveL; rw [this]; rfl⟩
theorem move_no3 {p : List Sp} {a : Sp} (h : picB (moved p a) = false) : moveOk p a = false ∧ moveL p a = [] := by
  have : moveOk p a = false := by unfold moveOk; rw [h]; simp
  exact ⟨this, by unfold moveL; rw [this]; rfl⟩
theorem move_yes {p : List Sp} {a : Sp} (h1 : picB p = true) (h2 : wide a = true) (h3 : picB (moved p a) = true) : moveOk p a = true ∧ moveL p a = moved p a := by
  have : moveOk p a = true := by unfold moveOk; rw [h1, h2, h3]; rfl
  exact ⟨this, by unfold moveL; rw [this]; rfl⟩

theorem inB_wide (x y : Int) : inB x y 60 = wide (x, y) := rfl

end Go.Proofs.Ytbdmppejflokaaa
