/- TurnedOf and MovedBy, the program's and the model's: each hands back the list turned or moved, in new memory. No conditions but those typed. -/
import Derived.Test.YtbdmppejflokaaaPlain
import Derived.Test.YtbdmppejflokaaaEq
import Derived.Test.YtbdmppejflokaaaHas
import Derived.Deep.RegionHeld3
namespace Go.Proofs.Ytbdmppejflokaaa
open Go.RowKit Go.Sort

def turnedP (ps : List Sp) : List Sp := if picB ps then turned ps else []
theorem turnedP_yes {ps : List Sp} (h : picB ps = true) : turnedP ps = turned ps := by unfold turnedP; rw [h]; rfl
theorem turnedP_no {ps : List Sp} (h : picB ps = false) : turnedP ps = [] := by unfold turnedP; rw [h]; rfl
theorem length_turned (ps : List Sp) : (turned ps).length = ps.length := by simp [turned]
theorem turned_at {ps : List Sp} {k : Nat} {x y : Int} (h : ps[k]? = some (x, y)) : (turned ps)[ps.length - 1 - k]? = some (-x, -y) := by
  have hk := (List.getElem?_eq_some_iff.1 h).1
  unfold turned
  rw [List.getElem?_reverse (by simp; omega)]
  simp only [List.length_map, List.getElem?_map]
  rw [show ps.length - 1 - (ps.length - 1 - k) = k by omega, h]
  rfl
/-- the lists agree from k on -/
def AgreeHi (p q : List Sp) (k : Nat) : Prop := ∀ j, k ≤ j → p[j]? = q[j]?
theorem agreeHi_set {p q : List Sp} {k : Nat} {a : Sp} (h : AgreeHi p q (k + 1)) (hk : k < p.length) (hq : q[k]? = some a) : AgreeHi (p.set k a) q k := fun j hj => by
  by_cases e : j = k
  · subst e; rw [hq, List.getElem?_set]; simp [hk]
  · rw [List.getElem?_set]; simp [show ¬ k = j by omega]; exact h j (by omega)
theorem agreeHi_all {p q : List Sp} (h : AgreeHi p q 0) : p = q := List.ext_getElem? fun j => h j (Nat.zero_le _)

theorem turned_take {ps : List Sp} {k : Nat} {x y : Int} (h : ps[ps.length - 1 - k]? = some (x, y)) (hk : k < ps.length) : (turned ps).take k ++ [(-x, -y)] = (turned ps).take (k + 1) := by
  have h1 := turned_at h
  rw [show ps.length - 1 - (ps.length - 1 - k) = k by omega] at h1
  rw [List.take_add_one, h1]; rfl
theorem turned_take_all (ps : List Sp) (k : Nat) (hk : ps.length ≤ k) : (turned ps).take k = turned ps := List.take_of_length_le (by rw [length_turned]; exact hk)

end Go.Proofs.Ytbdmppejflokaaa
