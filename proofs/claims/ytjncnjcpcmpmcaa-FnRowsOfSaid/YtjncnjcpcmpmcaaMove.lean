/- Texts of one kind, merged: Added, Turn, Move. No conditions but those that stand in each theorem. -/
import Derived.Test.YtjncnjcpcmpmcaaPicWalk
import Derived.Test.YtjncnjcpcmpmcaaPlain
import Derived.Test.YtjncnjcpcmpmcaaEq
import Derived.Test.YtjncnjcpcmpmcaaHas
import Derived.Deep.RegionHeld3
import Derived.Test.YtjncnjcpcmpmcaaTold
namespace Go.Proofs.Ytjncnjcpcmpmcaa
/-! ### Added -/
section
open Go.RowKit
end
/-! ### Turn -/
section
open Go.RowKit Go.Sort

def turnedP (ps : List Sp) : List Sp := if picB ps then turned ps else []
theorem turnedP_yes {ps : List Sp} (h : picB ps = true) : turnedP ps = turned ps := by unfold turnedP; rw [h]; rfl
theorem turnedP_no {ps : List Sp} (h : picB ps = false) : turnedP ps = [] := by unfold turnedP; rw [h]; rfl
theorem length_turned (ps : List Sp) : (turned ps).length = ps.length := by simp [turned]
theorem turned_at {ps : List Sp} {k : Nat} {x y : Int} (h : ps[k]? = some (x, y)) : (turned ps)[ps.length - 1 - k]? = some (-x, -y) := by
  have hk := (List.getElem?_eq_some_iff.1 h).1
  unfold turned
  rw [List.getElem?_reverse (by simp; omega)]
  simp only [List.length_map, List.getElem?_map]
  rw [show ps.length - 1 - (ps.length - 1 - k) = k by omega, h]
  rfl
/-- the lists agree from k on -/
def AgreeHi (p q : List Sp) (k : Nat) : Prop := ∀ j, k ≤ j → p[j]? = q[j]?
theorem agreeHi_set {p q : List Sp} {k : Nat} {a : Sp} (h : AgreeHi p q (k + 1)) (hk : k < p.length) (hq : q[k]? = some a) : AgreeHi (p.set k a) q k := fun j hj => by
  by_cases e : j = k
  · subst e; rw [hq, List.getElem?_set]; simp [hk]
  · rw [List.getElem?_set]; simp [show ¬ k = j by omega]; exact h j (by omega)
theorem agreeHi_all {p q : List Sp} (h : AgreeHi p q 0) : p = q := List.ext_getElem? fun j => h j (Nat.zero_le _)

theorem turned_take {ps : List Sp} {k : Nat} {x y : Int} (h : ps[ps.length - 1 - k]? = some (x, y)) (hk : k < ps.length) : (turned ps).take k ++ [(-x, -y)] = (turned ps).take (k + 1) := by
  have h1 := turned_at h
  rw [show ps.length - 1 - (ps.length - 1 - k) = k by omega] at h1
  rw [List.take_add_one, h1]; rfl
theorem turned_take_all (ps : List Sp) (k : Nat) (hk : ps.length ≤ k) : (turned ps).take k = turned ps := List.take_of_length_le (by rw [length_turned]; exact hk)

end
/-! ### Move -/
section
open Go.RowKit Go.Sort

/-- moved, as int's arithmetic has it -/
def movedW (p : List Sp) (a : Sp) : List Sp := p.map fun b => (wrap64 (b.1 + a.1), wrap64 (b.2 + a.2))
def wide (a : Sp) : Bool := decide (-60 ≤ a.1 ∧ a.1 ≤ 60 ∧ -60 ≤ a.2 ∧ a.2 ≤ 60)
def moveOk (p : List Sp) (a : Sp) : Bool := picB p && wide a && picB (moved p a)
def moveL (p : List Sp) (a : Sp) : List Sp := if moveOk p a then moved p a else []
theorem moved_at {p : List Sp} {a : Sp} {k : Nat} {x y : Int} (h : p[k]? = some (x, y)) : (moved p a)[k]? = some (x + a.1, y + a.2) := by
  unfold moved; rw [List.getElem?_map, h]; rfl
theorem movedW_at {p : List Sp} {a : Sp} {k : Nat} {x y : Int} (h : p[k]? = some (x, y)) : (movedW p a)[k]? = some (wrap64 (x + a.1), wrap64 (y + a.2)) := by
  unfold movedW; rw [List.getElem?_map, h]; rfl
theorem length_moved (p : List Sp) (a : Sp) : (moved p a).length = p.length := by simp [moved]
theorem length_movedW (p : List Sp) (a : Sp) : (movedW p a).length = p.length := by simp [movedW]
theorem moved_eq {p : List Sp} {a : Sp} (hp : Pic p) (ha : wide a = true) : movedW p a = moved p a := by
  unfold movedW moved
  refine List.map_congr_left fun b hb => ?_
  have hi := hp.2.1 b hb
  have hw := of_decide_eq_true ha
  unfold InR at hi
  rw [IntWalk.wrap64_in _ (by omega), IntWalk.wrap64_in _ (by omega)]
theorem move_no1 {p : List Sp} {a : Sp} (h : picB p = false) : moveOk p a = false ∧ moveL p a = [] := by
  have : moveOk p a = false := by unfold moveOk; rw [h]; rfl
  exact ⟨this, by unfold moveL; rw [this]; rfl⟩
theorem move_no2 {p : List Sp} {a : Sp} (h : wide a = false) : moveOk p a = false ∧ moveL p a = [] := by
  have : moveOk p a = false := by unfold moveOk; rw [h]; simp
  exact ⟨this, by unfold moveL; rw [this]; rfl⟩
theorem move_no3 {p : List Sp} {a : Sp} (h : picB (moved p a) = false) : moveOk p a = false ∧ moveL p a = [] := by
  have : moveOk p a = false := by unfold moveOk; rw [h]; simp
  exact ⟨this, by unfold moveL; rw [this]; rfl⟩
theorem move_yes {p : List Sp} {a : Sp} (h1 : picB p = true) (h2 : wide a = true) (h3 : picB (moved p a) = true) : moveOk p a = true ∧ moveL p a = moved p a := by
  have : moveOk p a = true := by unfold moveOk; rw [h1, h2, h3]; rfl
  exact ⟨this, by unfold moveL; rw [this]; rfl⟩

theorem inB_wide (x y : Int) : inB x y 60 = wide (x, y) := rfl

end
end Go.Proofs.Ytjncnjcpcmpmcaa
