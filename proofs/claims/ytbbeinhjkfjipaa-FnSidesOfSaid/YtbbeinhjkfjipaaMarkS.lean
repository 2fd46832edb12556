/- Texts of one kind, merged: Ones, PlaceS, MarkS, ReachS. No conditions but those that stand in each theorem. -/
import Derived.Test.YtbbeinhjkfjipaaOnes
import Derived.Test.YtbbeinhjkfjipaaHas2
import Derived.Test.YtbbeinhjkfjipaaFarS
import Derived.Test.YtbbeinhjkfjipaaPlain
import Derived.Test.YtbbeinhjkfjipaaSpots
import Derived.Deep.LoopGhost
import Derived.Deep.RegionHeld3
import Derived.Test.YtbbeinhjkfjipaaCommonS
namespace Go.Proofs.Ytbbeinhjkfjipaa
/-! ### PlaceS -/
section
open Go.RowKit Go.Sort

theorem ret_beq {P : Program} {f : FuncId} {args : Array Value} {w : World} {b c : Bool} (h : b = c) (hc : Calls P f args w (Gives (.bool b) w)) : Calls P f args w (Gives (.bool c) w) := h ▸ hc
/-- the place of a spot in a list, or -1 -/
def PlaceIs (ps : List Sp) (a : Sp) (i : Int) : Prop := (∃ k : Nat, i = (k : Int) ∧ ps[k]? = some a) ∨ (i = -1 ∧ ¬ a ∈ ps)
theorem placeIs_no {ps : List Sp} {a : Sp} (h : decide (a ∈ ps) = false) : PlaceIs ps a (-1) := .inr ⟨rfl, of_decide_eq_false h⟩
def GivesPlace (ps : List Sp) (a : Sp) (w : World) (e : Ending) (w' : World) : Prop := (∃ i : Int, e = .returned (.int .i64 i) ∧ PlaceIs ps a i) ∧ Below w.heap.size w w'
end
/-! ### MarkS -/
section
open Go.RowKit Go.Sort

def boolsV (l : List Bool) : List Value := l.map fun b => .bool b
def intsV (l : List Nat) : List Value := l.map fun (k : Nat) => .int .i64 (k : Int)
theorem boolsV_length (l : List Bool) : (boolsV l).length = l.length := List.length_map _
theorem intsV_length (l : List Nat) : (intsV l).length = l.length := List.length_map _
theorem boolsV_at {l : List Bool} {k : Nat} {b : Bool} (h : l[k]? = some b) : (boolsV l)[k]? = some (.bool b) := by unfold boolsV; rw [List.getElem?_map, h]; rfl
theorem boolsV_set (l : List Bool) (k : Nat) (b : Bool) : (boolsV l).set k (.bool b) = boolsV (l.set k b) := by unfold boolsV; rw [List.map_set]
theorem intsV_append (l m : List Nat) : intsV (l ++ m) = intsV l ++ intsV m := List.map_append
theorem intsV_last (l : List Nat) (k : Nat) : (intsV (l ++ [k]))[l.length]? = some (.int .i64 (k : Int)) := by
  unfold intsV
  rw [List.getElem?_map, List.getElem?_append_right (Nat.le_refl _), Nat.sub_self]; rfl
theorem intsV_take (l : List Nat) (k : Nat) : (intsV (l ++ [k])).take l.length = intsV l := by
  unfold intsV
  rw [← List.map_take, List.take_left]
theorem boolsV_replicate (n : Nat) : List.replicate n (Value.bool false) = boolsV (List.replicate n false) := by
  unfold boolsV; rw [List.map_replicate]
/-- the state between two rounds -/
structure MarkW (e : Bool) (p : List Sp) (sn0 : List Bool) (s : Sp) (w wr : World) (base g n cap : Nat) (t : Value) (k : Nat) (m : Int) (sn : List Bool) (td : List Nat) : Prop where
  I : MarkI e p sn0 s sn td k m
  so : VOwns 4 wr base (.slice (some ⟨g, 0, none⟩) n cap) (boolsV sn)
  to : VOwns 3 wr w.heap.size t (intsV td)
  gr : w.grownBy wr (some g)
theorem MarkW.below {e : Bool} {p : List Sp} {sn0 : List Bool} {s : Sp} {w wr w' : World} {base g n cap : Nat} {t : Value} {k : Nat} {m : Int} {sn : List Bool} {td : List Nat} (M : MarkW e p sn0 s w wr base g n cap t k m sn td) (hb : Below wr.heap.size wr w') : MarkW e p sn0 s w w' base g n cap t k m sn td := ⟨M.I, M.so.below hb, M.to.below hb, grown_below M.gr hb⟩
theorem MarkW.by {e : Bool} {p : List Sp} {sn0 : List Bool} {s : Sp} {w wr : World} {base g n cap : Nat} {t : Value} {k : Nat} {m m' : Int} {sn : List Bool} {td : List Nat} (M : MarkW e p sn0 s w wr base g n cap t k m sn td) (I : MarkI e p sn0 s sn td k m') : MarkW e p sn0 s w wr base g n cap t k m' sn td := ⟨I, M.so, M.to, M.gr⟩
theorem off_at (px py xx yy : Int) : offI (px, py) (px + xx, py + yy) = (yy + 1) * 3 + (xx + 1) := by unfold offI; simp only []; omega
theorem VOwns.notat {T : TypeId} {w : World} {base g : Nat} {v : Value} {l : List Value} (h : VOwns T w base v l) (hg : g < base) : v.ownBlock = none ∨ v.ownBlock ≠ some g := by
  cases hv : v.ownBlock with
  | none => exact .inl rfl
  | some k => exact .inr fun e => by have := (h.lt k hv).1; injection e with e; omega
def MarkPost (e : Bool) (p : List Sp) (sn0 : List Bool) (s : Sp) (w : World) (base g n cap : Nat) (en : Ending) (w' : World) : Prop :=
  en = .returned (.tuple #[]) ∧ ∃ sn k, MarkI e p sn0 s sn [] k 9 ∧ VOwns 4 w' base (.slice (some ⟨g, 0, none⟩) n cap) (boolsV sn) ∧ w.grownBy w' (some g)
end
/-! ### ReachS -/
section
open Go.RowKit Go.Sort

theorem Owns.apartV {w : World} {base' g n cap : Nat} {u : Value} {ps : List Sp} (k : Owns w base' u ps) (hg : g < base') : (Value.slice (some ⟨g, 0, none⟩) n cap).ownBlock = none ∨ (Value.slice (some ⟨g, 0, none⟩) n cap).ownBlock ≠ u.ownBlock :=
  .inr fun e => by have := (k.lt g e.symm).1; omega
end
end Go.Proofs.Ytbbeinhjkfjipaa
