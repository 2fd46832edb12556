/-
  Words for memory and for what a call does, over this seat's program: 'Gives' (the call hands back this value and leaves all old memory as it was), 'Reads' (a slice value reads as a list of spots), 'Owns' (a slice made by the call holds a list of spots). Plain theorems, no conditions but those typed.
-/
import Derived.Test.YtpdnakiilhohdaaDoorRows
import Derived.Test.YtpdnakiilhohdaaDoorPlain
import Derived.WalkKit
import Derived.Lib.QuietBelow
import Derived.Lib.Hide
namespace Go.Proofs.YtpdnakiilhohdaaDoor
open Go.RowKit Go.Sort

/-- The call hands back v; all blocks that were there are as they were. -/
def Gives (v : Value) (w : World) (e : Ending) (w' : World) : Prop := e = .returned v ∧ Below w.heap.size w w'

theorem ret_bool {a b : Bool} (h : a = b) : Ending.returned (.bool a) = .returned (.bool b) := by rw [h]
theorem ret_int {a b : Int} (h : a = b) : Ending.returned (.int .i64 a) = .returned (.int .i64 b) := by rw [h]

theorem Below.trans' {B : Nat} {a b c : World} (h : Below B a b) (k : Below b.heap.size b c) (hB : B ≤ b.heap.size) : Below B a c := h.trans (k.mono hB)

/-- the value that is handed back, by another name -/
theorem gives_is {P : Program} {f : FuncId} {args : Array Value} {w : World} {a b : Bool} (h : a = b) (hc : Calls P f args w (Gives (.bool a) w)) : Calls P f args w (Gives (.bool b) w) := h ▸ hc
theorem below_step {w w1 w2 : World} (h : Below w.heap.size w w1) (k : Below w1.heap.size w1 w2) : Below w.heap.size w w2 := h.trans (k.mono h.size)

/-- 'Gives' inside a region that draws: in whatever world that still holds the old memory. -/
theorem gives_regrown {P : Program} {f : FuncId} {args : Array Value} {w : World} {v : Value} (h : ∀ w1, Below w.heap.size w w1 → Calls P f args w1 (Gives v w1)) (d : Nat) (os : Array Obj) :
    Calls P f args (grow (redrawn w d) os) fun e w'' => e = .returned v ∧ ∃ p : Regrown, w'' = grow (redrawn w p.d) p.os :=
  Calls.regrown_of ((h _ (below_regrown w d os)).mono fun _ _ hh => hh)

def spv (a : Sp) : Value := .agg #[.int .i64 a.1, .int .i64 a.2]
def flat (ps : List Sp) : List Value := ps.flatMap fun a => [.int .i64 a.1, .int .i64 a.2]

theorem flat_nil : flat [] = [] := rfl
theorem flat_cons (a : Sp) (ps : List Sp) : flat (a :: ps) = .int .i64 a.1 :: .int .i64 a.2 :: flat ps := rfl
theorem flat_append (p q : List Sp) : flat (p ++ q) = flat p ++ flat q := by simp [flat]
theorem flat_length : ∀ ps : List Sp, (flat ps).length = ps.length * 2
  | [] => rfl
  | a :: ps => by rw [flat_cons]; simp [flat_length ps]; omega
theorem flat_at0 : ∀ {ps : List Sp} {k : Nat} {x y : Int}, ps[k]? = some (x, y) → (flat ps)[k * 2]? = some (.int .i64 x)
  | a :: ps, 0, x, y, h => by cases h; rfl
  | a :: ps, k + 1, x, y, h => by
    have : (k + 1) * 2 = k * 2 + 1 + 1 := by omega
    rw [this, flat_cons, List.getElem?_cons_succ, List.getElem?_cons_succ]
    exact flat_at0 (by simpa using h)
theorem flat_at1 : ∀ {ps : List Sp} {k : Nat} {x y : Int}, ps[k]? = some (x, y) → (flat ps)[k * 2 + 1]? = some (.int .i64 y)
  | a :: ps, 0, x, y, h => by cases h; rfl
  | a :: ps, k + 1, x, y, h => by
    have : (k + 1) * 2 + 1 = (k * 2 + 1) + 1 + 1 := by omega
    rw [this, flat_cons, List.getElem?_cons_succ, List.getElem?_cons_succ]
    exact flat_at1 (by simpa using h)
theorem flat_one : ∀ (ps : List Sp), ∀ u ∈ flat ps, u.oneCell' = true := by
  intro ps u hu
  obtain ⟨a, _, ha⟩ := List.mem_flatMap.1 hu
  simp at ha
  rcases ha with rfl | rfl <;> rfl
theorem flat_drop : ∀ (ps : List Sp) (n : Nat), flat (ps.drop n) = (flat ps).drop (n * 2)
  | ps, 0 => by simp
  | [], n + 1 => by simp [flat]
  | a :: ps, n + 1 => by
    have : (n + 1) * 2 = n * 2 + 1 + 1 := by omega
    rw [this, flat_cons, List.drop_succ_cons, List.drop_succ_cons, List.drop_succ_cons]
    exact flat_drop ps n
theorem flat_take : ∀ (ps : List Sp) (n : Nat), flat (ps.take n) = (flat ps).take (n * 2)
  | ps, 0 => by simp [flat]
  | [], n + 1 => by simp [flat]
  | a :: ps, n + 1 => by
    have : (n + 1) * 2 = n * 2 + 1 + 1 := by omega
    rw [this, flat_cons, List.take_succ_cons, List.take_succ_cons, List.take_succ_cons, flat_cons, flat_take ps n]

/-- A slice of spots: n of them, at block b from cell off on (asked only where there is one). -/
structure Reads (w : World) (B : Nat) (v : Value) (ps : List Sp) : Prop where
  is : ∃ A c, v = .slice A ps.length c ∧ ps.length ≤ c ∧ c ≤ maxLen ∧ (A = none → c = 0) ∧
    (0 < c → ∃ b off, A = some ⟨b, off, none⟩ ∧ b < B ∧ ∀ k x y, ps[k]? = some (x, y) → w.cell? ⟨b, off + k * 2, none⟩ = some (.int .i64 x) ∧ w.cell? ⟨b, off + k * 2 + 1, none⟩ = some (.int .i64 y))

theorem Reads.below {w w' : World} {B : Nat} {v : Value} {ps : List Sp} (h : Reads w B v ps) (hb : Below B w w') : Reads w' B v ps := by
  obtain ⟨A, c, h1, h2, h3, h4, h5⟩ := h.is
  refine ⟨A, c, h1, h2, h3, h4, fun hc => ?_⟩
  obtain ⟨b, off, h6, h7, h8⟩ := h5 hc
  exact ⟨b, off, h6, h7, fun k x y hk => ⟨(hb.cell h7).trans (h8 k x y hk).1, (hb.cell h7).trans (h8 k x y hk).2⟩⟩
theorem Reads.more {w : World} {B B' : Nat} {v : Value} {ps : List Sp} (h : Reads w B v ps) (hB : B ≤ B') : Reads w B' v ps := by
  obtain ⟨A, c, h1, h2, h3, h4, h5⟩ := h.is
  refine ⟨A, c, h1, h2, h3, h4, fun hc => ?_⟩
  obtain ⟨b, off, h6, h7, h8⟩ := h5 hc
  exact ⟨b, off, h6, by omega, h8⟩
/-- behind a call that leaves old memory alone -/
theorem Reads.kept {w w' : World} {v : Value} {ps : List Sp} (h : Reads w w.heap.size v ps) (hb : Below w.heap.size w w') : Reads w' w'.heap.size v ps := (h.below hb).more hb.size

/-- A slice that the call itself made: blocks from 'base' on. -/
def Owns (w : World) (base : Nat) (v : Value) (ps : List Sp) : Prop := w.ownsRow base 58 2 v ps.length (flat ps)
/-- a slice of the call's own and a Boolean are handed back -/
def Gives2' (ps : List Sp) (b : Bool) (w : World) (e : Ending) (w' : World) : Prop := ∃ v', e = .returned (.tuple #[v', .bool b]) ∧ Owns w' w.heap.size v' ps ∧ Below w.heap.size w w'

theorem Owns.reads {w : World} {base : Nat} {v : Value} {ps : List Sp} (h : Owns w base v ps) : Reads w w.heap.size v ps := by
  obtain ⟨_, h2⟩ := h
  rcases h2 with ⟨rfl, h0⟩ | ⟨g, cap, cur, rfl, _, hg, hn, hc, hs, ht⟩
  · exact ⟨none, 0, by rw [h0], by omega, by simp [maxLen], fun _ => rfl, fun h => by omega⟩
  · refine ⟨some ⟨g, 0, none⟩, cap, rfl, hn, hc, fun h => (by cases h), fun _ => ⟨g, 0, rfl, (Array.getElem?_eq_some_iff.1 hg).1, fun k x y hk => ?_⟩⟩
    have hk' : k < ps.length := (List.getElem?_eq_some_iff.1 hk).1
    have c0 := flat_at0 hk
    have c1 := flat_at1 hk
    rw [← ht, List.getElem?_take, if_pos (by omega)] at c0 c1
    constructor
    · rw [cell_of_row w g _ cur _ (0, 0) hg, Nat.zero_add]; simpa using c0
    · rw [cell_of_row w g _ cur _ (0, 0) hg, Nat.zero_add]; simpa using c1

theorem Owns.below {w w' : World} {base : Nat} {v : Value} {ps : List Sp} (h : Owns w base v ps) (hb : Below w.heap.size w w') : Owns w' base v ps := by
  refine ⟨h.1, ?_⟩
  rcases h.2 with h0 | ⟨g, cap, cur, rfl, h1, hg, h2⟩
  · exact .inl h0
  · exact .inr ⟨g, cap, cur, rfl, h1, (hb.block g (Array.getElem?_eq_some_iff.1 hg).1).trans hg, h2⟩
theorem Owns.base {w : World} {base base' : Nat} {v : Value} {ps : List Sp} (h : Owns w base v ps) (hb : base' ≤ base) : Owns w base' v ps := by
  refine ⟨h.1, ?_⟩
  rcases h.2 with h0 | ⟨g, cap, cur, rfl, h1, h2⟩
  · exact .inl h0
  · exact .inr ⟨g, cap, cur, rfl, by omega, h2⟩
theorem Owns.lt {w : World} {base : Nat} {v : Value} {ps : List Sp} (h : Owns w base v ps) : ∀ k, v.ownBlock = some k → base ≤ k ∧ k < w.heap.size := World.ownsRow.lt h
end Go.Proofs.YtpdnakiilhohdaaDoor
