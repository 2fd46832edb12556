/- The program's merge of two lists in order: headOrder, inEither, inBoth, merged. No conditions but those typed. -/
import Derived.Test.YtkiidmdgdjphjaaGreatPlain
import Derived.Test.YtkiidmdgdjphjaaGreatHas
import Derived.Deep.RegionHeld3
namespace Go.Proofs.YtkiidmdgdjphjaaGreat
open Go.RowKit Go.Sort

theorem gives_int {P : Program} {f : FuncId} {args : Array Value} {w : World} {a b : Int} (h : a = b) (hc : Calls P f args w (Gives (.int .i64 a) w)) : Calls P f args w (Gives (.int .i64 b) w) := h ▸ hc

theorem inEither_any (a b : Bool) (w : World) : Calls Tryz.prog 80 #[.bool a, .bool b] w (Gives (.bool (a || b)) w) := by
  cases a <;> cases b
  all_goals
    go_enter Tryz.func80, Tryz.ntmps80
    go_wp2
    go_ret
    exact ⟨rfl, Below.refl _ _⟩
theorem inBoth_any (a b : Bool) (w : World) : Calls Tryz.prog 55 #[.bool a, .bool b] w (Gives (.bool (a && b)) w) := by
  cases a <;> cases b
  all_goals
    go_enter Tryz.func55, Tryz.ntmps55
    go_wp2
    go_ret
    exact ⟨rfl, Below.refl _ _⟩

def headI : List Sp → List Sp → Int
  | [], _ => 1
  | _ :: _, [] => -1
  | a :: _, b :: _ => ordI a b

theorem headOrder_any (p q : List Sp) (v v' : Value) (w : World) (h : Reads w w.heap.size v p) (h' : Reads w w.heap.size v' q) :
    Calls Tryz.prog 78 #[v, v', .func (.func 52) #[] #[]] w (Gives (.int .i64 (headI p q)) w) := by
  obtain ⟨A, c, rfl, hc, hm, hA, hr⟩ := h.is
  obtain ⟨A', c', rfl, hc', hm', hA', hr'⟩ := h'.is
  unfold maxLen at hm hm'
  match p, q with
  | [], q =>
    go_enter Tryz.func78, Tryz.ntmps78
    go_wp2
    go_ret
    exact ⟨rfl, Below.refl _ _⟩
  | a :: p, [] =>
    have e0 : (((a :: p).length : Int) == 0) = false := beq_eq_false_iff_ne.2 (by simp; omega)
    go_enter Tryz.func78, Tryz.ntmps78
    go_wp2
    go_ret
    exact ⟨rfl, Below.refl _ _⟩
  | (x, y) :: p, (u, t) :: q =>
    have hl1 : 0 < ((x, y) :: p).length := by simp
    have hl2 : 0 < ((u, t) :: q).length := by simp
    obtain ⟨b, off, rfl, hb, hcell⟩ := hr (by omega)
    obtain ⟨b', off', rfl, hb', hcell'⟩ := hr' (by omega)
    obtain ⟨c0, c1⟩ := hcell 0 x y rfl
    obtain ⟨c2, c3⟩ := hcell' 0 u t rfl
    simp only [Nat.zero_mul, Nat.add_zero] at c0 c1 c2 c3
    have d0 := cell_regrown c0
    have d1 := cell_regrown c1
    have d2 := cell_regrown c2
    have d3 := cell_regrown c3
    generalize ((x, y) :: p).length = n1 at *
    generalize ((u, t) :: q).length = n2 at *
    have e1 : ((n1 : Int) == 0) = false := beq_eq_false_iff_ne.2 (by omega)
    have e2 : ((n2 : Int) == 0) = false := beq_eq_false_iff_ne.2 (by omega)
    go_enter Tryz.func78, Tryz.ntmps78
    go_wp2
    refine wp_region_quiet_below (by kernel_rfl) (by kernel_rfl) ?_
    repeat (go_big_quiet_step (first | (go_at_call 52; exact gives_regrown (fun w1 _ => rowOrder_any x y u t w1) _ _)))
    refine wpQuiet_nil ?_
    intro _ hw'
    obtain ⟨⟨dq, osq⟩, hw''⟩ := hw'
    subst hw''
    go_wp2
    go_ret
    exact ⟨rfl, below_regrown _ _ _⟩

theorem Reads.zero (w : World) (B : Nat) (ad : Addr) : Reads w B (.slice (some ad) 0 0) [] := ⟨some ad, 0, rfl, by simp, by simp [maxLen], fun h => (by cases h), fun h => by omega⟩

def sliceLen : Value → Nat | .slice _ n _ => n | _ => 0

/-- the relation between two rounds -/
structure MInv (w wr : World) (e : Bool) (p q : List Sp) (v0 v1 v9 : Value) (p' q' o : List Sp) (n : Nat) : Prop where
  r0 : Reads w w.heap.size v0 p'
  r1 : Reads w w.heap.size v1 q'
  own : Owns wr w.heap.size v9 o
  eq : o ++ mergeF e n p' q' = merge e p q
  fuel : p'.length + q'.length ≤ n
  small : o.length + n ≤ p.length + q.length
  below : Below w.heap.size w wr

end Go.Proofs.YtkiidmdgdjphjaaGreat
