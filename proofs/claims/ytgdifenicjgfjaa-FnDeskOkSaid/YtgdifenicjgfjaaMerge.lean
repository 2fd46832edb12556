/- The program's merge of two lists in order: headOrder, inEither, inBoth, merged. No conditions but those typed. -/
import Derived.Test.YtgdifenicjgfjaaPlain
import Derived.Test.YtgdifenicjgfjaaHas
import Derived.Deep.RegionHeld3
namespace Go.Proofs.Ytgdifenicjgfjaa
open Go.RowKit Go.Sort

theorem gives_int {P : Program} {f : FuncId} {args : Array Value} {w : World} {a b : Int} (h : a = b) (hc : Calls P f args w (Gives (.int .i64 a) w)) : Calls P f args w (Gives (.int .i64 b) w) := h ▸ hc

def headI : List Sp → List Sp → Int
  | [], _ => 1
  | _ :: _, [] => -1
  | a :: _, b :: _ => ordI a b

theorem Reads.zero (w : World) (B : Nat) (ad : Addr) : Reads w B (.slice (some ad) 0 0) [] := ⟨some ad, 0, rfl, by simp, by simp [maxLen], fun h => (by cases h), fun h => by omega⟩

def sliceLen : Value → Nat | .slice _ n _ => n | _ => 0

/-- the relation between two rounds -/
structure MInv (w wr : World) (e : Bool) (p q : List Sp) (v0 v1 v9 : Value) (p' q' o : List Sp) (n : Nat) : Prop where
  r0 : Reads w w.heap.size v0 p'
  r1 : Reads w w.heap.size v1 q'
  own : Owns wr w.heap.size v9 o
  eq : o ++ mergeF e n p' q' = merge e p q
  fuel : p'.length + q'.length ≤ n
  small : o.length + n ≤ p.length + q.length
  below : Below w.heap.size w wr

end Go.Proofs.Ytgdifenicjgfjaa
