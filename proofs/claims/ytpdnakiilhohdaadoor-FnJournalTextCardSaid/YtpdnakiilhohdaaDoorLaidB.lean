/-
  What the rows' listed variables of the library give: the table of powers of ten ('PowOk') and the two sentinels ('ErrOk'). No conditions but those typed.
-/
import Derived.Test.YtpdnakiilhohdaaDoorLibN
import Derived.Test.YtpdnakiilhohdaaDoorTie
import Derived.Test.YtpdnakiilhohdaaDoorCards
import Derived.Lib.LaidTab
import Derived.Stop.LaidErr
import Derived.ProofKit
import Derived.OpenShut
import Derived.LaidMore
import Derived.Lay
import Derived.SevenTiedAt
import Derived.Stop.Joined
namespace Go.Proofs.YtpdnakiilhohdaaDoor
open Go.ChangeShapes Go.WideShapes Go.ChangeAt Go.RowKit

theorem powB_is : (Rows.laid_internal_strconv_uint64pow10 : DataW Unit) = Lib.tabData .u64 Lib.pow10Tab := by kernel_rfl
theorem laidB_pow {r : List (String × DataW Unit)} {W : World} (h : laidMet Tryd.prog ((powName, Rows.laid_internal_strconv_uint64pow10) :: r) W) : PowOk W := by
  rw [powB_is] at h
  exact Lib.tabIs_of_head (g := 3) (by kernel_rfl) (by kernel_rfl) Tryd.underlying132 Tryd.underlying117 (by kernel_rfl) (by kernel_rfl) h
theorem laidB_err {n nm : String} {d : DataW Unit} {r : List (String × DataW Unit)} {W : World} {g : Nat} {ti : TypeId} {ms : Array (String × TypeId)} (h : laidMet Tryd.prog ((n, .iface nm d) :: r) W)
    (hg : Tryd.prog.globalNamed n = some g) (ht : (Tryd.prog.globals[g]?).map (·.type) = some ti) (hi : Tryd.prog.underlying ti = some (.interface ms)) : ∃ tp p, W.cell? ⟨g, 0, none⟩ = some (.iface tp p) := by
  obtain ⟨ps, ⟨g0, t0, cs0, f0, p0, q0, hg0, ht0, hv0, hd0, _, e0⟩, _, _⟩ := h
  obtain rfl := Option.some.inj (hg.symm.trans hg0)
  obtain rfl := Option.some.inj (ht.symm.trans ht0)
  obtain ⟨f1, u, v, e, _, _⟩ := iface_of_trod hi hd0
  obtain ⟨l0⟩ := cs0
  subst e
  exact ⟨u, v, by have := World.var?_cell hg hv0 0; simpa using this⟩
theorem errsB_of {W : World} {n1 n2 m1 m2 : String} {d1 d2 : DataW Unit} {r : List (String × DataW Unit)} (h : laidMet Tryd.prog ((n1, .iface m1 d1) :: (n2, .iface m2 d2) :: r) W)
    (hg1 : Tryd.prog.globalNamed n1 = some 2) (hg2 : Tryd.prog.globalNamed n2 = some 1) : ErrOk W :=
  ⟨laidB_err h.tail hg2 (by kernel_rfl) Tryd.underlying79, laidB_err h hg1 (by kernel_rfl) Tryd.underlying79⟩
theorem varsB5 {W : World} {l : List (String × DataW Unit)} {a b : String × DataW Unit} {n1 n2 : String} (h : laidMet Tryd.prog l W) (e : l = [a, b, (powName, Rows.laid_internal_strconv_uint64pow10), (n1, Rows.laid_strconv_ErrRange), (n2, Rows.laid_strconv_ErrSyntax)])
    (hg1 : Tryd.prog.globalNamed n1 = some 2) (hg2 : Tryd.prog.globalNamed n2 = some 1) : PowOk W ∧ ErrOk W := by
  subst e
  exact ⟨laidB_pow h.tail.tail, errsB_of h.tail.tail.tail hg1 hg2⟩
theorem varsB3 {W : World} {l : List (String × DataW Unit)} {a b : String × DataW Unit} (h : laidMet Tryd.prog l W) (e : l = [a, b, (powName, Rows.laid_internal_strconv_uint64pow10)]) : PowOk W := by
  subst e
  exact laidB_pow h.tail.tail
end Go.Proofs.YtpdnakiilhohdaaDoor
