/-
  What the rows' listed variables of the library give: the table of powers of ten ('PowOk') and the two sentinels ('ErrOk'). No conditions but those typed.
-/
import Derived.Test.YtjncnjcpcmpmcaaDoorLibT
import Derived.Test.YtjncnjcpcmpmcaaDoorTie
import Derived.Test.YtjncnjcpcmpmcaaDoorCards
import Derived.Lib.LaidTab
import Derived.Stop.LaidErr
import Derived.ProofKit
import Derived.OpenShut
import Derived.LaidMore
import Derived.Lay
import Derived.SevenTiedAt
import Derived.Stop.Joined
namespace Go.Proofs.YtjncnjcpcmpmcaaDoor
open Go.ChangeShapes Go.WideShapes Go.ChangeAt Go.RowKit

theorem pow_is : (Rows.laid_internal_strconv_uint64pow10 : DataW Unit) = Lib.tabData .u64 Lib.pow10Tab := by kernel_rfl
theorem laid_pow {r : List (String × DataW Unit)} {W : World} (h : laidMet Tryd.prog ((powName, Rows.laid_internal_strconv_uint64pow10) :: r) W) : PowOk W := by
  rw [pow_is] at h
  exact Lib.tabIs_of_head (g := 0) (by kernel_rfl) (by kernel_rfl) Tryd.underlying147 Tryd.underlying131 (by kernel_rfl) (by kernel_rfl) h
theorem laid_err {n nm : String} {d : DataW Unit} {r : List (String × DataW Unit)} {W : World} {g : Nat} {ti : TypeId} {ms : Array (String × TypeId)} (h : laidMet Tryd.prog ((n, .iface nm d) :: r) W)
    (hg : Tryd.prog.globalNamed n = some g) (ht : (Tryd.prog.globals[g]?).map (·.type) = some ti) (hi : Tryd.prog.underlying ti = some (.interface ms)) : ∃ tp p, W.cell? ⟨g, 0, none⟩ = some (.iface tp p) := by
  obtain ⟨ps, ⟨g0, t0, cs0, f0, p0, q0, hg0, ht0, hv0, hd0, _, e0⟩, _, _⟩ := h
  obtain rfl := Option.some.inj (hg.symm.trans hg0)
  obtain rfl := Option.some.inj (ht.symm.trans ht0)
  obtain ⟨f1, u, v, e, _, _⟩ := iface_of_trod hi hd0
  obtain ⟨l0⟩ := cs0
  subst e
  exact ⟨u, v, by have := World.var?_cell hg hv0 0; simpa using this⟩
theorem errs_of {W : World} {n1 n2 m1 m2 : String} {d1 d2 : DataW Unit} {r : List (String × DataW Unit)} (h : laidMet Tryd.prog ((n1, .iface m1 d1) :: (n2, .iface m2 d2) :: r) W)
    (hg1 : Tryd.prog.globalNamed n1 = some 5) (hg2 : Tryd.prog.globalNamed n2 = some 4) : ErrOk W :=
  ⟨laid_err h.tail hg2 (by kernel_rfl) Tryd.underlying78, laid_err h hg1 (by kernel_rfl) Tryd.underlying78⟩
theorem vars5 {W : World} (h : laidMet Tryd.prog Rows.fnTextOfRow.laid W) : PowOk W ∧ ErrOk W :=
  have h' : laidMet Tryd.prog [_, _, (powName, Rows.laid_internal_strconv_uint64pow10), (_, Rows.laid_strconv_ErrRange), (_, Rows.laid_strconv_ErrSyntax)] W := h
  ⟨laid_pow h'.tail.tail, errs_of h'.tail.tail.tail (by kernel_rfl) (by kernel_rfl)⟩
theorem vars3 {W : World} (h : laidMet Tryd.prog Rows.fnExactTextOfRow.laid W) : PowOk W :=
  have h' : laidMet Tryd.prog [_, _, (powName, Rows.laid_internal_strconv_uint64pow10)] W := h
  laid_pow h'.tail.tail
theorem vars7 {W : World} (h : laidMet Tryd.prog Rows.fnShortRowRow.laid W) : PowOk W ∧ ErrOk W :=
  have h' : laidMet Tryd.prog [_, _, (powName, Rows.laid_internal_strconv_uint64pow10), _, (_, Rows.laid_strconv_ErrRange), (_, Rows.laid_strconv_ErrSyntax), _] W := h
  ⟨laid_pow h'.tail.tail, errs_of h'.tail.tail.tail.tail (by kernel_rfl) (by kernel_rfl)⟩
end Go.Proofs.YtjncnjcpcmpmcaaDoor
