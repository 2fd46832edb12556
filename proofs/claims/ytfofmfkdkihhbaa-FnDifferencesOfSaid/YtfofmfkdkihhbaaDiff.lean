/- DoubledOf and DifferencesOf of the program and of the model. No conditions but those typed. -/
import Derived.Test.YtfofmfkdkihhbaaSumS
import Derived.Test.YtfofmfkdkihhbaaSumI
import Derived.Test.YtfofmfkdkihhbaaMove
namespace Go.Proofs.Ytfofmfkdkihhbaa
open Go.RowKit Go.Sort

theorem implDoubled_any (ps : List Sp) (v : Value) (w : World) (h : Reads w w.heap.size v ps) :
    Calls Try.prog 25 #[v] w (Gives2' (sumR ps ps) (sumOk ps ps) w) := by
  obtain ⟨A, c, rfl, _⟩ := h.is
  go_enter Try.func25, Try.ntmps25
  go_wp2_with fail
  refine (implSum_any ps ps _ _ _ h h).mono ?_
  rintro e w1 ⟨v1, rfl, own1, b1⟩
  go_wp2
  go_ret2
  exact ⟨_, rfl, own1, b1⟩
theorem specDoubled_any (ps : List Sp) (v : Value) (w : World) (h : Reads w w.heap.size v ps) :
    Calls Try.prog 26 #[v] w (Gives2' (sumR ps ps) (sumOk ps ps) w) := by
  obtain ⟨A, c, rfl, _⟩ := h.is
  go_enter Try.func26, Try.ntmps26
  go_wp2_with fail
  refine (specSum_any ps ps _ _ _ h h).mono ?_
  rintro e w1 ⟨v1, rfl, own1, b1⟩
  go_wp2
  go_ret2
  exact ⟨_, rfl, own1, b1⟩
def diffR (ps : List Sp) : List Sp := sumR ps (turnedP ps)
def diffOk (ps : List Sp) : Bool := sumOk ps (turnedP ps)
theorem implDiff_any (ps : List Sp) (v : Value) (w : World) (h : Reads w w.heap.size v ps) :
    Calls Try.prog 28 #[v] w (Gives2' (diffR ps) (diffOk ps) w) := by
  obtain ⟨A, c, rfl, _⟩ := h.is
  go_enter Try.func28, Try.ntmps28
  go_wp2_with fail
  refine (implTurned_any ps _ _ h).mono ?_
  rintro e w1 ⟨v1, rfl, own1, b1⟩
  go_wp2_with fail
  refine (implSum_any ps (turnedP ps) _ _ _ (h.kept b1) own1.reads).mono ?_
  rintro e w2 ⟨v2, rfl, own2, b2⟩
  go_wp2
  go_ret2
  exact ⟨_, rfl, own2.base b1.size, below_step b1 b2⟩
theorem specDiff_any (ps : List Sp) (v : Value) (w : World) (h : Reads w w.heap.size v ps) (hsm : ps.length ≤ 1100000) :
    Calls Try.prog 29 #[v] w (Gives2' (diffR ps) (diffOk ps) w) := by
  obtain ⟨A, c, rfl, _⟩ := h.is
  go_enter Try.func29, Try.ntmps29
  go_wp2_with fail
  refine (specTurned_any ps _ _ h hsm).mono ?_
  rintro e w1 ⟨v1, rfl, own1, b1⟩
  go_wp2_with fail
  refine (specSum_any ps (turnedP ps) _ _ _ (h.kept b1) own1.reads).mono ?_
  rintro e w2 ⟨v2, rfl, own2, b2⟩
  go_wp2
  go_ret2
  exact ⟨_, rfl, own2.base b1.size, below_step b1 b2⟩
end Go.Proofs.Ytfofmfkdkihhbaa
