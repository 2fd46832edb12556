/- ShrunkBy of the program. No conditions but those typed. -/
import Derived.Test.YtbbeinhjkfjipaaLess
import Derived.Test.YtbbeinhjkfjipaaFitI
import Derived.Test.YtbbeinhjkfjipaaBetwI
import Derived.Test.YtbbeinhjkfjipaaPlain
import Derived.Test.YtbbeinhjkfjipaaHas2
import Derived.Test.YtbbeinhjkfjipaaTold
namespace Go.Proofs.Ytbbeinhjkfjipaa
open Go.RowKit Go.Sort

theorem shrinkL_nil (q : List Sp) : shrinkL [] q = [] := by cases q <;> rfl
theorem picB_nil : picB [] = true := by decide
theorem shrink_nil {q : List Sp} (h2 : picB q = true) (h3 : q ≠ []) : shrinkOk [] q = true ∧ shrinkR [] q = [] := by
  have h := shrink_yes picB_nil h2 h3 (by rw [shrinkL_nil]; exact picB_nil)
  exact ⟨h.1, by rw [h.2, shrinkL_nil]⟩
theorem nears_of {p : List Sp} (h : picB p = true) : ∀ a ∈ p, NearS a := fun a ha => by
  have := (picB_pic h).2.1 a ha
  unfold InR at this; unfold NearS; omega
theorem fitBox_in {p q : List Sp} (hp : picB p = true) (hq : picB q = true) (p0 : p ≠ []) (q0 : q ≠ []) :
    (-60 ≤ (fitLo p q).1 ∧ (fitLo p q).1 ≤ 60 ∧ -60 ≤ (fitLo p q).2 ∧ (fitLo p q).2 ≤ 60) ∧ (-60 ≤ (fitHi p q).1 ∧ (fitHi p q).1 ≤ 60 ∧ -60 ≤ (fitHi p q).2 ∧ (fitHi p q).2 ≤ 60) := by
  have bp := boxL_in (n := 30) p0 (fun a ha => (picB_pic hp).2.1 a ha)
  have bq := boxL_in (n := 30) q0 (fun a ha => (picB_pic hq).2.1 a ha)
  unfold fitLo fitHi
  simp only []
  omega

end Go.Proofs.Ytbbeinhjkfjipaa
