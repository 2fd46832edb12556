/- PatternOk, FoundIn and ThinnedBy of the model. No conditions but those typed. -/
import Derived.Test.YtfofmfkdkihhbadBordS
import Derived.Test.YtfofmfkdkihhbadCommonS
import Derived.Test.YtfofmfkdkihhbadMove
namespace Go.Proofs.Ytfofmfkdkihhbad
open Go.RowKit Go.Sort

def NoneUpto (ps qs : List Sp) (a : Sp) (k : Nat) : Prop := ∀ j d, j < k → qs[j]? = some d → ¬ addS a d ∈ ps
theorem NoneUpto.next {ps qs : List Sp} {a d : Sp} {k : Nat} (h : NoneUpto ps qs a k) (hd : qs[k]? = some d) (hm : ¬ addS a d ∈ ps) : NoneUpto ps qs a (k + 1) := fun j x hj hx => by
  by_cases e : j = k
  · subst e; rw [hd] at hx; cases hx; exact hm
  · exact h j x (by omega) hx
theorem patAt_no1 {ps t u : List Sp} {a d : Sp} {k : Nat} (hd : t[k]? = some d) (hm : ¬ addS a d ∈ ps) : patAt ps t u a = false := by
  rw [← Bool.not_eq_true, patAt_iff]; exact fun h => hm (h.1 d (List.mem_of_getElem? hd))
theorem patAt_no2 {ps t u : List Sp} {a d : Sp} {k : Nat} (hd : u[k]? = some d) (hm : addS a d ∈ ps) : patAt ps t u a = false := by
  rw [← Bool.not_eq_true, patAt_iff]; exact fun h => h.2 d (List.mem_of_getElem? hd) hm
theorem patAt_yes {ps t u : List Sp} {a : Sp} (h : FitUpto ps t a t.length) (k : NoneUpto ps u a u.length) : patAt ps t u a = true := by
  rw [patAt_iff]
  constructor
  · intro d hd
    obtain ⟨j, hj⟩ := List.mem_iff_getElem?.1 hd
    exact h j d (List.getElem?_eq_some_iff.1 hj).1 hj
  · intro d hd
    obtain ⟨j, hj⟩ := List.mem_iff_getElem?.1 hd
    exact k j d (List.getElem?_eq_some_iff.1 hj).1 hj
theorem l1Has_lit {b : Bool} {ps : List Sp} {v : Value} {ax ay : Int} {w : World} (hk : inP ps (ax, ay) = b) (h : Reads w w.heap.size v ps) (hs : Sorted ps) (hl : ps.length ≤ 1000000) :
    Calls Try.prog 75 #[v, .agg #[.int .i64 ax, .int .i64 ay]] w (Gives (.bool b) w) := by
  subst hk; exact l1Has_any ps v ax ay w h hs hl
def In3 (a : Sp) : Prop := -3 ≤ a.1 ∧ a.1 ≤ 3 ∧ -3 ≤ a.2 ∧ a.2 ≤ 3
def SmallUpto (p : List Sp) (k : Nat) : Prop := ∀ j a, j < k → p[j]? = some a → In3 a
theorem SmallUpto.next {p : List Sp} {k : Nat} {a : Sp} (h : SmallUpto p k) (hd : p[k]? = some a) (hm : In3 a) : SmallUpto p (k + 1) := fun j x hj hx => by
  by_cases e : j = k
  · subst e; rw [hd] at hx; cases hx; exact hm
  · exact h j x (by omega) hx
theorem small3_yes {p : List Sp} (h : SmallUpto p p.length) : small3 p = true := decide_eq_true fun a ha => by
  obtain ⟨j, hj⟩ := List.mem_iff_getElem?.1 ha
  exact h j a (List.getElem?_eq_some_iff.1 hj).1 hj
theorem pat_small_no {t u : List Sp} {k : Nat} {a : Sp} (hd : (t ++ u)[k]? = some a) (h : ¬ In3 a) : patB t u = false := by
  have : small3 (t ++ u) = false := decide_eq_false fun k2 => h (k2 a (List.mem_of_getElem? hd))
  unfold patB; rw [this]; rfl
end Go.Proofs.Ytfofmfkdkihhbad
