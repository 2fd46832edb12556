/- What SumOf, UnionOf, CommonOf, WithinOk and HasSpot answer, as lists of pairs of integers. No program is named. No conditions but those that stand in each theorem. -/
import Derived.Test.YtiifklgfdhhfoaaSums
namespace Go.Proofs.Ytiifklgfdhhfoaa

def sumOk (p q : List Sp) : Bool := picB p && picB q && picB (sumL p q)
def sumR (p q : List Sp) : List Sp := if sumOk p q then sumL p q else []
theorem sum_no1 {p q : List Sp} (h : picB p = false) : sumOk p q = false ∧ sumR p q = [] := by
  have : sumOk p q = false := by unfold sumOk; rw [h]; rfl
  exact ⟨this, by unfold sumR; rw [this]; rfl⟩
theorem sum_no2 {p q : List Sp} (h : picB q = false) : sumOk p q = false ∧ sumR p q = [] := by
  have : sumOk p q = false := by unfold sumOk; rw [h]; simp
  exact ⟨this, by unfold sumR; rw [this]; rfl⟩
theorem sum_no3 {p q : List Sp} (h : picB (sumL p q) = false) : sumOk p q = false ∧ sumR p q = [] := by
  have : sumOk p q = false := by unfold sumOk; rw [h]; simp
  exact ⟨this, by unfold sumR; rw [this]; rfl⟩
theorem sum_yes {p q : List Sp} (h1 : picB p = true) (h2 : picB q = true) (h3 : picB (sumL p q) = true) : sumOk p q = true ∧ sumR p q = sumL p q := by
  have : sumOk p q = true := by unfold sumOk; rw [h1, h2, h3]; rfl
  exact ⟨this, by unfold sumR; rw [this]; rfl⟩

def bothB (p q : List Sp) : Bool := picB p && picB q
def unionOk (p q : List Sp) : Bool := bothB p q && decide ((puts p q).length ≤ 60)
def unionL (p q : List Sp) : List Sp := if unionOk p q then puts p q else []
def commonL (p q : List Sp) : List Sp := if bothB p q then common p q else []
def withinB (p q : List Sp) : Bool := bothB p q && decide ((common p q).length = p.length)
theorem bothB_l {p q : List Sp} (h : picB p = false) : bothB p q = false := by unfold bothB; rw [h]; rfl
theorem bothB_r {p q : List Sp} (h : picB q = false) : bothB p q = false := by unfold bothB; rw [h, Bool.and_false]
theorem bothB_y {p q : List Sp} (h : picB p = true) (k : picB q = true) : bothB p q = true := by unfold bothB; rw [h, k]; rfl
theorem union_no {p q : List Sp} (h : bothB p q = false) : unionOk p q = false ∧ unionL p q = [] := by
  have : unionOk p q = false := by unfold unionOk; rw [h]; rfl
  exact ⟨this, by unfold unionL; rw [this]; rfl⟩
theorem union_big {p q : List Sp} (h : ¬ (puts p q).length ≤ 60) : unionOk p q = false ∧ unionL p q = [] := by
  have : unionOk p q = false := by unfold unionOk; rw [decide_eq_false h, Bool.and_false]
  exact ⟨this, by unfold unionL; rw [this]; rfl⟩
theorem union_yes {p q : List Sp} (h : bothB p q = true) (k : (puts p q).length ≤ 60) : unionOk p q = true ∧ unionL p q = puts p q := by
  have : unionOk p q = true := by unfold unionOk; rw [h, decide_eq_true k]; rfl
  exact ⟨this, by unfold unionL; rw [this]; rfl⟩
theorem common_no {p q : List Sp} (h : bothB p q = false) : commonL p q = [] := by unfold commonL; rw [h]; rfl
theorem common_yes {p q : List Sp} (h : bothB p q = true) : commonL p q = common p q := by unfold commonL; rw [h]; rfl

theorem picB_puts {p q : List Sp} (hp : Pic p) (hq : Pic q) (h : (puts p q).length ≤ 60) : picB (puts p q) = true :=
  decide_eq_true ⟨h, fun a ha => (mem_puts.1 ha).elim (hp.2.1 a) (hq.2.1 a), sorted_puts hp.2.2⟩
theorem picB_puts_no {p q : List Sp} (h : ¬ (puts p q).length ≤ 60) : picB (puts p q) = false := decide_eq_false fun k => h k.1
theorem within_no {p q : List Sp} (h : bothB p q = false) : withinB p q = false := by unfold withinB; rw [h]; rfl
theorem within_yes {p q : List Sp} (h : bothB p q = true) : withinB p q = decide ((common p q).length = p.length) := by unfold withinB; rw [h]; rfl

def hasB (ps : List Sp) (a : Sp) : Bool := picB ps && decide (a ∈ ps)
theorem hasB_no {ps : List Sp} {a : Sp} (h : picB ps = false) : hasB ps a = false := by unfold hasB; rw [h]; rfl
theorem hasB_yes {ps : List Sp} {a : Sp} (h : picB ps = true) : hasB ps a = decide (a ∈ ps) := by unfold hasB; rw [h]; rfl

end Go.Proofs.Ytiifklgfdhhfoaa
