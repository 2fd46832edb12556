/- MovedBy of the model. No conditions but those typed. -/
import Derived.Test.YtfofmfkdkihhbadMove
namespace Go.Proofs.Ytfofmfkdkihhbad
open Go.RowKit Go.Sort

theorem moveOk_spec {p : List Sp} {ax ay : Int} : moveOk p (ax, ay) = (picB p && (picB (movedW p (ax, ay)) && (decide (-60 ≤ ax ∧ ax ≤ 60) && decide (-60 ≤ ay ∧ ay ≤ 60)))) := by
  rcases hp : picB p with _ | _
  · exact (move_no1 hp).1
  · rcases hw : wide (ax, ay) with _ | _
    · rw [(move_no2 hw).1]
      unfold wide at hw
      have hw := of_decide_eq_false hw
      simp only at hw
      have : (decide (-60 ≤ ax ∧ ax ≤ 60) && decide (-60 ≤ ay ∧ ay ≤ 60)) = false := by
        rw [← Bool.decide_and]; exact decide_eq_false (fun h => hw ⟨h.1.1, h.1.2, h.2.1, h.2.2⟩)
      rw [this]; simp
    · rw [moved_eq (picB_pic hp) hw]
      unfold moveOk
      rw [hp, hw]
      unfold wide at hw
      have hw := of_decide_eq_true hw
      simp only at hw
      rw [decide_eq_true (show -60 ≤ ax ∧ ax ≤ 60 from ⟨hw.1, hw.2.1⟩), decide_eq_true (show -60 ≤ ay ∧ ay ≤ 60 from ⟨hw.2.2.1, hw.2.2.2⟩)]
      simp
theorem moveL_spec {p : List Sp} {a : Sp} (h : moveOk p a = true) : moveL p a = movedW p a := by
  have h' := h
  unfold moveOk at h'
  simp only [Bool.and_eq_true] at h'
  rw [moved_eq (picB_pic h'.1.1) h'.1.2]
  unfold moveL; rw [h]; rfl
theorem moveL_no {p : List Sp} {a : Sp} (h : moveOk p a = false) : moveL p a = [] := by unfold moveL; rw [h]; rfl
theorem movedW_take {ps : List Sp} {a : Sp} {k : Nat} {x y : Int} (h : ps[k]? = some (x, y)) : (movedW ps a).take k ++ [(wrap64 (x + a.1), wrap64 (y + a.2))] = (movedW ps a).take (k + 1) := by
  rw [List.take_add_one, movedW_at h]; rfl

end Go.Proofs.Ytfofmfkdkihhbad
