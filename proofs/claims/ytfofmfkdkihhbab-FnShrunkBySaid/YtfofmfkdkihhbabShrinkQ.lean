/- What the laws of chapter 3 say, as lists of pairs of integers. No program is named. No conditions but those that stand in each theorem. -/
import Derived.Test.YtfofmfkdkihhbabPlain
import Derived.Test.YtfofmfkdkihhbabPics3
import Derived.Test.YtfofmfkdkihhbabMove
namespace Go.Proofs.Ytfofmfkdkihhbab

theorem picB_shrinkR {p q : List Sp} (h : shrinkOk p q = true) : picB (shrinkR p q) = true := by rw [(shrink_is h).eq]; exact (shrink_is h).ps
theorem picB_sumR {p q : List Sp} (h : sumOk p q = true) : picB (sumR p q) = true := by rw [(sum_is h).eq]; exact (sum_is h).ps
theorem grownShrunk_told {p q : List Sp} (h : grownShrunkOk p q = true) : picB p = true ∧ picB (grownShrunkR p q) = true := by
  have k := h
  unfold grownShrunkOk at k
  simp only [Bool.and_eq_true] at k
  exact ⟨(sum_is k.1).pp, by rw [(grownShrunk_yes k.1).2]; exact picB_shrinkR k.2⟩
theorem shrunkGrown_told {p q : List Sp} (h : shrunkGrownOk p q = true) : picB p = true ∧ picB (shrunkGrownR p q) = true := by
  have k := h
  unfold shrunkGrownOk at k
  simp only [Bool.and_eq_true] at k
  exact ⟨(shrink_is k.1).pp, by rw [(shrunkGrown_yes k.1).2]; exact picB_sumR k.2⟩
theorem grownShrunkR_no {p q : List Sp} (h : grownShrunkOk p q = false) : grownShrunkR p q = [] := by
  rcases hk : sumOk p q with _ | _
  · exact (grownShrunk_no hk).2
  · rw [(grownShrunk_yes hk).2]; exact shrinkR_no (by rw [← (grownShrunk_yes hk).1]; exact h)
theorem shrunkGrownR_no {p q : List Sp} (h : shrunkGrownOk p q = false) : shrunkGrownR p q = [] := by
  rcases hk : shrinkOk p q with _ | _
  · exact (shrunkGrown_no hk).2
  · rw [(shrunkGrown_yes hk).2]; exact sumR_no' (by rw [← (shrunkGrown_yes hk).1]; exact h)
theorem grownShrunk_in {p q : List Sp} (h : grownShrunkOk p q = true) : withinB p (grownShrunkR p q) = true :=
  within_of (picB_pic (grownShrunk_told h).1) (picB_pic (grownShrunk_told h).2) (grownShrunk_has h)
theorem shrunkGrown_in {p q : List Sp} (h : shrunkGrownOk p q = true) : withinB (shrunkGrownR p q) p = true :=
  within_of (picB_pic (shrunkGrown_told h).2) (picB_pic (shrunkGrown_told h).1) (shrunkGrown_within h)
theorem adjoint_in {a p q : List Sp} (h : shrinkOk p q = true) (k : sumOk a q = true) : withinB (sumR a q) p = withinB a (shrinkR p q) := by
  have hp := picB_pic (shrink_is h).pp
  have hs := picB_pic (picB_shrinkR h)
  have ha := picB_pic (sum_is k).pp
  have hm := picB_pic (picB_sumR k)
  rw [Bool.eq_iff_iff]
  constructor
  · exact fun hh => within_of ha hs ((sum_in_shrunk h k).1 (within_mem hh).2.2)
  · exact fun hh => within_of hm hp ((sum_in_shrunk h k).2 (within_mem hh).2.2)
theorem wider_in {p q : List Sp} {x : Sp} (h : shrinkOk p q = true) (hu : unionOk p [x] = true) (k : shrinkOk (unionL p [x]) q = true) : withinB (shrinkR p q) (shrinkR (unionL p [x]) q) = true := by
  refine within_of (picB_pic (picB_shrinkR h)) (picB_pic (picB_shrinkR k)) (shrunk_in h k fun y hy => ?_)
  have e : unionL p [x] = puts p [x] := by unfold unionL; rw [if_pos hu]
  rw [e, mem_puts]
  exact .inl hy
theorem fits_in {p q : List Sp} {x y : Int} (h : shrinkOk p q = true) (k : moveOk q (x, y) = true) : fitsB p q (x, y) = withinB (moveL q (x, y)) p := by
  have hk := k
  unfold moveOk at hk
  simp only [Bool.and_eq_true] at hk
  have e : moveL q (x, y) = moved q (x, y) := by unfold moveL; rw [k]; rfl
  rw [fits_yes h, e, Bool.eq_iff_iff, decide_eq_true_eq, fits_moved h]
  constructor
  · exact fun hh => within_of (picB_pic hk.2) (picB_pic (shrink_is h).pp) hh
  · exact fun hh => (within_mem hh).2.2
end Go.Proofs.Ytfofmfkdkihhbab
