/- TwoD answers of an exact law of desks, each in a box: what is written where. No conditions but those typed. -/
import Derived.Test.YtgdifenicjgfjaaDeskG
namespace Go.Proofs.Ytgdifenicjgfjaa
open Go.RowKit Go.Sort

/-- the model's answer in block G4, the program's in block G7, each with memory of its own -/
structure TwoD (w wr : World) (l3 h3 l5 h5 G4 G7 : Nat) (n4 p4 n7 p7 : Value) (R Q : Dk) : Prop where
  bb : Below w.heap.size w wr
  r4 : wr.heap[G4]? = some (.cells #[n4, p4] 26 (0, 0))
  r7 : wr.heap[G7]? = some (.cells #[n7, p7] 26 (0, 0))
  ow : DeskO wr l3 h3 (.agg #[n4, p4]) R
  og : DeskO wr l5 h5 (.agg #[n7, p7]) Q
  ord : (w.heap.size ≤ l3 ∧ l3 ≤ h3 ∧ h3 ≤ G4) ∧ (G4 < l5 ∧ h5 ≤ G7) ∧ G7 < wr.heap.size ∧ l5 ≤ h5
section
variable {w wr w' : World} {l3 h3 l5 h5 G4 G7 : Nat} {n4 p4 n7 p7 : Value} {R Q : Dk}
theorem TwoD.below (S : TwoD w wr l3 h3 l5 h5 G4 G7 n4 p4 n7 p7 R Q) (h : Below wr.heap.size wr w') : TwoD w w' l3 h3 l5 h5 G4 G7 n4 p4 n7 p7 R Q := by
  have o := S.ord
  have hs := h.size
  exact ⟨below_step S.bb h, (h.block G4 (by omega)).trans S.r4, (h.block G7 (by omega)).trans S.r7, S.ow.below h, S.og.below h, by omega⟩
/-- the program's answer written into -/
theorem TwoD.marked {Q' : Dk} (S : TwoD w wr l3 h3 l5 h5 G4 G7 n4 p4 n7 p7 R Q) (h : GrownIn l5 h5 wr w') (o' : DeskO w' l5 h5 (.agg #[n7, p7]) Q') : TwoD w w' l3 h3 l5 h5 G4 G7 n4 p4 n7 p7 R Q' := by
  have o := S.ord
  have hs := h.size
  have hb := S.bb.size
  exact ⟨S.bb.trans (h.below (by omega) (by omega)), (h.block G4 (by omega) (by omega)).trans S.r4, (h.block G7 (by omega) (by omega)).trans S.r7, S.ow.apart h (.inl (by omega)), o', by omega⟩
/-- what was handed over written into -/
theorem TwoD.other {a b : Nat} (S : TwoD w wr l3 h3 l5 h5 G4 G7 n4 p4 n7 p7 R Q) (h : GrownIn a b wr w') (ha : G4 < a) (hb : b ≤ l5) : TwoD w w' l3 h3 l5 h5 G4 G7 n4 p4 n7 p7 R Q := by
  have o := S.ord
  have hs := h.size
  have hz := S.bb.size
  exact ⟨S.bb.trans (h.below (by omega) (by omega)), (h.block G4 (by omega) (by omega)).trans S.r4, (h.block G7 (by omega) (by omega)).trans S.r7, S.ow.apart h (.inl (by omega)), S.og.apart h (.inr hb), by omega⟩
theorem TwoD.c40 (S : TwoD w wr l3 h3 l5 h5 G4 G7 n4 p4 n7 p7 R Q) : wr.cell? ⟨G4, 0, none⟩ = some n4 := (cells_of_row S.r4).1
theorem TwoD.c41 (S : TwoD w wr l3 h3 l5 h5 G4 G7 n4 p4 n7 p7 R Q) : wr.cell? ⟨G4, 1, none⟩ = some p4 := (cells_of_row S.r4).2
theorem TwoD.c70 (S : TwoD w wr l3 h3 l5 h5 G4 G7 n4 p4 n7 p7 R Q) : wr.cell? ⟨G7, 0, none⟩ = some n7 := (cells_of_row S.r7).1
theorem TwoD.c71 (S : TwoD w wr l3 h3 l5 h5 G4 G7 n4 p4 n7 p7 R Q) : wr.cell? ⟨G7, 1, none⟩ = some p7 := (cells_of_row S.r7).2
end
theorem Reads.keep {w w' : World} {B : Nat} {v : Value} {p : List Sp} (h : Reads w B v p) (hb : Below B w w') (hs : B ≤ w.heap.size) : Reads w' w'.heap.size v p := (h.below hb).more (Nat.le_trans hs hb.size)
theorem marksD_lens (d : Dk) (k : Int) : (marksD d k).1.length = d.1.length ∧ (marksD d k).2.length = d.2.length := ⟨marks_length _ _, marksSS_length _ _⟩
end Go.Proofs.Ytgdifenicjgfjaa
