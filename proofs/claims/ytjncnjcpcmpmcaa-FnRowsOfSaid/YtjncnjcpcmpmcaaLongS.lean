/- The model's LongRow. No conditions but those typed. -/
import Derived.Test.YtjncnjcpcmpmcaaShortS
import Derived.Test.YtjncnjcpcmpmcaaReadS
namespace Go.Proofs.Ytjncnjcpcmpmcaa
open Go.RowKit Go.Sort

theorem rep_snoc {b : UInt8} (o : Bs) (j : Nat) : o ++ List.replicate j b ++ [b] = o ++ List.replicate (j + 1) b := by
  rw [List.replicate_succ', List.append_assoc]
theorem dec_sign {d r : Bs} {b : UInt8} (h : isSign b = true) : decS d (b :: r) = List.replicate (cntD d) b ++ decS [] r ∧ goodS d (b :: r) = (okD d && goodS [] r) := by
  rw [decS, goodS, h]; exact ⟨rfl, rfl⟩
theorem dec_other {d r : Bs} {b : UInt8} (h : isSign b = false) : decS d (b :: r) = decS (d ++ [b]) r ∧ goodS d (b :: r) = goodS (d ++ [b]) r := by
  rw [decS, goodS, h]; exact ⟨rfl, rfl⟩
/-- what is known of the row, if there is one: o has been read, d stands before what is left -/
def LongInv (l o d r : Bs) : Prop := ∀ row, rowOk row = true → shortR row = l → o ++ decS d r = row ∧ goodS d r = true
theorem LongInv.len {l o d r row : Bs} (h : LongInv l o d r) (h1 : rowOk row = true) (h2 : shortR row = l) : o.length ≤ 61 := by
  have h3 := (h row h1 h2).1
  have h4 := (rowOk_is.1 h1).1.2
  have := congrArg List.length h3
  rw [List.length_append] at this
  omega
theorem LongInv.sign {l o d r : Bs} {b : UInt8} (h : LongInv l o d (b :: r)) (hb : isSign b = true) : LongInv l (o ++ List.replicate (cntD d) b) [] r := fun row h1 h2 => by
  obtain ⟨h3, h4⟩ := h row h1 h2
  obtain ⟨e1, e2⟩ := dec_sign (d := d) (r := r) hb
  rw [e1] at h3
  rw [e2, Bool.and_eq_true] at h4
  exact ⟨by rw [List.append_assoc]; exact h3, h4.2⟩
theorem LongInv.okd {l o d r row : Bs} {b : UInt8} (h : LongInv l o d (b :: r)) (hb : isSign b = true) (h1 : rowOk row = true) (h2 : shortR row = l) : okD d = true := by
  obtain ⟨_, h4⟩ := h row h1 h2
  rw [(dec_sign (d := d) (r := r) hb).2, Bool.and_eq_true] at h4
  exact h4.1
theorem LongInv.other {l o d r : Bs} {b : UInt8} (h : LongInv l o d (b :: r)) (hb : isSign b = false) : LongInv l o (d ++ [b]) r := fun row h1 h2 => by
  obtain ⟨h3, h4⟩ := h row h1 h2
  obtain ⟨e1, e2⟩ := dec_other (d := d) (r := r) hb
  rw [e1] at h3
  rw [e2] at h4
  exact ⟨h3, h4⟩
theorem LongInv.start (l : Bs) : LongInv l [] [] l := fun row h1 h2 => by
  obtain ⟨h3, h4⟩ := dec_short h1
  rw [h2] at h3 h4
  exact ⟨h3, h4⟩
theorem LongInv.fin {l o d row : Bs} (h : LongInv l o d []) (h1 : rowOk row = true) (h2 : shortR row = l) : o = row := by
  have := (h row h1 h2).1
  rw [decS, List.append_nil] at this
  exact this
theorem take_drop_snoc {l : Bs} {k m : Nat} {b : UInt8} (h : l[k]? = some b) (hm : m ≤ k) : (l.take (k + 1)).drop m = (l.take k).drop m ++ [b] := by
  have hk := (List.getElem?_eq_some_iff.1 h).1
  rw [List.take_add_one, h, List.drop_append_of_le_length (by rw [List.length_take]; omega)]; rfl

end Go.Proofs.Ytjncnjcpcmpmcaa
