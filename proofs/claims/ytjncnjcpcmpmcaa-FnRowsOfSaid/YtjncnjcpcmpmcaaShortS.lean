/- The model's ShortRow. No conditions but those typed. -/
import Derived.Test.YtjncnjcpcmpmcaaCutS
import Derived.BigQuiet
namespace Go.Proofs.Ytjncnjcpcmpmcaa
open Go.RowKit Go.Sort

theorem bs_byte {l : Bs} {k : Nat} {b : UInt8} (h : l[k]? = some b) : (bs l).extract k (k + 1) = bs [b] := by
  have hk := (List.getElem?_eq_some_iff.1 h).1
  rw [bs_extract, List.take_add_one, h, List.drop_append_of_le_length (by rw [List.length_take]; omega), List.drop_of_length_le (by rw [List.length_take]; omega)]
  rfl
theorem numB_nat (n : Nat) : numB (n : Int) = natB n := by
  unfold numB
  rw [if_neg (by omega)]; rfl
theorem drop_at {l : Bs} {k : Nat} {b : UInt8} (h : l[k]? = some b) : l.drop k = b :: l.drop (k + 1) := by
  have hk := (List.getElem?_eq_some_iff.1 h).1
  rw [← (List.getElem?_eq_some_iff.1 h).2]
  exact List.drop_eq_getElem_cons hk
/-- one sign more: the last one; another one behind it; the same one behind it -/
theorem enc_last {l : Bs} {k t : Nat} {b : UInt8} (h : l[k]? = some b) (hl : k + 1 = l.length) : encF t (l.drop k) = emit (t + 1) b := by
  rw [drop_at h, List.drop_of_length_le (by omega), encF]
theorem enc_other {l : Bs} {k t : Nat} {b c : UInt8} (h : l[k]? = some b) (hc : l[k + 1]? = some c) (hne : c ≠ b) : encF t (l.drop k) = emit (t + 1) b ++ encF 0 (l.drop (k + 1)) := by
  rw [drop_at h, drop_at hc, encF, if_neg hne]
theorem enc_same {l : Bs} {k t : Nat} {b c : UInt8} (h : l[k]? = some b) (hc : l[k + 1]? = some c) (he : c = b) : encF t (l.drop k) = encF (t + 1) (l.drop (k + 1)) := by
  rw [drop_at h, drop_at hc, encF, if_pos he]
theorem emit_one (b : UInt8) : emit (0 + 1) b = [b] := by unfold emit; rfl
theorem emit_more {t : Nat} (h : 0 < t) (b : UInt8) : emit (t + 1) b = natB (t + 1) ++ [b] := by unfold emit; rw [if_pos (by omega)]

end Go.Proofs.Ytjncnjcpcmpmcaa
