/-
  What Itoa and Atoi do here, in words of lists of bytes. No conditions but those typed: where a variable of the library is read, what it holds ('PowOk', 'ErrOk').
-/
import Derived.Test.YtpdnakiilhohdaaDoorLibsN
import Derived.Test.YtpdnakiilhohdaaDoorPow
import Derived.Test.YtpdnakiilhohdaaDoorTextQ
import Derived.Test.YtpdnakiilhohdaaDoorBase
import Derived.WalkSmall
import Derived.Deep.WholeRow
namespace Go.Proofs.YtpdnakiilhohdaaDoor
open Go.RowKit Go.Sort Go.Shelf

/-! ### what the library's variables hold -/
def PowOk (w : World) : Prop := Lib.TabIs Tryd.prog w powName .u64 Lib.pow10Tab
def ErrOk (w : World) : Prop := (∃ tp p, w.cell? ⟨1, 0, none⟩ = some (.iface tp p)) ∧ ∃ tp p, w.cell? ⟨2, 0, none⟩ = some (.iface tp p)
theorem PowOk.below {w w' : World} (h : PowOk w) (hb : Below w.heap.size w w') : PowOk w' := by
  have hg : Tryd.prog.globalNamed powName = some 3 := by kernel_rfl
  have hlt : 3 < w.heap.size := World.block_lt_of_cell? _ _ (h.cell hg 0 (by decide))
  exact var?_below hb hg hlt h
theorem ErrOk.below {w w' : World} (h : ErrOk w) (hb : Below w.heap.size w w') : ErrOk w' := by
  obtain ⟨⟨t1, p1, h1⟩, t2, p2, h2⟩ := h
  exact ⟨⟨t1, p1, (hb.cell (World.block_lt_of_cell? _ _ h1)).trans h1⟩, t2, p2, (hb.cell (World.block_lt_of_cell? _ _ h2)).trans h2⟩

/-! ### strings -/
/-! ### numbers -/
theorem itoaSmall_any (n : Nat) (hn : n < 100) (w : World) : Calls Tryd.prog 55 #[.int .i64 (n : Int)] w (Gives (strV (natB n)) w) := by
  have c := Any.strconv_Itoa_small lay171.ton171 n hn w
  rw [decDigits_is] at c
  refine c.mono ?_
  rintro e w' ⟨rfl, rfl⟩
  exact ⟨rfl, Below.refl _ _⟩
theorem itoa_any (n : Int) (hn : -1000000000 ≤ n ∧ n ≤ 1000000000) (w : World) (hp : PowOk w) : Calls Tryd.prog 55 #[.int .i64 n] w (Gives (strV (numB n)) w) := by
  have c := Any.strconv_Itoa lay171 n (by omega) (by omega) w hp
  rw [itoa_is] at c
  refine c.mono ?_
  rintro e w' ⟨rfl, k, os, rfl⟩
  exact ⟨rfl, ⟨rfl, rfl, rfl, by show w.heap.size ≤ (w.heap ++ os).size; rw [Array.size_append]; omega, fun j hj => by show (w.heap ++ os)[j]? = w.heap[j]?; rw [Array.getElem?_append_left hj]⟩⟩
/-- how Atoi ends -/
def AtoiPost (l : Bs) (w : World) (e : Ending) (w' : World) : Prop := Below w.heap.size w w' ∧ ((∃ v, Lib.atoiAll l = .ok v ∧ e = .returned (.tuple #[.int .i64 v, .nilIface])) ∨ ((∀ v, Lib.atoiAll l ≠ .ok v) ∧ ∃ z tp p, e = .returned (.tuple #[.int .i64 z, .iface tp p])))
theorem atoi_any (l : Bs) (hl : l.length ≤ 1000000000) (w : World) (he : ErrOk w) : Calls Tryd.prog 57 #[.string (bs l)] w (AtoiPost l w) := by
  obtain ⟨⟨t1, p1, h1⟩, t2, p2, h2⟩ := he
  have hd : (bs l).data.toList = l := rfl
  rcases h : Lib.atoiAll l with v | _ | _
  · refine (Any.strconv_Atoi_ok lay172 (bs l) (by rw [bs_size]; omega) v (by rw [hd]; exact h) w).mono ?_
    rintro e w' ⟨rfl, hw⟩
    refine ⟨?_, .inl ⟨v, h, rfl⟩⟩
    rcases hw with rfl | ⟨t, rfl⟩
    · exact Below.refl _ _
    · exact Lib.bytesWorld_below _ _ _
  · refine (Any.strconv_Atoi_syntax lay172 (bs l) (by rw [bs_size]; omega) (by rw [hd]; exact h) _ w h1 (.inr ⟨t1, p1, rfl⟩)).mono ?_
    rintro e w' ⟨N, rfl, _, _, hb⟩
    exact ⟨hb, .inr ⟨fun v hv => (by rw [h] at hv; cases hv), _, _, _, rfl⟩⟩
  · refine (Any.strconv_Atoi_range lay172 (bs l) (by rw [bs_size]; omega) (by rw [hd]; exact h) _ w h2 (.inr ⟨t2, p2, rfl⟩)).mono ?_
    rintro e w' ⟨N, rfl, _, _, hb⟩
    exact ⟨hb, .inr ⟨fun v hv => (by rw [h] at hv; cases hv), _, _, _, rfl⟩⟩
/-- what Atoi tells: the number, and 0 for the empty text -/
def AtoiG (l : Bs) (w : World) (e : Ending) (w' : World) : Prop := Below w.heap.size w w' ∧ ∃ (z : Int) (u : Value), e = .returned (.tuple #[.int .i64 z, u]) ∧ (∀ v, Lib.atoiAll l = .ok v → z = v) ∧ (l = [] → z = 0)
theorem atoiG_any (l : Bs) (hl : l.length ≤ 1000000000) (w : World) (he : ErrOk w) : Calls Tryd.prog 57 #[.string (bs l)] w (AtoiG l w) := by
  obtain ⟨⟨t1, p1, h1⟩, t2, p2, h2⟩ := he
  have hd : (bs l).data.toList = l := rfl
  have hnil : (match Lib.atoiAll [] with | .ok _ => false | .range => false | _ => true) = true := by decide
  rcases h : Lib.atoiAll l with v | _ | _
  · refine (Any.strconv_Atoi_ok lay172 (bs l) (by rw [bs_size]; omega) v (by rw [hd]; exact h) w).mono ?_
    rintro e w' ⟨rfl, hw⟩
    refine ⟨?_, v, _, rfl, fun u hu => ?_, fun hl => ?_⟩
    · rcases hw with rfl | ⟨t, rfl⟩
      · exact Below.refl _ _
      · exact Lib.bytesWorld_below _ _ _
    · rw [h] at hu; cases hu; rfl
    · rw [hl] at h; rw [h] at hnil; cases hnil
  · refine (Any.strconv_Atoi_syntax lay172 (bs l) (by rw [bs_size]; omega) (by rw [hd]; exact h) _ w h1 (.inr ⟨t1, p1, rfl⟩)).mono ?_
    rintro e w' ⟨N, rfl, _, _, hb⟩
    exact ⟨hb, 0, _, rfl, fun v hv => (by rw [h] at hv; cases hv), fun _ => rfl⟩
  · refine (Any.strconv_Atoi_range lay172 (bs l) (by rw [bs_size]; omega) (by rw [hd]; exact h) _ w h2 (.inr ⟨t2, p2, rfl⟩)).mono ?_
    rintro e w' ⟨N, rfl, _, _, hb⟩
    exact ⟨hb, _, _, rfl, fun v hv => (by rw [h] at hv; cases hv), fun hl => (by rw [hl] at h; rw [h] at hnil; cases hnil)⟩
end Go.Proofs.YtpdnakiilhohdaaDoor
