/-
  Go's strings.Builder in this program: that it bears the library's bodies (a field a fact of the program's own or the kernel's comparison), and what WriteString, Len and String do, in words of lists of bytes. No conditions but those typed.
-/
import Derived.Shelf.Strings.BuilderF
import Derived.Shelf.Strings.BuilderK
import Derived.Test.YtjncnjcpcmpmcaaTexts
import Derived.Test.YtjncnjcpcmpmcaaBase
namespace Go.Proofs.Ytjncnjcpcmpmcaa
open Go.Shelf

def lay166_ren : Go.Shelf.Ren := ⟨fun | 166 => 32 | 240 => 42 | 276 => 47 | n => n, fun | 0 => 0 | 3 => 3 | 4 => 4 | 5 => 5 | 9 => 9 | 20 => 20 | 37 => 22 | 70 => 58 | 72 => 60 | 75 => 64 | 80 => 67 | 164 => 79 | n => n, fun | n => n⟩
theorem lay166 : Go.Proofs.Lays.n166 Try.prog lay166_ren := {
  mixed := by kernel_rfl
  f166 := Try.func32.trans (congrArg some (by kernel_rfl))
  f240 := Try.func42.trans (congrArg some (by kernel_rfl))
  f276 := Try.func47.trans (congrArg some (by kernel_rfl))
  t0 := Try.underlying0
  a0 := Try.isAgg0
  z0 := Try.sizeOf0
  v0 := Try.zeroValue0
  t3 := Try.underlying3
  a3 := Try.isAgg3
  z3 := Try.sizeOf3
  v3 := Try.zeroValue3
  t4 := Try.underlying4
  a4 := Try.isAgg4
  z4 := Try.sizeOf4
  v4 := Try.zeroValue4
  t9 := Try.underlying9
  a9 := Try.isAgg9
  z9 := Try.sizeOf9
  v9 := Try.zeroValue9
  t20 := Try.underlying20
  a20 := Try.isAgg20
  z20 := Try.sizeOf20
  v20 := Try.zeroValue20
  t37 := Try.underlying22
  a37 := Try.isAgg22
  z37 := Try.sizeOf22
  v37 := Try.zeroValue22
  t70 := Try.underlying58
  a70 := Try.isAgg58
  z70 := Try.sizeOf58
  v70 := Try.zeroValue58
  t72 := Try.underlying60
  a72 := Try.isAgg60
  z72 := Try.sizeOf60
  v72 := Try.zeroValue60
  t75 := Try.underlying64
  a75 := Try.isAgg64
  z75 := Try.sizeOf64
  v75 := Try.zeroValue64
  t164 := Try.underlying79
  a164 := Try.isAgg79
  z164 := Try.sizeOf79
  v164 := Try.zeroValue79 }

def lay169_ren : Go.Shelf.Ren := ⟨fun | 169 => 33 | n => n, fun | 0 => 0 | 3 => 3 | 5 => 5 | 9 => 9 | 37 => 22 | 70 => 58 | 72 => 60 | 127 => 74 | n => n, fun | n => n⟩
theorem lay169 : Go.Proofs.Lays.n169 Try.prog lay169_ren := {
  mixed := by kernel_rfl
  f169 := Try.func33.trans (congrArg some (by kernel_rfl))
  t0 := Try.underlying0
  a0 := Try.isAgg0
  z0 := Try.sizeOf0
  v0 := Try.zeroValue0
  t3 := Try.underlying3
  a3 := Try.isAgg3
  z3 := Try.sizeOf3
  v3 := Try.zeroValue3
  t9 := Try.underlying9
  a9 := Try.isAgg9
  z9 := Try.sizeOf9
  v9 := Try.zeroValue9
  t37 := Try.underlying22
  a37 := Try.isAgg22
  z37 := Try.sizeOf22
  v37 := Try.zeroValue22
  t70 := Try.underlying58
  a70 := Try.isAgg58
  z70 := Try.sizeOf58
  v70 := Try.zeroValue58
  t72 := Try.underlying60
  a72 := Try.isAgg60
  z72 := Try.sizeOf60
  v72 := Try.zeroValue60
  t127 := Try.underlying74
  a127 := Try.isAgg74
  z127 := Try.sizeOf74
  v127 := Try.zeroValue74 }

def lay240_ren : Go.Shelf.Ren := ⟨fun | 240 => 42 | 276 => 47 | n => n, fun | 0 => 0 | 4 => 4 | 9 => 9 | 20 => 20 | 37 => 22 | 70 => 58 | 72 => 60 | 164 => 79 | n => n, fun | n => n⟩
theorem lay240 : Go.Proofs.Lays.n240 Try.prog lay240_ren := {
  mixed := by kernel_rfl
  f240 := Try.func42.trans (congrArg some (by kernel_rfl))
  f276 := Try.func47.trans (congrArg some (by kernel_rfl))
  t0 := Try.underlying0
  a0 := Try.isAgg0
  z0 := Try.sizeOf0
  v0 := Try.zeroValue0
  t4 := Try.underlying4
  a4 := Try.isAgg4
  z4 := Try.sizeOf4
  v4 := Try.zeroValue4
  t9 := Try.underlying9
  a9 := Try.isAgg9
  z9 := Try.sizeOf9
  v9 := Try.zeroValue9
  t20 := Try.underlying20
  a20 := Try.isAgg20
  z20 := Try.sizeOf20
  v20 := Try.zeroValue20
  t70 := Try.underlying58
  a70 := Try.isAgg58
  z70 := Try.sizeOf58
  v70 := Try.zeroValue58
  t72 := Try.underlying60
  a72 := Try.isAgg60
  z72 := Try.sizeOf60
  v72 := Try.zeroValue60
  t164 := Try.underlying79
  a164 := Try.isAgg79
  z164 := Try.sizeOf79
  v164 := Try.zeroValue79 }

theorem bx166 : Builder.Extra Try.prog lay166_ren := {
  sizeBuilder := by kernel_rfl
  liesBuilder := by kernel_rfl
  t5 := Try.underlying5
  a5 := Try.isAgg5
  z5 := Try.sizeOf5
  v5 := Try.zeroValue5
  infoByte := by kernel_rfl
  cellsByte := by kernel_rfl
  sizeByte := by kernel_rfl
  neB5 := by decide }
theorem bx169 : Builder.Extra Try.prog lay169_ren := {
  sizeBuilder := by kernel_rfl
  liesBuilder := by kernel_rfl
  t5 := Try.underlying5
  a5 := Try.isAgg5
  z5 := Try.sizeOf5
  v5 := Try.zeroValue5
  infoByte := by kernel_rfl
  cellsByte := by kernel_rfl
  sizeByte := by kernel_rfl
  neB5 := by decide }
open Go.RowKit Go.Sort

/-- a builder in block b that holds these bytes; its memory lies from block B on -/
def IsB (B b : Nat) (l : Bs) (w : World) : Prop := Lib.IsBuilderF 60 5 B b (Lib.byteCells l) w
/-- all blocks but that one, and but rows of bytes, are as they were -/
def OKept (b : Nat) (w w' : World) : Prop := Lib.OthersKept 5 (some b) w w'
theorem isB_fresh (w : World) : IsB w.heap.size w.heap.size [] (w.alloc (.cells #[.pointer none, .slice none 0 0] 60)) := Lib.IsBuilderF.of (Lib.fresh_isBuilder _ _ w)
theorem IsB.at' {B b : Nat} {l : Bs} {w : World} (h : IsB B b l w) : B ≤ b ∧ ∃ cs fz, w.heap[b]? = some (.cells cs 60 fz) := by
  rcases h with ⟨h1, v, h2, _⟩ | ⟨h1, v, h2, _⟩
  · exact ⟨h1, _, _, h2⟩
  · exact ⟨h1, _, _, h2⟩
theorem IsB.lt {B b : Nat} {l : Bs} {w : World} (h : IsB B b l w) : b < w.heap.size := by
  obtain ⟨_, cs, fz, h1⟩ := h.at'
  exact (Array.getElem?_eq_some_iff.1 h1).1
/-- what is written to other blocks leaves a builder as it was -/
theorem IsB.keep {B b : Nat} {l : Bs} {w w' : World} (h : IsB B b l w) (hk : ∀ i, B ≤ i → i < w.heap.size → w'.heap[i]? = w.heap[i]?) : IsB B b l w' := by
  have one : ∀ {p : Value}, Lib.BuilderAtF 60 5 B b p (Lib.byteCells l) w → Lib.BuilderAtF 60 5 B b p (Lib.byteCells l) w' := fun {p} h => by
    obtain ⟨hB, v, hb, ⟨hl, hown⟩, hne⟩ := h
    have hlt := (Array.getElem?_eq_some_iff.1 hb).1
    refine ⟨hB, v, (hk b hB hlt).trans hb, ⟨hl, ?_⟩, hne⟩
    rcases hown with hown | ⟨g, cap, cur, fz, h1, h2, h3, h4⟩
    · exact .inl hown
    · refine .inr ⟨g, cap, cur, fz, h1, h2, ?_, h4⟩
      rw [hk g h2 (Array.getElem?_eq_some_iff.1 h3).1]
      exact h3
  rcases h with h | h
  · exact .inl (one h)
  · exact .inr (one h)
theorem IsB.below {B b : Nat} {l : Bs} {w w' : World} (h : IsB B b l w) (hb : Below w.heap.size w w') : IsB B b l w' := h.keep fun i _ hi => hb.block i hi
theorem OKept.trans {b : Nat} {w w' w'' : World} (h : OKept b w w') (k : OKept b w' w'') : OKept b w w'' := Lib.OthersKept.trans h k
theorem OKept.below {b : Nat} {w w' : World} (h : Below w.heap.size w w') : OKept b w w' := fun k _ hk _ _ => (h.block k (Array.getElem?_eq_some_iff.1 hk).1).trans hk
/-- a slice of spots is no builder and no row of bytes -/
theorem Owns.others {B b base : Nat} {l : Bs} {w w' : World} {v : Value} {ps : List Sp} (h : Owns w base v ps) (hb : IsB B b l w) (k : OKept b w w') : Owns w' base v ps := by
  refine ⟨h.1, ?_⟩
  rcases h.2 with h0 | ⟨g, cap, cur, rfl, h1, hg, h2⟩
  · exact .inl h0
  · refine .inr ⟨g, cap, cur, rfl, h1, k g _ hg (fun e => ?_) (fun c fz e => ?_), h2⟩
    · obtain ⟨_, cs, fz, hc⟩ := hb.at'
      rw [← Option.some.inj e, hg] at hc
      exact absurd (Obj.cells.inj (Option.some.inj hc)).2.1 (by decide)
    · exact absurd (Obj.cells.inj e).2.1 (by decide)
theorem write_any (B b : Nat) (l m : Bs) (w : World) (h : IsB B b l w) (hl : l.length ≤ 1000000) (hm : m.length ≤ 1000000) (hB : B ≤ w.heap.size) :
    Calls Try.prog 32 #[.pointer (some ⟨b, 0, none⟩), .string (bs m)] w fun e w' => e = .returned (.tuple #[.int .i64 (m.length : Int), .nilIface]) ∧ IsB B b (l ++ m) w' ∧ Below B w w' ∧ OKept b w w' := by
  refine (Any.Builder_WriteString_k lay166 bx166 B b (Lib.byteCells l) (bs m) w h (by rw [Lib.byteCells_length, bs_size]; omega) hB).mono ?_
  rintro e w' ⟨rfl, h1, h2, h3⟩
  refine ⟨by rw [bs_size], .inr ?_, h2, h3⟩
  rw [Lib.byteCells_append]
  exact h1
theorem bstr_any (B b : Nat) (l : Bs) (w : World) (h : IsB B b l w) (hB : B ≤ w.heap.size) :
    Calls Try.prog 33 #[.pointer (some ⟨b, 0, none⟩)] w fun e w' => e = .returned (.string (bs l)) ∧ Below B w w' := by
  refine (Any.Builder_String_any_k lay169 bx169 B b l w h hB).mono ?_
  rintro e w' ⟨rfl, _, h1, _⟩
  exact ⟨rfl, h1⟩
end Go.Proofs.Ytjncnjcpcmpmcaa
