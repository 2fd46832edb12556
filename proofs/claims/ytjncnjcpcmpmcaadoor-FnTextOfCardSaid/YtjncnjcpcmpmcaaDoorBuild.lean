/-
  Go's strings.Builder in this program: that it bears the library's bodies (a field a fact of the program's own or the kernel's comparison), and what WriteString, Len and String do, in words of lists of bytes. No conditions but those typed.
-/
import Derived.Shelf.Strings.BuilderF
import Derived.Shelf.Strings.BuilderK
import Derived.Test.YtjncnjcpcmpmcaaDoorTexts
import Derived.Test.YtjncnjcpcmpmcaaDoorBase
namespace Go.Proofs.YtjncnjcpcmpmcaaDoor
open Go.Shelf

def lay166_ren : Go.Shelf.Ren := ⟨fun | 166 => 57 | 240 => 83 | 276 => 101 | n => n, fun | 0 => 0 | 3 => 3 | 4 => 4 | 5 => 5 | 9 => 9 | 20 => 20 | 37 => 22 | 70 => 74 | 72 => 76 | 75 => 78 | 80 => 81 | 164 => 124 | n => n, fun | n => n⟩
theorem lay166 : Go.Proofs.Lays.n166 Tryd.prog lay166_ren := {
  mixed := by kernel_rfl
  f166 := Tryd.func57.trans (congrArg some (by kernel_rfl))
  f240 := Tryd.func83.trans (congrArg some (by kernel_rfl))
  f276 := Tryd.func101.trans (congrArg some (by kernel_rfl))
  t0 := Tryd.underlying0
  a0 := Tryd.isAgg0
  z0 := Tryd.sizeOf0
  v0 := Tryd.zeroValue0
  t3 := Tryd.underlying3
  a3 := Tryd.isAgg3
  z3 := Tryd.sizeOf3
  v3 := Tryd.zeroValue3
  t4 := Tryd.underlying4
  a4 := Tryd.isAgg4
  z4 := Tryd.sizeOf4
  v4 := Tryd.zeroValue4
  t9 := Tryd.underlying9
  a9 := Tryd.isAgg9
  z9 := Tryd.sizeOf9
  v9 := Tryd.zeroValue9
  t20 := Tryd.underlying20
  a20 := Tryd.isAgg20
  z20 := Tryd.sizeOf20
  v20 := Tryd.zeroValue20
  t37 := Tryd.underlying22
  a37 := Tryd.isAgg22
  z37 := Tryd.sizeOf22
  v37 := Tryd.zeroValue22
  t70 := Tryd.underlying74
  a70 := Tryd.isAgg74
  z70 := Tryd.sizeOf74
  v70 := Tryd.zeroValue74
  t72 := Tryd.underlying76
  a72 := Tryd.isAgg76
  z72 := Tryd.sizeOf76
  v72 := Tryd.zeroValue76
  t75 := Tryd.underlying78
  a75 := Tryd.isAgg78
  z75 := Tryd.sizeOf78
  v75 := Tryd.zeroValue78
  t164 := Tryd.underlying124
  a164 := Tryd.isAgg124
  z164 := Tryd.sizeOf124
  v164 := Tryd.zeroValue124 }

def lay169_ren : Go.Shelf.Ren := ⟨fun | 169 => 58 | n => n, fun | 0 => 0 | 3 => 3 | 5 => 5 | 9 => 9 | 37 => 22 | 70 => 74 | 72 => 76 | 127 => 111 | n => n, fun | n => n⟩
theorem lay169 : Go.Proofs.Lays.n169 Tryd.prog lay169_ren := {
  mixed := by kernel_rfl
  f169 := Tryd.func58.trans (congrArg some (by kernel_rfl))
  t0 := Tryd.underlying0
  a0 := Tryd.isAgg0
  z0 := Tryd.sizeOf0
  v0 := Tryd.zeroValue0
  t3 := Tryd.underlying3
  a3 := Tryd.isAgg3
  z3 := Tryd.sizeOf3
  v3 := Tryd.zeroValue3
  t9 := Tryd.underlying9
  a9 := Tryd.isAgg9
  z9 := Tryd.sizeOf9
  v9 := Tryd.zeroValue9
  t37 := Tryd.underlying22
  a37 := Tryd.isAgg22
  z37 := Tryd.sizeOf22
  v37 := Tryd.zeroValue22
  t70 := Tryd.underlying74
  a70 := Tryd.isAgg74
  z70 := Tryd.sizeOf74
  v70 := Tryd.zeroValue74
  t72 := Tryd.underlying76
  a72 := Tryd.isAgg76
  z72 := Tryd.sizeOf76
  v72 := Tryd.zeroValue76
  t127 := Tryd.underlying111
  a127 := Tryd.isAgg111
  z127 := Tryd.sizeOf111
  v127 := Tryd.zeroValue111 }

def lay170_ren : Go.Shelf.Ren := ⟨fun | 170 => 84 | n => n, fun | 0 => 0 | 3 => 3 | 5 => 5 | 37 => 22 | 70 => 74 | 72 => 76 | n => n, fun | n => n⟩
theorem lay170 : Go.Proofs.Lays.n170 Tryd.prog lay170_ren := {
  mixed := by kernel_rfl
  f170 := Tryd.func84.trans (congrArg some (by kernel_rfl))
  t0 := Tryd.underlying0
  a0 := Tryd.isAgg0
  z0 := Tryd.sizeOf0
  v0 := Tryd.zeroValue0
  t3 := Tryd.underlying3
  a3 := Tryd.isAgg3
  z3 := Tryd.sizeOf3
  v3 := Tryd.zeroValue3
  t37 := Tryd.underlying22
  a37 := Tryd.isAgg22
  z37 := Tryd.sizeOf22
  v37 := Tryd.zeroValue22
  t70 := Tryd.underlying74
  a70 := Tryd.isAgg74
  z70 := Tryd.sizeOf74
  v70 := Tryd.zeroValue74
  t72 := Tryd.underlying76
  a72 := Tryd.isAgg76
  z72 := Tryd.sizeOf76
  v72 := Tryd.zeroValue76 }

def lay240_ren : Go.Shelf.Ren := ⟨fun | 240 => 83 | 276 => 101 | n => n, fun | 0 => 0 | 4 => 4 | 9 => 9 | 20 => 20 | 37 => 22 | 70 => 74 | 72 => 76 | 164 => 124 | n => n, fun | n => n⟩
theorem lay240 : Go.Proofs.Lays.n240 Tryd.prog lay240_ren := {
  mixed := by kernel_rfl
  f240 := Tryd.func83.trans (congrArg some (by kernel_rfl))
  f276 := Tryd.func101.trans (congrArg some (by kernel_rfl))
  t0 := Tryd.underlying0
  a0 := Tryd.isAgg0
  z0 := Tryd.sizeOf0
  v0 := Tryd.zeroValue0
  t4 := Tryd.underlying4
  a4 := Tryd.isAgg4
  z4 := Tryd.sizeOf4
  v4 := Tryd.zeroValue4
  t9 := Tryd.underlying9
  a9 := Tryd.isAgg9
  z9 := Tryd.sizeOf9
  v9 := Tryd.zeroValue9
  t20 := Tryd.underlying20
  a20 := Tryd.isAgg20
  z20 := Tryd.sizeOf20
  v20 := Tryd.zeroValue20
  t70 := Tryd.underlying74
  a70 := Tryd.isAgg74
  z70 := Tryd.sizeOf74
  v70 := Tryd.zeroValue74
  t72 := Tryd.underlying76
  a72 := Tryd.isAgg76
  z72 := Tryd.sizeOf76
  v72 := Tryd.zeroValue76
  t164 := Tryd.underlying124
  a164 := Tryd.isAgg124
  z164 := Tryd.sizeOf124
  v164 := Tryd.zeroValue124 }

theorem bx166 : Builder.Extra Tryd.prog lay166_ren := {
  sizeBuilder := by kernel_rfl
  liesBuilder := by kernel_rfl
  t5 := Tryd.underlying5
  a5 := Tryd.isAgg5
  z5 := Tryd.sizeOf5
  v5 := Tryd.zeroValue5
  infoByte := by kernel_rfl
  cellsByte := by kernel_rfl
  sizeByte := by kernel_rfl
  neB5 := by decide }
theorem bx169 : Builder.Extra Tryd.prog lay169_ren := {
  sizeBuilder := by kernel_rfl
  liesBuilder := by kernel_rfl
  t5 := Tryd.underlying5
  a5 := Tryd.isAgg5
  z5 := Tryd.sizeOf5
  v5 := Tryd.zeroValue5
  infoByte := by kernel_rfl
  cellsByte := by kernel_rfl
  sizeByte := by kernel_rfl
  neB5 := by decide }
open Go.RowKit Go.Sort

/-- a builder in block b that holds these bytes; its memory lies from block B on -/
def IsB (B b : Nat) (l : Bs) (w : World) : Prop := Lib.IsBuilderF 76 5 B b (Lib.byteCells l) w
/-- all blocks but that one, and but rows of bytes, are as they were -/
def OKept (b : Nat) (w w' : World) : Prop := Lib.OthersKept 5 (some b) w w'
theorem isB_fresh (w : World) : IsB w.heap.size w.heap.size [] (w.alloc (.cells #[.pointer none, .slice none 0 0] 76)) := Lib.IsBuilderF.of (Lib.fresh_isBuilder _ _ w)
theorem IsB.at' {B b : Nat} {l : Bs} {w : World} (h : IsB B b l w) : B ≤ b ∧ ∃ cs fz, w.heap[b]? = some (.cells cs 76 fz) := by
  rcases h with ⟨h1, v, h2, _⟩ | ⟨h1, v, h2, _⟩
  · exact ⟨h1, _, _, h2⟩
  · exact ⟨h1, _, _, h2⟩
theorem IsB.lt {B b : Nat} {l : Bs} {w : World} (h : IsB B b l w) : b < w.heap.size := by
  obtain ⟨_, cs, fz, h1⟩ := h.at'
  exact (Array.getElem?_eq_some_iff.1 h1).1
/-- what is written to other blocks leaves a builder as it was -/
theorem IsB.keep {B b : Nat} {l : Bs} {w w' : World} (h : IsB B b l w) (hk : ∀ i, B ≤ i → i < w.heap.size → w'.heap[i]? = w.heap[i]?) : IsB B b l w' := by
  have one : ∀ {p : Value}, Lib.BuilderAtF 76 5 B b p (Lib.byteCells l) w → Lib.BuilderAtF 76 5 B b p (Lib.byteCells l) w' := fun {p} h => by
    obtain ⟨hB, v, hb, ⟨hl, hown⟩, hne⟩ := h
    have hlt := (Array.getElem?_eq_some_iff.1 hb).1
    refine ⟨hB, v, (hk b hB hlt).trans hb, ⟨hl, ?_⟩, hne⟩
    rcases hown with hown | ⟨g, cap, cur, fz, h1, h2, h3, h4⟩
    · exact .inl hown
    · refine .inr ⟨g, cap, cur, fz, h1, h2, ?_, h4⟩
      rw [hk g h2 (Array.getElem?_eq_some_iff.1 h3).1]
      exact h3
  rcases h with h | h
  · exact .inl (one h)
  · exact .inr (one h)
theorem IsB.below {B b : Nat} {l : Bs} {w w' : World} (h : IsB B b l w) (hb : Below w.heap.size w w') : IsB B b l w' := h.keep fun i _ hi => hb.block i hi
theorem OKept.trans {b : Nat} {w w' w'' : World} (h : OKept b w w') (k : OKept b w' w'') : OKept b w w'' := Lib.OthersKept.trans h k
theorem OKept.below {b : Nat} {w w' : World} (h : Below w.heap.size w w') : OKept b w w' := fun k _ hk _ _ => (h.block k (Array.getElem?_eq_some_iff.1 hk).1).trans hk
/-- a slice of spots is no builder and no row of bytes -/
theorem Owns.others {B b base : Nat} {l : Bs} {w w' : World} {v : Value} {ps : List Sp} (h : Owns w base v ps) (hb : IsB B b l w) (k : OKept b w w') : Owns w' base v ps := by
  refine ⟨h.1, ?_⟩
  rcases h.2 with h0 | ⟨g, cap, cur, rfl, h1, hg, h2⟩
  · exact .inl h0
  · refine .inr ⟨g, cap, cur, rfl, h1, k g _ hg (fun e => ?_) (fun c fz e => ?_), h2⟩
    · obtain ⟨_, cs, fz, hc⟩ := hb.at'
      rw [← Option.some.inj e, hg] at hc
      exact absurd (Obj.cells.inj (Option.some.inj hc)).2.1 (by decide)
    · exact absurd (Obj.cells.inj e).2.1 (by decide)
theorem write_any (B b : Nat) (l m : Bs) (w : World) (h : IsB B b l w) (hl : l.length ≤ 1000000) (hm : m.length ≤ 1000000) (hB : B ≤ w.heap.size) :
    Calls Tryd.prog 57 #[.pointer (some ⟨b, 0, none⟩), .string (bs m)] w fun e w' => e = .returned (.tuple #[.int .i64 (m.length : Int), .nilIface]) ∧ IsB B b (l ++ m) w' ∧ Below B w w' ∧ OKept b w w' := by
  refine (Any.Builder_WriteString_k lay166 bx166 B b (Lib.byteCells l) (bs m) w h (by rw [Lib.byteCells_length, bs_size]; omega) hB).mono ?_
  rintro e w' ⟨rfl, h1, h2, h3⟩
  refine ⟨by rw [bs_size], .inr ?_, h2, h3⟩
  rw [Lib.byteCells_append]
  exact h1
theorem blen_any (B b : Nat) (l : Bs) (w : World) (h : IsB B b l w) :
    Calls Tryd.prog 84 #[.pointer (some ⟨b, 0, none⟩)] w fun e w' => e = .returned (.int .i64 (l.length : Int)) ∧ w' = w := by
  refine (Any.Builder_Len_f lay170 B b (Lib.byteCells l) w h).mono ?_
  rintro e w' ⟨rfl, h1⟩
  exact ⟨by rw [Lib.byteCells_length], h1⟩
theorem bstr_any (B b : Nat) (l : Bs) (w : World) (h : IsB B b l w) (hB : B ≤ w.heap.size) :
    Calls Tryd.prog 58 #[.pointer (some ⟨b, 0, none⟩)] w fun e w' => e = .returned (.string (bs l)) ∧ Below B w w' := by
  refine (Any.Builder_String_any_k lay169 bx169 B b l w h hB).mono ?_
  rintro e w' ⟨rfl, _, h1, _⟩
  exact ⟨rfl, h1⟩
end Go.Proofs.YtjncnjcpcmpmcaaDoor
