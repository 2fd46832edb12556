/-
  What the library's functions do here, in words of lists of bytes: strings.Trim, TrimLeft, IndexAny at one sign, Join, Repeat, strconv.Itoa, Atoi, slices.Reverse at texts. No conditions but those typed: where a variable of the library is read, what it holds ('PowOk', 'ErrOk').
-/
import Derived.Test.YtjncnjcpcmpmcaaDoorLibs
import Derived.Test.YtjncnjcpcmpmcaaDoorTextQ
import Derived.Test.YtjncnjcpcmpmcaaDoorRowsT
import Derived.WalkSmall
import Derived.Deep.WholeRow
namespace Go.Proofs.YtjncnjcpcmpmcaaDoor
open Go.RowKit Go.Sort Go.Shelf

/-! ### what the library's variables hold -/
/-- the table's name, as the first row lists it -/
def powName : String := Rows.fnTextOfRow.named.headD default
def PowOk (w : World) : Prop := Lib.TabIs Tryd.prog w powName .u64 Lib.pow10Tab
def ErrOk (w : World) : Prop := (∃ tp p, w.cell? ⟨4, 0, none⟩ = some (.iface tp p)) ∧ ∃ tp p, w.cell? ⟨5, 0, none⟩ = some (.iface tp p)
theorem PowOk.below {w w' : World} (h : PowOk w) (hb : Below w.heap.size w w') : PowOk w' := by
  have hg : Tryd.prog.globalNamed powName = some 0 := by kernel_rfl
  have hlt : 0 < w.heap.size := World.block_lt_of_cell? _ _ (h.cell hg 0 (by decide))
  exact var?_below hb hg hlt h
theorem ErrOk.below {w w' : World} (h : ErrOk w) (hb : Below w.heap.size w w') : ErrOk w' := by
  obtain ⟨⟨t1, p1, h1⟩, t2, p2, h2⟩ := h
  exact ⟨⟨t1, p1, (hb.cell (World.block_lt_of_cell? _ _ h1)).trans h1⟩, t2, p2, (hb.cell (World.block_lt_of_cell? _ _ h2)).trans h2⟩

/-! ### strings -/
theorem ascii2 : ∀ (j : Nat) b, (bs [35, 46]).data.toList[j]? = some b → b.toNat < 128 := fun j b h => by
  have hm := List.mem_of_getElem? h
  have : b = 35 ∨ b = 46 := by simpa [bs] using hm
  rcases this with rfl | rfl <;> decide
theorem ascii1 {c : UInt8} (hc : c.toNat < 128) : ∀ (j : Nat) b, (bs [c]).data.toList[j]? = some b → b.toNat < 128 := fun j b h => by
  have hm := List.mem_of_getElem? h
  have : b = c := by simpa [bs] using hm
  rw [this]; exact hc
theorem trim_any (l : Bs) (w : World) (hl : l.length ≤ 1000000000) : Calls Tryd.prog 55 #[.string (bs l), .string (bs [35, 46])] w (Gives (strV (Lib.trimS l [35, 46])) w) :=
  Any.strings_Trim_laid lay160 (by kernel_rfl) (bs l) (bs [35, 46]) w (by rw [bs_size]; omega) (by decide) ascii2
theorem trimLeft_any (l : Bs) (b : UInt8) (hb : b.toNat < 128) (w : World) : Calls Tryd.prog 56 #[.string (bs l), .string (bs [b])] w (Gives (strV (Lib.trimLeftB l b)) w) := by
  refine (Any.strings_TrimLeft_one lay161 (bs l) b hb w).mono ?_
  rintro e w' ⟨rfl, rfl⟩
  exact ⟨rfl, Below.refl _ _⟩
theorem idxOne_any (l : Bs) (c : UInt8) (hc : c.toNat < 128) (w : World) : Calls Tryd.prog 73 #[.string (bs l), .string (bs [c])] w (Gives (.int .i64 (Lib.indexAny l [c])) w) := by
  refine (Any.strings_IndexAny_one lay153 (bs l) (bs [c]) w rfl (ascii1 hc)).mono ?_
  rintro e w' ⟨rfl, rfl⟩
  exact ⟨rfl, Below.refl _ _⟩
theorem idxAscii_any (l : Bs) (hl : l.length ≤ 1000000000) (ha : ∀ b ∈ l, b.toNat < 128) (w : World) : Calls Tryd.prog 73 #[.string (bs l), .string (bs [35, 46])] w (Gives (.int .i64 (Lib.indexAny l [35, 46])) w) :=
  Any.strings_IndexAny_laid lay153 (by kernel_rfl) (bs l) (bs [35, 46]) w (by rw [bs_size]; omega) (by decide) (fun j b h => ha b (List.mem_of_getElem? h)) ascii2
theorem zeroSet : ∀ w, (zeroValue (lay153_ren.t 116)).run Tryd.prog w = .ok (.agg (Array.replicate 256 (.bool false))) w := (zero_of_info (P := Tryd.prog) (n := 256) (by kernel_rfl)).1
theorem idxLong_any (l : Bs) (hl : l.length ≤ 1000000000) (h8 : 8 < l.length) (w : World) : Calls Tryd.prog 73 #[.string (bs l), .string (bs [35, 46])] w (Gives (.int .i64 (Lib.indexAny l [35, 46])) w) := by
  refine (Any.strings_IndexAny_long lay153 zeroSet (by kernel_rfl) (bs l) (bs [35, 46]) w (by decide) (by rw [bs_size]; exact h8) (by rw [bs_size]; omega) (by decide) ascii2).mono ?_
  rintro e w' ⟨rfl, rfl⟩
  exact ⟨rfl, ((Below.refl _ _).alloc (Nat.le_refl _) _).alloc (by simp) _⟩
theorem join_any (r : List Bs) (v : Value) (b : Nat) (w : World) (h : VOwns 9 w b v (strZ r)) (h0 : r ≠ []) (hr : r.length ≤ 1000) (hl : (joinB 47 r).length ≤ 1000000) :
    Calls Tryd.prog 38 #[v, .string (bs [47])] w (Gives (strV (joinB 47 r)) w) := by
  obtain ⟨A, c, rfl, hc, hm, hg⟩ := h.shape
  rw [strZ_len] at hc hg ⊢
  obtain ⟨g, rfl, hg1, hg2⟩ := hg (List.length_pos_iff.2 h0)
  have e : ((r.map bs).map fun x => x.data.toList) = r := by
    rw [List.map_map]
    conv => rhs; rw [← List.map_id r]
    rfl
  have hlen : (r.map bs).length = r.length := List.length_map _
  have c := Any.strings_Join lay156 bx156 g 0 c (r.map bs) (bs [47]) w (fun j x hx => by
    rw [List.getElem?_map, Option.map_eq_some_iff] at hx
    obtain ⟨l, h1, rfl⟩ := hx
    have hj := (List.getElem?_eq_some_iff.1 h1).1
    rw [Nat.zero_add]
    refine (h.cell (k := j) (by rw [strZ_len]; exact hj)).trans ?_
    unfold strZ
    rw [List.getElem?_map, h1]; rfl) hg2 (by rw [hlen]; omega) (by rw [hlen]; exact hc) (by
      rw [e, show (bs [47]).data.toList = [47] from rfl, join_is]; omega)
  rw [e, show (bs [47]).data.toList = [47] from rfl, join_is, hlen] at c
  exact c
theorem repeat_any (b : UInt8) (n : Nat) (hn : n ≤ 1000) (w : World) : Calls Tryd.prog 86 #[.string (bs [b]), .int .i64 (n : Int)] w (Gives (strV (List.replicate n b)) w) := by
  have c := Any.strings_Repeat lay105 bx105 (bs [b]) n w (by omega) (by rw [bs_size]; simp; omega)
  rw [show (bs [b]).data.toList = [b] from rfl, repeat_is] at c
  exact c

/-! ### numbers -/
theorem itoaSmall_any (n : Nat) (hn : n < 100) (w : World) : Calls Tryd.prog 37 #[.int .i64 (n : Int)] w (Gives (strV (natB n)) w) := by
  have c := Any.strconv_Itoa_small lay171.ton171 n hn w
  rw [decDigits_is] at c
  refine c.mono ?_
  rintro e w' ⟨rfl, rfl⟩
  exact ⟨rfl, Below.refl _ _⟩
theorem itoa_any (n : Int) (hn : -1000000 < n ∧ n < 1000000) (w : World) (hp : PowOk w) : Calls Tryd.prog 37 #[.int .i64 n] w (Gives (strV (numB n)) w) := by
  have c := Any.strconv_Itoa lay171 n (by omega) (by omega) w hp
  rw [itoa_is] at c
  refine c.mono ?_
  rintro e w' ⟨rfl, k, os, rfl⟩
  exact ⟨rfl, ⟨rfl, rfl, rfl, by show w.heap.size ≤ (w.heap ++ os).size; rw [Array.size_append]; omega, fun j hj => by show (w.heap ++ os)[j]? = w.heap[j]?; rw [Array.getElem?_append_left hj]⟩⟩
/-- how Atoi ends -/
def AtoiPost (l : Bs) (w : World) (e : Ending) (w' : World) : Prop := Below w.heap.size w w' ∧ ((∃ v, Lib.atoiAll l = .ok v ∧ e = .returned (.tuple #[.int .i64 v, .nilIface])) ∨ ((∀ v, Lib.atoiAll l ≠ .ok v) ∧ ∃ z tp p, e = .returned (.tuple #[.int .i64 z, .iface tp p])))
theorem atoi_any (l : Bs) (hl : l.length ≤ 1000000000) (w : World) (he : ErrOk w) : Calls Tryd.prog 91 #[.string (bs l)] w (AtoiPost l w) := by
  obtain ⟨⟨t1, p1, h1⟩, t2, p2, h2⟩ := he
  have hd : (bs l).data.toList = l := rfl
  rcases h : Lib.atoiAll l with v | _ | _
  · refine (Any.strconv_Atoi_ok lay172 (bs l) (by rw [bs_size]; omega) v (by rw [hd]; exact h) w).mono ?_
    rintro e w' ⟨rfl, hw⟩
    refine ⟨?_, .inl ⟨v, h, rfl⟩⟩
    rcases hw with rfl | ⟨t, rfl⟩
    · exact Below.refl _ _
    · exact Lib.bytesWorld_below _ _ _
  · refine (Any.strconv_Atoi_syntax lay172 (bs l) (by rw [bs_size]; omega) (by rw [hd]; exact h) _ w h1 (.inr ⟨t1, p1, rfl⟩)).mono ?_
    rintro e w' ⟨N, rfl, _, _, hb⟩
    exact ⟨hb, .inr ⟨fun v hv => (by rw [h] at hv; cases hv), _, _, _, rfl⟩⟩
  · refine (Any.strconv_Atoi_range lay172 (bs l) (by rw [bs_size]; omega) (by rw [hd]; exact h) _ w h2 (.inr ⟨t2, p2, rfl⟩)).mono ?_
    rintro e w' ⟨N, rfl, _, _, hb⟩
    exact ⟨hb, .inr ⟨fun v hv => (by rw [h] at hv; cases hv), _, _, _, rfl⟩⟩
end Go.Proofs.YtjncnjcpcmpmcaaDoor
