/- Go's strings.Cut at one byte, without a condition on the library's variables. No conditions but those typed. -/
import Derived.Shelf.Strings.Search1
import Derived.Lib.IndexLaws
import Derived.Test.YtpdnakiilhohdaaDoorDeedQ
import Derived.Test.YtpdnakiilhohdaaDoorCutS
import Derived.Test.YtpdnakiilhohdaaDoorRows
namespace Go.Proofs.YtpdnakiilhohdaaDoor
open Go.RowKit Go.Sort Go.Shelf

def lay217_ren : Go.Shelf.Ren := ⟨fun | 217 => 78 | 266 => 89 | n => n, fun | 3 => 3 | 5 => 5 | 9 => 9 | n => n, fun | n => n⟩
theorem lay217 : Go.Proofs.Lays.n217 Tryd.prog lay217_ren := {
  mixed := by kernel_rfl
  f217 := Tryd.func78.trans (congrArg some (by kernel_rfl))
  f266 := Tryd.func89.trans (congrArg some (by kernel_rfl))
  t3 := Tryd.underlying3
  a3 := Tryd.isAgg3
  z3 := Tryd.sizeOf3
  v3 := Tryd.zeroValue3
  t5 := Tryd.underlying5
  a5 := Tryd.isAgg5
  z5 := Tryd.sizeOf5
  v5 := Tryd.zeroValue5
  t9 := Tryd.underlying9
  a9 := Tryd.isAgg9
  z9 := Tryd.sizeOf9
  v9 := Tryd.zeroValue9 }
theorem idxB_none {c : UInt8} : ∀ {l : Bs}, Lib.indexByte l c = -1 → c ∉ l := fun {l} h hm => by
  obtain ⟨k, hk, e⟩ := List.mem_iff_getElem.1 hm
  exact Lib.indexByte_none h k (by rw [List.getElem?_eq_getElem hk, e])
theorem idxB_some {c : UInt8} {l : Bs} {k : Nat} (h : Lib.indexByte l c = (k : Int)) : l = l.take k ++ c :: l.drop (k + 1) ∧ c ∉ l.take k ∧ k < l.length := by
  obtain ⟨h1, h2⟩ := Lib.indexByte_some h
  have hk := (List.getElem?_eq_some_iff.1 h1).1
  refine ⟨?_, fun hm => ?_, hk⟩
  · conv => lhs; rw [← List.take_append_drop k l]
    congr 1
    rw [List.drop_eq_getElem_cons hk]
    congr 1
    exact (List.getElem?_eq_some_iff.1 h1).2
  · obtain ⟨j, hj, e⟩ := List.mem_iff_getElem.1 hm
    rw [List.length_take] at hj
    refine h2 j (by omega) ?_
    rw [List.getElem_take] at e
    rw [List.getElem?_eq_getElem (by omega), e]
/-- either there is none, or it is cut at the first one -/
theorem idxB_cut (l : Bs) (c : UInt8) : (Lib.indexByte l c = -1 ∧ cutAt c l = (l, [], false)) ∨ ∃ k : Nat, Lib.indexByte l c = (k : Int) ∧ k < l.length ∧ cutAt c l = (l.take k, l.drop (k + 1), true) := by
  have hge := Lib.indexByte_ge l c
  by_cases h : Lib.indexByte l c = -1
  · exact .inl ⟨h, cutAt_none (idxB_none h)⟩
  · obtain ⟨k, hk⟩ := Int.eq_ofNat_of_zero_le (by omega : 0 ≤ Lib.indexByte l c)
    obtain ⟨e1, e2, e3⟩ := idxB_some hk
    refine .inr ⟨k, hk, e3, ?_⟩
    have := cutAt_app (l.drop (k + 1)) e2
    rw [← e1] at this
    exact this
theorem idxByteL_any (l : Bs) (c : UInt8) (w : World) : Calls Tryd.prog 78 #[.string (bs l), .int .u8 (c.toNat : Int)] w (Gives (.int .i64 (Lib.indexByte l c)) w) := by
  refine (Any.stringslite_IndexByte lay217 (bs l) (c.toNat : Int) w).mono ?_
  rintro e w' ⟨rfl, rfl⟩
  refine ⟨?_, Below.refl _ _⟩
  rw [show (bs l).data.toList = l from rfl, Int.toNat_natCast, show c.toNat.toUInt8 = c from by simp]
theorem idxByte_lit {l : Bs} {c : UInt8} {z i : Int} (hz : (c.toNat : Int) = z) (hi : Lib.indexByte l c = i) (w : World) : Calls Tryd.prog 78 #[.string (bs l), .int .u8 z] w (Gives (.int .i64 i) w) := by
  subst hz; subst hi; exact idxByteL_any l c w
set_option maxRecDepth 100000 in
set_option maxHeartbeats 1600000 in
theorem idxStr_any (l : Bs) (c : UInt8) (w : World) : Calls Tryd.prog 70 #[.string (bs l), .string (bs [c])] w (Gives (.int .i64 (Lib.indexByte l c)) w) := by
  have h1 : (bs [c]).size = 1 := rfl
  have hsz := bs_size l
  obtain ⟨i, hi⟩ : ∃ i, Lib.indexByte l c = i := ⟨_, rfl⟩
  obtain ⟨z, hz⟩ : ∃ z : Int, (c.toNat : Int) = z := ⟨_, rfl⟩
  rw [hi]
  replace hi := Lib.hid hi
  have hix : ∀ W, (Instr.index 9 (.string (bs [c])) (.int .i64 0)).run Tryd.prog W = .ok (.int .u8 z) W := bs_index0 (P := Tryd.prog) Tryd.underlying9 (l := [c]) (b := c) rfl hz
  rcases hq : ((bs [c]).toList == (bs l).toList) with _ | _
  · go_enter Tryd.func70, Tryd.ntmps70
    go_wp2_with fail
    refine (idxByte_lit hz hi.out w).mono ?_
    rintro e w1 ⟨rfl, b1⟩
    go_wp2
    go_ret
    exact ⟨rfl, b1⟩
  · have e : [c] = l := by
      have h := beq_iff_eq.1 hq
      rwa [show (bs [c]).toList = [c] from ByteArray.toList_mk _, show (bs l).toList = l from ByteArray.toList_mk _] at h
    have e0 : i = 0 := by rw [← hi.out, ← e]; unfold Lib.indexByte; simp
    subst e0
    replace e := Lib.hid e
    go_enter Tryd.func70, Tryd.ntmps70
    go_wp2
    go_ret
    exact ⟨rfl, Below.refl _ _⟩
def CutPost (l : Bs) (c : UInt8) (w : World) (e : Ending) (w' : World) : Prop := e = .returned (.tuple #[.string (bs (cutAt c l).1), .string (bs (cutAt c l).2.1), .bool (cutAt c l).2.2]) ∧ Below w.heap.size w w'
set_option maxRecDepth 100000 in
set_option maxHeartbeats 1600000 in
theorem cutLite_any (l : Bs) (c : UInt8) (hl : l.length ≤ 1000000000) (w : World) : Calls Tryd.prog 62 #[.string (bs l), .string (bs [c])] w (CutPost l c w) := by
  have h1 : (bs [c]).size = 1 := rfl
  have hsz := bs_size l
  unfold CutPost
  rcases idxB_cut l c with ⟨hi, hc⟩ | ⟨k, hi, hk, hc⟩
  · rw [hc]
    have hI := idxStr_any l c w
    rw [hi] at hI
    clear hi hc
    go_enter Tryd.func62, Tryd.ntmps62
    go_wp2_with fail
    refine hI.mono ?_
    rintro e w1 ⟨rfl, b1⟩
    go_wp2
    go_ret3
    exact ⟨rfl, b1⟩
  · rw [hc]
    have hI := idxStr_any l c w
    rw [hi] at hI
    clear hi hc
    have k0 : (0 : Int) ≤ (k : Int) := Int.natCast_nonneg _
    have k1 : (k : Int) ≤ (l.length : Int) := by omega
    have k2 : (k : Int) + 1 ≤ (l.length : Int) := by omega
    have k3 : (0 : Int) ≤ (k : Int) + 1 := by omega
    have k4 : ((k : Int) + 1).toNat = k + 1 := by omega
    have hwr : IntKind.i64.wrap ((k : Int) + 1) = (k : Int) + 1 := IntWalk.i64_in _ (by omega)
    have hex1 : (bs l).extract 0 k = bs (l.take k) := by rw [bs_extract]; simp
    have hex3 : (bs l).extract (k + 1) l.length = bs (l.drop (k + 1)) := by rw [bs_extract]; simp
    clear hk
    go_enter Tryd.func62, Tryd.ntmps62
    go_wp2_with fail
    refine hI.mono ?_
    rintro e w1 ⟨rfl, b1⟩
    go_wp2
    go_region
    all_goals
      go_wp2
      go_ret3
      exact ⟨rfl, b1.drew⟩
set_option maxRecDepth 100000 in
set_option maxHeartbeats 1600000 in
theorem cut_any (l : Bs) (c : UInt8) (hl : l.length ≤ 1000000000) (w : World) : Calls Tryd.prog 50 #[.string (bs l), .string (bs [c])] w (CutPost l c w) := by
  go_enter Tryd.func50, Tryd.ntmps50
  go_wp2_with fail
  refine (cutLite_any l c hl w).mono ?_
  rintro e w1 ⟨rfl, b1⟩
  go_wp2
  go_ret3
  exact ⟨rfl, b1⟩
end Go.Proofs.YtpdnakiilhohdaaDoor
