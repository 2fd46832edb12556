/- Texts of one kind, merged: Added, Turn, Move. No conditions but those that stand in each theorem. -/
import Derived.Test.YtbbeinhjkfjipaaPicWalk
import Derived.Test.YtbbeinhjkfjipaaPlain
import Derived.Test.YtbbeinhjkfjipaaEq
import Derived.Test.YtbbeinhjkfjipaaHas
import Derived.Deep.RegionHeld3
import Derived.Test.YtbbeinhjkfjipaaTold
namespace Go.Proofs.Ytbbeinhjkfjipaa
/-! ### Added -/
section
open Go.RowKit
theorem added_any (x y u v : Int) (w : World) : Calls Try.prog 48 #[.agg #[.int .i64 x, .int .i64 y], .agg #[.int .i64 u, .int .i64 v]] w (Gives (.agg #[.int .i64 (wrap64 (x + u)), .int .i64 (wrap64 (y + v))]) w) := by
  go_enter Try.func48, Try.ntmps48
  go_wp2
  refine bodyPost_ret (v := .agg #[.int .i64 (wrap64 (x + u)), .int .i64 (wrap64 (y + v))]) (by simp [results, Try.results48, go_sem]) rfl ⟨rfl, ?_⟩
  exact (((Below.refl _ _).alloc (Nat.le_refl _) _).alloc (by simp) _).alloc (by simp; omega) _
theorem added_in (x y u v : Int) (w : World) (h : -1000 ≤ x ∧ x ≤ 1000 ∧ -1000 ≤ y ∧ y ≤ 1000) (k : -1000 ≤ u ∧ u ≤ 1000 ∧ -1000 ≤ v ∧ v ≤ 1000) : Calls Try.prog 48 #[.agg #[.int .i64 x, .int .i64 y], .agg #[.int .i64 u, .int .i64 v]] w (Gives (.agg #[.int .i64 (x + u), .int .i64 (y + v)]) w) := by
  have c := added_any x y u v w
  rwa [IntWalk.wrap64_in _ (by omega), IntWalk.wrap64_in _ (by omega)] at c
theorem added_sw (x y u v : Int) (w : World) (h : -1000 ≤ x ∧ x ≤ 1000 ∧ -1000 ≤ y ∧ y ≤ 1000) (k : -1000 ≤ u ∧ u ≤ 1000 ∧ -1000 ≤ v ∧ v ≤ 1000) : Calls Try.prog 48 #[.agg #[.int .i64 x, .int .i64 y], .agg #[.int .i64 u, .int .i64 v]] w (Gives (.agg #[.int .i64 (u + x), .int .i64 (v + y)]) w) := by
  have c := added_in x y u v w h k
  rwa [Int.add_comm x u, Int.add_comm y v] at c
end
/-! ### Turn -/
section
open Go.RowKit Go.Sort

def turnedP (ps : List Sp) : List Sp := if picB ps then turned ps else []
theorem turnedP_yes {ps : List Sp} (h : picB ps = true) : turnedP ps = turned ps := by unfold turnedP; rw [h]; rfl
theorem turnedP_no {ps : List Sp} (h : picB ps = false) : turnedP ps = [] := by unfold turnedP; rw [h]; rfl
theorem length_turned (ps : List Sp) : (turned ps).length = ps.length := by simp [turned]
theorem turned_at {ps : List Sp} {k : Nat} {x y : Int} (h : ps[k]? = some (x, y)) : (turned ps)[ps.length - 1 - k]? = some (-x, -y) := by
  have hk := (List.getElem?_eq_some_iff.1 h).1
  unfold turned
  rw [List.getElem?_reverse (by simp; omega)]
  simp only [List.length_map, List.getElem?_map]
  rw [show ps.length - 1 - (ps.length - 1 - k) = k by omega, h]
  rfl
/-- the lists agree from k on -/
def AgreeHi (p q : List Sp) (k : Nat) : Prop := ∀ j, k ≤ j → p[j]? = q[j]?
theorem agreeHi_set {p q : List Sp} {k : Nat} {a : Sp} (h : AgreeHi p q (k + 1)) (hk : k < p.length) (hq : q[k]? = some a) : AgreeHi (p.set k a) q k := fun j hj => by
  by_cases e : j = k
  · subst e; rw [hq, List.getElem?_set]; simp [hk]
  · rw [List.getElem?_set]; simp [show ¬ k = j by omega]; exact h j (by omega)
theorem agreeHi_all {p q : List Sp} (h : AgreeHi p q 0) : p = q := List.ext_getElem? fun j => h j (Nat.zero_le _)

set_option maxHeartbeats 800000 in
theorem implTurned_any (ps : List Sp) (v : Value) (w : World) (h : Reads w w.heap.size v ps) :
    Calls Try.prog 23 #[v] w fun e w' => ∃ v', e = .returned v' ∧ Owns w' w.heap.size v' (turnedP ps) ∧ Below w.heap.size w w' := by
  obtain ⟨A, c, rfl, hc, hm, hA, hr⟩ := h.is
  unfold maxLen at hm
  rcases hp : picB ps with _ | _
  · rw [turnedP_no hp]
    go_enter Try.func23, Try.ntmps23
    go_wp2_with fail
    refine (gives_is hp (implPicture_any ps _ _ h)).mono ?_
    rintro e w1 ⟨rfl, b1⟩
    go_wp2
    go_ret
    exact ⟨_, rfl, Owns.nil _ _, b1⟩
  · rw [turnedP_yes hp]
    have hpl := (picB_pic hp).1
    have hpin := (picB_pic hp).2.1
    go_enter Try.func23, Try.ntmps23
    go_wp2_with fail
    refine (gives_is hp (implPicture_any ps _ _ h)).mono ?_
    rintro e w0 ⟨rfl, b0⟩
    have h' := h.kept b0
    clear hp
    have hbs0 : w.heap.size ≤ w0.heap.size := b0.size
    go_wp2_with (at_make; refine wpList_make_spots ps.length (by omega) rfl _ _ rfl _ _ rfl rfl rfl rfl ?_)
    intro w1 ho1 hg1
    have hb1 : Below w0.heap.size w0 w1 := (Below.refl _ _).grown hg1 (Nat.le_refl _) (by simp)
    clear hg1
    by_cases h0 : ps.length = 0
    · have e : ps = [] := List.eq_nil_of_length_eq_zero h0
      subst e
      go_wp2
      go_rounds 2
      go_ret
      exact ⟨_, rfl, ho1.base b0.size, below_step b0 hb1⟩
    · obtain ⟨b, off, rfl, hb, hcell⟩ := hr (by omega)
      have hO := Lib.hid ho1
      clear ho1
      go_wp2
      go_loopw [14] (fun i wr => ∃ (k : Nat) (cur : List Sp), k ≤ ps.length ∧ i = .int .i64 k ∧ cur.length = ps.length ∧ AgreeHi cur (turned ps) (ps.length - k) ∧ Owns wr w0.heap.size (.slice (some ⟨w0.heap.size, 0, none⟩) ps.length ps.length) cur ∧ Below w0.heap.size w0 wr) (fun i _ => ps.length - (intOf i).toNat)
      case atStart => exact ⟨0, _, Nat.zero_le _, rfl, List.length_replicate, fun j hj => by rw [List.getElem?_eq_none (by simp; omega), List.getElem?_eq_none (by rw [length_turned]; omega)], hO.out, hb1⟩
      case round =>
        obtain ⟨k, cur, hk, rfl, hcl, hag, hown, hbw⟩ := hrel
        have hbs : w0.heap.size ≤ wr.heap.size := hbw.size
        have hcl1 : cur.length ≤ ps.length := by omega
        have hcl2 : ps.length ≤ cur.length := by omega
        have hCL := Lib.hid hcl
        clear hcl
        by_cases hlt : k < ps.length
        · obtain ⟨⟨x, y⟩, hxy⟩ : ∃ a, ps[k]? = some a := ⟨_, List.getElem?_eq_getElem hlt⟩
          obtain ⟨c0, c1⟩ := hcell k x y hxy
          have d0 := (hbw.cell (p := ⟨b, off + k * 2, none⟩) (show b < w0.heap.size by omega)).trans ((b0.cell (p := ⟨b, off + k * 2, none⟩) hb).trans c0)
          have d1 := (hbw.cell (p := ⟨b, off + k * 2 + 1, none⟩) (show b < w0.heap.size by omega)).trans ((b0.cell (p := ⟨b, off + k * 2 + 1, none⟩) hb).trans c1)
          obtain ⟨i1, i2, i3, i4⟩ := hpin _ (List.mem_of_getElem? hxy)
          simp only at i1 i2 i3 i4
          have hH := Lib.hid (turned_at hxy)
          clear c0 c1 hxy
          have hal : Below wr.heap.size wr (wr.alloc (.cells #[.int .i64 x, .int .i64 y] 54)) := (Below.refl _ _).alloc (Nat.le_refl _) _
          have hown2 := hown.below hal
          have fz := hown2.free
          obtain ⟨px, py, _, q0, q1⟩ := hown2.there (k := ps.length - 1 - k) (by omega)
          go_wp2
          go_roundw
          case rel => exact ⟨k + 1, cur.set (ps.length - 1 - k) (-x, -y), by omega, by go_num, by rw [List.length_set]; exact hCL.out, by
            rw [show ps.length - (k + 1) = ps.length - 1 - k by omega]
            exact agreeHi_set (by rw [show ps.length - 1 - k + 1 = ps.length - k by omega]; exact hag) (by omega) hH.out, hown2.set (ps.length - 1 - k) (-x) (-y) (by omega), ((hbw.trans (hal.mono hbs)).setCell (by simp) _).setCell (by simp) _⟩
          case measure => simp [intOf]; omega
        · have hE := Lib.hid (agreeHi_all (by rw [show ps.length - k = 0 by omega] at hag; exact hag))
          go_wp2
          go_ret
          exact ⟨_, rfl, by have e := hE.out; rw [e] at hown; exact hown.base b0.size, below_step b0 hbw⟩

theorem turned_take {ps : List Sp} {k : Nat} {x y : Int} (h : ps[ps.length - 1 - k]? = some (x, y)) (hk : k < ps.length) : (turned ps).take k ++ [(-x, -y)] = (turned ps).take (k + 1) := by
  have h1 := turned_at h
  rw [show ps.length - 1 - (ps.length - 1 - k) = k by omega] at h1
  rw [List.take_add_one, h1]; rfl
theorem turned_take_all (ps : List Sp) (k : Nat) (hk : ps.length ≤ k) : (turned ps).take k = turned ps := List.take_of_length_le (by rw [length_turned]; exact hk)

end
/-! ### Move -/
section
open Go.RowKit Go.Sort

/-- moved, as int's arithmetic has it -/
def movedW (p : List Sp) (a : Sp) : List Sp := p.map fun b => (wrap64 (b.1 + a.1), wrap64 (b.2 + a.2))
def wide (a : Sp) : Bool := decide (-60 ≤ a.1 ∧ a.1 ≤ 60 ∧ -60 ≤ a.2 ∧ a.2 ≤ 60)
def moveOk (p : List Sp) (a : Sp) : Bool := picB p && wide a && picB (moved p a)
def moveL (p : List Sp) (a : Sp) : List Sp := if moveOk p a then moved p a else []
theorem moved_at {p : List Sp} {a : Sp} {k : Nat} {x y : Int} (h : p[k]? = some (x, y)) : (moved p a)[k]? = some (x + a.1, y + a.2) := by
  unfold moved; rw [List.getElem?_map, h]; rfl
theorem movedW_at {p : List Sp} {a : Sp} {k : Nat} {x y : Int} (h : p[k]? = some (x, y)) : (movedW p a)[k]? = some (wrap64 (x + a.1), wrap64 (y + a.2)) := by
  unfold movedW; rw [List.getElem?_map, h]; rfl
theorem length_moved (p : List Sp) (a : Sp) : (moved p a).length = p.length := by simp [moved]
theorem length_movedW (p : List Sp) (a : Sp) : (movedW p a).length = p.length := by simp [movedW]
theorem moved_eq {p : List Sp} {a : Sp} (hp : Pic p) (ha : wide a = true) : movedW p a = moved p a := by
  unfold movedW moved
  refine List.map_congr_left fun b hb => ?_
  have hi := hp.2.1 b hb
  have hw := of_decide_eq_true ha
  unfold InR at hi
  rw [IntWalk.wrap64_in _ (by omega), IntWalk.wrap64_in _ (by omega)]
theorem move_no1 {p : List Sp} {a : Sp} (h : picB p = false) : moveOk p a = false ∧ moveL p a = [] := by
  have : moveOk p a = false := by unfold moveOk; rw [h]; rfl
  exact ⟨this, by unfold moveL; rw [this]; rfl⟩
theorem move_no2 {p : List Sp} {a : Sp} (h : wide a = false) : moveOk p a = false ∧ moveL p a = [] := by
  have : moveOk p a = false := by unfold moveOk; rw [h]; simp
  exact ⟨this, by unfold moveL; rw [this]; rfl⟩
theorem move_no3 {p : List Sp} {a : Sp} (h : picB (moved p a) = false) : moveOk p a = false ∧ moveL p a = [] := by
  have : moveOk p a = false := by unfold moveOk; rw [h]; simp
  exact ⟨this, by unfold moveL; rw [this]; rfl⟩
theorem move_yes {p : List Sp} {a : Sp} (h1 : picB p = true) (h2 : wide a = true) (h3 : picB (moved p a) = true) : moveOk p a = true ∧ moveL p a = moved p a := by
  have : moveOk p a = true := by unfold moveOk; rw [h1, h2, h3]; rfl
  exact ⟨this, by unfold moveL; rw [this]; rfl⟩

theorem inB_wide (x y : Int) : inB x y 60 = wide (x, y) := rfl

end
end Go.Proofs.Ytbbeinhjkfjipaa
