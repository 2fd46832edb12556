/- TurnedOf and MovedBy, the program's and the model's: each hands back the list turned or moved, in new memory. No conditions but those typed. -/
import Derived.Test.YtmpfhdcefilekaaPlain
import Derived.Test.YtmpfhdcefilekaaEq
import Derived.Test.YtmpfhdcefilekaaHas
import Derived.Deep.RegionHeld3
namespace Go.Proofs.Ytmpfhdcefilekaa
open Go.RowKit Go.Sort

def turnedP (ps : List Sp) : List Sp := if picB ps then turned ps else []
theorem turnedP_yes {ps : List Sp} (h : picB ps = true) : turnedP ps = turned ps := by unfold turnedP; rw [h]; rfl
theorem turnedP_no {ps : List Sp} (h : picB ps = false) : turnedP ps = [] := by unfold turnedP; rw [h]; rfl
theorem length_turned (ps : List Sp) : (turned ps).length = ps.length := by simp [turned]
theorem turned_at {ps : List Sp} {k : Nat} {x y : Int} (h : ps[k]? = some (x, y)) : (turned ps)[ps.length - 1 - k]? = some (-x, -y) := by
  have hk := (List.getElem?_eq_some_iff.1 h).1
  unfold turned
  rw [List.getElem?_reverse (by simp; omega)]
  simp only [List.length_map, List.getElem?_map]
  rw [show ps.length - 1 - (ps.length - 1 - k) = k by omega, h]
  rfl
/-- the lists agree from k on -/
def AgreeHi (p q : List Sp) (k : Nat) : Prop := ∀ j, k ≤ j → p[j]? = q[j]?
theorem agreeHi_set {p q : List Sp} {k : Nat} {a : Sp} (h : AgreeHi p q (k + 1)) (hk : k < p.length) (hq : q[k]? = some a) : AgreeHi (p.set k a) q k := fun j hj => by
  by_cases e : j = k
  · subst e; rw [hq, List.getElem?_set]; simp [hk]
  · rw [List.getElem?_set]; simp [show ¬ k = j by omega]; exact h j (by omega)
theorem agreeHi_all {p q : List Sp} (h : AgreeHi p q 0) : p = q := List.ext_getElem? fun j => h j (Nat.zero_le _)

set_option maxHeartbeats 800000 in
theorem implTurned_any (ps : List Sp) (v : Value) (w : World) (h : Reads w w.heap.size v ps) :
    Calls Try.prog 28 #[v] w fun e w' => ∃ v', e = .returned v' ∧ Owns w' w.heap.size v' (turnedP ps) ∧ Below w.heap.size w w' := by
  obtain ⟨A, c, rfl, hc, hm, hA, hr⟩ := h.is
  unfold maxLen at hm
  rcases hp : picB ps with _ | _
  · rw [turnedP_no hp]
    go_enter Try.func28, Try.ntmps28
    go_wp2_with fail
    refine (gives_is hp (implPicture_any ps _ _ h)).mono ?_
    rintro e w1 ⟨rfl, b1⟩
    go_wp2
    go_ret
    exact ⟨_, rfl, Owns.nil _ _, b1⟩
  · rw [turnedP_yes hp]
    have hpl := (picB_pic hp).1
    have hpin := (picB_pic hp).2.1
    go_enter Try.func28, Try.ntmps28
    go_wp2_with fail
    refine (gives_is hp (implPicture_any ps _ _ h)).mono ?_
    rintro e w0 ⟨rfl, b0⟩
    have h' := h.kept b0
    clear hp
    have hbs0 : w.heap.size ≤ w0.heap.size := b0.size
    go_wp2_with (at_make; refine wpList_make_spots ps.length (by omega) rfl _ _ rfl _ _ rfl rfl rfl rfl ?_)
    intro w1 ho1 hg1
    have hb1 : Below w0.heap.size w0 w1 := (Below.refl _ _).grown hg1 (Nat.le_refl _) (by simp)
    clear hg1
    by_cases h0 : ps.length = 0
    · have e : ps = [] := List.eq_nil_of_length_eq_zero h0
      subst e
      go_wp2
      go_rounds 2
      go_ret
      exact ⟨_, rfl, ho1.base b0.size, below_step b0 hb1⟩
    · obtain ⟨b, off, rfl, hb, hcell⟩ := hr (by omega)
      have hO := Lib.hid ho1
      clear ho1
      go_wp2
      go_loopw [14] (fun i wr => ∃ (k : Nat) (cur : List Sp), k ≤ ps.length ∧ i = .int .i64 k ∧ cur.length = ps.length ∧ AgreeHi cur (turned ps) (ps.length - k) ∧ Owns wr w0.heap.size (.slice (some ⟨w0.heap.size, 0, none⟩) ps.length ps.length) cur ∧ Below w0.heap.size w0 wr) (fun i _ => ps.length - (intOf i).toNat)
      case atStart => exact ⟨0, _, Nat.zero_le _, rfl, List.length_replicate, fun j hj => by rw [List.getElem?_eq_none (by simp; omega), List.getElem?_eq_none (by rw [length_turned]; omega)], hO.out, hb1⟩
      case round =>
        obtain ⟨k, cur, hk, rfl, hcl, hag, hown, hbw⟩ := hrel
        have hbs : w0.heap.size ≤ wr.heap.size := hbw.size
        have hcl1 : cur.length ≤ ps.length := by omega
        have hcl2 : ps.length ≤ cur.length := by omega
        have hCL := Lib.hid hcl
        clear hcl
        by_cases hlt : k < ps.length
        · obtain ⟨⟨x, y⟩, hxy⟩ : ∃ a, ps[k]? = some a := ⟨_, List.getElem?_eq_getElem hlt⟩
          obtain ⟨c0, c1⟩ := hcell k x y hxy
          have d0 := (hbw.cell (p := ⟨b, off + k * 2, none⟩) (show b < w0.heap.size by omega)).trans ((b0.cell (p := ⟨b, off + k * 2, none⟩) hb).trans c0)
          have d1 := (hbw.cell (p := ⟨b, off + k * 2 + 1, none⟩) (show b < w0.heap.size by omega)).trans ((b0.cell (p := ⟨b, off + k * 2 + 1, none⟩) hb).trans c1)
          obtain ⟨i1, i2, i3, i4⟩ := hpin _ (List.mem_of_getElem? hxy)
          simp only at i1 i2 i3 i4
          have hH := Lib.hid (turned_at hxy)
          clear c0 c1 hxy
          have hal : Below wr.heap.size wr (wr.alloc (.cells #[.int .i64 x, .int .i64 y] 42)) := (Below.refl _ _).alloc (Nat.le_refl _) _
          have hown2 := hown.below hal
          have fz := hown2.free
          obtain ⟨px, py, _, q0, q1⟩ := hown2.there (k := ps.length - 1 - k) (by omega)
          go_wp2
          go_roundw
          case rel => exact ⟨k + 1, cur.set (ps.length - 1 - k) (-x, -y), by omega, by go_num, by rw [List.length_set]; exact hCL.out, by
            rw [show ps.length - (k + 1) = ps.length - 1 - k by omega]
            exact agreeHi_set (by rw [show ps.length - 1 - k + 1 = ps.length - k by omega]; exact hag) (by omega) hH.out, hown2.set (ps.length - 1 - k) (-x) (-y) (by omega), ((hbw.trans (hal.mono hbs)).setCell (by simp) _).setCell (by simp) _⟩
          case measure => simp [intOf]; omega
        · have hE := Lib.hid (agreeHi_all (by rw [show ps.length - k = 0 by omega] at hag; exact hag))
          go_wp2
          go_ret
          exact ⟨_, rfl, by have e := hE.out; rw [e] at hown; exact hown.base b0.size, below_step b0 hbw⟩

theorem turned_take {ps : List Sp} {k : Nat} {x y : Int} (h : ps[ps.length - 1 - k]? = some (x, y)) (hk : k < ps.length) : (turned ps).take k ++ [(-x, -y)] = (turned ps).take (k + 1) := by
  have h1 := turned_at h
  rw [show ps.length - 1 - (ps.length - 1 - k) = k by omega] at h1
  rw [List.take_add_one, h1]; rfl
theorem turned_take_all (ps : List Sp) (k : Nat) (hk : ps.length ≤ k) : (turned ps).take k = turned ps := List.take_of_length_le (by rw [length_turned]; exact hk)

end Go.Proofs.Ytmpfhdcefilekaa
