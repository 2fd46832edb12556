/- Texts of one kind, merged: Added, Turn, Move. No conditions but those that stand in each theorem. -/
import Derived.Test.YtgdifenicjgfjaaPicWalk
import Derived.Test.YtgdifenicjgfjaaPlain
import Derived.Test.YtgdifenicjgfjaaMark
import Derived.Test.YtgdifenicjgfjaaHas
import Derived.Deep.RegionHeld3
import Derived.Test.YtgdifenicjgfjaaTold
namespace Go.Proofs.Ytgdifenicjgfjaa
/-! ### Added -/
section
open Go.RowKit
end
/-! ### Turn -/
section
open Go.RowKit Go.Sort

def turnedP (ps : List Sp) : List Sp := if picB ps then turned ps else []
theorem turnedP_yes {ps : List Sp} (h : picB ps = true) : turnedP ps = turned ps := by unfold turnedP; rw [h]; rfl
theorem turnedP_no {ps : List Sp} (h : picB ps = false) : turnedP ps = [] := by unfold turnedP; rw [h]; rfl
theorem length_turned (ps : List Sp) : (turned ps).length = ps.length := by simp [turned]
theorem turned_at {ps : List Sp} {k : Nat} {x y : Int} (h : ps[k]? = some (x, y)) : (turned ps)[ps.length - 1 - k]? = some (-x, -y) := by
  have hk := (List.getElem?_eq_some_iff.1 h).1
  unfold turned
  rw [List.getElem?_reverse (by simp; omega)]
  simp only [List.length_map, List.getElem?_map]
  rw [show ps.length - 1 - (ps.length - 1 - k) = k by omega, h]
  rfl
/-- the lists agree from k on -/
def AgreeHi (p q : List Sp) (k : Nat) : Prop := ∀ j, k ≤ j → p[j]? = q[j]?
theorem agreeHi_set {p q : List Sp} {k : Nat} {a : Sp} (h : AgreeHi p q (k + 1)) (hk : k < p.length) (hq : q[k]? = some a) : AgreeHi (p.set k a) q k := fun j hj => by
  by_cases e : j = k
  · subst e; rw [hq, List.getElem?_set]; simp [hk]
  · rw [List.getElem?_set]; simp [show ¬ k = j by omega]; exact h j (by omega)
theorem agreeHi_all {p q : List Sp} (h : AgreeHi p q 0) : p = q := List.ext_getElem? fun j => h j (Nat.zero_le _)

theorem turned_take {ps : List Sp} {k : Nat} {x y : Int} (h : ps[ps.length - 1 - k]? = some (x, y)) (hk : k < ps.length) : (turned ps).take k ++ [(-x, -y)] = (turned ps).take (k + 1) := by
  have h1 := turned_at h
  rw [show ps.length - 1 - (ps.length - 1 - k) = k by omega] at h1
  rw [List.take_add_one, h1]; rfl
theorem turned_take_all (ps : List Sp) (k : Nat) (hk : ps.length ≤ k) : (turned ps).take k = turned ps := List.take_of_length_le (by rw [length_turned]; exact hk)

set_option maxHeartbeats 800000 in
theorem specTurned_any (ps : List Sp) (v : Value) (w : World) (h : Reads w w.heap.size v ps) (hsm : ps.length ≤ 1100000) :
    Calls Try.prog 62 #[v] w fun e w' => ∃ v', e = .returned v' ∧ Owns w' w.heap.size v' (turnedP ps) ∧ Below w.heap.size w w' := by
  obtain ⟨A, c, rfl, hc, hm, hA, hr⟩ := h.is
  unfold maxLen at hm
  have hal : Below w.heap.size w (w.alloc (.cells #[] 30)) := (Below.refl _ _).alloc (Nat.le_refl _) _
  have o0 := Owns.empty w w.heap.size (Nat.le_refl _)
  by_cases h0 : ps.length = 0
  · have e : ps = [] := List.eq_nil_of_length_eq_zero h0
    subst e
    go_enter Try.func62, Try.ntmps62
    go_wp2
    refine wp_loop_rounds 1 ?_
    rw [rounds_succ]
    go_wp2
    go_ret
    exact ⟨_, rfl, o0, hal⟩
  · obtain ⟨b, off, rfl, hb, hcell⟩ := hr (by omega)
    have hd0 : (0 : Int) ≤ (ps.length : Int) - 1 := by omega
    have hd1 : 1 ≤ ps.length := by omega
    have hd5 : (1 : Int) ≤ (ps.length : Int) := by omega
    have hd2 : decide (1 ≤ ps.length) = true := decide_eq_true hd1
    have hd3 : decide ((0 : Int) ≤ (ps.length : Int) - 1) = true := decide_eq_true hd0
    rcases hp : picB ps with _ | _
    · rw [turnedP_no hp]
      go_enter Try.func62, Try.ntmps62
      go_wp2
      refine wp_loop_rounds 1 ?_
      rw [rounds_succ]
      go_wp2_with fail
      refine (gives_is hp (specPicture_any ps _ _ (h.kept hal))).mono ?_
      rintro e w1 ⟨rfl, b1⟩
      go_wp2
      go_ret
      exact ⟨_, rfl, o0.below b1, below_step hal b1⟩
    · rw [turnedP_yes hp]
      have hpin := (picB_pic hp).2.1
      have HP := Lib.hid hp
      clear hp
      go_enter Try.func62, Try.ntmps62
      go_wp2
      go_loopw [3, 4] (fun v i wr => ∃ (j : Nat), j ≤ ps.length ∧ i = .int .i64 ((j : Int) - 1) ∧ Owns wr w.heap.size v ((turned ps).take (ps.length - j)) ∧ Below w.heap.size w wr) (fun _ i _ => (intOf i + 1).toNat)
      case atStart => exact ⟨ps.length, Nat.le_refl _, rfl, by rw [Nat.sub_self, List.take_zero]; exact o0, hal⟩
      case round =>
        obtain ⟨j, hj, rfl, hown, hbw⟩ := hrel
        have hbs := hbw.size
        cases j with
        | succ m =>
          rw [show ((m + 1 : Nat) : Int) - 1 = (m : Int) by omega]
          obtain ⟨⟨x, y⟩, hxy⟩ : ∃ a, ps[m]? = some a := ⟨_, List.getElem?_eq_getElem (by omega)⟩
          obtain ⟨i1, i2, i3, i4⟩ := hpin _ (List.mem_of_getElem? hxy)
          simp only at i1 i2 i3 i4
          obtain ⟨c0, c1⟩ := hcell _ x y hxy
          have hT := Lib.hid (turned_take (k := ps.length - (m + 1)) (by rw [show ps.length - 1 - (ps.length - (m + 1)) = m by omega]; exact hxy) (by omega))
          clear hxy
          have HH := HP.out
          go_wp2_with fail
          refine (gives_is HH (specPicture_any ps _ _ ((h.below hbw).more hbs))).mono ?_
          rintro e w1 ⟨rfl, b1⟩
          clear HH
          have hbw1 := below_step hbw b1
          have d0 := (hbw1.cell (p := ⟨b, off + m * 2, none⟩) hb).trans c0
          have d1 := (hbw1.cell (p := ⟨b, off + m * 2 + 1, none⟩) hb).trans c1
          have own1 := hown.below b1
          have hbs1 := hbw1.size
          have hm0 : (0 : Int) ≤ (m : Int) := Int.natCast_nonneg _
          have hm1 : (m : Int) < (ps.length : Int) := by omega
          have hwx : IntKind.i64.wrap (-x) = -x := IntWalk.i64_in _ (by omega)
          have hwy : IntKind.i64.wrap (-y) = -y := IntWalk.i64_in _ (by omega)
          have bal := (hbw1.alloc hbs1 (.cells #[.int .i64 (-x), .int .i64 (-y)] 30)).drew
          have own2 : Owns (w1.alloc (.cells #[.int .i64 (-x), .int .i64 (-y)] 30)).drew w.heap.size u3 ((turned ps).take (ps.length - (m + 1))) := (own1.below ((Below.refl w1.heap.size w1).alloc (Nat.le_refl _) _)).below (Below.refl _ _).drew
          have hq1 : ((turned ps).take (ps.length - (m + 1))).length + [(-x, -y)].length ≤ 8000000000000 := by simp; omega
          have hq2 : w.heap.size ≤ (w1.alloc (.cells #[.int .i64 (-x), .int .i64 (-y)] 30)).drew.heap.size := by simp; omega
          go_wp2_with fail
          go_region_held3 (fun w' => w'.cell? ⟨b, off + m * 2, none⟩ = some (.int .i64 x) ∧ w'.cell? ⟨b, off + m * 2 + 1, none⟩ = some (.int .i64 y)) (first | go_keep | exact ⟨by assumption, by assumption⟩)
            ((refine step_append_spots (qs := [(-x, -y)]) own2 (Reads.one (g := w1.heap.size) (by simp [go_sem]) (by simp [go_sem])) hq1 hq2 (by rfl) _ _ (by rfl) (by rfl) (by rfl) ?_; intro v2 w2 o2 g2 _; have bz := own2.below_app bal hq2 g2; have e0 := (bz.cell (p := ⟨b, off + m * 2, none⟩) hb).trans c0; have e1 := (bz.cell (p := ⟨b, off + m * 2 + 1, none⟩) hb).trans c1))
          go_wp2
          go_roundw
          case rel => exact ⟨m, by omega, rfl, by
            have e := hT.out
            rw [show ps.length - (m + 1) + 1 = ps.length - m by omega] at e
            rw [← e]; exact o2, bz⟩
          case measure => simp [intOf]
        | zero =>
          go_wp2
          go_ret
          exact ⟨_, rfl, by
            rw [turned_take_all ps _ (by omega)] at hown
            exact hown, hbw⟩
end
/-! ### Move -/
section
open Go.RowKit Go.Sort

/-- moved, as int's arithmetic has it -/
def movedW (p : List Sp) (a : Sp) : List Sp := p.map fun b => (wrap64 (b.1 + a.1), wrap64 (b.2 + a.2))
def wide (a : Sp) : Bool := decide (-60 ≤ a.1 ∧ a.1 ≤ 60 ∧ -60 ≤ a.2 ∧ a.2 ≤ 60)
def moveOk (p : List Sp) (a : Sp) : Bool := picB p && wide a && picB (moved p a)
def moveL (p : List Sp) (a : Sp) : List Sp := if moveOk p a then moved p a else []
theorem moved_at {p : List Sp} {a : Sp} {k : Nat} {x y : Int} (h : p[k]? = some (x, y)) : (moved p a)[k]? = some (x + a.1, y + a.2) := by
  unfold moved; rw [List.getElem?_map, h]; rfl
theorem movedW_at {p : List Sp} {a : Sp} {k : Nat} {x y : Int} (h : p[k]? = some (x, y)) : (movedW p a)[k]? = some (wrap64 (x + a.1), wrap64 (y + a.2)) := by
  unfold movedW; rw [List.getElem?_map, h]; rfl
theorem length_moved (p : List Sp) (a : Sp) : (moved p a).length = p.length := by simp [moved]
theorem length_movedW (p : List Sp) (a : Sp) : (movedW p a).length = p.length := by simp [movedW]
theorem moved_eq {p : List Sp} {a : Sp} (hp : Pic p) (ha : wide a = true) : movedW p a = moved p a := by
  unfold movedW moved
  refine List.map_congr_left fun b hb => ?_
  have hi := hp.2.1 b hb
  have hw := of_decide_eq_true ha
  unfold InR at hi
  rw [IntWalk.wrap64_in _ (by omega), IntWalk.wrap64_in _ (by omega)]
theorem move_no1 {p : List Sp} {a : Sp} (h : picB p = false) : moveOk p a = false ∧ moveL p a = [] := by
  have : moveOk p a = false := by unfold moveOk; rw [h]; rfl
  exact ⟨this, by unfold moveL; rw [this]; rfl⟩
theorem move_no2 {p : List Sp} {a : Sp} (h : wide a = false) : moveOk p a = false ∧ moveL p a = [] := by
  have : moveOk p a = false := by unfold moveOk; rw [h]; simp
  exact ⟨this, by unfold moveL; rw [this]; rfl⟩
theorem move_no3 {p : List Sp} {a : Sp} (h : picB (moved p a) = false) : moveOk p a = false ∧ moveL p a = [] := by
  have : moveOk p a = false := by unfold moveOk; rw [h]; simp
  exact ⟨this, by unfold moveL; rw [this]; rfl⟩
theorem move_yes {p : List Sp} {a : Sp} (h1 : picB p = true) (h2 : wide a = true) (h3 : picB (moved p a) = true) : moveOk p a = true ∧ moveL p a = moved p a := by
  have : moveOk p a = true := by unfold moveOk; rw [h1, h2, h3]; rfl
  exact ⟨this, by unfold moveL; rw [this]; rfl⟩

theorem inB_wide (x y : Int) : inB x y 60 = wide (x, y) := rfl

end
end Go.Proofs.Ytgdifenicjgfjaa
