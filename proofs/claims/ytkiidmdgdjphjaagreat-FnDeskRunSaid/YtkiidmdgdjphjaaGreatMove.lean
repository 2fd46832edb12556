/- Texts of one kind, merged: Added, Turn, Move. No conditions but those that stand in each theorem. -/
import Derived.Test.YtkiidmdgdjphjaaGreatPicWalk
import Derived.Test.YtkiidmdgdjphjaaGreatPlain
import Derived.Test.YtkiidmdgdjphjaaGreatMark
import Derived.Test.YtkiidmdgdjphjaaGreatHas
import Derived.Deep.RegionHeld3
import Derived.Test.YtkiidmdgdjphjaaGreatTold
namespace Go.Proofs.YtkiidmdgdjphjaaGreat
/-! ### Added -/
section
open Go.RowKit
theorem added_any (x y u v : Int) (w : World) : Calls Tryz.prog 82 #[.agg #[.int .i64 x, .int .i64 y], .agg #[.int .i64 u, .int .i64 v]] w (Gives (.agg #[.int .i64 (wrap64 (x + u)), .int .i64 (wrap64 (y + v))]) w) := by
  go_enter Tryz.func82, Tryz.ntmps82
  go_wp2
  refine bodyPost_ret (v := .agg #[.int .i64 (wrap64 (x + u)), .int .i64 (wrap64 (y + v))]) (by simp [results, Tryz.results82, go_sem]) rfl ⟨rfl, ?_⟩
  exact (((Below.refl _ _).alloc (Nat.le_refl _) _).alloc (by simp) _).alloc (by simp; omega) _
theorem added_in (x y u v : Int) (w : World) (h : -1000 ≤ x ∧ x ≤ 1000 ∧ -1000 ≤ y ∧ y ≤ 1000) (k : -1000 ≤ u ∧ u ≤ 1000 ∧ -1000 ≤ v ∧ v ≤ 1000) : Calls Tryz.prog 82 #[.agg #[.int .i64 x, .int .i64 y], .agg #[.int .i64 u, .int .i64 v]] w (Gives (.agg #[.int .i64 (x + u), .int .i64 (y + v)]) w) := by
  have c := added_any x y u v w
  rwa [IntWalk.wrap64_in _ (by omega), IntWalk.wrap64_in _ (by omega)] at c
theorem added_sw (x y u v : Int) (w : World) (h : -1000 ≤ x ∧ x ≤ 1000 ∧ -1000 ≤ y ∧ y ≤ 1000) (k : -1000 ≤ u ∧ u ≤ 1000 ∧ -1000 ≤ v ∧ v ≤ 1000) : Calls Tryz.prog 82 #[.agg #[.int .i64 x, .int .i64 y], .agg #[.int .i64 u, .int .i64 v]] w (Gives (.agg #[.int .i64 (u + x), .int .i64 (v + y)]) w) := by
  have c := added_in x y u v w h k
  rwa [Int.add_comm x u, Int.add_comm y v] at c
end
/-! ### Turn -/
section
open Go.RowKit Go.Sort

def turnedP (ps : List Sp) : List Sp := if picB ps then turned ps else []
theorem turnedP_yes {ps : List Sp} (h : picB ps = true) : turnedP ps = turned ps := by unfold turnedP; rw [h]; rfl
theorem turnedP_no {ps : List Sp} (h : picB ps = false) : turnedP ps = [] := by unfold turnedP; rw [h]; rfl
theorem length_turned (ps : List Sp) : (turned ps).length = ps.length := by simp [turned]
theorem turned_at {ps : List Sp} {k : Nat} {x y : Int} (h : ps[k]? = some (x, y)) : (turned ps)[ps.length - 1 - k]? = some (-x, -y) := by
  have hk := (List.getElem?_eq_some_iff.1 h).1
  unfold turned
  rw [List.getElem?_reverse (by simp; omega)]
  simp only [List.length_map, List.getElem?_map]
  rw [show ps.length - 1 - (ps.length - 1 - k) = k by omega, h]
  rfl
/-- the lists agree from k on -/
def AgreeHi (p q : List Sp) (k : Nat) : Prop := ∀ j, k ≤ j → p[j]? = q[j]?
theorem agreeHi_set {p q : List Sp} {k : Nat} {a : Sp} (h : AgreeHi p q (k + 1)) (hk : k < p.length) (hq : q[k]? = some a) : AgreeHi (p.set k a) q k := fun j hj => by
  by_cases e : j = k
  · subst e; rw [hq, List.getElem?_set]; simp [hk]
  · rw [List.getElem?_set]; simp [show ¬ k = j by omega]; exact h j (by omega)
theorem agreeHi_all {p q : List Sp} (h : AgreeHi p q 0) : p = q := List.ext_getElem? fun j => h j (Nat.zero_le _)

set_option maxHeartbeats 800000 in
theorem implTurned_any (ps : List Sp) (v : Value) (w : World) (h : Reads w w.heap.size v ps) :
    Calls Tryz.prog 63 #[v] w fun e w' => ∃ v', e = .returned v' ∧ Owns w' w.heap.size v' (turnedP ps) ∧ Below w.heap.size w w' := by
  obtain ⟨A, c, rfl, hc, hm, hA, hr⟩ := h.is
  unfold maxLen at hm
  rcases hp : picB ps with _ | _
  · rw [turnedP_no hp]
    go_enter Tryz.func63, Tryz.ntmps63
    go_wp2_with fail
    refine (gives_is hp (implPicture_any ps _ _ h)).mono ?_
    rintro e w1 ⟨rfl, b1⟩
    go_wp2
    go_ret
    exact ⟨_, rfl, Owns.nil _ _, b1⟩
  · rw [turnedP_yes hp]
    have hpl := (picB_pic hp).1
    have hpin := (picB_pic hp).2.1
    go_enter Tryz.func63, Tryz.ntmps63
    go_wp2_with fail
    refine (gives_is hp (implPicture_any ps _ _ h)).mono ?_
    rintro e w0 ⟨rfl, b0⟩
    have h' := h.kept b0
    clear hp
    have hbs0 : w.heap.size ≤ w0.heap.size := b0.size
    go_wp2_with (at_make; refine wpList_make_spots ps.length (by omega) rfl _ _ rfl _ _ rfl rfl rfl rfl ?_)
    intro w1 ho1 hg1
    have hb1 : Below w0.heap.size w0 w1 := (Below.refl _ _).grown hg1 (Nat.le_refl _) (by simp)
    clear hg1
    by_cases h0 : ps.length = 0
    · have e : ps = [] := List.eq_nil_of_length_eq_zero h0
      subst e
      go_wp2
      go_rounds 2
      go_ret
      exact ⟨_, rfl, ho1.base b0.size, below_step b0 hb1⟩
    · obtain ⟨b, off, rfl, hb, hcell⟩ := hr (by omega)
      have hO := Lib.hid ho1
      clear ho1
      go_wp2
      go_loopw [14] (fun i wr => ∃ (k : Nat) (cur : List Sp), k ≤ ps.length ∧ i = .int .i64 k ∧ cur.length = ps.length ∧ AgreeHi cur (turned ps) (ps.length - k) ∧ Owns wr w0.heap.size (.slice (some ⟨w0.heap.size, 0, none⟩) ps.length ps.length) cur ∧ Below w0.heap.size w0 wr) (fun i _ => ps.length - (intOf i).toNat)
      case atStart => exact ⟨0, _, Nat.zero_le _, rfl, List.length_replicate, fun j hj => by rw [List.getElem?_eq_none (by simp; omega), List.getElem?_eq_none (by rw [length_turned]; omega)], hO.out, hb1⟩
      case round =>
        obtain ⟨k, cur, hk, rfl, hcl, hag, hown, hbw⟩ := hrel
        have hbs : w0.heap.size ≤ wr.heap.size := hbw.size
        have hcl1 : cur.length ≤ ps.length := by omega
        have hcl2 : ps.length ≤ cur.length := by omega
        have hCL := Lib.hid hcl
        clear hcl
        by_cases hlt : k < ps.length
        · obtain ⟨⟨x, y⟩, hxy⟩ : ∃ a, ps[k]? = some a := ⟨_, List.getElem?_eq_getElem hlt⟩
          obtain ⟨c0, c1⟩ := hcell k x y hxy
          have d0 := (hbw.cell (p := ⟨b, off + k * 2, none⟩) (show b < w0.heap.size by omega)).trans ((b0.cell (p := ⟨b, off + k * 2, none⟩) hb).trans c0)
          have d1 := (hbw.cell (p := ⟨b, off + k * 2 + 1, none⟩) (show b < w0.heap.size by omega)).trans ((b0.cell (p := ⟨b, off + k * 2 + 1, none⟩) hb).trans c1)
          obtain ⟨i1, i2, i3, i4⟩ := hpin _ (List.mem_of_getElem? hxy)
          simp only at i1 i2 i3 i4
          have hH := Lib.hid (turned_at hxy)
          clear c0 c1 hxy
          have hal : Below wr.heap.size wr (wr.alloc (.cells #[.int .i64 x, .int .i64 y] 53)) := (Below.refl _ _).alloc (Nat.le_refl _) _
          have hown2 := hown.below hal
          have fz := hown2.free
          obtain ⟨px, py, _, q0, q1⟩ := hown2.there (k := ps.length - 1 - k) (by omega)
          go_wp2
          go_roundw
          case rel => exact ⟨k + 1, cur.set (ps.length - 1 - k) (-x, -y), by omega, by go_num, by rw [List.length_set]; exact hCL.out, by
            rw [show ps.length - (k + 1) = ps.length - 1 - k by omega]
            exact agreeHi_set (by rw [show ps.length - 1 - k + 1 = ps.length - k by omega]; exact hag) (by omega) hH.out, hown2.set (ps.length - 1 - k) (-x) (-y) (by omega), ((hbw.trans (hal.mono hbs)).setCell (by simp) _).setCell (by simp) _⟩
          case measure => simp [intOf]; omega
        · have hE := Lib.hid (agreeHi_all (by rw [show ps.length - k = 0 by omega] at hag; exact hag))
          go_wp2
          go_ret
          exact ⟨_, rfl, by have e := hE.out; rw [e] at hown; exact hown.base b0.size, below_step b0 hbw⟩

theorem turned_take {ps : List Sp} {k : Nat} {x y : Int} (h : ps[ps.length - 1 - k]? = some (x, y)) (hk : k < ps.length) : (turned ps).take k ++ [(-x, -y)] = (turned ps).take (k + 1) := by
  have h1 := turned_at h
  rw [show ps.length - 1 - (ps.length - 1 - k) = k by omega] at h1
  rw [List.take_add_one, h1]; rfl
theorem turned_take_all (ps : List Sp) (k : Nat) (hk : ps.length ≤ k) : (turned ps).take k = turned ps := List.take_of_length_le (by rw [length_turned]; exact hk)

set_option maxHeartbeats 800000 in
theorem specTurned_any (ps : List Sp) (v : Value) (w : World) (h : Reads w w.heap.size v ps) (hsm : ps.length ≤ 1100000) :
    Calls Tryz.prog 44 #[v] w fun e w' => ∃ v', e = .returned v' ∧ Owns w' w.heap.size v' (turnedP ps) ∧ Below w.heap.size w w' := by
  obtain ⟨A, c, rfl, hc, hm, hA, hr⟩ := h.is
  unfold maxLen at hm
  have hal : Below w.heap.size w (w.alloc (.cells #[] 53)) := (Below.refl _ _).alloc (Nat.le_refl _) _
  have o0 := Owns.empty w w.heap.size (Nat.le_refl _)
  by_cases h0 : ps.length = 0
  · have e : ps = [] := List.eq_nil_of_length_eq_zero h0
    subst e
    go_enter Tryz.func44, Tryz.ntmps44
    go_wp2
    refine wp_loop_rounds 1 ?_
    rw [rounds_succ]
    go_wp2
    go_ret
    exact ⟨_, rfl, o0, hal⟩
  · obtain ⟨b, off, rfl, hb, hcell⟩ := hr (by omega)
    have hd0 : (0 : Int) ≤ (ps.length : Int) - 1 := by omega
    have hd1 : 1 ≤ ps.length := by omega
    have hd5 : (1 : Int) ≤ (ps.length : Int) := by omega
    have hd2 : decide (1 ≤ ps.length) = true := decide_eq_true hd1
    have hd3 : decide ((0 : Int) ≤ (ps.length : Int) - 1) = true := decide_eq_true hd0
    rcases hp : picB ps with _ | _
    · rw [turnedP_no hp]
      go_enter Tryz.func44, Tryz.ntmps44
      go_wp2
      refine wp_loop_rounds 1 ?_
      rw [rounds_succ]
      go_wp2_with fail
      refine (gives_is hp (specPicture_any ps _ _ (h.kept hal))).mono ?_
      rintro e w1 ⟨rfl, b1⟩
      go_wp2
      go_ret
      exact ⟨_, rfl, o0.below b1, below_step hal b1⟩
    · rw [turnedP_yes hp]
      have hpin := (picB_pic hp).2.1
      have HP := Lib.hid hp
      clear hp
      go_enter Tryz.func44, Tryz.ntmps44
      go_wp2
      go_loopw [3, 4] (fun v i wr => ∃ (j : Nat), j ≤ ps.length ∧ i = .int .i64 ((j : Int) - 1) ∧ Owns wr w.heap.size v ((turned ps).take (ps.length - j)) ∧ Below w.heap.size w wr) (fun _ i _ => (intOf i + 1).toNat)
      case atStart => exact ⟨ps.length, Nat.le_refl _, rfl, by rw [Nat.sub_self, List.take_zero]; exact o0, hal⟩
      case round =>
        obtain ⟨j, hj, rfl, hown, hbw⟩ := hrel
        have hbs := hbw.size
        cases j with
        | succ m =>
          rw [show ((m + 1 : Nat) : Int) - 1 = (m : Int) by omega]
          obtain ⟨⟨x, y⟩, hxy⟩ : ∃ a, ps[m]? = some a := ⟨_, List.getElem?_eq_getElem (by omega)⟩
          obtain ⟨i1, i2, i3, i4⟩ := hpin _ (List.mem_of_getElem? hxy)
          simp only at i1 i2 i3 i4
          obtain ⟨c0, c1⟩ := hcell _ x y hxy
          have hT := Lib.hid (turned_take (k := ps.length - (m + 1)) (by rw [show ps.length - 1 - (ps.length - (m + 1)) = m by omega]; exact hxy) (by omega))
          clear hxy
          have HH := HP.out
          go_wp2_with fail
          refine (gives_is HH (specPicture_any ps _ _ ((h.below hbw).more hbs))).mono ?_
          rintro e w1 ⟨rfl, b1⟩
          clear HH
          have hbw1 := below_step hbw b1
          have d0 := (hbw1.cell (p := ⟨b, off + m * 2, none⟩) hb).trans c0
          have d1 := (hbw1.cell (p := ⟨b, off + m * 2 + 1, none⟩) hb).trans c1
          have own1 := hown.below b1
          have hbs1 := hbw1.size
          have hm0 : (0 : Int) ≤ (m : Int) := Int.natCast_nonneg _
          have hm1 : (m : Int) < (ps.length : Int) := by omega
          have hwx : IntKind.i64.wrap (-x) = -x := IntWalk.i64_in _ (by omega)
          have hwy : IntKind.i64.wrap (-y) = -y := IntWalk.i64_in _ (by omega)
          have bal := (hbw1.alloc hbs1 (.cells #[.int .i64 (-x), .int .i64 (-y)] 53)).drew
          have own2 : Owns (w1.alloc (.cells #[.int .i64 (-x), .int .i64 (-y)] 53)).drew w.heap.size u3 ((turned ps).take (ps.length - (m + 1))) := (own1.below ((Below.refl w1.heap.size w1).alloc (Nat.le_refl _) _)).below (Below.refl _ _).drew
          have hq1 : ((turned ps).take (ps.length - (m + 1))).length + [(-x, -y)].length ≤ 8000000000000 := by simp; omega
          have hq2 : w.heap.size ≤ (w1.alloc (.cells #[.int .i64 (-x), .int .i64 (-y)] 53)).drew.heap.size := by simp; omega
          go_wp2_with fail
          go_region_held3 (fun w' => w'.cell? ⟨b, off + m * 2, none⟩ = some (.int .i64 x) ∧ w'.cell? ⟨b, off + m * 2 + 1, none⟩ = some (.int .i64 y)) (first | go_keep | exact ⟨by assumption, by assumption⟩)
            ((refine step_append_spots (qs := [(-x, -y)]) own2 (Reads.one (g := w1.heap.size) (by simp [go_sem]) (by simp [go_sem])) hq1 hq2 (by rfl) _ _ (by rfl) (by rfl) (by rfl) ?_; intro v2 w2 o2 g2 _; have bz := own2.below_app bal hq2 g2; have e0 := (bz.cell (p := ⟨b, off + m * 2, none⟩) hb).trans c0; have e1 := (bz.cell (p := ⟨b, off + m * 2 + 1, none⟩) hb).trans c1))
          go_wp2
          go_roundw
          case rel => exact ⟨m, by omega, rfl, by
            have e := hT.out
            rw [show ps.length - (m + 1) + 1 = ps.length - m by omega] at e
            rw [← e]; exact o2, bz⟩
          case measure => simp [intOf]
        | zero =>
          go_wp2
          go_ret
          exact ⟨_, rfl, by
            rw [turned_take_all ps _ (by omega)] at hown
            exact hown, hbw⟩
end
/-! ### Move -/
section
open Go.RowKit Go.Sort

/-- moved, as int's arithmetic has it -/
def movedW (p : List Sp) (a : Sp) : List Sp := p.map fun b => (wrap64 (b.1 + a.1), wrap64 (b.2 + a.2))
def wide (a : Sp) : Bool := decide (-60 ≤ a.1 ∧ a.1 ≤ 60 ∧ -60 ≤ a.2 ∧ a.2 ≤ 60)
def moveOk (p : List Sp) (a : Sp) : Bool := picB p && wide a && picB (moved p a)
def moveL (p : List Sp) (a : Sp) : List Sp := if moveOk p a then moved p a else []
theorem moved_at {p : List Sp} {a : Sp} {k : Nat} {x y : Int} (h : p[k]? = some (x, y)) : (moved p a)[k]? = some (x + a.1, y + a.2) := by
  unfold moved; rw [List.getElem?_map, h]; rfl
theorem movedW_at {p : List Sp} {a : Sp} {k : Nat} {x y : Int} (h : p[k]? = some (x, y)) : (movedW p a)[k]? = some (wrap64 (x + a.1), wrap64 (y + a.2)) := by
  unfold movedW; rw [List.getElem?_map, h]; rfl
theorem length_moved (p : List Sp) (a : Sp) : (moved p a).length = p.length := by simp [moved]
theorem length_movedW (p : List Sp) (a : Sp) : (movedW p a).length = p.length := by simp [movedW]
theorem moved_eq {p : List Sp} {a : Sp} (hp : Pic p) (ha : wide a = true) : movedW p a = moved p a := by
  unfold movedW moved
  refine List.map_congr_left fun b hb => ?_
  have hi := hp.2.1 b hb
  have hw := of_decide_eq_true ha
  unfold InR at hi
  rw [IntWalk.wrap64_in _ (by omega), IntWalk.wrap64_in _ (by omega)]
theorem move_no1 {p : List Sp} {a : Sp} (h : picB p = false) : moveOk p a = false ∧ moveL p a = [] := by
  have : moveOk p a = false := by unfold moveOk; rw [h]; rfl
  exact ⟨this, by unfold moveL; rw [this]; rfl⟩
theorem move_no2 {p : List Sp} {a : Sp} (h : wide a = false) : moveOk p a = false ∧ moveL p a = [] := by
  have : moveOk p a = false := by unfold moveOk; rw [h]; simp
  exact ⟨this, by unfold moveL; rw [this]; rfl⟩
theorem move_no3 {p : List Sp} {a : Sp} (h : picB (moved p a) = false) : moveOk p a = false ∧ moveL p a = [] := by
  have : moveOk p a = false := by unfold moveOk; rw [h]; simp
  exact ⟨this, by unfold moveL; rw [this]; rfl⟩
theorem move_yes {p : List Sp} {a : Sp} (h1 : picB p = true) (h2 : wide a = true) (h3 : picB (moved p a) = true) : moveOk p a = true ∧ moveL p a = moved p a := by
  have : moveOk p a = true := by unfold moveOk; rw [h1, h2, h3]; rfl
  exact ⟨this, by unfold moveL; rw [this]; rfl⟩

theorem inB_wide (x y : Int) : inB x y 60 = wide (x, y) := rfl

set_option maxHeartbeats 1600000 in
theorem implMoved_any (ps : List Sp) (v : Value) (ax ay : Int) (w : World) (h : Reads w w.heap.size v ps) :
    Calls Tryz.prog 62 #[v, .agg #[.int .i64 ax, .int .i64 ay]] w (Gives2' (moveL ps (ax, ay)) (moveOk ps (ax, ay)) w) := by
  obtain ⟨A, c, rfl, hc, hm, hA, hr⟩ := h.is
  unfold maxLen at hm
  have b0 := box_below w #[.int .i64 ax, .int .i64 ay] 53
  rcases hp : picB ps with _ | _
  · obtain ⟨e1, e2⟩ := move_no1 (a := (ax, ay)) hp
    rw [e1, e2]
    go_enter Tryz.func62, Tryz.ntmps62
    go_wp2_with fail
    refine (gives_is hp (implPicture_any ps _ _ (h.kept b0))).mono ?_
    rintro e w1 ⟨rfl, b1⟩
    go_wp2
    go_ret2
    exact ⟨_, rfl, Owns.nil _ _, below_step b0 b1⟩
  rcases hw : wide (ax, ay) with _ | _
  · obtain ⟨e1, e2⟩ := move_no2 (p := ps) hw
    rw [e1, e2]
    go_enter Tryz.func62, Tryz.ntmps62
    go_wp2_with fail
    refine (gives_is hp (implPicture_any ps _ _ (h.kept b0))).mono ?_
    rintro e w1 ⟨rfl, b1⟩
    clear hp
    have a0 := ((b1).cell (p := ⟨w.heap.size, 0, none⟩) (by simp)).trans (show _ = some (Value.int .i64 ax) by simp [go_sem])
    have a1 := ((b1).cell (p := ⟨w.heap.size, 1, none⟩) (by simp)).trans (show _ = some (Value.int .i64 ay) by simp [go_sem])
    go_wp2_with fail
    refine (gives_is ((inB_wide ax ay).trans hw) (spotWithin_any ax ay 60 _ (by omega) (by omega))).mono ?_
    rintro e w2 ⟨rfl, b2⟩
    go_wp2
    go_ret2
    exact ⟨_, rfl, Owns.nil _ _, below_step (below_step b0 b1) b2⟩
  · have hpl := (picB_pic hp).1
    have hpin := (picB_pic hp).2.1
    have hwd := of_decide_eq_true hw
    simp only at hwd
    obtain ⟨wa, wb, wc, wd⟩ := hwd
    rcases hmv : picB (moved ps (ax, ay)) with _ | _
    all_goals
      go_enter Tryz.func62, Tryz.ntmps62
      go_wp2_with fail
      refine (gives_is hp (implPicture_any ps _ _ (h.kept b0))).mono ?_
      rintro e w1 ⟨rfl, b1⟩
      have a0 := ((b1).cell (p := ⟨w.heap.size, 0, none⟩) (by simp)).trans (show _ = some (Value.int .i64 ax) by simp [go_sem])
      have a1 := ((b1).cell (p := ⟨w.heap.size, 1, none⟩) (by simp)).trans (show _ = some (Value.int .i64 ay) by simp [go_sem])
      have hbs1 := b1.size
      simp only [World.size_alloc] at hbs1
      go_wp2_with fail
      refine (gives_is ((inB_wide ax ay).trans hw) (spotWithin_any ax ay 60 _ (by omega) (by omega))).mono ?_
      rintro e w2 ⟨rfl, b2⟩
      have a0 := (b2.cell (p := ⟨w.heap.size, 0, none⟩) hbs1).trans a0
      have a1 := (b2.cell (p := ⟨w.heap.size, 1, none⟩) hbs1).trans a1
      have hbs2 := Nat.le_trans hbs1 b2.size
      have bb := below_step (below_step b0 b1) b2
      have HX := Lib.hid hp
      have HY := Lib.hid hw
      have HM := Lib.hid hmv
      clear hp hw hmv b1 b2
      go_wp2_with (at_make; refine wpList_make_spots ps.length (by omega) rfl _ _ rfl _ _ rfl rfl rfl rfl ?_)
      intro w3 ho1 hg1
      have hb1 : Below w2.heap.size w2 w3 := (Below.refl _ _).grown hg1 (Nat.le_refl _) (by simp)
      clear hg1
      have hO := Lib.hid ho1
      clear ho1
      by_cases h0 : ps.length = 0
      · have e : ps = [] := List.eq_nil_of_length_eq_zero h0
        subst e
        have hO' := hO.out
        have bb3 := below_step bb hb1
        go_wp2
        refine wp_loop_rounds 1 ?_
        rw [rounds_succ]
        go_wp2_with fail
        first
          | (with_reducible refine (told_yes (ps := moved [] (ax, ay)) HM.out hO').mono ?_)
          | (with_reducible refine (told_no (ps := moved [] (ax, ay)) HM.out hO').mono ?_)
        rintro e w4 ⟨rfl, b4⟩
        go_wp2
        go_ret2
        first
          | exact ⟨_, by rw [(move_yes HX.out HY.out HM.out).1]; rfl, by rw [(move_yes HX.out HY.out HM.out).2]; exact (hO'.base bb.size).below b4, below_step bb3 b4⟩
          | exact ⟨_, by rw [(move_no3 HM.out).1]; rfl, by rw [(move_no3 HM.out).2]; exact Owns.nil _ _, below_step bb3 b4⟩
      · obtain ⟨b, off, rfl, hb, hcell⟩ := hr (by omega)
        go_wp2
        go_loopw [22] (fun i wr => ∃ (k : Nat) (cur : List Sp), k ≤ ps.length ∧ i = .int .i64 k ∧ cur.length = ps.length ∧ Agree cur (moved ps (ax, ay)) k ∧ Owns wr w2.heap.size (.slice (some ⟨w2.heap.size, 0, none⟩) ps.length ps.length) cur ∧ Below w2.heap.size w2 wr) (fun i _ => ps.length - (intOf i).toNat)
        case atStart => exact ⟨0, _, Nat.zero_le _, rfl, List.length_replicate, fun j hj => by omega, hO.out, hb1⟩
        case round =>
          obtain ⟨k, cur, hk, rfl, hcl, hag, hown, hbw⟩ := hrel
          have hbs : w2.heap.size ≤ wr.heap.size := hbw.size
          have hcl1 : cur.length ≤ ps.length := by omega
          have hcl2 : ps.length ≤ cur.length := by omega
          have hCL := Lib.hid hcl
          clear hcl
          by_cases hlt : k < ps.length
          · obtain ⟨⟨x, y⟩, hxy⟩ : ∃ a, ps[k]? = some a := ⟨_, List.getElem?_eq_getElem hlt⟩
            obtain ⟨c0, c1⟩ := hcell k x y hxy
            have bbr := below_step bb (hbw)
            have d0 := (bbr.cell (p := ⟨b, off + k * 2, none⟩) hb).trans c0
            have d1 := (bbr.cell (p := ⟨b, off + k * 2 + 1, none⟩) hb).trans c1
            have f0 := (hbw.cell (p := ⟨w.heap.size, 0, none⟩) hbs2).trans a0
            have f1 := (hbw.cell (p := ⟨w.heap.size, 1, none⟩) hbs2).trans a1
            obtain ⟨i1, i2, i3, i4⟩ := hpin _ (List.mem_of_getElem? hxy)
            simp only at i1 i2 i3 i4
            have hH := Lib.hid (moved_at (a := (ax, ay)) hxy)
            clear c0 c1 hxy
            have hal : Below wr.heap.size wr (wr.alloc (.cells #[.int .i64 x, .int .i64 y] 53)) := (Below.refl _ _).alloc (Nat.le_refl _) _
            have hwlt : w.heap.size < wr.heap.size := Nat.lt_of_lt_of_le hbs2 hbs
            go_wp2_with fail
            refine (added_sw ax ay x y _ (by omega) (by omega)).mono ?_
            rintro e w5 ⟨rfl, b5⟩
            have hown2 := (hown.below hal).below b5
            have fz := hown2.free
            obtain ⟨px, py, _, q0, q1⟩ := hown2.there (k := k) (by omega)
            have hal5 := below_step hal b5
            go_wp2
            go_roundw
            case rel => exact ⟨k + 1, cur.set k (x + ax, y + ay), by omega, by go_num, by rw [List.length_set]; exact hCL.out, agree_set hag (by omega) hH.out, hown2.set k (x + ax) (y + ay) (by omega), ((hbw.trans (hal5.mono hbs)).setCell (by simp) _).setCell (by simp) _⟩
            case measure => simp [intOf]; omega
          · have hE := Lib.hid (agree_all (hCL.out.trans (length_moved _ _).symm) (fun j hj => hag j (by omega)))
            have e := hE.out
            rw [e] at hown
            clear e
            have bbr := below_step bb hbw
            go_wp2_with fail
            first
              | (with_reducible refine (told_yes HM.out hown).mono ?_)
              | (with_reducible refine (told_no HM.out hown).mono ?_)
            rintro e w4 ⟨rfl, b4⟩
            go_wp2
            go_ret2
            first
              | exact ⟨_, by rw [(move_yes HX.out HY.out HM.out).1]; rfl, by rw [(move_yes HX.out HY.out HM.out).2]; exact (hown.base bb.size).below b4, below_step bbr b4⟩
              | exact ⟨_, by rw [(move_no3 HM.out).1]; rfl, by rw [(move_no3 HM.out).2]; exact Owns.nil _ _, below_step bbr b4⟩
end
end Go.Proofs.YtkiidmdgdjphjaaGreat
