/- Texts of one kind, merged: ShrinkS, ShrinkT. No conditions but those that stand in each theorem. -/
import Derived.Test.YtkiidmdgdjphjaaGreatPlain
import Derived.Test.YtkiidmdgdjphjaaGreatSumS
import Derived.Test.YtkiidmdgdjphjaaGreatHas
namespace Go.Proofs.YtkiidmdgdjphjaaGreat
/-! ### ShrinkS -/
section
open Go.RowKit Go.Sort

set_option maxHeartbeats 1600000 in
theorem l3Shrunk_any (ps qs : List Sp) (v u : Value) (w : World) (h : Reads w w.heap.size v ps) (h' : Reads w w.heap.size u qs) (hs : Sorted ps) (hp : ∀ a ∈ ps, Near a) (hq : ∀ a ∈ qs, Near a) (hpl : ps.length ≤ 60) (hql : qs.length ≤ 60) (hq0 : qs ≠ []) :
    Calls Tryz.prog 70 #[v, u] w fun e w' => ∃ v', e = .returned v' ∧ Owns w' w.heap.size v' (shrinkL ps qs) ∧ Below w.heap.size w w' := by
  obtain ⟨A, c, rfl, hc, hm, hA, hr⟩ := h.is
  obtain ⟨A', c', rfl, hc', hm', hA', hr'⟩ := h'.is
  unfold maxLen at hm hm'
  have hal : Below w.heap.size w (w.alloc (.cells #[] 53)) := (Below.refl _ _).alloc (Nat.le_refl _) _
  have oE := Owns.empty w w.heap.size (Nat.le_refl _)
  have hqp : 0 < qs.length := by cases qs with | nil => exact absurd rfl hq0 | cons _ _ => simp
  obtain ⟨⟨cx, cy⟩, hcc⟩ : ∃ a, qs[0]? = some a := ⟨_, List.getElem?_eq_getElem hqp⟩
  have hEnd := Lib.hid (shUpto_all (ps := ps) hcc)
  by_cases h0 : ps.length = 0
  · have hE := hEnd.out
    rw [h0, shUpto_zero] at hE
    rw [← hE]
    obtain rfl := List.eq_nil_of_length_eq_zero h0
    clear hE hEnd hcc
    go_enter Tryz.func70, Tryz.ntmps70
    go_wp2
    refine wp_loop_rounds 1 ?_
    rw [rounds_succ]
    go_wp2
    go_ret
    exact ⟨_, rfl, oE, hal⟩
  obtain ⟨b, off, rfl, hb, hcell⟩ := hr (by omega)
  obtain ⟨b', off', rfl, hb', hcell'⟩ := hr' (by omega)
  obtain ⟨e0, e1⟩ := hcell' 0 cx cy hcc
  simp only [Nat.zero_mul, Nat.add_zero] at e0 e1
  have hnc := hq _ (List.mem_of_getElem? hcc)
  unfold Near at hnc
  simp only at hnc
  clear hcc hq0
  go_enter Tryz.func70, Tryz.ntmps70
  go_wp2
  go_loopw [5, 6] (fun s i wr => ∃ k : Nat, k ≤ ps.length ∧ i = .int .i64 k ∧ Owns wr w.heap.size s (shUpto ps qs (cx, cy) k) ∧ Below w.heap.size w wr) (fun _ i _ => ps.length - (intOf i).toNat)
  case atStart => exact ⟨0, Nat.zero_le _, rfl, oE, hal⟩
  case round =>
    obtain ⟨k, hk, rfl, hown, hbw⟩ := hrel
    have hlsh := length_shUpto_le ps qs (cx, cy) k
    by_cases hlt : k < ps.length
    · obtain ⟨⟨ax, ay⟩, hxy⟩ : ∃ a, ps[k]? = some a := ⟨_, List.getElem?_eq_getElem hlt⟩
      obtain ⟨c0, c1⟩ := hcell k ax ay hxy
      have hna := hp _ (List.mem_of_getElem? hxy)
      unfold Near at hna
      simp only at hna
      have hT := Lib.hid (shUpto_succ (qs := qs) (c := (cx, cy)) hxy)
      have d0 := (hbw.cell (p := ⟨b, off + k * 2, none⟩) hb).trans c0
      have d1 := (hbw.cell (p := ⟨b, off + k * 2 + 1, none⟩) hb).trans c1
      have d2 := (hbw.cell (p := ⟨b', off', none⟩) hb').trans e0
      have d3 := (hbw.cell (p := ⟨b', off' + 1, none⟩) hb').trans e1
      have hwx : IntKind.i64.wrap (ax - cx) = ax - cx := IntWalk.i64_in _ (by omega)
      have hwy : IntKind.i64.wrap (ay - cy) = ay - cy := IntWalk.i64_in _ (by omega)
      have ne0 := World.new_ne wr _ d0
      have ne1 := World.new_ne wr _ d1
      have ne2 := World.new_ne wr _ d2
      have ne3 := World.new_ne wr _ d3
      have hm0 : (0 : Int) ≤ (k : Int) := Int.natCast_nonneg _
      have hm1 : (k : Int) < (ps.length : Int) := by omega
      have hm2 : (0 : Int) < (qs.length : Int) := by omega
      clear hxy
      go_wp2_with fail
      go_region_held3 (fun w' => w'.cell? ⟨b, off + k * 2, none⟩ = some (.int .i64 ax) ∧ w'.cell? ⟨b, off + k * 2 + 1, none⟩ = some (.int .i64 ay) ∧ w'.cell? ⟨b', off', none⟩ = some (.int .i64 cx) ∧ w'.cell? ⟨b', off' + 1, none⟩ = some (.int .i64 cy)) (go_keep) (fail)
      have hbW : Below wr.heap.size wr ((wr.alloc (.cells #[.int .i64 (ax - cx), .int .i64 (ay - cy)] 53)).drew) := ((Below.refl _ _).alloc (Nat.le_refl _) _).drew
      have g0 : ((wr.alloc (.cells #[.int .i64 (ax - cx), .int .i64 (ay - cy)] 53)).drew).cell? ⟨wr.heap.size, 0, none⟩ = some (.int .i64 (ax - cx)) := by simp [go_sem]
      have g1 : ((wr.alloc (.cells #[.int .i64 (ax - cx), .int .i64 (ay - cy)] 53)).drew).cell? ⟨wr.heap.size, 1, none⟩ = some (.int .i64 (ay - cy)) := by simp [go_sem]
      have hgs : wr.heap.size < ((wr.alloc (.cells #[.int .i64 (ax - cx), .int .i64 (ay - cy)] 53)).drew).heap.size := by simp [go_sem]
      have hwg := hbw.size
      go_wp2
      have hWb : Below w.heap.size w ((wr.alloc (.cells #[.int .i64 (ax - cx), .int .i64 (ay - cy)] 53)).drew) := below_step hbw hbW
      have hWo := hown.below hbW
      generalize (wr.alloc (.cells #[.int .i64 (ax - cx), .int .i64 (ay - cy)] 53)).drew = W1 at hbW g0 g1 hgs hWb hWo ⊢
      generalize wr.heap.size = g at g0 g1 hgs hwg ⊢
      clear hown hbw hbW d0 d1 d2 d3 ne0 ne1 ne2 ne3 c0 c1
      go_loopw [8, 9] (fun al i wr' => ∃ j : Nat, j ≤ qs.length ∧ i = .int .i64 j ∧ al = .bool (allUpto ps qs (ax - cx, ay - cy) j) ∧ Below W1.heap.size W1 wr') (fun _ i _ => qs.length - (intOf i).toNat)
      case atStart => exact ⟨0, Nat.zero_le _, rfl, by rw [allUpto_zero], Below.refl _ _⟩
      case round =>
        obtain ⟨j, hj, rfl, rfl, hb2⟩ := hrel
        have hbs2 := hb2.size
        by_cases hlj : j < qs.length
        · rcases hal : allUpto ps qs (ax - cx, ay - cy) j with _ | _
          · have hN := Lib.hid (allUpto_succ_no hlj hal)
            clear hal
            go_wp2
            refine wp_region_quiet_below (by kernel_rfl) (by kernel_rfl) ?_
            repeat (go_big_quiet_step (first | fail))
            refine wpQuiet_nil ?_
            intro _ hw'
            obtain ⟨⟨dq, osq⟩, hw''⟩ := hw'
            subst hw''
            go_wp2
            go_roundw
            case rel => exact ⟨j + 1, by omega, by go_num, by rw [hN.out], hb2.trans ((below_regrown _ _ _).mono hbs2)⟩
            case measure => simp [intOf]; omega
          · obtain ⟨⟨x, y⟩, hxy⟩ : ∃ a, qs[j]? = some a := ⟨_, List.getElem?_eq_getElem hlj⟩
            obtain ⟨c2, c3⟩ := hcell' j x y hxy
            have hnb := hq _ (List.mem_of_getElem? hxy)
            unfold Near at hnb
            simp only at hnb
            have hN := Lib.hid (allUpto_succ (ps := ps) (a := (ax - cx, ay - cy)) hxy)
            have hw2 := below_step hWb hb2
            have f2 := cell_regrown ((hw2.cell (p := ⟨b', off' + j * 2, none⟩) hb').trans c2)
            have f3 := cell_regrown ((hw2.cell (p := ⟨b', off' + j * 2 + 1, none⟩) hb').trans c3)
            have f0 := cell_regrown ((hb2.cell (p := ⟨g, 0, none⟩) hgs).trans g0)
            have f1 := cell_regrown ((hb2.cell (p := ⟨g, 1, none⟩) hgs).trans g1)
            have hwx2 : IntKind.i64.wrap (x + (ax - cx)) = x + (ax - cx) := IntWalk.i64_in _ (by omega)
            have hwy2 : IntKind.i64.wrap (y + (ay - cy)) = y + (ay - cy) := IntWalk.i64_in _ (by omega)
            have hm3 : (0 : Int) ≤ (j : Int) := Int.natCast_nonneg _
            have hm4 : (j : Int) < (qs.length : Int) := by omega
            have rpw := (h.below hw2).more hw2.size
            clear hxy c2 c3 hnb hnc hna
            rw [hal] at hN
            simp only [Bool.true_and] at hN
            clear hal
            go_wp2
            refine wp_region_quiet_below (by kernel_rfl) (by kernel_rfl) ?_
            repeat (go_big_quiet_step (first | (go_at_call 92; exact gives_regrown (fun w1 hb1 => l1Has_any ps _ (x + (ax - cx)) (y + (ay - cy)) w1 (rpw.kept hb1) hs (by omega)) _ _)))
            refine wpQuiet_nil ?_
            intro _ hw'
            obtain ⟨⟨dq, osq⟩, hw''⟩ := hw'
            subst hw''
            go_wp2
            go_roundw
            case rel => exact ⟨j + 1, by omega, by go_num, by rw [hN.out], hb2.trans ((below_regrown _ _ _).mono hbs2)⟩
            case measure => simp [intOf]; omega
        · obtain rfl : j = qs.length := by omega
          rw [allUpto_all]
          have hw2 := below_step hWb hb2
          have own2 := hWo.below hb2
          have hs2 := hw2.size
          by_cases hall : ∀ d ∈ qs, addS d (ax - cx, ay - cy) ∈ ps
          · have hT' := hT.out
            rw [if_pos hall] at hT'
            have HT := Lib.hid hT'
            rw [decide_eq_true hall]
            have f0 := (hb2.cell (p := ⟨g, 0, none⟩) hgs).trans g0
            have f1 := (hb2.cell (p := ⟨g, 1, none⟩) hgs).trans g1
            have o4 := own2.below ((Below.refl _ _).alloc (Nat.le_refl _) (.cells #[.int .i64 (ax - cx), .int .i64 (ay - cy)] 53))
            clear hT' hall hT
            go_wp2_with (at_builtin; refine wpList_append_spots (qs := [(ax - cx, ay - cy)]) o4 (Reads.one (g := wr.heap.size) (by simp [go_sem]) (by simp [go_sem])) (by simp; omega) (by simp; omega) rfl _ _ rfl rfl rfl ?_)
            intro v5 w5 o5 g5 _
            have bb5 := o4.below_app (hw2.alloc hs2 _) (by simp; omega) g5
            go_wp2
            go_roundw
            case rel => exact ⟨k + 1, by omega, by go_num, by rw [HT.out]; exact o5, bb5⟩
            case measure => simp [intOf]; omega
          · have hT' := hT.out
            rw [if_neg hall, List.append_nil] at hT'
            have HT := Lib.hid hT'
            rw [decide_eq_false hall]
            clear hT' hall hT
            go_wp2
            go_roundw
            case rel => exact ⟨k + 1, by omega, by go_num, by rw [HT.out]; exact own2, hw2⟩
            case measure => simp [intOf]; omega
    · obtain rfl : k = ps.length := by omega
      rw [hEnd.out] at hown
      go_wp2
      go_ret
      exact ⟨_, rfl, hown, hbw⟩
end
/-! ### ShrinkT -/
section
open Go.RowKit Go.Sort

set_option maxHeartbeats 1600000 in
theorem specShrunk_any (ps qs : List Sp) (v u : Value) (w : World) (h : Reads w w.heap.size v ps) (k : Reads w w.heap.size u qs) :
    Calls Tryz.prog 47 #[v, u] w (Gives2' (shrinkR ps qs) (shrinkOk ps qs) w) := by
  obtain ⟨A, c, rfl, hc, hm, _⟩ := k.is
  obtain ⟨A', c', rfl, hc', hm', _⟩ := h.is
  unfold maxLen at hm hm'
  rcases hp : picB ps with _ | _
  · obtain ⟨e1, e2⟩ := shrink_no1 (q := qs) hp
    rw [e1, e2]
    go_enter Tryz.func47, Tryz.ntmps47
    go_wp2_with fail
    refine (gives_is hp (specPicture_any ps _ _ h)).mono ?_
    rintro e w1 ⟨rfl, b1⟩
    have hle := (b1).size
    go_wp2
    go_ret2
    exact ⟨_, rfl, Owns.empty _ _ hle, (b1).alloc hle _⟩
  rcases hq : picB qs with _ | _
  · obtain ⟨e1, e2⟩ := shrink_no2 (p := ps) hq
    rw [e1, e2]
    go_enter Tryz.func47, Tryz.ntmps47
    go_wp2_with fail
    refine (gives_is hp (specPicture_any ps _ _ h)).mono ?_
    rintro e w1 ⟨rfl, b1⟩
    go_wp2_with fail
    refine (gives_is hq (specPicture_any qs _ _ (k.kept b1))).mono ?_
    rintro e w2 ⟨rfl, b2⟩
    have bw2 := below_step b1 b2
    have hle := (bw2).size
    go_wp2
    go_ret2
    exact ⟨_, rfl, Owns.empty _ _ hle, (bw2).alloc hle _⟩
  by_cases h0 : qs = []
  · obtain ⟨e1, e2⟩ := shrink_no3 (p := ps) h0
    rw [e1, e2]
    subst h0
    go_enter Tryz.func47, Tryz.ntmps47
    go_wp2_with fail
    refine (gives_is hp (specPicture_any ps _ _ h)).mono ?_
    rintro e w1 ⟨rfl, b1⟩
    go_wp2_with fail
    refine (gives_is hq (specPicture_any [] _ _ (k.kept b1))).mono ?_
    rintro e w2 ⟨rfl, b2⟩
    have bw2 := below_step b1 b2
    have hle := (bw2).size
    go_wp2
    go_ret2
    exact ⟨_, rfl, Owns.empty _ _ hle, (bw2).alloc hle _⟩
  · have hpn : ∀ a ∈ ps, Near a := fun a ha => near_of ((picB_pic hp).2.1 a ha)
    have hqn : ∀ a ∈ qs, Near a := fun a ha => near_of ((picB_pic hq).2.1 a ha)
    have hpl := (picB_pic hp).1
    have hql := (picB_pic hq).1
    have hps := (picB_pic hp).2.2
    have hq1 : 0 < qs.length := by cases qs with | nil => exact absurd rfl h0 | cons _ _ => simp
    have hqb : ((qs.length : Int) == 0) = false := by rw [beq_eq_false_iff_ne]; omega
    rcases hs : picB (shrinkL ps qs) with _ | _
    all_goals
      first
        | have HE := shrink_yes hp hq h0 hs
        | have HE := shrink_no4 hs
      obtain ⟨e1, e2⟩ := HE
      rw [e1, e2]
      clear e1 e2
      go_enter Tryz.func47, Tryz.ntmps47
      go_wp2_with fail
      refine (gives_is hp (specPicture_any ps _ _ h)).mono ?_
      rintro e w1 ⟨rfl, b1⟩
      go_wp2_with fail
      refine (gives_is hq (specPicture_any qs _ _ (k.kept b1))).mono ?_
      rintro e w2 ⟨rfl, b2⟩
      have bw2 := below_step b1 b2
      go_wp2_with fail
      refine (l3Shrunk_any ps qs _ _ _ (h.kept bw2) (k.kept bw2) hps hpn hqn hpl hql h0).mono ?_
      rintro e w3 ⟨v3, rfl, own3, b3⟩
      have bw3 := below_step bw2 b3
      go_wp2_with fail
      refine (gives_is hs (specPicture_any (shrinkL ps qs) _ _ own3.reads)).mono ?_
      rintro e w4 ⟨rfl, b4⟩
      have own4 := own3.below b4
      have bw4 := below_step bw3 b4
      first
        | (go_wp2; go_ret2; exact ⟨_, rfl, own4.base bw2.size, bw4⟩)
        | (have hle := bw4.size; go_wp2; go_ret2; exact ⟨_, rfl, Owns.empty _ _ hle, bw4.alloc hle _⟩)

theorem specShrunk_is {b : Bool} {p q : List Sp} {v u : Value} {w : World} (hk : shrinkOk p q = b) (h : Reads w w.heap.size v p) (k : Reads w w.heap.size u q) : Calls Tryz.prog 47 #[v, u] w (Gives2' (shrinkR p q) b w) := by
  subst hk; exact specShrunk_any p q v u w h k
theorem specSum_is {b : Bool} {p q : List Sp} {v u : Value} {w : World} (hk : sumOk p q = b) (h : Reads w w.heap.size v p) (k : Reads w w.heap.size u q) : Calls Tryz.prog 69 #[v, u] w (Gives2' (sumR p q) b w) := by
  subst hk; exact specSum_any p q v u w h k

theorem specShrunkGrown_any (ps qs : List Sp) (v u : Value) (w : World) (h : Reads w w.heap.size v ps) (k : Reads w w.heap.size u qs) :
    Calls Tryz.prog 73 #[v, u] w (Gives2' (shrunkGrownR ps qs) (shrunkGrownOk ps qs) w) := by
  obtain ⟨A, c, rfl, hc, hm, _⟩ := k.is
  obtain ⟨A', c', rfl, hc', hm', _⟩ := h.is
  rcases hk : shrinkOk ps qs with _ | _
  · obtain ⟨e1, e2⟩ := shrunkGrown_no hk
    rw [e1, e2]
    go_enter Tryz.func73, Tryz.ntmps73
    go_wp2_with fail
    refine (specShrunk_is hk h k).mono ?_
    rintro e w1 ⟨v1, rfl, _, b1⟩
    have hle := (b1).size
    go_wp2
    go_ret2
    exact ⟨_, rfl, Owns.empty _ _ hle, (b1).alloc hle _⟩
  · obtain ⟨e1, e2⟩ := shrunkGrown_yes hk
    rw [e1, e2]
    go_enter Tryz.func73, Tryz.ntmps73
    go_wp2_with fail
    refine (specShrunk_is hk h k).mono ?_
    rintro e w1 ⟨v1, rfl, own1, b1⟩
    go_wp2_with fail
    refine (specSum_any _ qs _ _ _ own1.reads (k.kept b1)).mono ?_
    rintro e w2 ⟨v2, rfl, own2, b2⟩
    go_wp2
    go_ret2
    exact ⟨_, rfl, own2.base b1.size, below_step b1 b2⟩
end
end Go.Proofs.YtkiidmdgdjphjaaGreat
