/- FilledOf of the model. No conditions but those typed. -/
import Derived.Test.YtmpfhdcefilekaaHoleS
import Derived.Test.YtmpfhdcefilekaaFillI
import Derived.Test.YtmpfhdcefilekaaPut
namespace Go.Proofs.Ytmpfhdcefilekaa
open Go.RowKit Go.Sort

theorem puts_append (p a b : List Sp) : puts p (a ++ b) = puts (puts p a) b := by unfold puts; rw [List.foldl_append]
theorem puts_one {p q : List Sp} {k : Nat} {a : Sp} (h : q[k]? = some a) : put (puts p (q.take k)) a = puts p (q.take (k + 1)) := by
  rw [List.take_add_one, h, puts_append]; rfl
theorem puts_flat {p : List Sp} {ls : List (List Sp)} {k : Nat} {q : List Sp} (h : ls[k]? = some q) : puts (puts p (ls.take k).flatten) q = puts p (ls.take (k + 1)).flatten := by
  rw [← flat_upto h, puts_append]
theorem length_flat_le {ls : List (List Sp)} {k : Nat} {q : List Sp} (h : ls[k]? = some q) : (ls.take k).flatten.length + q.length ≤ (ls.map List.length).sum := by
  rw [flat_length_upto, ← sumUpTo_succ h]
  exact sumUpTo_le _ _
set_option maxRecDepth 100000 in
set_option maxHeartbeats 1600000 in
theorem specFilled_any (ps : List Sp) (v : Value) (w : World) (h : Reads w w.heap.size v ps) (hsm : ps.length ≤ 1100000) :
    Calls Try.prog 35 #[v] w (Gives2' (fillR ps) (fillOk ps) w) := by
  obtain ⟨A, c, rfl, hc, hm⟩ := h.slice
  unfold maxLen at hm
  have b0 := box_below w #[] 42
  have oE := Owns.empty w w.heap.size (Nat.le_refl _)
  rcases hp : picB ps with _ | _
  · rw [(fillOk_no hp).1, (fillOk_no hp).2]
    have hh : holesR ps = [] := by unfold holesR; rw [hp]; rfl
    have HH := Lib.hid hh
    have HP := Lib.hid hp
    clear hp hh
    go_enter Try.func35, Try.ntmps35
    go_wp2_with (at_builtin; refine wpList_append_spots (qs := ps) oE (h.kept b0) (by simp only [List.length_nil]; omega) b0.size rfl (.tmp 8) (.tmp 9) rfl rfl rfl ?_)
    intro v1 w1 o1 g1 hv1
    have b1 := oE.below_app b0 b0.size g1
    clear oE g1 hv1
    obtain ⟨A1, c1, rfl, _, _⟩ := o1.reads.slice
    go_wp2_with fail
    refine (specHoles_any ps _ w1 (h.kept b1)).mono ?_
    rintro e w2 ⟨v2, rfl, o2, b2⟩
    rw [HH.out] at o2
    have bb2 := below_step b1 b2
    obtain ⟨A2, c2, rfl, _, _⟩ := o2.reads.slice
    go_wp2
    refine wp_loop_rounds 1 ?_
    rw [rounds_succ]
    go_wp2_with fail
    refine (gives_is HP.out (specPicture_any ps _ _ (h.kept bb2))).mono ?_
    rintro e w3 ⟨rfl, b3⟩
    have bb3 := below_step bb2 b3
    go_wp2
    go_ret2
    exact ⟨_, rfl, Owns.empty _ _ bb3.size, bb3.alloc bb3.size _⟩
  · have hpl := (picB_pic hp).1
    have hsum := holes_sum hp
    have hlen := holes_length hp
    have hres : ∃ (b : Bool) (R : List Sp), fillOk ps = b ∧ fillR ps = R ∧ decide ((fillL ps).length ≤ 60) = b ∧ (b = true → R = fillL ps) ∧ (b = false → R = []) := by
      refine ⟨picB (fillL ps), fillR ps, fillOk_is hp, rfl, (fill_pic hp).symm, fun k => fillR_yes hp k, fun k => fillR_no hp k⟩
    obtain ⟨b, R, hb1, hb2, hb3, hb4, hb5⟩ := hres
    rw [hb1, hb2]
    have HH := Lib.hid (holesR_yes hp)
    have HP := Lib.hid hp
    have HB := Lib.hid (And.intro hb3 (And.intro hb4 hb5))
    clear hp hb1 hb2 hb3 hb4 hb5
    go_enter Try.func35, Try.ntmps35
    go_wp2_with (at_builtin; refine wpList_append_spots (qs := ps) oE (h.kept b0) (by simp only [List.length_nil]; omega) b0.size rfl (.tmp 8) (.tmp 9) rfl rfl rfl ?_)
    intro v1 w1 o1 g1 hv1
    have b1 := oE.below_app b0 b0.size g1
    clear oE g1 hv1
    obtain ⟨A1, c1, rfl, _, _⟩ := o1.reads.slice
    go_wp2_with fail
    refine (specHoles_any ps _ w1 (h.kept b1)).mono ?_
    rintro e w2 ⟨v2, rfl, o2, b2⟩
    rw [HH.out] at o2
    have bb2 := below_step b1 b2
    have o1 := o1.below b2
    have HF := Lib.hid (show fillL ps = puts ps ((holesL ps).take (holesL ps).length).flatten by rw [List.take_length]; rfl)
    obtain ⟨ls, hls⟩ : ∃ ls, holesL ps = ls := ⟨_, rfl⟩
    rw [hls] at o2 hsum hlen HF
    have hpr := o2.reads
    obtain ⟨A2, c2, vs, rfl, hc2, hm2, hvl, hcell, hin⟩ := hpr.is
    unfold maxLen at hm2
    clear hls o2 hpr
    go_wp2
    go_loopw [4, 6] (fun o i wr => ∃ k : Nat, k ≤ ls.length ∧ i = .int .i64 k ∧ Owns wr w.heap.size o (puts ps (ls.take k).flatten) ∧ Below w2.heap.size w2 wr) (fun _ i _ => ls.length - (intOf i).toNat)
    case atStart => exact ⟨0, Nat.zero_le _, rfl, o1, Below.refl _ _⟩
    case round =>
      clear o1
      obtain ⟨k, hk, rfl, hown, hbw⟩ := hrel
      by_cases hlk : k < ls.length
      · obtain ⟨bo, rfl, hbo, hcv⟩ := hcell (by omega)
        obtain ⟨q, hq⟩ : ∃ q, ls[k]? = some q := ⟨_, List.getElem?_eq_getElem hlk⟩
        obtain ⟨u, hu, hru⟩ := hin k q hq
        obtain ⟨Au, cu, rfl, hcu, hmu, _, hcellu⟩ := hru.is
        unfold maxLen at hmu
        have d0 := hcv k _ hu
        have hfl := length_flat_le hq
        have HT := Lib.hid (puts_flat (p := ps) hq)
        have hm3 : (0 : Int) ≤ (k : Int) := Int.natCast_nonneg _
        have hm4 : (k : Int) < (ls.length : Int) := by omega
        have hpl2 := length_puts_le (ls.take k).flatten ps
        obtain ⟨X, hX⟩ : ∃ X, puts ps (ls.take k).flatten = X := ⟨_, rfl⟩
        rw [hX] at hown hpl2
        rw [hX] at HT
        have hXl : X.length + q.length ≤ 10000 := by omega
        clear hq hu hX hfl hpl2
        go_wp2
        go_loopw [4, 7] (fun o i wr => ∃ j : Nat, j ≤ q.length ∧ i = .int .i64 j ∧ Owns wr w.heap.size o (puts X (q.take j)) ∧ Below w2.heap.size w2 wr) (fun _ i _ => q.length - (intOf i).toNat)
        case atStart => exact ⟨0, Nat.zero_le _, rfl, hown, hbw⟩
        case round =>
          clear hown hbw
          obtain ⟨j, hj, rfl, hown, hbw⟩ := hrel
          have hw2 := below_step bb2 hbw
          have d1 := (hbw.cell (p := ⟨bo, k, none⟩) hbo).trans d0
          by_cases hlj : j < q.length
          · obtain ⟨⟨x, y⟩, hxy⟩ : ∃ a, q[j]? = some a := ⟨_, List.getElem?_eq_getElem hlj⟩
            obtain ⟨b3, off3, rfl, hb3, hcell3⟩ := hcellu (by omega)
            obtain ⟨c0, c1⟩ := hcell3 j x y hxy
            have e0 := (hbw.cell (p := ⟨b3, off3 + j * 2, none⟩) hb3).trans c0
            have e1 := (hbw.cell (p := ⟨b3, off3 + j * 2 + 1, none⟩) hb3).trans c1
            have hj0 : (0 : Int) ≤ (j : Int) := Int.natCast_nonneg _
            have hj1 : (j : Int) < (q.length : Int) := by omega
            have hpl3 := length_puts_le (q.take j) X
            rw [List.length_take] at hpl3
            have HT2 := Lib.hid (puts_one (p := X) hxy)
            obtain ⟨Y, hY⟩ : ∃ Y, puts X (q.take j) = Y := ⟨_, rfl⟩
            rw [hY] at hown hpl3 HT2
            clear c0 c1 hxy hY
            go_wp2_with fail
            refine (l1Put_any Y _ x y w.heap.size wr hown hw2.size (by omega)).mono ?_
            rintro e w4 ⟨v4, rfl, o4, b4⟩
            go_wp2
            go_roundw
            case rel => exact ⟨j + 1, by omega, by go_num, by rw [← HT2.out]; exact o4, below_step hbw b4⟩
            case measure => simp [intOf]; omega
          · obtain rfl : j = q.length := by omega
            rw [List.take_length, HT.out] at hown
            go_wp2
            go_roundw
            case rel => exact ⟨k + 1, by omega, by go_num, hown, hbw⟩
            case measure => simp [intOf]; omega
      · obtain rfl : k = ls.length := by omega
        rw [← HF.out] at hown
        have bbr := below_step bb2 hbw
        obtain ⟨Ao, co, rfl, _, hmo⟩ := hown.reads.slice
        unfold maxLen at hmo
        go_wp2_with fail
        refine (gives_is HP.out (specPicture_any ps _ _ (h.kept bbr))).mono ?_
        rintro e w3 ⟨rfl, b3⟩
        have bb3 := below_step bbr b3
        have o3 := hown.below b3
        rcases b with _ | _
        · have HR := Lib.hid (HB.out.2.2 rfl)
          have hgt : 60 < (fillL ps).length := by have := of_decide_eq_false HB.out.1; omega
          have hgt2 : decide ((60 : Int) < ((fillL ps).length : Int)) = true := decide_eq_true (by omega)
          go_wp2
          go_ret2
          exact ⟨_, rfl, by rw [HR.out]; exact Owns.empty _ _ bb3.size, bb3.alloc bb3.size _⟩
        · have HR := Lib.hid (HB.out.2.1 rfl)
          have hle : (fillL ps).length ≤ 60 := of_decide_eq_true HB.out.1
          have hle2 : decide ((60 : Int) < ((fillL ps).length : Int)) = false := decide_eq_false (by omega)
          go_wp2
          go_ret2
          exact ⟨_, rfl, by rw [HR.out]; exact o3, bb3⟩
end Go.Proofs.Ytmpfhdcefilekaa
