/- CommonOf and WithinOk of the model. No conditions but those typed. -/
import Derived.Test.YtfofmfkdkihhbacUnionS
namespace Go.Proofs.Ytfofmfkdkihhbac
open Go.RowKit Go.Sort

set_option maxHeartbeats 800000 in
theorem specCommon_any (p q : List Sp) (v v' : Value) (w : World) (h : Reads w w.heap.size v p) (h' : Reads w w.heap.size v' q) (hlp : p.length ≤ 1100000) : Calls Try.prog 80 #[v, v'] w (Gives1 (commonL p q) w) := by
  obtain ⟨A0, c0, rfl, _, _⟩ := h'.slice
  obtain ⟨A, c, rfl, hc, hm, hA, hr⟩ := h.is
  unfold maxLen at hm
  have hal : Below w.heap.size w (w.alloc (.cells #[] 35)) := (Below.refl _ _).alloc (Nat.le_refl _) _
  have oE := Owns.empty w w.heap.size (Nat.le_refl _)
  rcases hb : bothB p q with _ | _
  · rw [common_no hb]
    have r1 := h.kept hal
    have r1' := h'.kept hal
    rcases hp : picB p with _ | _
    · by_cases hk : 0 < p.length
      · have hd : decide (0 < p.length) = true := decide_eq_true hk
        go_enter Try.func80, Try.ntmps80
        go_wp2
        refine wp_loop_rounds 1 ?_
        rw [rounds_succ]
        go_wp2_with fail
        refine (gives_is hp (specPicture_any p _ _ r1)).mono ?_
        rintro e w2 ⟨rfl, b2⟩
        go_wp2
        go_ret
        exact ⟨_, rfl, oE.below b2, below_step hal b2⟩
      · have e : p = [] := List.eq_nil_of_length_eq_zero (by omega)
        subst e
        exact absurd hp (by decide)
    · have hq : picB q = false := by
        unfold bothB at hb; rw [hp] at hb; simpa using hb
      by_cases hk : 0 < p.length
      · have hd : decide (0 < p.length) = true := decide_eq_true hk
        go_enter Try.func80, Try.ntmps80
        go_wp2
        refine wp_loop_rounds 1 ?_
        rw [rounds_succ]
        go_wp2_with fail
        refine (gives_is hp (specPicture_any p _ _ r1)).mono ?_
        rintro e w2 ⟨rfl, b2⟩
        go_wp2_with fail
        refine (gives_is hq (specPicture_any q _ _ (r1'.kept b2))).mono ?_
        rintro e w3 ⟨rfl, b3⟩
        go_wp2
        go_ret
        exact ⟨_, rfl, (oE.below b2).below b3, below_step (below_step hal b2) b3⟩
      · have hd : decide (0 < p.length) = false := decide_eq_false hk
        have e : p = [] := List.eq_nil_of_length_eq_zero (by omega)
        subst e
        go_enter Try.func80, Try.ntmps80
        go_wp2
        refine wp_loop_rounds 1 ?_
        rw [rounds_succ]
        go_wp2
        go_ret
        exact ⟨_, rfl, oE, hal⟩
  · have hp : picB p = true := by unfold bothB at hb; simp at hb; exact hb.1
    have hq : picB q = true := by unfold bothB at hb; simp at hb; exact hb.2
    rw [common_yes hb]
    have hqs := (picB_pic hq).2.2
    have hq60 := (picB_pic hq).1
    have HPp := Lib.hid hp
    have HPq := Lib.hid hq
    clear hp hq hb
    go_enter Try.func80, Try.ntmps80
    go_wp2
    go_loopw [5, 6] (fun v i wr => ∃ k : Nat, k ≤ p.length ∧ i = .int .i64 k ∧ Owns wr w.heap.size v (common (p.take k) q) ∧ Below w.heap.size w wr) (fun _ i _ => p.length - (intOf i).toNat)
    case atStart => exact ⟨0, Nat.zero_le _, rfl, by simpa [common] using oE, hal⟩
    case round =>
      obtain ⟨k, hk, rfl, hown, hbw⟩ := hrel
      by_cases hlt : k < p.length
      · have hd : decide (k < p.length) = true := decide_eq_true hlt
        obtain ⟨⟨x, y⟩, hxy⟩ : ∃ a, p[k]? = some a := ⟨_, List.getElem?_eq_getElem hlt⟩
        obtain ⟨b, off, rfl, hb', hcell⟩ := hr (by omega)
        obtain ⟨c1, c2⟩ := hcell k x y hxy
        have hT := Lib.hid (common_take (q := q) hxy)
        have hln := length_common_le (p.take k) q
        have hln2 : (p.take k).length ≤ p.length := List.length_take_le' _ _
        clear hxy
        go_wp2_with fail
        refine (gives_is HPp.out (specPicture_any p _ _ ((h.below hbw).more hbw.size))).mono ?_
        rintro e w2 ⟨rfl, b2⟩
        have bb2 := below_step hbw b2
        go_wp2_with fail
        refine (gives_is HPq.out (specPicture_any q _ _ ((h'.below bb2).more bb2.size))).mono ?_
        rintro e w3 ⟨rfl, b3⟩
        have bb3 := below_step bb2 b3
        have o3 := (hown.below b2).below b3
        have d1 := (bb3.cell (p := ⟨b, off + k * 2, none⟩) hb').trans c1
        have d2 := (bb3.cell (p := ⟨b, off + k * 2 + 1, none⟩) hb').trans c2
        clear hown
        by_cases hmem : (x, y) ∈ q
        · go_wp2_with fail
          refine (gives_is (decide_eq_true hmem) (l1Has_any q _ x y _ ((h'.below bb3).more bb3.size) hqs (by omega))).mono ?_
          rintro e w4 ⟨rfl, b4⟩
          have bb4 := below_step bb3 b4
          have hT' := hT.out
          rw [if_pos hmem] at hT'
          have HT := Lib.hid hT'
          have o4 := (o3.below b4).below ((Below.refl _ _).alloc (Nat.le_refl _) (.cells #[.int .i64 x, .int .i64 y] 35))
          have e1 := (bb4.cell (p := ⟨b, off + k * 2, none⟩) hb').trans c1
          have e2 := (bb4.cell (p := ⟨b, off + k * 2 + 1, none⟩) hb').trans c2
          have hs4 := bb4.size
          clear hT' hmem
          go_wp2_with (at_builtin; refine wpList_append_spots (qs := [(x, y)]) o4 (Reads.one (g := w4.heap.size) (by simp [go_sem]) (by simp [go_sem])) (by simp; omega) (by simp; omega) rfl _ _ rfl rfl rfl ?_)
          intro v5 w5 o5 g5 _
          have bb5 := o4.below_app (bb4.alloc hs4 _) (by simp; omega) g5
          go_wp2
          go_roundw
          case rel => exact ⟨k + 1, by omega, by go_num, by rw [HT.out]; exact o5, bb5⟩
          case measure => simp [intOf]; omega
        · go_wp2_with fail
          refine (gives_is (decide_eq_false hmem) (l1Has_any q _ x y _ ((h'.below bb3).more bb3.size) hqs (by omega))).mono ?_
          rintro e w4 ⟨rfl, b4⟩
          have hT' := hT.out
          rw [if_neg hmem, List.append_nil] at hT'
          have HT := Lib.hid hT'
          clear hT' hmem
          go_wp2
          go_roundw
          case rel => exact ⟨k + 1, by omega, by go_num, by rw [HT.out]; exact o3.below b4, below_step bb3 b4⟩
          case measure => simp [intOf]; omega
      · have hd : decide (k < p.length) = false := decide_eq_false hlt
        rw [List.take_of_length_le (by omega)] at hown
        go_wp2
        go_ret
        exact ⟨_, rfl, hown, hbw⟩

end Go.Proofs.Ytfofmfkdkihhbac
