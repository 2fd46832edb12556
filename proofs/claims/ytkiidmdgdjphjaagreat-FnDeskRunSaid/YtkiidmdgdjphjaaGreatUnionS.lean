/- Texts of one kind, merged: UnionS, CommonS. No conditions but those that stand in each theorem. -/
import Derived.Test.YtkiidmdgdjphjaaGreatUnion
import Derived.Test.YtkiidmdgdjphjaaGreatPut
import Derived.Test.YtkiidmdgdjphjaaGreatPicWalk
namespace Go.Proofs.YtkiidmdgdjphjaaGreat
/-! ### UnionS -/
section
open Go.RowKit Go.Sort

theorem puts_take {p q : List Sp} {k : Nat} {a : Sp} (h : q[k]? = some a) : puts p (q.take (k + 1)) = put (puts p (q.take k)) a := by
  unfold puts
  rw [List.take_add_one, h]
  simp
theorem common_take {p q : List Sp} {k : Nat} {a : Sp} (h : p[k]? = some a) : common (p.take (k + 1)) q = common (p.take k) q ++ (if a ∈ q then [a] else []) := by
  unfold common
  rw [List.take_add_one, h, List.filter_append]
  by_cases hm : a ∈ q <;> simp [hm]


set_option maxHeartbeats 800000 in
theorem specUnion_any (p q : List Sp) (v v' : Value) (w : World) (h : Reads w w.heap.size v p) (h' : Reads w w.heap.size v' q) (hlp : p.length ≤ 1100000) (hlq : q.length ≤ 1100000) : Calls Tryz.prog 42 #[v, v'] w (Gives2 (unionL p q) (unionOk p q) w) := by
  obtain ⟨A0, c0, rfl, _, _⟩ := h.slice
  obtain ⟨A, c, rfl, hc, hm, hA, hr⟩ := h'.is
  unfold maxLen at hm
  have hal : Below w.heap.size w (w.alloc (.cells #[] 53)) := (Below.refl _ _).alloc (Nat.le_refl _) _
  have oE := Owns.empty w w.heap.size (Nat.le_refl _)
  rcases hb : bothB p q with _ | _
  · obtain ⟨e1, e2⟩ := union_no hb
    rw [e1, e2]
    clear e1 e2
    go_enter Tryz.func42, Tryz.ntmps42
    go_wp2_with (at_builtin; refine wpList_append_spots (qs := p) oE (h.below hal) (by simp; omega) (by simp) rfl _ _ rfl rfl rfl ?_)
    intro v1 w1 o1 g1 _
    have b1 := oE.below_app hal (by simp) g1
    have o1' : Owns w1 w.heap.size v1 p := o1
    obtain ⟨A1, c1, rfl, _, _⟩ := o1'.reads.slice
    clear o1 g1 hal oE
    have r1 := (h.below b1).more b1.size
    have r1' := (h'.below b1).more b1.size
    rcases hp : picB p with _ | _
    · by_cases hk : 0 < q.length
      · have hd : decide (0 < q.length) = true := decide_eq_true hk
        go_wp2
        refine wp_loop_rounds 1 ?_
        rw [rounds_succ]
        go_wp2_with fail
        refine (gives_is hp (specPicture_any p _ _ r1)).mono ?_
        rintro e w2 ⟨rfl, b2⟩
        have r2 := r1.kept b2
        go_wp2_with fail
        refine (gives_is hp (specPicture_any p _ _ r2)).mono ?_
        rintro e w3 ⟨rfl, b3⟩
        go_wp2
        go_ret2
        exact ⟨_, rfl, (Owns.empty w3 w3.heap.size (Nat.le_refl _)).base ((below_step (below_step b1 b2) b3).size), below_step (below_step (below_step b1 b2) b3) ((Below.refl _ _).alloc (Nat.le_refl _) _)⟩
      · have hd : decide (0 < q.length) = false := decide_eq_false hk
        have e : q = [] := List.eq_nil_of_length_eq_zero (by omega)
        subst e
        go_wp2
        refine wp_loop_rounds 1 ?_
        rw [rounds_succ]
        go_wp2_with fail
        refine (gives_is hp (specPicture_any p _ _ r1)).mono ?_
        rintro e w3 ⟨rfl, b3⟩
        go_wp2
        go_ret2
        exact ⟨_, rfl, (Owns.empty w3 w3.heap.size (Nat.le_refl _)).base ((below_step b1 b3).size), below_step (below_step b1 b3) ((Below.refl _ _).alloc (Nat.le_refl _) _)⟩
    · have hq : picB q = false := by
        unfold bothB at hb; rw [hp] at hb; simpa using hb
      by_cases hk : 0 < q.length
      · have hd : decide (0 < q.length) = true := decide_eq_true hk
        go_wp2
        refine wp_loop_rounds 1 ?_
        rw [rounds_succ]
        go_wp2_with fail
        refine (gives_is hp (specPicture_any p _ _ r1)).mono ?_
        rintro e w2 ⟨rfl, b2⟩
        go_wp2_with fail
        refine (gives_is hq (specPicture_any q _ _ (r1'.kept b2))).mono ?_
        rintro e w3 ⟨rfl, b3⟩
        have bb := below_step b2 b3
        go_wp2_with fail
        refine (gives_is hp (specPicture_any p _ _ (r1.kept bb))).mono ?_
        rintro e w4 ⟨rfl, b4⟩
        go_wp2_with fail
        refine (gives_is hq (specPicture_any q _ _ (r1'.kept (below_step bb b4)))).mono ?_
        rintro e w5 ⟨rfl, b5⟩
        have b15 := below_step (below_step (below_step b1 bb) b4) b5
        go_wp2
        go_ret2
        exact ⟨_, rfl, (Owns.empty w5 w5.heap.size (Nat.le_refl _)).base b15.size, below_step b15 ((Below.refl _ _).alloc (Nat.le_refl _) _)⟩
      · have e : q = [] := List.eq_nil_of_length_eq_zero (by omega)
        subst e
        exact absurd hq (by decide)
  · have hp : picB p = true := by unfold bothB at hb; simp at hb; exact hb.1
    have hq : picB q = true := by unfold bothB at hb; simp at hb; exact hb.2
    have hP := picB_pic hp
    have hQ := picB_pic hq
    have hp60 := hP.1
    have hq60 := hQ.1
    clear hP hQ
    have HPp := Lib.hid hp
    have HPq := Lib.hid hq
    clear hp hq
    go_enter Tryz.func42, Tryz.ntmps42
    go_wp2_with (at_builtin; refine wpList_append_spots (qs := p) oE (h.below hal) (by simp; omega) (by simp) rfl _ _ rfl rfl rfl ?_)
    intro v1 w1 o1 g1 _
    have b1 := oE.below_app hal (by simp) g1
    have o1' : Owns w1 w.heap.size v1 p := o1
    clear o1 g1 hal oE
    go_wp2
    go_loopw [6, 7] (fun v i wr => ∃ k : Nat, k ≤ q.length ∧ i = .int .i64 k ∧ Owns wr w.heap.size v (puts p (q.take k)) ∧ Below w.heap.size w wr) (fun _ i _ => q.length - (intOf i).toNat)
    case atStart => exact ⟨0, Nat.zero_le _, rfl, by simpa [puts] using o1', b1⟩
    case round =>
      clear o1'
      obtain ⟨k, hk, rfl, hown, hbw⟩ := hrel
      by_cases hlt : k < q.length
      · have hd : decide (k < q.length) = true := decide_eq_true hlt
        obtain ⟨⟨x, y⟩, hxy⟩ : ∃ a, q[k]? = some a := ⟨_, List.getElem?_eq_getElem hlt⟩
        obtain ⟨b, off, rfl, hb', hcell⟩ := hr (by omega)
        obtain ⟨c1, c2⟩ := hcell k x y hxy
        have hT := Lib.hid (puts_take (p := p) hxy)
        have hln := length_puts_le (q.take k) p
        have hln2 : (q.take k).length ≤ q.length := List.length_take_le' _ _
        clear hxy
        go_wp2_with fail
        refine (gives_is HPp.out (specPicture_any p _ _ ((h.below hbw).more hbw.size))).mono ?_
        rintro e w2 ⟨rfl, b2⟩
        have bb2 := below_step hbw b2
        go_wp2_with fail
        refine (gives_is HPq.out (specPicture_any q _ _ ((h'.below bb2).more bb2.size))).mono ?_
        rintro e w3 ⟨rfl, b3⟩
        have bb3 := below_step bb2 b3
        have o3 := (hown.below b2).below b3
        have d1 := (bb3.cell (p := ⟨b, off + k * 2, none⟩) hb').trans c1
        have d2 := (bb3.cell (p := ⟨b, off + k * 2 + 1, none⟩) hb').trans c2
        clear hown c1 c2
        go_wp2_with fail
        refine (l1Put_any _ _ x y w.heap.size _ o3 bb3.size (by omega)).mono ?_
        rintro e w4 ⟨v4, rfl, o4, b4⟩
        go_wp2
        go_roundw
        case rel => exact ⟨k + 1, by omega, by go_num, by rw [hT.out]; exact o4, below_step bb3 b4⟩
        case measure => simp [intOf]; omega
      · have hd : decide (k < q.length) = false := decide_eq_false hlt
        rw [List.take_of_length_le (by omega)] at hown
        obtain ⟨A1, c1, rfl, _, _⟩ := hown.reads.slice
        by_cases hbig : (puts p q).length ≤ 60
        · obtain ⟨e1, e2⟩ := union_yes hb hbig
          have HE1 := Lib.hid e1
          have HE2 := Lib.hid e2
          clear e1 e2
          go_wp2_with fail
          refine (gives_is HPp.out (specPicture_any p _ _ ((h.below hbw).more hbw.size))).mono ?_
          rintro e w2 ⟨rfl, b2⟩
          have bb2 := below_step hbw b2
          go_wp2_with fail
          refine (gives_is HPq.out (specPicture_any q _ _ ((h'.below bb2).more bb2.size))).mono ?_
          rintro e w3 ⟨rfl, b3⟩
          have o3 := (hown.below b2).below b3
          go_wp2
          go_ret2
          exact ⟨_, by rw [HE1.out]; rfl, by rw [HE2.out]; exact o3, below_step bb2 b3⟩
        · obtain ⟨e1, e2⟩ := union_big hbig
          have HE1 := Lib.hid e1
          have HE2 := Lib.hid e2
          clear e1 e2
          go_wp2_with fail
          refine (gives_is HPp.out (specPicture_any p _ _ ((h.below hbw).more hbw.size))).mono ?_
          rintro e w2 ⟨rfl, b2⟩
          have bb2 := below_step hbw b2
          go_wp2_with fail
          refine (gives_is HPq.out (specPicture_any q _ _ ((h'.below bb2).more bb2.size))).mono ?_
          rintro e w3 ⟨rfl, b3⟩
          have bb3 := below_step bb2 b3
          go_wp2
          go_ret2
          exact ⟨_, by rw [HE1.out]; rfl, by rw [HE2.out]; exact (Owns.empty w3 w3.heap.size (Nat.le_refl _)).base bb3.size, below_step bb3 ((Below.refl _ _).alloc (Nat.le_refl _) _)⟩
end
/-! ### CommonS -/
section
open Go.RowKit Go.Sort

end
end Go.Proofs.YtkiidmdgdjphjaaGreat
