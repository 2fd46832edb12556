/-
  Proved: the law of WithinOk (FnWithinOk) returns true for every code, and the code reads afterwards as it read before. No conditions.
-/
import Derived.Test.YtjmhmaijfhljlaaDraws1
import Derived.Test.YtjmhmaijfhljlaaPics3
import Derived.Test.YtjmhmaijfhljlaaCommonS
import Derived.Test.YtjmhmaijfhljlaaOpen
namespace Go.Proofs.Ytjmhmaijfhljlaa.fnWithinOk
open Go.ChangeShapes Go.WideShapes Go.ChangeAt Go.RowKit

theorem own_pick {w1 w2 : World} {g base : Nat} {v : Value} {ps : List Sp} (h : Owns w1 base v ps) (hg : w1.grownBy w2 (some g)) (hb : g < base) : Owns w2 base v ps :=
  h.grown hg (by cases hv : v.ownBlock with | none => exact .inl rfl | some k => exact .inr (fun e => by have := (h.lt k hv).1; injection e with e; omega))

theorem commonL_len (p q : List Sp) : (commonL p q).length ≤ p.length := by
  unfold commonL
  split
  · exact length_common_le _ _
  · simp

theorem draw (A : Option Addr) (n c : Nat) (w : World) (hb : Bytes w w.heap.size A n) (hn : n ≤ c) (hc : c ≤ 9223372036854775807) :
    Calls Try.prog 21 #[.slice A n c] w fun e w' => ∃ v ps v2 ps2, e = .returned (.tuple #[v, v2]) ∧ Owns w' w.heap.size v ps ∧ Owns w' w.heap.size v2 ps2 ∧ ps.length ≤ 10 ∧ ps2.length ≤ 10 ∧ Below w.heap.size w w' := by
  go_enter Try.func21, Try.ntmps21
  go_wp2_with fail
  refine (open_any A n c _ hb hn hc).mono ?_
  rintro e w1 ⟨n', rfl, r1, b1⟩
  have hlt1 := r1.lt
  go_wp2_with fail
  refine (two_any _ n' c 0 A _ r1 (by omega)).mono ?_
  rintro e w2 ⟨v, ps, v2, ps2, q, rfl, o1, o2, s1, s2, l1, l2, r2, hq, g2⟩
  have hbl := Below.of_grown b1 g2 (Nat.le_refl _)
  go_wp2_with fail
  refine (pick_any _ n' c q A 2 _ r2 (by omega) (by omega) (by omega)).mono ?_
  rintro e w3 ⟨z, rfl, _, _, r3, g3⟩
  have hbl3 := Below.of_grown hbl g3 (Nat.le_refl _)
  have o1' := own_pick o1 g3 hlt1
  have o2' := own_pick o2 g3 hlt1
  by_cases hz : z = 0
  · subst hz
    go_wp2_with fail
    refine (specCommon_any ps ps2 _ _ _ o1'.reads o2'.reads (by omega)).mono ?_
    rintro e w4 ⟨v4, rfl, o4, b4⟩
    have hcl := commonL_len ps ps2
    go_wp2
    go_ret2
    exact ⟨_, _, _, _, rfl, o4.base hbl3.size, (o2'.below b4).base b1.size, by omega, l2, below_step hbl3 b4⟩
  · have hz0 : (z == 0) = false := beq_eq_false_iff_ne.2 hz
    go_wp2
    go_ret2
    exact ⟨_, _, _, _, rfl, o1'.base b1.size, o2'.base b1.size, l1, l2, hbl3⟩

theorem within_not_pic {p q : List Sp} (h : bothB p q = false) : withinB p q = false := within_no h
theorem both_of {p q : List Sp} (hp : picB p = true) (hq : picB q = true) : bothB p q = true := bothB_y hp hq
theorem union_is {p q : List Sp} (hP : Pic p) (hQ : Pic q) : withinB p q = decide (puts p q = q) := by
  rw [Bool.eq_iff_iff, decide_eq_true_iff]
  constructor
  · intro h
    obtain ⟨_, _, hm⟩ := within_mem h
    exact sorted_ext (sorted_puts hP.2.2) hQ.2.2 fun x => by
      rw [mem_puts]
      exact ⟨fun h => h.elim (hm x) id, .inr⟩
  · intro h
    refine within_of hP hQ fun x hx => ?_
    rw [← h]; exact mem_puts.2 (.inl hx)
theorem union_told {p q : List Sp} (h : withinB p q = true) : unionOk p q = true := by
  obtain ⟨hP, hQ, hm⟩ := within_mem h
  have e : puts p q = q := sorted_ext (sorted_puts hP.2.2) hQ.2.2 fun x => by
    rw [mem_puts]
    exact ⟨fun h => h.elim (hm x) id, .inr⟩
  unfold unionOk
  rw [bothB_y (picB_t hP) (picB_t hQ), e, decide_eq_true hQ.1]; rfl
theorem within_eq {p q : List Sp} (h : withinB p q = true) (k : withinB q p = true) : p = q := by
  obtain ⟨hP, hQ, hm⟩ := within_mem h
  obtain ⟨_, _, hm'⟩ := within_mem k
  exact sorted_ext hP.2.2 hQ.2.2 fun x => ⟨hm x, hm' x⟩

set_option maxHeartbeats 1600000 in
theorem walk (A : Option Addr) (n c : Nat) (w : World) (hb : Bytes w w.heap.size A n) (hn : n ≤ c) (hc : c ≤ 9223372036854775807) :
    Calls Try.prog 5 #[.slice A n c] w (Gives (.bool true) w) := by
  by_cases hbig : 1048576 < n
  · go_enter Try.func5, Try.ntmps5
    go_wp2
    go_ret
    exact ⟨rfl, Below.refl _ _⟩
  · go_enter Try.func5, Try.ntmps5
    go_wp2_with fail
    refine (draw A n c _ hb hn hc).mono ?_
    rintro e w1 ⟨v, p, v', q, rfl, op, oq, hl, hl', bb⟩
    rcases hp : picB p with _ | _
    · have hw := within_not_pic (bothB_l (q := q) hp)
      go_wp2_with fail
      refine (gives_is hw (implWithin_any _ _ _ _ _ op.reads oq.reads)).mono ?_
      rintro e w2 ⟨rfl, b2⟩
      have op2 := op.below b2
      have oq2 := oq.below b2
      go_wp2_with fail
      refine (gives_is hw (specWithin_any _ _ _ _ _ op2.reads oq2.reads)).mono ?_
      rintro e w3 ⟨rfl, b3⟩
      have op3 := op2.below b3
      go_wp2_with fail
      refine (gives_is hp (specPicture_any p _ _ op3.reads)).mono ?_
      rintro e w4 ⟨rfl, b4⟩
      go_wp2_with fail
      refine (alive_any _).mono ?_
      rintro e w5 ⟨rfl, b5⟩
      go_wp2
      go_ret
      exact ⟨rfl, below_step (below_step (below_step (below_step bb b2) b3) b4) b5⟩
    · rcases hq : picB q with _ | _
      · have hw := within_not_pic (bothB_r (p := p) hq)
        go_wp2_with fail
        refine (gives_is hw (implWithin_any _ _ _ _ _ op.reads oq.reads)).mono ?_
        rintro e w2 ⟨rfl, b2⟩
        have op2 := op.below b2
        have oq2 := oq.below b2
        go_wp2_with fail
        refine (gives_is hw (specWithin_any _ _ _ _ _ op2.reads oq2.reads)).mono ?_
        rintro e w3 ⟨rfl, b3⟩
        have op3 := op2.below b3
        have oq3 := oq2.below b3
        go_wp2_with fail
        refine (gives_is hp (specPicture_any p _ _ op3.reads)).mono ?_
        rintro e w4 ⟨rfl, b4⟩
        have oq4 := oq3.below b4
        go_wp2_with fail
        refine (gives_is hq (specPicture_any q _ _ oq4.reads)).mono ?_
        rintro e w5 ⟨rfl, b5⟩
        go_wp2_with fail
        refine (alive_any _).mono ?_
        rintro e w6 ⟨rfl, b6⟩
        go_wp2
        go_ret
        exact ⟨rfl, below_step (below_step (below_step (below_step (below_step bb b2) b3) b4) b5) b6⟩
      · have hP := picB_pic hp
        have hQ := picB_pic hq
        rcases hw : withinB p q with _ | _
        · go_wp2_with fail
          refine (gives_is hw (implWithin_any _ _ _ _ _ op.reads oq.reads)).mono ?_
          rintro e w2 ⟨rfl, b2⟩
          have op2 := op.below b2
          have oq2 := oq.below b2
          go_wp2_with fail
          refine (gives_is hw (specWithin_any _ _ _ _ _ op2.reads oq2.reads)).mono ?_
          rintro e w3 ⟨rfl, b3⟩
          have op3 := op2.below b3
          have oq3 := oq2.below b3
          go_wp2_with fail
          refine (gives_is hp (specPicture_any p _ _ op3.reads)).mono ?_
          rintro e w4 ⟨rfl, b4⟩
          have op4 := op3.below b4
          have oq4 := oq3.below b4
          go_wp2_with fail
          refine (gives_is hq (specPicture_any q _ _ oq4.reads)).mono ?_
          rintro e w5 ⟨rfl, b5⟩
          have op5 := op4.below b5
          have oq5 := oq4.below b5
          have bb5 := below_step (below_step (below_step (below_step bb b2) b3) b4) b5
          clear op op2 op3 op4 oq oq2 oq3 oq4 bb b2 b3 b4 b5
          rcases hu : unionOk p q with _ | _
          · have hL : unionL p q = [] := by unfold unionL; rw [hu]; rfl
            go_wp2_with fail
            have cI := implUnion_any p q _ _ w5 op5.reads oq5.reads
            rw [hu, hL] at cI
            refine cI.mono ?_
            rintro e w6 ⟨vu, rfl, ou, b6⟩
            have op := op5.below b6
            have oq := oq5.below b6
            have bb := below_step bb5 b6
            clear cI hu hL hw hp hq op5 oq5 bb5 b6
            -- from 'WithinOk(p, p)' on
            go_wp2_with fail
            refine (gives_is (within_of hP hP (fun x hx => hx)) (implWithin_any _ _ _ _ _ op.reads op.reads)).mono ?_
            rintro e wa ⟨rfl, ba⟩
            have op := op.below ba
            have oq := oq.below ba
            have ou := ou.below ba
            have bb := below_step bb ba
            clear ba
            have lx := litB wa [] #[] rfl (by simp)
            have balc : Below wa.heap.size wa (wa.alloc (.cells #[] 25)) := (Below.refl _ _).alloc (Nat.le_refl _) _
            have oq := oq.below balc
            have ou := ou.below balc
            have bb := below_step bb balc
            go_wp2_with fail
            refine (gives_is (within_of pic_nil hQ (fun x hx => by cases hx)) (implWithin_any _ _ _ _ _ lx.reads oq.reads)).mono ?_
            rintro e wb ⟨rfl, bbn⟩
            have oq := oq.below bbn
            have ou := ou.below bbn
            have bb := below_step bb bbn
            clear bbn lx balc
            go_wp2
            go_ret
            exact ⟨rfl, bb⟩
          · obtain ⟨_, _, hL, _⟩ := union_facts hu
            have hne := Lib.hid ((union_is hP hQ).symm.trans hw)
            go_wp2_with fail
            have cI := implUnion_any p q _ _ w5 op5.reads oq5.reads
            rw [hu, hL] at cI
            refine cI.mono ?_
            rintro e w6 ⟨vu, rfl, ou, b6⟩
            have op := op5.below b6
            have oq := oq5.below b6
            have bb := below_step bb5 b6
            clear cI hu hL hw hp hq op5 oq5 bb5 b6
            -- from 'WithinOk(p, p)' on
            go_wp2_with fail
            refine (gives_is (within_of hP hP (fun x hx => hx)) (implWithin_any _ _ _ _ _ op.reads op.reads)).mono ?_
            rintro e wa ⟨rfl, ba⟩
            have op := op.below ba
            have oq := oq.below ba
            have ou := ou.below ba
            have bb := below_step bb ba
            clear ba
            have lx := litB wa [] #[] rfl (by simp)
            have balc : Below wa.heap.size wa (wa.alloc (.cells #[] 25)) := (Below.refl _ _).alloc (Nat.le_refl _) _
            have oq := oq.below balc
            have ou := ou.below balc
            have bb := below_step bb balc
            go_wp2_with fail
            refine (gives_is (within_of pic_nil hQ (fun x hx => by cases hx)) (implWithin_any _ _ _ _ _ lx.reads oq.reads)).mono ?_
            rintro e wb ⟨rfl, bbn⟩
            have oq := oq.below bbn
            have ou := ou.below bbn
            have bb := below_step bb bbn
            clear bbn lx balc
            go_wp2_with fail
            refine (gives_is hne.out (sameSpots_any _ _ _ _ _ ou.reads oq.reads)).mono ?_
            rintro e w9 ⟨rfl, b9⟩
            clear hne
            go_wp2
            go_ret
            exact ⟨rfl, below_step bb b9⟩
        · go_wp2_with fail
          refine (gives_is hw (implWithin_any _ _ _ _ _ op.reads oq.reads)).mono ?_
          rintro e w2 ⟨rfl, b2⟩
          have op2 := op.below b2
          have oq2 := oq.below b2
          go_wp2_with fail
          refine (gives_is hw (specWithin_any _ _ _ _ _ op2.reads oq2.reads)).mono ?_
          rintro e w3 ⟨rfl, b3⟩
          have op3 := op2.below b3
          have oq3 := oq2.below b3
          go_wp2_with fail
          refine (gives_is hp (specPicture_any p _ _ op3.reads)).mono ?_
          rintro e w4 ⟨rfl, b4⟩
          have op4 := op3.below b4
          have oq4 := oq3.below b4
          go_wp2_with fail
          refine (gives_is hq (specPicture_any q _ _ oq4.reads)).mono ?_
          rintro e w5 ⟨rfl, b5⟩
          have op5 := op4.below b5
          have oq5 := oq4.below b5
          have bb5 := below_step (below_step (below_step (below_step bb b2) b3) b4) b5
          clear op op2 op3 op4 oq oq2 oq3 oq4 bb b2 b3 b4 b5
          have hu := union_told hw
          obtain ⟨_, _, hL, _⟩ := union_facts hu
          have hne := Lib.hid ((union_is hP hQ).symm.trans hw)
          go_wp2_with fail
          have cI := implUnion_any p q _ _ w5 op5.reads oq5.reads
          rw [hu, hL] at cI
          refine cI.mono ?_
          rintro e w6 ⟨vu, rfl, ou, b6⟩
          have op := op5.below b6
          have oq := oq5.below b6
          have bb := below_step bb5 b6
          clear cI hu hL hp hq op5 oq5 bb5 b6
          rcases hw2 : withinB q p with _ | _
          · go_wp2_with fail
            refine (gives_is hw2 (implWithin_any _ _ _ _ _ oq.reads op.reads)).mono ?_
            rintro e w7 ⟨rfl, b7⟩
            have op := op.below b7
            have oq := oq.below b7
            have ou := ou.below b7
            have bb := below_step bb b7
            clear b7 hw hw2
            -- from 'WithinOk(p, p)' on
            go_wp2_with fail
            refine (gives_is (within_of hP hP (fun x hx => hx)) (implWithin_any _ _ _ _ _ op.reads op.reads)).mono ?_
            rintro e wa ⟨rfl, ba⟩
            have op := op.below ba
            have oq := oq.below ba
            have ou := ou.below ba
            have bb := below_step bb ba
            clear ba
            have lx := litB wa [] #[] rfl (by simp)
            have balc : Below wa.heap.size wa (wa.alloc (.cells #[] 25)) := (Below.refl _ _).alloc (Nat.le_refl _) _
            have oq := oq.below balc
            have ou := ou.below balc
            have bb := below_step bb balc
            go_wp2_with fail
            refine (gives_is (within_of pic_nil hQ (fun x hx => by cases hx)) (implWithin_any _ _ _ _ _ lx.reads oq.reads)).mono ?_
            rintro e wb ⟨rfl, bbn⟩
            have oq := oq.below bbn
            have ou := ou.below bbn
            have bb := below_step bb bbn
            clear bbn lx balc
            go_wp2_with fail
            refine (gives_is hne.out (sameSpots_any _ _ _ _ _ ou.reads oq.reads)).mono ?_
            rintro e w9 ⟨rfl, b9⟩
            clear hne
            go_wp2
            go_ret
            exact ⟨rfl, below_step bb b9⟩
          · go_wp2_with fail
            refine (gives_is hw2 (implWithin_any _ _ _ _ _ oq.reads op.reads)).mono ?_
            rintro e w7 ⟨rfl, b7⟩
            have op := op.below b7
            have oq := oq.below b7
            have ou := ou.below b7
            have bb := below_step bb b7
            have hpq : decide (p = q) = true := decide_eq_true (within_eq hw hw2)
            clear b7 hw hw2
            go_wp2_with fail
            refine (gives_is hpq (sameSpots_any _ _ _ _ _ op.reads oq.reads)).mono ?_
            rintro e w8 ⟨rfl, b8⟩
            have op := op.below b8
            have oq := oq.below b8
            have ou := ou.below b8
            have bb := below_step bb b8
            clear b8 hpq
            -- from 'WithinOk(p, p)' on
            go_wp2_with fail
            refine (gives_is (within_of hP hP (fun x hx => hx)) (implWithin_any _ _ _ _ _ op.reads op.reads)).mono ?_
            rintro e wa ⟨rfl, ba⟩
            have op := op.below ba
            have oq := oq.below ba
            have ou := ou.below ba
            have bb := below_step bb ba
            clear ba
            have lx := litB wa [] #[] rfl (by simp)
            have balc : Below wa.heap.size wa (wa.alloc (.cells #[] 25)) := (Below.refl _ _).alloc (Nat.le_refl _) _
            have oq := oq.below balc
            have ou := ou.below balc
            have bb := below_step bb balc
            go_wp2_with fail
            refine (gives_is (within_of pic_nil hQ (fun x hx => by cases hx)) (implWithin_any _ _ _ _ _ lx.reads oq.reads)).mono ?_
            rintro e wb ⟨rfl, bbn⟩
            have oq := oq.below bbn
            have ou := ou.below bbn
            have bb := below_step bb bbn
            clear bbn lx balc
            go_wp2_with fail
            refine (gives_is hne.out (sameSpots_any _ _ _ _ _ ou.reads oq.reads)).mono ?_
            rintro e w9 ⟨rfl, b9⟩
            clear hne
            go_wp2
            go_ret
            exact ⟨rfl, below_step bb b9⟩
set_option maxRecDepth 100000 in
theorem lifted (os : Os) (started : os.Started) (H : Type) (enc : TypeId × Value → H) :
    ReturnsInHanded {} Try.checked os 5 .any (Rows.fnWithinOkSpec.pre6 enc Try.prog Try.f5 Rows.fnWithinOkRow.domain false) (Rows.fnWithinOkSpec.post enc Try.prog Try.f5 false true false false) := by
  refine returnsInHanded_of_change (C := Try.checked) own started (by kernel_rfl) Try.func5
    (ChangeSpec.witness6 (enc := enc) (C := Try.checked) false ⟨#[], #[.slice none 0 0], []⟩ 8 (by kernel_rfl) (by kernel_rfl) (by kernel_rfl) (by kernel_rfl)) ?_
  intro W base args ds gs before hval0 hW _ _
  have hval : ∀ (j : Nat) t v, Try.f5.params[j]? = some t → args[j]? = some v → Value.okWide Try.prog W .any base t v := hval0
  have hW' := hW
  obtain ⟨p, q, hA0, hV, rfl, _, _⟩ := hW
  have hA : DataW.TrodAll enc Try.prog W 0 (fun _ => true) true Try.f5.params.toList args.toList ds p := hA0
  rw [Try.params5] at hA hval
  obtain ⟨v0, d0, rfl, rfl, h0⟩ := trodAll_one hA
  obtain ⟨rfl, rfl⟩ := trodVars_none hV
  clear hA0 hval0
  simp only [List.append_nil] at hW'
  have hlt : ∀ x ∈ p, x.block < W.heap.size := fun x hx => by simpa using hW'.lt x hx
  have r0 := open_bytes (hval 0 22 v0 rfl rfl) h0 hlt
  obtain ⟨⟨bA, bn, bc⟩, rfl, rb, rn, rc⟩ := r0
  simp only at rb rn rc
  refine (walk bA bn bc W rb rn rc).mono fun e W' hg => ?_
  obtain ⟨he, hb⟩ := hg
  subst he
  exact ⟨_, rfl, _, _, _, [], p, [], hW', trodAll_mk1 (shut_bool Try.underlying4 _), trodAll_mk1 (kept_arg (by kernel_rfl) (of_decide_eq_true (by kernel_rfl)) h0 hb hlt), rfl, hb.frame _, fun h => by cases h⟩

theorem holds : Rows.FnWithinOkSaid :=
  OpenClaim.holds_of_wide 5 Try.f5 rfl rfl rfl rfl rfl rfl rfl ⟨rfl, rfl, rfl, rfl, rfl⟩ rfl rfl rfl rfl rfl (by kernel_rfl) Try.func5 (by kernel_rfl)
    (of_decide_eq_true (by kernel_rfl)) (by unfold Func.isWrapper; first | (rw [if_pos (by decide +kernel)]; kernel_rfl) | (rw [if_neg (by decide +kernel)]; exact ⟨rfl, rfl⟩))
    (fun os started H enc _ => lifted os started H enc)
end Go.Proofs.Ytjmhmaijfhljlaa.fnWithinOk
