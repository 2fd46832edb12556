/-
  Proved: the law of UnionOf (FnUnionOf) returns true for every code, and the code reads afterwards as it read before. No conditions.
-/
import Derived.Test.YtjmhmaijfhljlaaDraws1
import Derived.Test.YtjmhmaijfhljlaaPics3
import Derived.Test.YtjmhmaijfhljlaaCommonS
import Derived.Test.YtjmhmaijfhljlaaOpen
namespace Go.Proofs.Ytjmhmaijfhljlaa.fnUnionOf
open Go.ChangeShapes Go.WideShapes Go.ChangeAt Go.RowKit

set_option maxHeartbeats 1600000 in
theorem walk (A : Option Addr) (n c : Nat) (w : World) (hb : Bytes w w.heap.size A n) (hn : n ≤ c) (hc : c ≤ 9223372036854775807) :
    Calls Try.prog 4 #[.slice A n c] w (Gives (.bool true) w) := by
  by_cases hbig : 1048576 < n
  · go_enter Try.func4, Try.ntmps4
    go_wp2
    go_ret
    exact ⟨rfl, Below.refl _ _⟩
  · go_enter Try.func4, Try.ntmps4
    go_wp2_with fail
    refine (drawUnionOf_any A n c _ hb hn hc).mono ?_
    rintro e w1 ⟨v, p, v', q, rfl, D, D'⟩
    have b1 := D.below
    have op := D.own
    have oq := D'.own
    have hl := D.len
    have hl' := D'.len
    rcases hu : unionOk p q with _ | _
    · have hL : unionL p q = [] := by unfold unionL; rw [hu]; rfl
      go_wp2_with fail
      have cI := implUnion_any p q _ _ w1 op.reads oq.reads
      rw [hu, hL] at cI
      refine cI.mono ?_
      rintro e w2 ⟨vc, rfl, oc, b2⟩
      have bb2 := below_step b1 b2
      have op2 := op.below b2
      have oq2 := oq.below b2
      go_wp2_with fail
      have cS := specUnion_any p q _ _ w2 op2.reads oq2.reads (by omega) (by omega)
      rw [hu, hL] at cS
      refine cS.mono ?_
      rintro e w3 ⟨vs, rfl, os, b3⟩
      have bb3 := below_step bb2 b3
      have oc3 := oc.below b3
      obtain ⟨A4, c4, rfl, _, _⟩ := oc3.reads.slice
      clear hu hL cI cS
      go_wp2_with fail
      refine (gives_is (show decide (([] : List Sp) = []) = true by simp) (sameSpots_any [] [] _ _ _ oc3.reads os.reads)).mono ?_
      rintro e w4 ⟨rfl, b4⟩
      go_wp2_with fail
      refine (alive_any _).mono ?_
      rintro e w6 ⟨rfl, b6⟩
      go_wp2
      go_ret
      exact ⟨rfl, below_step (below_step bb3 b4) b6⟩
    · obtain ⟨hP, hQ, hL, hU⟩ := union_facts hu
      have hu' := (unionOk_comm q p).trans hu
      have hL' := (unionL_comm q p).trans hL
      have hcnt := union_count hP.2.2 hQ.2.2
      have hcl := length_common_le p q
      go_wp2_with fail
      have cI := implUnion_any p q _ _ w1 op.reads oq.reads
      rw [hu, hL] at cI
      refine cI.mono ?_
      rintro e w2 ⟨vc, rfl, oc, b2⟩
      have bb2 := below_step b1 b2
      have op2 := op.below b2
      have oq2 := oq.below b2
      go_wp2_with fail
      have cS := specUnion_any p q _ _ w2 op2.reads oq2.reads (by omega) (by omega)
      rw [hu, hL] at cS
      refine cS.mono ?_
      rintro e w3 ⟨vs, rfl, os, b3⟩
      have bb3 := below_step bb2 b3
      have op3 := op2.below b3
      have oq3 := oq2.below b3
      have oc3 := oc.below b3
      clear cI cS
      go_wp2_with fail
      refine (gives_is (show decide (puts p q = puts p q) = true by simp) (sameSpots_any _ _ _ _ _ oc3.reads os.reads)).mono ?_
      rintro e w4 ⟨rfl, b4⟩
      have bb4 := below_step bb3 b4
      have op4 := op3.below b4
      have oq4 := oq3.below b4
      have oc4 := oc3.below b4
      go_wp2_with fail
      have cI := implUnion_any q p _ _ w4 oq4.reads op4.reads
      rw [hu', hL'] at cI
      refine cI.mono ?_
      rintro e w5 ⟨vd, rfl, od, b5⟩
      have bb5 := below_step bb4 b5
      have op5 := op4.below b5
      have oq5 := oq4.below b5
      have oc5 := oc4.below b5
      clear cI
      go_wp2_with fail
      refine (gives_is (within_of hP hU (fun x hx => mem_puts.2 (.inl hx))) (implWithin_any _ _ _ _ _ op5.reads oc5.reads)).mono ?_
      rintro e w6 ⟨rfl, b6⟩
      have oq6 := oq5.below b6
      have oc6 := oc5.below b6
      go_wp2_with fail
      refine (gives_is (within_of hQ hU (fun x hx => mem_puts.2 (.inr hx))) (implWithin_any _ _ _ _ _ oq6.reads oc6.reads)).mono ?_
      rintro e w7 ⟨rfl, b7⟩
      have b57 := below_step b6 b7
      have bb7 := below_step bb5 b57
      have op7 := op5.below b57
      have oq7 := oq5.below b57
      have oc7 := oc5.below b57
      have od7 := od.below b57
      obtain ⟨A1, c1, rfl, _, _⟩ := op7.reads.slice
      obtain ⟨A2, c2, rfl, _, _⟩ := oq7.reads.slice
      obtain ⟨A3, c3, rfl, _, _⟩ := oc7.reads.slice
      go_wp2_with fail
      refine (implCommon_any p q _ _ _ op7.reads oq7.reads).mono ?_
      rintro e w8 ⟨vk, rfl, ok, b8⟩
      rw [common_yes (bothB_y (picB_t hP) (picB_t hQ))] at ok
      have bb8 := below_step bb7 b8
      have oc8 := oc7.below b8
      have od8 := od7.below b8
      obtain ⟨A5, c5, rfl, _, _⟩ := ok.reads.slice
      have he : (((puts p q).length : Int) == (p.length : Int) + (q.length : Int) - ((common p q).length : Int)) = true := by rw [beq_iff_eq]; omega
      have hHU := Lib.hid hU
      clear hu hu' hL hL' hcnt hU hP hQ
      go_wp2_with fail
      refine (gives_is (show decide (puts p q = puts p q) = true by simp) (sameSpots_any _ _ _ _ _ od8.reads oc8.reads)).mono ?_
      rintro e w9 ⟨rfl, b9⟩
      go_wp2_with fail
      refine (alive_any _).mono ?_
      rintro e w10 ⟨rfl, b10⟩
      go_wp2
      go_ret
      exact ⟨rfl, below_step (below_step bb8 b9) b10⟩
set_option maxRecDepth 100000 in
theorem lifted (os : Os) (started : os.Started) (H : Type) (enc : TypeId × Value → H) :
    ReturnsInHanded {} Try.checked os 4 .any (Rows.fnUnionOfSpec.pre6 enc Try.prog Try.f4 Rows.fnUnionOfRow.domain false) (Rows.fnUnionOfSpec.post enc Try.prog Try.f4 false true false false) := by
  refine returnsInHanded_of_change (C := Try.checked) own started (by kernel_rfl) Try.func4
    (ChangeSpec.witness6 (enc := enc) (C := Try.checked) false ⟨#[], #[.slice none 0 0], []⟩ 8 (by kernel_rfl) (by kernel_rfl) (by kernel_rfl) (by kernel_rfl)) ?_
  intro W base args ds gs before hval0 hW _ _
  have hval : ∀ (j : Nat) t v, Try.f4.params[j]? = some t → args[j]? = some v → Value.okWide Try.prog W .any base t v := hval0
  have hW' := hW
  obtain ⟨p, q, hA0, hV, rfl, _, _⟩ := hW
  have hA : DataW.TrodAll enc Try.prog W 0 (fun _ => true) true Try.f4.params.toList args.toList ds p := hA0
  rw [Try.params4] at hA hval
  obtain ⟨v0, d0, rfl, rfl, h0⟩ := trodAll_one hA
  obtain ⟨rfl, rfl⟩ := trodVars_none hV
  clear hA0 hval0
  simp only [List.append_nil] at hW'
  have hlt : ∀ x ∈ p, x.block < W.heap.size := fun x hx => by simpa using hW'.lt x hx
  have r0 := open_bytes (hval 0 22 v0 rfl rfl) h0 hlt
  obtain ⟨⟨bA, bn, bc⟩, rfl, rb, rn, rc⟩ := r0
  simp only at rb rn rc
  refine (walk bA bn bc W rb rn rc).mono fun e W' hg => ?_
  obtain ⟨he, hb⟩ := hg
  subst he
  exact ⟨_, rfl, _, _, _, [], p, [], hW', trodAll_mk1 (shut_bool Try.underlying4 _), trodAll_mk1 (kept_arg (by kernel_rfl) (of_decide_eq_true (by kernel_rfl)) h0 hb hlt), rfl, hb.frame _, fun h => by cases h⟩

theorem holds : Rows.FnUnionOfSaid :=
  OpenClaim.holds_of_wide 4 Try.f4 rfl rfl rfl rfl rfl rfl rfl ⟨rfl, rfl, rfl, rfl, rfl⟩ rfl rfl rfl rfl rfl (by kernel_rfl) Try.func4 (by kernel_rfl)
    (of_decide_eq_true (by kernel_rfl)) (by unfold Func.isWrapper; first | (rw [if_pos (by decide +kernel)]; kernel_rfl) | (rw [if_neg (by decide +kernel)]; exact ⟨rfl, rfl⟩))
    (fun os started H enc _ => lifted os started H enc)
end Go.Proofs.Ytjmhmaijfhljlaa.fnUnionOf
