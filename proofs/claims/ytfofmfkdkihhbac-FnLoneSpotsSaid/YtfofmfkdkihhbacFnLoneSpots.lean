/-
  Proved: the law of LoneSpots (FnLoneSpots) returns true for every code, and the code reads afterwards as it read before. No conditions.
-/
import Derived.Test.YtfofmfkdkihhbacDraws5
import Derived.Test.YtfofmfkdkihhbacBordS
import Derived.Test.YtfofmfkdkihhbacPattL
import Derived.Test.YtfofmfkdkihhbacUnion
import Derived.Test.YtfofmfkdkihhbacOpen
namespace Go.Proofs.Ytfofmfkdkihhbac.fnLoneSpots
open Go.ChangeShapes Go.WideShapes Go.ChangeAt Go.RowKit

theorem found_lit {b : Bool} {r ps t u : List Sp} {v vt vu : Value} {w : World} (hk : foundOk ps t u = b) (hr : foundR ps t u = r) (hp : Reads w w.heap.size v ps) (h : Reads w w.heap.size vt t) (k : Reads w w.heap.size vu u) : Calls Try.prog 12 #[v, .agg #[vt, vu]] w (Gives2' r b w) := by
  subst hk hr; exact implFound_any ps t u v vt vu w hp h k
theorem lone_ok {p : List Sp} (h : picB p = true) : foundOk p [(0, 0)] ring8 = true ∧ foundR p [(0, 0)] ring8 = loneL p := by
  have e := lone_found (picB_pic h).2.2
  have ok : foundOk p [(0, 0)] ring8 = true := by
    unfold foundOk
    rw [h, pat_ring, e, show picB (loneL p) = true from pic_filter h _]; rfl
  exact ⟨ok, by rw [(found_is ok).eq, e]⟩
theorem within_sub {a b : List Sp} (ha : picB a = true) (hb : picB b = true) (h : Sub a b) : withinB a b = true := by
  rw [within_yes (bothB_y ha hb)]
  have : common a b = a := by unfold common; exact List.filter_eq_self.2 fun x hx => decide_eq_true (h x hx)
  rw [this]; exact decide_eq_true rfl
set_option maxHeartbeats 1600000 in
theorem walk (A : Option Addr) (n c : Nat) (w : World) (hb : Bytes w w.heap.size A n) (hn : n ≤ c) (hc : c ≤ 9223372036854775807) :
    Calls Try.prog 7 #[.slice A n c] w (Gives (.bool true) w) := by
  by_cases hbig : 1048576 < n
  · go_enter Try.func7, Try.ntmps7
    go_wp2
    go_ret
    exact ⟨rfl, Below.refl _ _⟩
  · go_enter Try.func7, Try.ntmps7
    go_wp2_with fail
    refine (drawLoneSpots_any A n c _ hb hn hc).mono ?_
    rintro e w1 ⟨v, ps, rfl, D⟩
    have bb := D.below
    have op := D.own
    clear D hb hn hc
    go_wp2_with fail
    refine (implLone_any ps _ _ op.reads).mono ?_
    rintro e w2 ⟨vl, rfl, ol, bn⟩
    have bb := below_step bb bn
    have op := op.below bn
    go_wp2_with fail
    refine (specLone_any ps _ _ op.reads).mono ?_
    rintro e w3 ⟨vs, rfl, os, bn⟩
    have bb := below_step bb bn
    have op := op.below bn
    have ol := ol.below bn
    go_wp2_with fail
    refine (gives_is (show decide (loneP ps = loneP ps) = true by simp) (sameSpots_any _ _ _ _ _ ol.reads os.reads)).mono ?_
    rintro e w4 ⟨rfl, bn⟩
    have bb := below_step bb bn
    have op := op.below bn
    have ol := ol.below bn
    clear os bn
    rcases hp : picB ps with _ | _
    · rw [loneP_no hp] at ol
      obtain ⟨A4, c4, rfl, _, _⟩ := ol.reads.slice
      go_wp2_with fail
      refine (gives_is hp (specPicture_any ps _ _ op.reads)).mono ?_
      rintro e w5 ⟨rfl, bn⟩
      have bb := below_step bb bn
      clear hp
      go_wp2_with fail
      refine (alive_any _).mono ?_
      rintro e w6 ⟨rfl, bn⟩
      go_wp2
      go_ret
      exact ⟨rfl, below_step bb bn⟩
    · rw [loneP_yes hp] at ol
      have HK := Lib.hid (lone_ok hp)
      have HB := Lib.hid (borderP_yes hp)
      have HW := Lib.hid (within_sub (pic_filter hp (loneAt ps)) (pic_filter hp (borderAt ps)) (lone_border (picB_pic hp).2.2))
      go_wp2_with fail
      refine (gives_is hp (specPicture_any ps _ _ op.reads)).mono ?_
      rintro e w5 ⟨rfl, bn⟩
      have bb := below_step bb bn
      have op := op.below bn
      have ol := ol.below bn
      clear hp bn
      obtain ⟨wa, ha⟩ : ∃ wa, wa = w5.alloc (.cells #[.int .i64 (-1), .int .i64 (-1), .int .i64 0, .int .i64 (-1), .int .i64 1, .int .i64 (-1), .int .i64 (-1), .int .i64 0, .int .i64 1, .int .i64 0, .int .i64 (-1), .int .i64 1, .int .i64 0, .int .i64 1, .int .i64 1, .int .i64 1] 35) := ⟨_, rfl⟩
      have l1 : Owns wa w5.heap.size (.slice (some ⟨w5.heap.size, 0, none⟩) 8 8) ring8 := by rw [ha]; exact litB w5 ring8 _ rfl (by decide)
      have ba : Below w5.heap.size w5 wa := by rw [ha]; exact box_below w5 _ _
      obtain ⟨wb, hb⟩ : ∃ wb, wb = wa.alloc (.cells #[.int .i64 0, .int .i64 0] 35) := ⟨_, rfl⟩
      have l2 : Owns wb wa.heap.size (.slice (some ⟨w5.heap.size + 1, 0, none⟩) 1 1) [(0, 0)] := by
        have e : wa.heap.size = w5.heap.size + 1 := by rw [ha]; simp
        rw [hb, ← e]; exact litB wa [(0, 0)] _ rfl (by simp)
      have bc : Below wa.heap.size wa wb := by rw [hb]; exact box_below wa _ _
      have l1 := l1.below bc
      have ba := below_step ba bc
      have op := op.below ba
      have ol := ol.below ba
      have bb := below_step bb ba
      clear ba bc
      go_wp2_with (first | (rw [← ha, ← hb]; clear ha hb) | fail)
      with_reducible refine (found_lit HK.out.1 HK.out.2 op.reads l2.reads l1.reads).mono ?_
      rintro e w6 ⟨vf, rfl, of, bn⟩
      have bb := below_step bb bn
      have op := op.below bn
      have ol := ol.below bn
      clear l1 l2 bn
      go_wp2_with fail
      refine (gives_is (show decide (loneL ps = loneL ps) = true by simp) (sameSpots_any _ _ _ _ _ of.reads ol.reads)).mono ?_
      rintro e w7 ⟨rfl, bn⟩
      have bb := below_step bb bn
      have op := op.below bn
      have ol := ol.below bn
      clear of bn
      go_wp2_with fail
      refine (implBorder_any ps _ _ op.reads).mono ?_
      rintro e w8 ⟨vb, rfl, ob, bn⟩
      have bb := below_step bb bn
      have ol := ol.below bn
      rw [HB.out] at ob
      clear bn
      go_wp2_with fail
      refine (gives_is HW.out (implWithin_any _ _ _ _ _ ol.reads ob.reads)).mono ?_
      rintro e w9 ⟨rfl, bn⟩
      have bb := below_step bb bn
      go_wp2_with fail
      refine (alive_any _).mono ?_
      rintro e w10 ⟨rfl, bn⟩
      go_wp2
      go_ret
      exact ⟨rfl, below_step bb bn⟩
set_option maxRecDepth 100000 in
theorem lifted (os : Os) (started : os.Started) (H : Type) (enc : TypeId × Value → H) :
    ReturnsInHanded {} Try.checked os 7 .any (Rows.fnLoneSpotsSpec.pre6 enc Try.prog Try.f7 Rows.fnLoneSpotsRow.domain false) (Rows.fnLoneSpotsSpec.post enc Try.prog Try.f7 false true false false) := by
  refine returnsInHanded_of_change (C := Try.checked) own started (by kernel_rfl) Try.func7
    (ChangeSpec.witness6 (enc := enc) (C := Try.checked) false ⟨#[], #[.slice none 0 0], []⟩ 8 (by kernel_rfl) (by kernel_rfl) (by kernel_rfl) (by kernel_rfl)) ?_
  intro W base args ds gs before hval0 hW _ _
  have hval : ∀ (j : Nat) t v, Try.f7.params[j]? = some t → args[j]? = some v → Value.okWide Try.prog W .any base t v := hval0
  have hW' := hW
  obtain ⟨p, q, hA0, hV, rfl, _, _⟩ := hW
  have hA : DataW.TrodAll enc Try.prog W 0 (fun _ => true) true Try.f7.params.toList args.toList ds p := hA0
  rw [Try.params7] at hA hval
  obtain ⟨v0, d0, rfl, rfl, h0⟩ := trodAll_one hA
  obtain ⟨rfl, rfl⟩ := trodVars_none hV
  clear hA0 hval0
  simp only [List.append_nil] at hW'
  have hlt : ∀ x ∈ p, x.block < W.heap.size := fun x hx => by simpa using hW'.lt x hx
  have r0 := open_bytes (hval 0 22 v0 rfl rfl) h0 hlt
  obtain ⟨⟨bA, bn, bc⟩, rfl, rb, rn, rc⟩ := r0
  simp only at rb rn rc
  refine (walk bA bn bc W rb rn rc).mono fun e W' hg => ?_
  obtain ⟨he, hb⟩ := hg
  subst he
  exact ⟨_, rfl, _, _, _, [], p, [], hW', trodAll_mk1 (shut_bool Try.underlying4 _), trodAll_mk1 (kept_arg (by kernel_rfl) (of_decide_eq_true (by kernel_rfl)) h0 hb hlt), rfl, hb.frame _, fun h => by cases h⟩

theorem holds : Rows.FnLoneSpotsSaid :=
  OpenClaim.holds_of_wide 7 Try.f7 rfl rfl rfl rfl rfl rfl rfl ⟨rfl, rfl, rfl, rfl, rfl⟩ rfl rfl rfl rfl rfl (by kernel_rfl) Try.func7 (by kernel_rfl)
    (of_decide_eq_true (by kernel_rfl)) (by unfold Func.isWrapper; first | (rw [if_pos (by decide +kernel)]; kernel_rfl) | (rw [if_neg (by decide +kernel)]; exact ⟨rfl, rfl⟩))
    (fun os started H enc _ => lifted os started H enc)
end Go.Proofs.Ytfofmfkdkihhbac.fnLoneSpots
