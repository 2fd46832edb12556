/-
  Proved: the law of DeskNew (FnDeskNew) returns true for every code, and the code reads afterwards as it read before. No conditions.
-/
import Derived.Test.YtgdifenicjgfjaaDeskW
import Derived.Test.YtgdifenicjgfjaaDeskX
import Derived.Test.YtgdifenicjgfjaaDraws1
import Derived.Test.YtgdifenicjgfjaaOpen
namespace Go.Proofs.Ytgdifenicjgfjaa.fnDeskNew
open Go.ChangeShapes Go.WideShapes Go.ChangeAt Go.RowKit

theorem draw (A : Option Addr) (n c : Nat) (w : World) (hb : Bytes w w.heap.size A n) (hn : n ≤ c) (hc : c ≤ 9223372036854775807) :
    Calls Try.prog 11 #[.slice A n c] w fun e w' => ∃ v ps, e = .returned v ∧ Drawn w w' v ps 10 := by
  go_enter Try.func11, Try.ntmps11
  go_wp2_with fail
  refine (open_any A n c _ hb hn hc).mono ?_
  rintro e w1 ⟨n', rfl, r1, b1⟩
  go_wp2_with fail
  refine (spots_any _ n' c 0 A 9 3 _ r1 (by omega) (by omega) (by omega) (by omega) (by omega)).mono ?_
  rintro e w2 ⟨v, ps, q, rfl, I, hl, _⟩
  go_wp2
  go_ret
  exact ⟨v, ps, rfl, I.own.base b1.size, I.small, hl, Below.of_grown b1 I.grown (Nat.le_refl _)⟩
theorem pic_is {b : Bool} {p : List Sp} {v : Value} {w : World} (hk : picB p = b) (h : Reads w w.heap.size v p) : Calls Try.prog 16 #[v] w (Gives (.bool b) w) := by
  subst hk; exact implPicture_any p v w h
set_option maxRecDepth 100000 in
set_option maxHeartbeats 1600000 in
theorem walk (A : Option Addr) (n c : Nat) (w : World) (hb : Bytes w w.heap.size A n) (hn : n ≤ c) (hc : c ≤ 9223372036854775807) :
    Calls Try.prog 4 #[.slice A n c] w (Gives (.bool true) w) := by
  by_cases hbig : 1048576 < n
  · go_enter Try.func4, Try.ntmps4
    go_wp2
    go_ret
    exact ⟨rfl, Below.refl _ _⟩
  · go_enter Try.func4, Try.ntmps4
    go_wp2_with fail
    refine (draw A n c _ hb hn hc).mono ?_
    rintro e w1 ⟨v, p, rfl, D⟩
    have bb := D.below
    have ox := D.own
    have hl := D.len
    obtain ⟨Av, cv, rfl, _, _⟩ := ox.reads.slice
    clear D hb hn hc
    obtain ⟨R, hR⟩ : ∃ R, deskNewR p = R := ⟨_, rfl⟩
    have HR := Lib.hid hR
    rcases hu : picB p with _ | _
    all_goals
      have HU := Lib.hid hu
      go_wp2_with fail
      have cI := implDeskNew_any p _ w1 ox.reads
      rw [hu, hR] at cI
      refine cI.mono ?_
      rintro e w2 ⟨vg, rfl, og, b2⟩
      clear cI
      have zb := bb.size
      have z2 := b2.size
      obtain ⟨nx, px, ex, rnx, rpx⟩ := (og).rd
      subst ex
      obtain ⟨A4, c4, rfl, _, _⟩ := rnx.slice
      obtain ⟨P4, d4, rfl, _, _⟩ := rpx.slice
      clear rnx rpx
      obtain ⟨W4, hW4⟩ : ∃ W, W = (w2).alloc (.cells #[.slice A4 (R).1.length c4, .slice P4 (R).2.length d4] 26) := ⟨_, rfl⟩
      have bx4 : Below (w2).heap.size w2 W4 := by rw [hW4]; exact box_below _ _ _
      have r4 : (W4).heap[(w2).heap.size]? = some (.cells #[.slice A4 (R).1.length c4, .slice P4 (R).2.length d4] 26 (0, 0)) := by rw [hW4]; exact heap_alloc_new _ _
      have s4 : (w2).heap.size + 1 = (W4).heap.size := by rw [hW4]; simp
      have o4 := (og).below bx4
      have b4 := below_step b2 bx4
      have ox4 := ox.below b4
      go_wp2_with (first | (rw [← hW4]; clear hW4) | fail)
      have cS := specDeskNew_any p _ W4 ox4.reads
      rw [hu, hR] at cS
      refine cS.mono ?_
      rintro e w5 ⟨vw, rfl, ow, b5⟩
      clear cS
      have z5 := b5.size
      obtain ⟨nx, px, ex, rnx, rpx⟩ := (ow).rd
      subst ex
      obtain ⟨A7, c7, rfl, _, _⟩ := rnx.slice
      obtain ⟨P7, d7, rfl, _, _⟩ := rpx.slice
      clear rnx rpx
      obtain ⟨W7, hW7⟩ : ∃ W, W = (w5).alloc (.cells #[.slice A7 (R).1.length c7, .slice P7 (R).2.length d7] 26) := ⟨_, rfl⟩
      have bx7 : Below (w5).heap.size w5 W7 := by rw [hW7]; exact box_below _ _ _
      have r7 : (W7).heap[(w5).heap.size]? = some (.cells #[.slice A7 (R).1.length c7, .slice P7 (R).2.length d7] 26 (0, 0)) := by rw [hW7]; exact heap_alloc_new _ _
      have s7 : (w5).heap.size + 1 = (W7).heap.size := by rw [hW7]; simp
      have o7 := (ow).below bx7
      have b7 := below_step b5 bx7
      have S : TwoD w W7 w1.heap.size w2.heap.size W4.heap.size w5.heap.size w2.heap.size w5.heap.size _ _ _ _ R R := ⟨below_step bb (below_step b4 b7), (b7.block _ (by omega)).trans r4, r7, o4.below b7, o7, by omega⟩
      replace ox := ox4.below b7
      clear o4 o7 r4 r7 b7 b5 b4 bx4 bx7 ow og bb b2 ox4 hR hu
      have q40 := S.c40
      have q41 := S.c41
      have q70 := S.c70
      have q71 := S.c71
      go_wp2_with (first | (rw [← hW7]; clear hW7) | fail)
      refine (sameD_is (b := true) (by simp) S.ow.rd S.og.rd).mono ?_
      rintro e w8 ⟨rfl, bn⟩
      replace ox := ox.below bn
      replace S := S.below bn
      clear bn q40 q41 q70 q71
      have q40 := S.c40
      have q41 := S.c41
      have q70 := S.c70
      have q71 := S.c71
    · have hN : decide (R = (([], []) : Dk)) = true := by rw [← HR.out, new_no HU.out]; rfl
      go_wp2_with fail
      refine (noDesk_any R hN _ _ S.ow.rd).mono ?_
      rintro e w9 ⟨rfl, bn⟩
      replace ox := ox.below bn
      replace S := S.below bn
      clear bn q40 q41 q70 q71
      have q40 := S.c40
      have q41 := S.c41
      have q70 := S.c70
      have q71 := S.c71
      clear hN
      go_wp2_with fail
      refine (pic_is HU.out ox.reads).mono ?_
      rintro e w10 ⟨rfl, bn⟩
      replace S := S.below bn
      clear bn q40 q41 q70 q71
      have q40 := S.c40
      have q41 := S.c41
      have q70 := S.c70
      have q71 := S.c71
      go_wp2_with fail
      refine (alive_any _).mono ?_
      rintro e w11 ⟨rfl, bn⟩
      replace S := S.below bn
      clear bn q40 q41 q70 q71
      have q40 := S.c40
      have q41 := S.c41
      have q70 := S.c70
      have q71 := S.c71
      go_wp2
      go_ret
      exact ⟨rfl, S.bb⟩
    · have hK : deskB R = true := by
        rw [← HR.out, new_yes HU.out]
        exact deskB_iff.2 ⟨HU.out, by simp, fun q hq => by cases hq⟩
      have hE : decide (R.1 = p) = true := by rw [← HR.out, new_yes HU.out]; simp
      have hZ : ((R.2.length : Int) == 0) = true := by rw [← HR.out, new_yes HU.out]; rfl
      go_wp2_with fail
      refine (dokI_is hK S.ow.rd).mono ?_
      rintro e w9 ⟨rfl, bn⟩
      replace ox := ox.below bn
      replace S := S.below bn
      clear bn q40 q41 q70 q71
      have q40 := S.c40
      have q41 := S.c41
      have q70 := S.c70
      have q71 := S.c71
      obtain ⟨nn, pp, ee, rnn, rpp⟩ := S.ow.rd
      cases ee
      go_wp2_with fail
      refine (same_is hE rnn ox.reads).mono ?_
      rintro e w10 ⟨rfl, bn⟩
      replace S := S.below bn
      clear bn q40 q41 q70 q71
      have q40 := S.c40
      have q41 := S.c41
      have q70 := S.c70
      have q71 := S.c71
      clear hE hK rnn rpp
      go_wp2_with fail
      refine (alive_any _).mono ?_
      rintro e w11 ⟨rfl, bn⟩
      replace S := S.below bn
      clear bn q40 q41 q70 q71
      have q40 := S.c40
      have q41 := S.c41
      have q70 := S.c70
      have q71 := S.c71
      go_wp2
      go_ret
      exact ⟨rfl, S.bb⟩
set_option maxRecDepth 100000 in
theorem lifted (os : Os) (started : os.Started) (H : Type) (enc : TypeId × Value → H) :
    ReturnsInHanded {} Try.checked os 4 .any (Rows.fnDeskNewSpec.pre6 enc Try.prog Try.f4 Rows.fnDeskNewRow.domain false) (Rows.fnDeskNewSpec.post enc Try.prog Try.f4 false true false false) := by
  refine returnsInHanded_of_change (C := Try.checked) own started (by kernel_rfl) Try.func4
    (ChangeSpec.witness6 (enc := enc) (C := Try.checked) false ⟨#[], #[.slice none 0 0], []⟩ 8 (by kernel_rfl) (by kernel_rfl) (by kernel_rfl) (by kernel_rfl)) ?_
  intro W base args ds gs before hval0 hW _ _
  have hval : ∀ (j : Nat) t v, Try.f4.params[j]? = some t → args[j]? = some v → Value.okWide Try.prog W .any base t v := hval0
  have hW' := hW
  obtain ⟨p, q, hA0, hV, rfl, _, _⟩ := hW
  have hA : DataW.TrodAll enc Try.prog W 0 (fun _ => true) true Try.f4.params.toList args.toList ds p := hA0
  rw [Try.params4] at hA hval
  obtain ⟨v0, d0, rfl, rfl, h0⟩ := trodAll_one hA
  obtain ⟨rfl, rfl⟩ := trodVars_none hV
  clear hA0 hval0
  simp only [List.append_nil] at hW'
  have hlt : ∀ x ∈ p, x.block < W.heap.size := fun x hx => by simpa using hW'.lt x hx
  have r0 := open_bytes (hval 0 22 v0 rfl rfl) h0 hlt
  obtain ⟨⟨bA, bn, bc⟩, rfl, rb, rn, rc⟩ := r0
  simp only at rb rn rc
  refine (walk bA bn bc W rb rn rc).mono fun e W' hg => ?_
  obtain ⟨he, hb⟩ := hg
  subst he
  exact ⟨_, rfl, _, _, _, [], p, [], hW', trodAll_mk1 (shut_bool Try.underlying4 _), trodAll_mk1 (kept_arg (by kernel_rfl) (of_decide_eq_true (by kernel_rfl)) h0 hb hlt), rfl, hb.frame _, fun h => by cases h⟩

theorem holds : Rows.FnDeskNewSaid :=
  OpenClaim.holds_of_wide 4 Try.f4 rfl rfl rfl rfl rfl rfl rfl ⟨rfl, rfl, rfl, rfl, rfl⟩ rfl rfl rfl rfl rfl (by kernel_rfl) Try.func4 (by kernel_rfl)
    (of_decide_eq_true (by kernel_rfl)) (by unfold Func.isWrapper; first | (rw [if_pos (by decide +kernel)]; kernel_rfl) | (rw [if_neg (by decide +kernel)]; exact ⟨rfl, rfl⟩))
    (fun os started H enc _ => lifted os started H enc)
end Go.Proofs.Ytgdifenicjgfjaa.fnDeskNew
