/-
  Proved: the law of SizesOf (FnSizesOf) returns true for every code, and the code reads afterwards as it read before. No conditions.
-/
import Derived.Test.YtbdmppejflokaaaDraws8
import Derived.Test.YtbdmppejflokaaaSizeS
import Derived.Test.YtbdmppejflokaaaSizeI
import Derived.Test.YtbdmppejflokaaaIntL
import Derived.Test.YtbdmppejflokaaaOpen
namespace Go.Proofs.Ytbdmppejflokaaa.fnSizesOf
open Go.ChangeShapes Go.WideShapes Go.ChangeAt Go.RowKit

theorem impl_lit {l : List Int} {ps : List Sp} {v : Value} {w : World} (hk : sizesR ps = l) (h : Reads w w.heap.size v ps) : Calls Try.prog 24 #[v] w (GivesInts l w) := by
  subst hk; exact implSizes_any ps v w h
theorem spec_lit {l : List Int} {ps : List Sp} {v : Value} {w : World} (hk : sizesR ps = l) (h : Reads w w.heap.size v ps) : Calls Try.prog 26 #[v] w (GivesInts l w) := by
  subst hk; exact specSizes_any ps v w h
set_option maxRecDepth 100000 in
set_option maxHeartbeats 3200000 in
theorem walk (A : Option Addr) (n c : Nat) (w : World) (hb : Bytes w w.heap.size A n) (hn : n ≤ c) (hc : c ≤ 9223372036854775807) :
    Calls Try.prog 5 #[.slice A n c] w (Gives (.bool true) w) := by
  by_cases hbig : 1048576 < n
  · go_enter Try.func5, Try.ntmps5
    go_wp2
    go_ret
    exact ⟨rfl, Below.refl _ _⟩
  · go_enter Try.func5, Try.ntmps5
    go_wp2_with fail
    refine (drawSizesOf_any A n c _ hb hn hc).mono ?_
    rintro e w1 ⟨v, ps, rfl, op, hpl, bb⟩
    obtain ⟨Ap, cp, rfl, _, _⟩ := op.reads.slice
    clear hb hn hc
    rcases hp : picB ps with _ | _
    · have HL := Lib.hid (sizesR_no hp)
      clear hp
      go_wp2_with fail
      refine (impl_lit HL.out op.reads).mono ?_
      rintro e w2 ⟨v2, rfl, o2, b2⟩
      have bb2 := below_step bb b2
      have op := op.below b2
      go_wp2_with fail
      refine (spec_lit HL.out op.reads).mono ?_
      rintro e w3 ⟨v3, rfl, o3, b3⟩
      have bb3 := below_step bb2 b3
      have op := op.below b3
      have o2 := o2.below b3
      go_wp2_with fail
      refine (sameInts_any _ _ _ _ _ _ o2 o3 (by first | (rw [length_sizesUpto]; omega) | simp)).mono ?_
      rintro e w4 ⟨rfl, b4⟩
      have bb4 := below_step bb3 b4
      have op := op.below b4
      have o2 := o2.below b4
      clear bb bb2 bb3 b2 b3 b4 o3
      obtain ⟨A2, c2, rfl, _, _, _⟩ := o2.shape
      go_wp2_with fail
      refine (alive_any _).mono ?_
      rintro e w5 ⟨rfl, b5⟩
      go_wp2
      go_ret
      exact ⟨rfl, below_step bb4 b5⟩
    · have HL := Lib.hid (sizesR_yes hp)
      have HF := Lib.hid (left_first (p := ps) (picB_pic hp).2.2)
      clear hp
      go_wp2_with fail
      refine (impl_lit HL.out op.reads).mono ?_
      rintro e w2 ⟨v2, rfl, o2, b2⟩
      have bb2 := below_step bb b2
      have op := op.below b2
      go_wp2_with fail
      refine (spec_lit HL.out op.reads).mono ?_
      rintro e w3 ⟨v3, rfl, o3, b3⟩
      have bb3 := below_step bb2 b3
      have op := op.below b3
      have o2 := o2.below b3
      go_wp2_with fail
      refine (sameInts_any _ _ _ _ _ _ o2 o3 (by first | (rw [length_sizesUpto]; omega) | simp)).mono ?_
      rintro e w4 ⟨rfl, b4⟩
      have bb4 := below_step bb3 b4
      have op := op.below b4
      have o2 := o2.below b4
      clear bb bb2 bb3 b2 b3 b4 o3
      obtain ⟨A2, c2, rfl, hc2, hm2, hA2⟩ := o2.shape
      rw [intsZ_len] at hc2 hA2 o2 ⊢
      obtain ⟨g, rfl, hg1, hg2⟩ := hA2 (by omega)
      unfold maxLen at hm2
      have HC := fun k (hk : k < 5) => (o2.cell (k := k) (by rw [intsZ_len]; exact hk)).trans (intsZ_at' (sizes_at (p := ps) (n := 5) (k := k) hk))
      have HC := Lib.hid HC
      go_wp2
      go_loopw [5] (fun i wr => ∃ k : Nat, i = .int .i64 (k : Int) ∧ k ≤ 5 ∧ Below w4.heap.size w4 wr) (fun i _ => 5 - (intOf i).toNat)
      case atStart => exact ⟨0, rfl, by omega, Below.refl _ _⟩
      case round =>
        obtain ⟨k, rfl, hk, hbw⟩ := hrel
        have hbs : w4.heap.size ≤ wr.heap.size := hbw.size
        by_cases hlt : k < 5
        · have hk' : k = 0 ∨ k = 1 ∨ k = 2 ∨ k = 3 ∨ k = 4 := by omega
          rcases hk' with rfl | rfl | rfl | rfl | rfl
          · have d0 := cell_regrown ((hbw.cell (p := ⟨g, 0, none⟩) hg2).trans (HC.out 0 (by omega)))
            have HS := left_some (p := ps) (k := 0 + 1) (by omega) (by omega)
            obtain ⟨x, hx⟩ : ∃ x, leftN ps (0 + 1) = x := ⟨_, rfl⟩
            rw [hx] at d0 HS
            skip
            clear hx
            by_cases h0 : 0 < x
            · have hd0 : decide (0 < x) = true := decide_eq_true h0
              have hq : (1 : Int) ≤ x := by have := HS h0; omega
              clear HS
              have hdq := decide_eq_false (Int.not_lt.2 hq)
              clear hq h0
              go_wp2
              refine wp_region_quiet_below (by kernel_rfl) (by kernel_rfl) ?_
              repeat (go_big_quiet_step (first | fail))
              refine wpQuiet_nil ?_
              intro _ hw'
              obtain ⟨⟨dq, osq⟩, hw''⟩ := hw'
              subst hw''
              go_wp2
              go_roundw
              case rel => exact ⟨0 + 1, rfl, by omega, hbw.trans ((below_regrown _ _ _).mono hbs)⟩
              case measure => simp [intOf]
            · have hd0 : decide (0 < x) = false := decide_eq_false h0
              clear HS h0
              go_wp2
              refine wp_region_quiet_below (by kernel_rfl) (by kernel_rfl) ?_
              repeat (go_big_quiet_step (first | fail))
              refine wpQuiet_nil ?_
              intro _ hw'
              obtain ⟨⟨dq, osq⟩, hw''⟩ := hw'
              subst hw''
              go_wp2
              go_roundw
              case rel => exact ⟨0 + 1, rfl, by omega, hbw.trans ((below_regrown _ _ _).mono hbs)⟩
              case measure => simp [intOf]
          · have d0 := cell_regrown ((hbw.cell (p := ⟨g, 1, none⟩) hg2).trans (HC.out 1 (by omega)))
            have HS := left_some (p := ps) (k := 1 + 1) (by omega) (by omega)
            obtain ⟨x, hx⟩ : ∃ x, leftN ps (1 + 1) = x := ⟨_, rfl⟩
            rw [hx] at d0 HS
            have d1 := cell_regrown ((hbw.cell (p := ⟨g, 0, none⟩) hg2).trans (HC.out 0 (by omega)))
            have hle := left_less (p := ps) (k := 0 + 1) (by omega) (by omega)
            obtain ⟨y, hy⟩ : ∃ y, leftN ps (0 + 1) = y := ⟨_, rfl⟩
            rw [hy] at d1 hle
            simp only [Nat.reduceAdd] at hle hx
            rw [hx] at hle
            have hdl := decide_eq_false (Int.not_lt.2 hle)
            clear hle hy
            clear hx
            by_cases h0 : 0 < x
            · have hd0 : decide (0 < x) = true := decide_eq_true h0
              have hq : (4 : Int) ≤ x := by have := HS h0; omega
              clear HS
              have hdq := decide_eq_false (Int.not_lt.2 hq)
              clear hq h0
              go_wp2
              refine wp_region_quiet_below (by kernel_rfl) (by kernel_rfl) ?_
              repeat (go_big_quiet_step (first | fail))
              refine wpQuiet_nil ?_
              intro _ hw'
              obtain ⟨⟨dq, osq⟩, hw''⟩ := hw'
              subst hw''
              go_wp2
              go_roundw
              case rel => exact ⟨1 + 1, rfl, by omega, hbw.trans ((below_regrown _ _ _).mono hbs)⟩
              case measure => simp [intOf]
            · have hd0 : decide (0 < x) = false := decide_eq_false h0
              clear HS h0
              go_wp2
              refine wp_region_quiet_below (by kernel_rfl) (by kernel_rfl) ?_
              repeat (go_big_quiet_step (first | fail))
              refine wpQuiet_nil ?_
              intro _ hw'
              obtain ⟨⟨dq, osq⟩, hw''⟩ := hw'
              subst hw''
              go_wp2
              go_roundw
              case rel => exact ⟨1 + 1, rfl, by omega, hbw.trans ((below_regrown _ _ _).mono hbs)⟩
              case measure => simp [intOf]
          · have d0 := cell_regrown ((hbw.cell (p := ⟨g, 2, none⟩) hg2).trans (HC.out 2 (by omega)))
            have HS := left_some (p := ps) (k := 2 + 1) (by omega) (by omega)
            obtain ⟨x, hx⟩ : ∃ x, leftN ps (2 + 1) = x := ⟨_, rfl⟩
            rw [hx] at d0 HS
            have d1 := cell_regrown ((hbw.cell (p := ⟨g, 1, none⟩) hg2).trans (HC.out 1 (by omega)))
            have hle := left_less (p := ps) (k := 1 + 1) (by omega) (by omega)
            obtain ⟨y, hy⟩ : ∃ y, leftN ps (1 + 1) = y := ⟨_, rfl⟩
            rw [hy] at d1 hle
            simp only [Nat.reduceAdd] at hle hx
            rw [hx] at hle
            have hdl := decide_eq_false (Int.not_lt.2 hle)
            clear hle hy
            clear hx
            by_cases h0 : 0 < x
            · have hd0 : decide (0 < x) = true := decide_eq_true h0
              have hq : (9 : Int) ≤ x := by have := HS h0; omega
              clear HS
              have hdq := decide_eq_false (Int.not_lt.2 hq)
              clear hq h0
              go_wp2
              refine wp_region_quiet_below (by kernel_rfl) (by kernel_rfl) ?_
              repeat (go_big_quiet_step (first | fail))
              refine wpQuiet_nil ?_
              intro _ hw'
              obtain ⟨⟨dq, osq⟩, hw''⟩ := hw'
              subst hw''
              go_wp2
              go_roundw
              case rel => exact ⟨2 + 1, rfl, by omega, hbw.trans ((below_regrown _ _ _).mono hbs)⟩
              case measure => simp [intOf]
            · have hd0 : decide (0 < x) = false := decide_eq_false h0
              clear HS h0
              go_wp2
              refine wp_region_quiet_below (by kernel_rfl) (by kernel_rfl) ?_
              repeat (go_big_quiet_step (first | fail))
              refine wpQuiet_nil ?_
              intro _ hw'
              obtain ⟨⟨dq, osq⟩, hw''⟩ := hw'
              subst hw''
              go_wp2
              go_roundw
              case rel => exact ⟨2 + 1, rfl, by omega, hbw.trans ((below_regrown _ _ _).mono hbs)⟩
              case measure => simp [intOf]
          · have d0 := cell_regrown ((hbw.cell (p := ⟨g, 3, none⟩) hg2).trans (HC.out 3 (by omega)))
            have HS := left_some (p := ps) (k := 3 + 1) (by omega) (by omega)
            obtain ⟨x, hx⟩ : ∃ x, leftN ps (3 + 1) = x := ⟨_, rfl⟩
            rw [hx] at d0 HS
            have d1 := cell_regrown ((hbw.cell (p := ⟨g, 2, none⟩) hg2).trans (HC.out 2 (by omega)))
            have hle := left_less (p := ps) (k := 2 + 1) (by omega) (by omega)
            obtain ⟨y, hy⟩ : ∃ y, leftN ps (2 + 1) = y := ⟨_, rfl⟩
            rw [hy] at d1 hle
            simp only [Nat.reduceAdd] at hle hx
            rw [hx] at hle
            have hdl := decide_eq_false (Int.not_lt.2 hle)
            clear hle hy
            clear hx
            by_cases h0 : 0 < x
            · have hd0 : decide (0 < x) = true := decide_eq_true h0
              have hq : (16 : Int) ≤ x := by have := HS h0; omega
              clear HS
              have hdq := decide_eq_false (Int.not_lt.2 hq)
              clear hq h0
              go_wp2
              refine wp_region_quiet_below (by kernel_rfl) (by kernel_rfl) ?_
              repeat (go_big_quiet_step (first | fail))
              refine wpQuiet_nil ?_
              intro _ hw'
              obtain ⟨⟨dq, osq⟩, hw''⟩ := hw'
              subst hw''
              go_wp2
              go_roundw
              case rel => exact ⟨3 + 1, rfl, by omega, hbw.trans ((below_regrown _ _ _).mono hbs)⟩
              case measure => simp [intOf]
            · have hd0 : decide (0 < x) = false := decide_eq_false h0
              clear HS h0
              go_wp2
              refine wp_region_quiet_below (by kernel_rfl) (by kernel_rfl) ?_
              repeat (go_big_quiet_step (first | fail))
              refine wpQuiet_nil ?_
              intro _ hw'
              obtain ⟨⟨dq, osq⟩, hw''⟩ := hw'
              subst hw''
              go_wp2
              go_roundw
              case rel => exact ⟨3 + 1, rfl, by omega, hbw.trans ((below_regrown _ _ _).mono hbs)⟩
              case measure => simp [intOf]
          · have d0 := cell_regrown ((hbw.cell (p := ⟨g, 4, none⟩) hg2).trans (HC.out 4 (by omega)))
            have HS := left_some (p := ps) (k := 4 + 1) (by omega) (by omega)
            obtain ⟨x, hx⟩ : ∃ x, leftN ps (4 + 1) = x := ⟨_, rfl⟩
            rw [hx] at d0 HS
            have d1 := cell_regrown ((hbw.cell (p := ⟨g, 3, none⟩) hg2).trans (HC.out 3 (by omega)))
            have hle := left_less (p := ps) (k := 3 + 1) (by omega) (by omega)
            obtain ⟨y, hy⟩ : ∃ y, leftN ps (3 + 1) = y := ⟨_, rfl⟩
            rw [hy] at d1 hle
            simp only [Nat.reduceAdd] at hle hx
            rw [hx] at hle
            have hdl := decide_eq_false (Int.not_lt.2 hle)
            clear hle hy
            clear hx
            by_cases h0 : 0 < x
            · have hd0 : decide (0 < x) = true := decide_eq_true h0
              have hq : (25 : Int) ≤ x := by have := HS h0; omega
              clear HS
              have hdq := decide_eq_false (Int.not_lt.2 hq)
              clear hq h0
              go_wp2
              refine wp_region_quiet_below (by kernel_rfl) (by kernel_rfl) ?_
              repeat (go_big_quiet_step (first | fail))
              refine wpQuiet_nil ?_
              intro _ hw'
              obtain ⟨⟨dq, osq⟩, hw''⟩ := hw'
              subst hw''
              go_wp2
              go_roundw
              case rel => exact ⟨4 + 1, rfl, by omega, hbw.trans ((below_regrown _ _ _).mono hbs)⟩
              case measure => simp [intOf]
            · have hd0 : decide (0 < x) = false := decide_eq_false h0
              clear HS h0
              go_wp2
              refine wp_region_quiet_below (by kernel_rfl) (by kernel_rfl) ?_
              repeat (go_big_quiet_step (first | fail))
              refine wpQuiet_nil ?_
              intro _ hw'
              obtain ⟨⟨dq, osq⟩, hw''⟩ := hw'
              subst hw''
              go_wp2
              go_roundw
              case rel => exact ⟨4 + 1, rfl, by omega, hbw.trans ((below_regrown _ _ _).mono hbs)⟩
              case measure => simp [intOf]
        · have hd : decide ((k : Int) < 5) = false := decide_eq_false (by omega)
          have d0 := (hbw.cell (p := ⟨g, 0, none⟩) hg2).trans (HC.out 0 (by omega))
          rw [HF.out] at d0
          go_wp2_with fail
          refine (alive_any _).mono ?_
          rintro e w5 ⟨rfl, b5⟩
          go_wp2
          go_ret
          exact ⟨rfl, below_step bb4 (below_step hbw b5)⟩

set_option maxRecDepth 100000 in
theorem lifted (os : Os) (started : os.Started) (H : Type) (enc : TypeId × Value → H) :
    ReturnsInHanded {} Try.checked os 5 .any (Rows.fnSizesOfSpec.pre6 enc Try.prog Try.f5 Rows.fnSizesOfRow.domain false) (Rows.fnSizesOfSpec.post enc Try.prog Try.f5 false true false false) := by
  refine returnsInHanded_of_change (C := Try.checked) own started (by kernel_rfl) Try.func5
    (ChangeSpec.witness6 (enc := enc) (C := Try.checked) false ⟨#[], #[.slice none 0 0], []⟩ 8 (by kernel_rfl) (by kernel_rfl) (by kernel_rfl) (by kernel_rfl)) ?_
  intro W base args ds gs before hval0 hW _ _
  have hval : ∀ (j : Nat) t v, Try.f5.params[j]? = some t → args[j]? = some v → Value.okWide Try.prog W .any base t v := hval0
  have hW' := hW
  obtain ⟨p, q, hA0, hV, rfl, _, _⟩ := hW
  have hA : DataW.TrodAll enc Try.prog W 0 (fun _ => true) true Try.f5.params.toList args.toList ds p := hA0
  rw [Try.params5] at hA hval
  obtain ⟨v0, d0, rfl, rfl, h0⟩ := trodAll_one hA
  obtain ⟨rfl, rfl⟩ := trodVars_none hV
  clear hA0 hval0
  simp only [List.append_nil] at hW'
  have hlt : ∀ x ∈ p, x.block < W.heap.size := fun x hx => by simpa using hW'.lt x hx
  have r0 := open_bytes (hval 0 22 v0 rfl rfl) h0 hlt
  obtain ⟨⟨bA, bn, bc⟩, rfl, rb, rn, rc⟩ := r0
  simp only at rb rn rc
  refine (walk bA bn bc W rb rn rc).mono fun e W' hg => ?_
  obtain ⟨he, hb⟩ := hg
  subst he
  exact ⟨_, rfl, _, _, _, [], p, [], hW', trodAll_mk1 (shut_bool Try.underlying4 _), trodAll_mk1 (kept_arg (by kernel_rfl) (of_decide_eq_true (by kernel_rfl)) h0 hb hlt), rfl, hb.frame _, fun h => by cases h⟩

theorem holds : Rows.FnSizesOfSaid :=
  OpenClaim.holds_of_wide 5 Try.f5 rfl rfl rfl rfl rfl rfl rfl ⟨rfl, rfl, rfl, rfl, rfl⟩ rfl rfl rfl rfl rfl (by kernel_rfl) Try.func5 (by kernel_rfl)
    (of_decide_eq_true (by kernel_rfl)) (by unfold Func.isWrapper; first | (rw [if_pos (by decide +kernel)]; kernel_rfl) | (rw [if_neg (by decide +kernel)]; exact ⟨rfl, rfl⟩))
    (fun os started H enc _ => lifted os started H enc)
end Go.Proofs.Ytbdmppejflokaaa.fnSizesOf
