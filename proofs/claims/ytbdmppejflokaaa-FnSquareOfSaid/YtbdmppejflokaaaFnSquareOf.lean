/-
  Proved: the law of SquareOf (FnSquareOf) returns true for every code, and the code reads afterwards as it read before. No conditions.
-/
import Derived.Test.YtbdmppejflokaaaDraws8
import Derived.Test.YtbdmppejflokaaaSieveS
import Derived.Test.YtbdmppejflokaaaSieveI
import Derived.Test.YtbdmppejflokaaaSumI
import Derived.Test.YtbdmppejflokaaaEq
import Derived.Test.YtbdmppejflokaaaOpen
namespace Go.Proofs.Ytbdmppejflokaaa.fnSquareOf
open Go.ChangeShapes Go.WideShapes Go.ChangeAt Go.RowKit

theorem impl_lit {s : Int} {q : List Sp} (hq : squareR s = q) (w : World) : Calls Try.prog 14 #[.int .i64 s] w (GivesOwn q w) := by
  subst hq; exact implSquare_any s w
theorem spec_lit {s : Int} {q : List Sp} (hq : squareR s = q) (w : World) : Calls Try.prog 16 #[.int .i64 s] w (GivesOwn q w) := by
  subst hq; exact specSquare_any s w
theorem sum_lit {p q r : List Sp} {b : Bool} {v u : Value} {w : World} (hb : sumOk p q = b) (hr : sumR p q = r) (h : Reads w w.heap.size v p) (k : Reads w w.heap.size u q) : Calls Try.prog 18 #[v, u] w (Gives2' r b w) := by
  subst hb hr; exact implSum_any p q v u w h k
/-- of a side below the greatest one -/
theorem next_lit {s t : Int} {q r : List Sp} (h : sizeOk s = true) (h4 : s ≤ 4) (e : s + 1 = t) (hq : squareR s = q) (hr : squareR t = r) : sumOk q (squareR 2) = true ∧ sumR q (squareR 2) = r := by
  subst e hq hr
  have hn : picB (sumL (squareR s) (squareR 2)) = true := by rw [square_sum h h4]; exact picB_square _
  have := sum_yes (picB_square s) (picB_square 2) hn
  rw [square_sum h h4] at this
  exact this
theorem len_lit {s n : Int} {q : List Sp} (h : sizeOk s = true) (hn : s * s = n) (hq : squareR s = q) : ((q.length : Int) == n) = true ∧ (((q.length : Int) == 0) = false) := by
  subst hq
  have h1 := length_square h
  have h2 : 0 < (squareR s).length := by cases hq : squareR s with | nil => exact absurd hq (square_ne h) | cons _ _ => simp
  exact ⟨by rw [beq_iff_eq]; omega, by rw [beq_eq_false_iff_ne]; omega⟩
set_option maxRecDepth 100000 in
set_option maxHeartbeats 3200000 in
theorem walk (A : Option Addr) (n c : Nat) (w : World) (hb : Bytes w w.heap.size A n) (hn : n ≤ c) (hc : c ≤ 9223372036854775807) :
    Calls Try.prog 3 #[.slice A n c] w (Gives (.bool true) w) := by
  by_cases hbig : 1048576 < n
  · go_enter Try.func3, Try.ntmps3
    go_wp2
    go_ret
    exact ⟨rfl, Below.refl _ _⟩
  · go_enter Try.func3, Try.ntmps3
    go_wp2_with fail
    refine (drawSquareOf_any A n c _ hb hn hc).mono ?_
    rintro e w1 ⟨s, rfl, ⟨s1, s2⟩, bb⟩
    clear hb hn hc
    rcases hs : sizeOk s with _ | _
    · have hq := Lib.hid (square_no hs)
      obtain ⟨q, hqd⟩ : ∃ q : List Sp, q = [] := ⟨_, rfl⟩
      rw [← hqd] at hq
      have hl0 : (((q.length : Nat) : Int) == 0) = true := by rw [hqd]; rfl
      clear hqd
      have hno : ¬ (1 ≤ s ∧ s ≤ 5) := of_decide_eq_false hs
      clear hs
      go_wp2_with fail
      refine (impl_lit hq.out w1).mono ?_
      rintro e w2 ⟨v2, rfl, o2, b2⟩
      have bb2 := below_step bb b2
      obtain ⟨A2, c2, rfl, hc2, hm2⟩ := o2.reads.slice
      go_wp2_with fail
      refine (spec_lit hq.out w2).mono ?_
      rintro e w3 ⟨v3, rfl, o3, b3⟩
      have bb3 := below_step bb2 b3
      have o2 := o2.below b3
      go_wp2_with fail
      refine (gives_is (show decide (q = q) = true by simp) (sameSpots_any _ _ _ _ _ o2.reads o3.reads)).mono ?_
      rintro e w4 ⟨rfl, b4⟩
      have bb4 := below_step bb3 b4
      have o2 := o2.below b4
      clear bb bb2 bb3 b2 b3 b4 o3
      by_cases h1 : s < 1
      · have hd1 : decide (s < 1) = true := decide_eq_true h1
        go_wp2_with fail
        refine (alive_any _).mono ?_
        rintro e w5 ⟨rfl, b5⟩
        go_wp2
        go_ret
        exact ⟨rfl, below_step bb4 b5⟩
      · have h5 : 5 < s := by omega
        have hd1 : decide (s < 1) = false := decide_eq_false h1
        have hd5 : decide (5 < s) = true := decide_eq_true h5
        go_wp2_with fail
        refine (alive_any _).mono ?_
        rintro e w5 ⟨rfl, b5⟩
        go_wp2
        go_ret
        exact ⟨rfl, below_step bb4 b5⟩
    · rcases size_cases hs with rfl | rfl | rfl | rfl | rfl
      · obtain ⟨q, hqd⟩ : ∃ q, squareR 1 = q := ⟨_, rfl⟩
        obtain ⟨r, hrd⟩ : ∃ r, squareR 2 = r := ⟨_, rfl⟩
        obtain ⟨hl, hl0⟩ := len_lit (s := 1) (n := 1) rfl rfl hqd
        obtain ⟨_, hl1⟩ := len_lit (s := 2) (n := 2 * 2) rfl rfl hrd
        have HS := Lib.hid (next_lit (s := 1) rfl (by decide) rfl hqd hrd)
        have hq := Lib.hid hqd
        have hr := Lib.hid hrd
        clear hs hqd hrd
        go_wp2_with fail
        refine (impl_lit hq.out w1).mono ?_
        rintro e w2 ⟨v2, rfl, o2, b2⟩
        have bb2 := below_step bb b2
        obtain ⟨A2, c2, rfl, hc2, hm2⟩ := o2.reads.slice
        go_wp2_with fail
        refine (spec_lit hq.out w2).mono ?_
        rintro e w3 ⟨v3, rfl, o3, b3⟩
        have bb3 := below_step bb2 b3
        have o2 := o2.below b3
        go_wp2_with fail
        refine (gives_is (show decide (q = q) = true by simp) (sameSpots_any _ _ _ _ _ o2.reads o3.reads)).mono ?_
        rintro e w4 ⟨rfl, b4⟩
        have bb4 := below_step bb3 b4
        have o2 := o2.below b4
        clear bb bb2 bb3 b2 b3 b4 o3
        go_wp2_with fail
        refine (impl_lit hr.out w4).mono ?_
        rintro e w5 ⟨v5, rfl, o5, b5⟩
        have bb5 := below_step bb4 b5
        have o2 := o2.below b5
        obtain ⟨A5, c5, rfl, hc5, hm5⟩ := o5.reads.slice
        go_wp2_with fail
        refine (implSquare_any 2 w5).mono ?_
        rintro e w6 ⟨v6, rfl, o6, b6⟩
        have bb6 := below_step bb5 b6
        have o2 := o2.below b6
        have o5 := o5.below b6
        go_wp2_with fail
        refine (sum_lit HS.out.1 HS.out.2 o2.reads o6.reads).mono ?_
        rintro e w7 ⟨v7, rfl, o7, b7⟩
        have bb7 := below_step bb6 b7
        have o5 := o5.below b7
        go_wp2_with fail
        refine (gives_is (show decide (r = r) = true by simp) (sameSpots_any _ _ _ _ _ o7.reads o5.reads)).mono ?_
        rintro e w8 ⟨rfl, b8⟩
        go_wp2
        go_ret
        exact ⟨rfl, below_step bb7 b8⟩
      · obtain ⟨q, hqd⟩ : ∃ q, squareR 2 = q := ⟨_, rfl⟩
        obtain ⟨r, hrd⟩ : ∃ r, squareR 3 = r := ⟨_, rfl⟩
        obtain ⟨hl, hl0⟩ := len_lit (s := 2) (n := 4) rfl rfl hqd
        obtain ⟨_, hl1⟩ := len_lit (s := 3) (n := 3 * 3) rfl rfl hrd
        have HS := Lib.hid (next_lit (s := 2) rfl (by decide) rfl hqd hrd)
        have hq := Lib.hid hqd
        have hr := Lib.hid hrd
        clear hs hqd hrd
        go_wp2_with fail
        refine (impl_lit hq.out w1).mono ?_
        rintro e w2 ⟨v2, rfl, o2, b2⟩
        have bb2 := below_step bb b2
        obtain ⟨A2, c2, rfl, hc2, hm2⟩ := o2.reads.slice
        go_wp2_with fail
        refine (spec_lit hq.out w2).mono ?_
        rintro e w3 ⟨v3, rfl, o3, b3⟩
        have bb3 := below_step bb2 b3
        have o2 := o2.below b3
        go_wp2_with fail
        refine (gives_is (show decide (q = q) = true by simp) (sameSpots_any _ _ _ _ _ o2.reads o3.reads)).mono ?_
        rintro e w4 ⟨rfl, b4⟩
        have bb4 := below_step bb3 b4
        have o2 := o2.below b4
        clear bb bb2 bb3 b2 b3 b4 o3
        go_wp2_with fail
        refine (impl_lit hr.out w4).mono ?_
        rintro e w5 ⟨v5, rfl, o5, b5⟩
        have bb5 := below_step bb4 b5
        have o2 := o2.below b5
        obtain ⟨A5, c5, rfl, hc5, hm5⟩ := o5.reads.slice
        go_wp2_with fail
        refine (implSquare_any 2 w5).mono ?_
        rintro e w6 ⟨v6, rfl, o6, b6⟩
        have bb6 := below_step bb5 b6
        have o2 := o2.below b6
        have o5 := o5.below b6
        go_wp2_with fail
        refine (sum_lit HS.out.1 HS.out.2 o2.reads o6.reads).mono ?_
        rintro e w7 ⟨v7, rfl, o7, b7⟩
        have bb7 := below_step bb6 b7
        have o5 := o5.below b7
        go_wp2_with fail
        refine (gives_is (show decide (r = r) = true by simp) (sameSpots_any _ _ _ _ _ o7.reads o5.reads)).mono ?_
        rintro e w8 ⟨rfl, b8⟩
        go_wp2
        go_ret
        exact ⟨rfl, below_step bb7 b8⟩
      · obtain ⟨q, hqd⟩ : ∃ q, squareR 3 = q := ⟨_, rfl⟩
        obtain ⟨r, hrd⟩ : ∃ r, squareR 4 = r := ⟨_, rfl⟩
        obtain ⟨hl, hl0⟩ := len_lit (s := 3) (n := 9) rfl rfl hqd
        obtain ⟨_, hl1⟩ := len_lit (s := 4) (n := 4 * 4) rfl rfl hrd
        have HS := Lib.hid (next_lit (s := 3) rfl (by decide) rfl hqd hrd)
        have hq := Lib.hid hqd
        have hr := Lib.hid hrd
        clear hs hqd hrd
        go_wp2_with fail
        refine (impl_lit hq.out w1).mono ?_
        rintro e w2 ⟨v2, rfl, o2, b2⟩
        have bb2 := below_step bb b2
        obtain ⟨A2, c2, rfl, hc2, hm2⟩ := o2.reads.slice
        go_wp2_with fail
        refine (spec_lit hq.out w2).mono ?_
        rintro e w3 ⟨v3, rfl, o3, b3⟩
        have bb3 := below_step bb2 b3
        have o2 := o2.below b3
        go_wp2_with fail
        refine (gives_is (show decide (q = q) = true by simp) (sameSpots_any _ _ _ _ _ o2.reads o3.reads)).mono ?_
        rintro e w4 ⟨rfl, b4⟩
        have bb4 := below_step bb3 b4
        have o2 := o2.below b4
        clear bb bb2 bb3 b2 b3 b4 o3
        go_wp2_with fail
        refine (impl_lit hr.out w4).mono ?_
        rintro e w5 ⟨v5, rfl, o5, b5⟩
        have bb5 := below_step bb4 b5
        have o2 := o2.below b5
        obtain ⟨A5, c5, rfl, hc5, hm5⟩ := o5.reads.slice
        go_wp2_with fail
        refine (implSquare_any 2 w5).mono ?_
        rintro e w6 ⟨v6, rfl, o6, b6⟩
        have bb6 := below_step bb5 b6
        have o2 := o2.below b6
        have o5 := o5.below b6
        go_wp2_with fail
        refine (sum_lit HS.out.1 HS.out.2 o2.reads o6.reads).mono ?_
        rintro e w7 ⟨v7, rfl, o7, b7⟩
        have bb7 := below_step bb6 b7
        have o5 := o5.below b7
        go_wp2_with fail
        refine (gives_is (show decide (r = r) = true by simp) (sameSpots_any _ _ _ _ _ o7.reads o5.reads)).mono ?_
        rintro e w8 ⟨rfl, b8⟩
        go_wp2
        go_ret
        exact ⟨rfl, below_step bb7 b8⟩
      · obtain ⟨q, hqd⟩ : ∃ q, squareR 4 = q := ⟨_, rfl⟩
        obtain ⟨r, hrd⟩ : ∃ r, squareR 5 = r := ⟨_, rfl⟩
        obtain ⟨hl, hl0⟩ := len_lit (s := 4) (n := 16) rfl rfl hqd
        obtain ⟨_, hl1⟩ := len_lit (s := 5) (n := 5 * 5) rfl rfl hrd
        have HS := Lib.hid (next_lit (s := 4) rfl (by decide) rfl hqd hrd)
        have hq := Lib.hid hqd
        have hr := Lib.hid hrd
        clear hs hqd hrd
        go_wp2_with fail
        refine (impl_lit hq.out w1).mono ?_
        rintro e w2 ⟨v2, rfl, o2, b2⟩
        have bb2 := below_step bb b2
        obtain ⟨A2, c2, rfl, hc2, hm2⟩ := o2.reads.slice
        go_wp2_with fail
        refine (spec_lit hq.out w2).mono ?_
        rintro e w3 ⟨v3, rfl, o3, b3⟩
        have bb3 := below_step bb2 b3
        have o2 := o2.below b3
        go_wp2_with fail
        refine (gives_is (show decide (q = q) = true by simp) (sameSpots_any _ _ _ _ _ o2.reads o3.reads)).mono ?_
        rintro e w4 ⟨rfl, b4⟩
        have bb4 := below_step bb3 b4
        have o2 := o2.below b4
        clear bb bb2 bb3 b2 b3 b4 o3
        go_wp2_with fail
        refine (impl_lit hr.out w4).mono ?_
        rintro e w5 ⟨v5, rfl, o5, b5⟩
        have bb5 := below_step bb4 b5
        have o2 := o2.below b5
        obtain ⟨A5, c5, rfl, hc5, hm5⟩ := o5.reads.slice
        go_wp2_with fail
        refine (implSquare_any 2 w5).mono ?_
        rintro e w6 ⟨v6, rfl, o6, b6⟩
        have bb6 := below_step bb5 b6
        have o2 := o2.below b6
        have o5 := o5.below b6
        go_wp2_with fail
        refine (sum_lit HS.out.1 HS.out.2 o2.reads o6.reads).mono ?_
        rintro e w7 ⟨v7, rfl, o7, b7⟩
        have bb7 := below_step bb6 b7
        have o5 := o5.below b7
        go_wp2_with fail
        refine (gives_is (show decide (r = r) = true by simp) (sameSpots_any _ _ _ _ _ o7.reads o5.reads)).mono ?_
        rintro e w8 ⟨rfl, b8⟩
        go_wp2
        go_ret
        exact ⟨rfl, below_step bb7 b8⟩
      · obtain ⟨q, hqd⟩ : ∃ q, squareR 5 = q := ⟨_, rfl⟩
        obtain ⟨hl, hl0⟩ := len_lit (s := 5) (n := 25) rfl rfl hqd
        have hr := Lib.hid (show squareR 6 = [] from square_no rfl)
        obtain ⟨bS, hbS⟩ : ∃ b, sumOk q (squareR 2) = b := ⟨_, rfl⟩
        obtain ⟨rS, hrS⟩ : ∃ b, sumR q (squareR 2) = b := ⟨_, rfl⟩
        have HS := Lib.hid (And.intro hbS hrS)
        have hq := Lib.hid hqd
        clear hbS hrS hs hqd
        go_wp2_with fail
        refine (impl_lit hq.out w1).mono ?_
        rintro e w2 ⟨v2, rfl, o2, b2⟩
        have bb2 := below_step bb b2
        obtain ⟨A2, c2, rfl, hc2, hm2⟩ := o2.reads.slice
        go_wp2_with fail
        refine (spec_lit hq.out w2).mono ?_
        rintro e w3 ⟨v3, rfl, o3, b3⟩
        have bb3 := below_step bb2 b3
        have o2 := o2.below b3
        go_wp2_with fail
        refine (gives_is (show decide (q = q) = true by simp) (sameSpots_any _ _ _ _ _ o2.reads o3.reads)).mono ?_
        rintro e w4 ⟨rfl, b4⟩
        have bb4 := below_step bb3 b4
        have o2 := o2.below b4
        clear bb bb2 bb3 b2 b3 b4 o3
        go_wp2_with fail
        refine (impl_lit hr.out w4).mono ?_
        rintro e w5 ⟨v5, rfl, o5, b5⟩
        have bb5 := below_step bb4 b5
        have o2 := o2.below b5
        obtain ⟨A5, c5, rfl, hc5, hm5⟩ := o5.reads.slice
        go_wp2_with fail
        refine (implSquare_any 2 w5).mono ?_
        rintro e w6 ⟨v6, rfl, o6, b6⟩
        have bb6 := below_step bb5 b6
        have o2 := o2.below b6
        go_wp2_with fail
        refine (sum_lit HS.out.1 HS.out.2 o2.reads o6.reads).mono ?_
        rintro e w7 ⟨v7, rfl, o7, b7⟩
        go_wp2
        go_ret
        exact ⟨rfl, below_step bb6 b7⟩

set_option maxRecDepth 100000 in
theorem lifted (os : Os) (started : os.Started) (H : Type) (enc : TypeId × Value → H) :
    ReturnsInHanded {} Try.checked os 3 .any (Rows.fnSquareOfSpec.pre6 enc Try.prog Try.f3 Rows.fnSquareOfRow.domain false) (Rows.fnSquareOfSpec.post enc Try.prog Try.f3 false true false false) := by
  refine returnsInHanded_of_change (C := Try.checked) own started (by kernel_rfl) Try.func3
    (ChangeSpec.witness6 (enc := enc) (C := Try.checked) false ⟨#[], #[.slice none 0 0], []⟩ 8 (by kernel_rfl) (by kernel_rfl) (by kernel_rfl) (by kernel_rfl)) ?_
  intro W base args ds gs before hval0 hW _ _
  have hval : ∀ (j : Nat) t v, Try.f3.params[j]? = some t → args[j]? = some v → Value.okWide Try.prog W .any base t v := hval0
  have hW' := hW
  obtain ⟨p, q, hA0, hV, rfl, _, _⟩ := hW
  have hA : DataW.TrodAll enc Try.prog W 0 (fun _ => true) true Try.f3.params.toList args.toList ds p := hA0
  rw [Try.params3] at hA hval
  obtain ⟨v0, d0, rfl, rfl, h0⟩ := trodAll_one hA
  obtain ⟨rfl, rfl⟩ := trodVars_none hV
  clear hA0 hval0
  simp only [List.append_nil] at hW'
  have hlt : ∀ x ∈ p, x.block < W.heap.size := fun x hx => by simpa using hW'.lt x hx
  have r0 := open_bytes (hval 0 22 v0 rfl rfl) h0 hlt
  obtain ⟨⟨bA, bn, bc⟩, rfl, rb, rn, rc⟩ := r0
  simp only at rb rn rc
  refine (walk bA bn bc W rb rn rc).mono fun e W' hg => ?_
  obtain ⟨he, hb⟩ := hg
  subst he
  exact ⟨_, rfl, _, _, _, [], p, [], hW', trodAll_mk1 (shut_bool Try.underlying4 _), trodAll_mk1 (kept_arg (by kernel_rfl) (of_decide_eq_true (by kernel_rfl)) h0 hb hlt), rfl, hb.frame _, fun h => by cases h⟩

theorem holds : Rows.FnSquareOfSaid :=
  OpenClaim.holds_of_wide 3 Try.f3 rfl rfl rfl rfl rfl rfl rfl ⟨rfl, rfl, rfl, rfl, rfl⟩ rfl rfl rfl rfl rfl (by kernel_rfl) Try.func3 (by kernel_rfl)
    (of_decide_eq_true (by kernel_rfl)) (by unfold Func.isWrapper; first | (rw [if_pos (by decide +kernel)]; kernel_rfl) | (rw [if_neg (by decide +kernel)]; exact ⟨rfl, rfl⟩))
    (fun os started H enc _ => lifted os started H enc)
end Go.Proofs.Ytbdmppejflokaaa.fnSquareOf
