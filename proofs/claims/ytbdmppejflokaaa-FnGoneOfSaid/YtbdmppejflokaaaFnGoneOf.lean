/-
  Proved: the law of GoneOf (FnGoneOf) returns true for every code, and the code reads afterwards as it read before. No conditions.
-/
import Derived.Test.YtbdmppejflokaaaDraws8
import Derived.Test.YtbdmppejflokaaaSizeS
import Derived.Test.YtbdmppejflokaaaGoneI
import Derived.Test.YtbdmppejflokaaaIntL
import Derived.Test.YtbdmppejflokaaaOpen
namespace Go.Proofs.Ytbdmppejflokaaa.fnGoneOf
open Go.ChangeShapes Go.WideShapes Go.ChangeAt Go.RowKit

theorem impl_lit {l : List Int} {ps : List Sp} {v : Value} {w : World} (hk : goneR ps = l) (h : Reads w w.heap.size v ps) : Calls Try.prog 28 #[v] w (GivesInts l w) := by
  subst hk; exact implGone_any ps v w h
theorem spec_lit {l : List Int} {ps : List Sp} {v : Value} {w : World} (hk : goneR ps = l) (h : Reads w w.heap.size v ps) : Calls Try.prog 29 #[v] w (GivesInts l w) := by
  subst hk; exact specGone_any ps v w h
set_option maxRecDepth 100000 in
set_option maxHeartbeats 1600000 in
theorem walk (A : Option Addr) (n c : Nat) (w : World) (hb : Bytes w w.heap.size A n) (hn : n ≤ c) (hc : c ≤ 9223372036854775807) :
    Calls Try.prog 6 #[.slice A n c] w (Gives (.bool true) w) := by
  by_cases hbig : 1048576 < n
  · go_enter Try.func6, Try.ntmps6
    go_wp2
    go_ret
    exact ⟨rfl, Below.refl _ _⟩
  · go_enter Try.func6, Try.ntmps6
    go_wp2_with fail
    refine (drawGoneOf_any A n c _ hb hn hc).mono ?_
    rintro e w1 ⟨v, ps, rfl, op, hpl, bb⟩
    obtain ⟨Ap, cp, rfl, _, _⟩ := op.reads.slice
    clear hb hn hc
    rcases hp : picB ps with _ | _
    · have HL := Lib.hid (goneR_no hp)
      clear hp
      go_wp2_with fail
      refine (impl_lit HL.out op.reads).mono ?_
      rintro e w2 ⟨v2, rfl, o2, b2⟩
      have bb2 := below_step bb b2
      have op := op.below b2
      go_wp2_with fail
      refine (spec_lit HL.out op.reads).mono ?_
      rintro e w3 ⟨v3, rfl, o3, b3⟩
      have bb3 := below_step bb2 b3
      have op := op.below b3
      have o2 := o2.below b3
      go_wp2_with fail
      refine (sameInts_any _ _ _ _ _ _ o2 o3 (by first | (rw [length_goneUpto]; omega) | simp)).mono ?_
      rintro e w4 ⟨rfl, b4⟩
      have bb4 := below_step bb3 b4
      have op := op.below b4
      have o2 := o2.below b4
      clear bb bb2 bb3 b2 b3 b4 o3
      obtain ⟨A2, c2, rfl, _, _, _⟩ := o2.shape
      go_wp2_with fail
      refine (alive_any _).mono ?_
      rintro e w5 ⟨rfl, b5⟩
      go_wp2
      go_ret
      exact ⟨rfl, below_step bb4 b5⟩
    · have HL := Lib.hid (goneR_yes hp)
      have HA := Lib.hid (goneSum_all (p := ps) (picB_pic hp).2.2)
      have HR : ∀ k, k ≤ 5 → 0 ≤ goneSum ps k ∧ goneSum ps k ≤ 60 := fun k hk => goneSum_rng hp hk
      clear hp
      go_wp2_with fail
      refine (impl_lit HL.out op.reads).mono ?_
      rintro e w2 ⟨v2, rfl, o2, b2⟩
      have bb2 := below_step bb b2
      have op := op.below b2
      go_wp2_with fail
      refine (spec_lit HL.out op.reads).mono ?_
      rintro e w3 ⟨v3, rfl, o3, b3⟩
      have bb3 := below_step bb2 b3
      have op := op.below b3
      have o2 := o2.below b3
      go_wp2_with fail
      refine (sameInts_any _ _ _ _ _ _ o2 o3 (by first | (rw [length_goneUpto]; omega) | simp)).mono ?_
      rintro e w4 ⟨rfl, b4⟩
      have bb4 := below_step bb3 b4
      have op := op.below b4
      have o2 := o2.below b4
      clear bb bb2 bb3 b2 b3 b4 o3
      obtain ⟨A2, c2, rfl, hc2, hm2, hA2⟩ := o2.shape
      rw [gone_len] at hc2 hA2 o2 ⊢
      obtain ⟨g, rfl, hg1, hg2⟩ := hA2 (by omega)
      unfold maxLen at hm2
      have HC := fun k (hk : k < 5) => (o2.cell (k := k) (by rw [gone_len]; exact hk)).trans (intsZ_at' (gone_at (p := ps) (n := 5) (k := k) hk))
      have HC := Lib.hid HC
      have HR := Lib.hid HR
      go_wp2
      go_loopw [5, 6] (fun s i wr => ∃ k : Nat, i = .int .i64 (k : Int) ∧ k ≤ 5 ∧ s = .int .i64 (goneSum ps k) ∧ Below w4.heap.size w4 wr) (fun _ i _ => 5 - (intOf i).toNat)
      case atStart => exact ⟨0, rfl, by omega, rfl, Below.refl _ _⟩
      case round =>
        obtain ⟨k, rfl, hk, rfl, hbw⟩ := hrel
        by_cases hlt : k < 5
        · have hd : decide ((k : Int) < 5) = true := decide_eq_true (by omega)
          have d0 := (hbw.cell (p := ⟨g, k, none⟩) hg2).trans (HC.out k hlt)
          have n0 := gone_nonneg (p := ps) hlt
          have r1 := HR.out k (by omega)
          have r2 := HR.out (k + 1) (by omega)
          have HN := Lib.hid (show goneSum ps k + goneN ps k = goneSum ps (k + 1) from rfl)
          rw [← HN.out] at r2
          obtain ⟨r1a, r1b⟩ := r1
          obtain ⟨r2a, r2b⟩ := r2
          obtain ⟨x, hx⟩ : ∃ x, goneN ps k = x := ⟨_, rfl⟩
          obtain ⟨y, hy⟩ : ∃ y, goneSum ps k = y := ⟨_, rfl⟩
          rw [hx] at d0 n0 r2a r2b HN
          rw [hy] at r1a r1b r2a r2b HN ⊢
          clear hx hy
          have hdn : decide (x < 0) = false := decide_eq_false (by omega)
          have i0 : (0 : Int) ≤ (k : Int) := Int.natCast_nonneg _
          have i1 : (k : Int) < 5 := by omega
          go_wp2
          go_roundw
          case rel => exact ⟨k + 1, by go_num, by omega, by rw [HN.out], hbw⟩
          case measure => simp [intOf]; omega
        · have hd : decide ((k : Int) < 5) = false := decide_eq_false (by omega)
          have hk5 : k = 5 := by omega
          rw [hk5]
          clear hk5
          rw [HA.out]
          go_wp2_with fail
          refine (alive_any _).mono ?_
          rintro e w5 ⟨rfl, b5⟩
          go_wp2
          go_ret
          exact ⟨rfl, below_step bb4 (below_step hbw b5)⟩

set_option maxRecDepth 100000 in
theorem lifted (os : Os) (started : os.Started) (H : Type) (enc : TypeId × Value → H) :
    ReturnsInHanded {} Try.checked os 6 .any (Rows.fnGoneOfSpec.pre6 enc Try.prog Try.f6 Rows.fnGoneOfRow.domain false) (Rows.fnGoneOfSpec.post enc Try.prog Try.f6 false true false false) := by
  refine returnsInHanded_of_change (C := Try.checked) own started (by kernel_rfl) Try.func6
    (ChangeSpec.witness6 (enc := enc) (C := Try.checked) false ⟨#[], #[.slice none 0 0], []⟩ 8 (by kernel_rfl) (by kernel_rfl) (by kernel_rfl) (by kernel_rfl)) ?_
  intro W base args ds gs before hval0 hW _ _
  have hval : ∀ (j : Nat) t v, Try.f6.params[j]? = some t → args[j]? = some v → Value.okWide Try.prog W .any base t v := hval0
  have hW' := hW
  obtain ⟨p, q, hA0, hV, rfl, _, _⟩ := hW
  have hA : DataW.TrodAll enc Try.prog W 0 (fun _ => true) true Try.f6.params.toList args.toList ds p := hA0
  rw [Try.params6] at hA hval
  obtain ⟨v0, d0, rfl, rfl, h0⟩ := trodAll_one hA
  obtain ⟨rfl, rfl⟩ := trodVars_none hV
  clear hA0 hval0
  simp only [List.append_nil] at hW'
  have hlt : ∀ x ∈ p, x.block < W.heap.size := fun x hx => by simpa using hW'.lt x hx
  have r0 := open_bytes (hval 0 22 v0 rfl rfl) h0 hlt
  obtain ⟨⟨bA, bn, bc⟩, rfl, rb, rn, rc⟩ := r0
  simp only at rb rn rc
  refine (walk bA bn bc W rb rn rc).mono fun e W' hg => ?_
  obtain ⟨he, hb⟩ := hg
  subst he
  exact ⟨_, rfl, _, _, _, [], p, [], hW', trodAll_mk1 (shut_bool Try.underlying4 _), trodAll_mk1 (kept_arg (by kernel_rfl) (of_decide_eq_true (by kernel_rfl)) h0 hb hlt), rfl, hb.frame _, fun h => by cases h⟩

theorem holds : Rows.FnGoneOfSaid :=
  OpenClaim.holds_of_wide 6 Try.f6 rfl rfl rfl rfl rfl rfl rfl ⟨rfl, rfl, rfl, rfl, rfl⟩ rfl rfl rfl rfl rfl (by kernel_rfl) Try.func6 (by kernel_rfl)
    (of_decide_eq_true (by kernel_rfl)) (by unfold Func.isWrapper; first | (rw [if_pos (by decide +kernel)]; kernel_rfl) | (rw [if_neg (by decide +kernel)]; exact ⟨rfl, rfl⟩))
    (fun os started H enc _ => lifted os started H enc)
end Go.Proofs.Ytbdmppejflokaaa.fnGoneOf
