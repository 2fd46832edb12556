/-
  Proved: the law of SievedBy (FnSievedBy) returns true for every code, and the code reads afterwards as it read before. No conditions.
-/
import Derived.Test.YtbdmppejflokaaaDraws8
import Derived.Test.YtbdmppejflokaaaSieveS
import Derived.Test.YtbdmppejflokaaaSieveI
import Derived.Test.YtbdmppejflokaaaUnion
import Derived.Test.YtbdmppejflokaaaEq
import Derived.Test.YtbdmppejflokaaaOpen
namespace Go.Proofs.Ytbdmppejflokaaa.fnSievedBy
open Go.ChangeShapes Go.WideShapes Go.ChangeAt Go.RowKit

theorem impl_lit {b : Bool} {p q : List Sp} {s : Int} {v : Value} {w : World} (hb : sieveOk p s = b) (hq : sieveR p s = q) (h : Reads w w.heap.size v p) : Calls Try.prog 20 #[v, .int .i64 s] w (Gives2' q b w) := by
  subst hb hq; exact implSieved_any p v s w h
theorem spec_lit {b : Bool} {p q : List Sp} {s : Int} {v : Value} {w : World} (hb : sieveOk p s = b) (hq : sieveR p s = q) (h : Reads w w.heap.size v p) : Calls Try.prog 21 #[v, .int .i64 s] w (Gives2' q b w) := by
  subst hb hq; exact specSieved_any p v s w h
theorem within8 {a b : List Sp} (ha : picB a = true) (hb : picB b = true) (h : Sub a b) : withinB a b = true := by
  unfold withinB bothB
  rw [ha, hb]
  have e : common a b = a := List.filter_eq_self.2 fun x hx => decide_eq_true (h x hx)
  rw [e]
  exact decide_eq_true rfl
/-- what a round asks -/
structure Round8 (p ss l : List Sp) (k s : Int) : Prop where
  one : sieveOk p k = true
  oneR : sieveR p k = l
  two : sieveOk ss k = true
  twoR : sieveR ss k = ss
  three : sieveOk l s = true
  threeR : sieveR l s = ss
  win : withinB ss l = true
theorem round8 {p ss l : List Sp} {k s : Int} (h : sieveOk p s = true) (hs : sieveR p s = ss) (hl : sieveR p k = l) (h1 : 1 ≤ k) (h2 : k ≤ s) : Round8 p ss l k s := by
  have S := sieved7 h h1 h2
  subst hs hl
  exact ⟨S.one, rfl, S.two, S.again, S.three, S.other, within8 (sieve_within h).2 S.picless S.within⟩
set_option maxRecDepth 100000 in
set_option maxHeartbeats 3200000 in
theorem walk (A : Option Addr) (n c : Nat) (w : World) (hb : Bytes w w.heap.size A n) (hn : n ≤ c) (hc : c ≤ 9223372036854775807) :
    Calls Try.prog 4 #[.slice A n c] w (Gives (.bool true) w) := by
  by_cases hbig : 1048576 < n
  · go_enter Try.func4, Try.ntmps4
    go_wp2
    go_ret
    exact ⟨rfl, Below.refl _ _⟩
  · go_enter Try.func4, Try.ntmps4
    go_wp2_with fail
    refine (drawSievedBy_any A n c _ hb hn hc).mono ?_
    rintro e w1 ⟨v, ps, s, rfl, op, hpl, bb⟩
    obtain ⟨Ap, cp, rfl, _, _⟩ := op.reads.slice
    clear hb hn hc
    obtain ⟨ss, hss⟩ : ∃ ss, sieveR ps s = ss := ⟨_, rfl⟩
    rcases hk : sieveOk ps s with _ | _
    all_goals
      have HS := Lib.hid hss
      have HK := Lib.hid hk
      clear hss hk
      go_wp2_with fail
      refine (impl_lit HK.out HS.out op.reads).mono ?_
      rintro e w2 ⟨vs, rfl, os, bn⟩
      have bb := below_step bb bn
      have op := op.below bn
      clear bn
      obtain ⟨As, cs, rfl, hcs, hms⟩ := os.reads.slice
      unfold maxLen at hms
      go_wp2_with fail
      refine (spec_lit HK.out HS.out op.reads).mono ?_
      rintro e w3 ⟨vx, rfl, ox, bn⟩
      have bb := below_step bb bn
      have op := op.below bn
      have os := os.below bn
      clear bn
      go_wp2_with fail
      refine (gives_is (show decide (ss = ss) = true by simp) (sameSpots_any _ _ _ _ _ os.reads ox.reads)).mono ?_
      rintro e w4 ⟨rfl, bn⟩
      have bb := below_step bb bn
      have op := op.below bn
      have os := os.below bn
      clear bn
      clear ox
    · have h0 : ((ss.length : Int) == 0) = true := by rw [← HS.out, sieve_no HK.out]; rfl
      go_wp2_with fail
      refine (alive_any _).mono ?_
      rintro e w5 ⟨rfl, bn⟩
      go_wp2
      go_ret
      exact ⟨rfl, below_step bb bn⟩
    · have hsz := size_is (sieve_parts HK.out).1
      obtain ⟨hs1, hs5⟩ := hsz
      go_wp2
      go_loopw [9] (fun i wr => ∃ k : Int, i = .int .i64 k ∧ 1 ≤ k ∧ k ≤ s + 1 ∧ Below w4.heap.size w4 wr) (fun i _ => (6 - intOf i).toNat)
      case atStart => exact ⟨1, rfl, by omega, by omega, Below.refl _ _⟩
      case round =>
        obtain ⟨k, rfl, hk1, hk2, hbw⟩ := hrel
        have op := op.below hbw
        have os := os.below hbw
        have bb := below_step bb hbw
        by_cases hlt : k ≤ s
        · have hd : decide (k ≤ s) = true := decide_eq_true hlt
          obtain ⟨l, hl⟩ : ∃ l, sieveR ps k = l := ⟨_, rfl⟩
          have H := Lib.hid (round8 HK.out HS.out hl hk1 hlt)
          clear hl
          go_wp2_with fail
          refine (impl_lit H.out.one H.out.oneR op.reads).mono ?_
          rintro e w5 ⟨v5, rfl, o5, bn⟩
          have hbw := below_step hbw bn
          have bb := below_step bb bn
          have op := op.below bn
          have os := os.below bn
          clear bn
          obtain ⟨A5, c5, rfl, _, _⟩ := o5.reads.slice
          go_wp2_with fail
          refine (impl_lit H.out.two H.out.twoR os.reads).mono ?_
          rintro e w6 ⟨v6, rfl, o6, bn⟩
          have hbw := below_step hbw bn
          have o5 := o5.below bn
          have bb := below_step bb bn
          have op := op.below bn
          have os := os.below bn
          clear bn
          obtain ⟨A6, c6, rfl, _, _⟩ := o6.reads.slice
          go_wp2_with fail
          refine (impl_lit H.out.three H.out.threeR o5.reads).mono ?_
          rintro e w7 ⟨v7, rfl, o7, bn⟩
          have hbw := below_step hbw bn
          have o5 := o5.below bn
          have o6 := o6.below bn
          have bb := below_step bb bn
          have op := op.below bn
          have os := os.below bn
          clear bn
          obtain ⟨A7, c7, rfl, _, _⟩ := o7.reads.slice
          go_wp2_with fail
          refine (gives_is H.out.win (implWithin_any _ _ _ _ _ os.reads o5.reads)).mono ?_
          rintro e w8 ⟨rfl, bn⟩
          have hbw := below_step hbw bn
          have o6 := o6.below bn
          have o7 := o7.below bn
          have bb := below_step bb bn
          have op := op.below bn
          have os := os.below bn
          clear bn
          clear o5
          go_wp2_with fail
          refine (gives_is (show decide (ss = ss) = true by simp) (sameSpots_any _ _ _ _ _ o6.reads os.reads)).mono ?_
          rintro e w9 ⟨rfl, bn⟩
          have hbw := below_step hbw bn
          have o7 := o7.below bn
          have bb := below_step bb bn
          have op := op.below bn
          have os := os.below bn
          clear bn
          clear o6
          go_wp2_with fail
          refine (gives_is (show decide (ss = ss) = true by simp) (sameSpots_any _ _ _ _ _ o7.reads os.reads)).mono ?_
          rintro e w10 ⟨rfl, bn⟩
          have hbw := below_step hbw bn
          have bb := below_step bb bn
          have op := op.below bn
          have os := os.below bn
          clear bn
          go_wp2
          go_roundw
          case rel => exact ⟨k + 1, rfl, by omega, by omega, hbw⟩
          case measure => simp [intOf]; omega
        · have hd : decide (k ≤ s) = false := decide_eq_false hlt
          have hw := within8 (sieve_within HK.out).2 (sieve_parts HK.out).2 (sieve_within HK.out).1
          rw [HS.out] at hw
          have HW := Lib.hid hw
          clear hw
          go_wp2_with fail
          refine (gives_is HW.out (implWithin_any _ _ _ _ _ os.reads op.reads)).mono ?_
          rintro e w5 ⟨rfl, bn⟩
          have bb := below_step bb bn
          have op := op.below bn
          have os := os.below bn
          clear bn
          by_cases h1 : 1 < s
          · have hd1 : decide (1 < s) = true := decide_eq_true h1
            go_wp2_with fail
            refine (alive_any _).mono ?_
            rintro e w6 ⟨rfl, bn⟩
            go_wp2
            go_ret
            exact ⟨rfl, below_step bb bn⟩
          · have hd1 : decide (1 < s) = false := decide_eq_false h1
            have HE := Lib.hid (show ss = ps by
              have e1 : s = 1 := by omega
              have hK := HK.out
              rw [e1] at hK
              rw [← HS.out, e1]
              exact sieve_one hK)
            go_wp2_with fail
            refine (gives_is (decide_eq_true HE.out) (sameSpots_any _ _ _ _ _ os.reads op.reads)).mono ?_
            rintro e w6 ⟨rfl, bn⟩
            have bb := below_step bb bn
            have op := op.below bn
            have os := os.below bn
            clear bn
            go_wp2_with fail
            refine (alive_any _).mono ?_
            rintro e w7 ⟨rfl, bn⟩
            go_wp2
            go_ret
            exact ⟨rfl, below_step bb bn⟩

set_option maxRecDepth 100000 in
theorem lifted (os : Os) (started : os.Started) (H : Type) (enc : TypeId × Value → H) :
    ReturnsInHanded {} Try.checked os 4 .any (Rows.fnSievedBySpec.pre6 enc Try.prog Try.f4 Rows.fnSievedByRow.domain false) (Rows.fnSievedBySpec.post enc Try.prog Try.f4 false true false false) := by
  refine returnsInHanded_of_change (C := Try.checked) own started (by kernel_rfl) Try.func4
    (ChangeSpec.witness6 (enc := enc) (C := Try.checked) false ⟨#[], #[.slice none 0 0], []⟩ 8 (by kernel_rfl) (by kernel_rfl) (by kernel_rfl) (by kernel_rfl)) ?_
  intro W base args ds gs before hval0 hW _ _
  have hval : ∀ (j : Nat) t v, Try.f4.params[j]? = some t → args[j]? = some v → Value.okWide Try.prog W .any base t v := hval0
  have hW' := hW
  obtain ⟨p, q, hA0, hV, rfl, _, _⟩ := hW
  have hA : DataW.TrodAll enc Try.prog W 0 (fun _ => true) true Try.f4.params.toList args.toList ds p := hA0
  rw [Try.params4] at hA hval
  obtain ⟨v0, d0, rfl, rfl, h0⟩ := trodAll_one hA
  obtain ⟨rfl, rfl⟩ := trodVars_none hV
  clear hA0 hval0
  simp only [List.append_nil] at hW'
  have hlt : ∀ x ∈ p, x.block < W.heap.size := fun x hx => by simpa using hW'.lt x hx
  have r0 := open_bytes (hval 0 22 v0 rfl rfl) h0 hlt
  obtain ⟨⟨bA, bn, bc⟩, rfl, rb, rn, rc⟩ := r0
  simp only at rb rn rc
  refine (walk bA bn bc W rb rn rc).mono fun e W' hg => ?_
  obtain ⟨he, hb⟩ := hg
  subst he
  exact ⟨_, rfl, _, _, _, [], p, [], hW', trodAll_mk1 (shut_bool Try.underlying4 _), trodAll_mk1 (kept_arg (by kernel_rfl) (of_decide_eq_true (by kernel_rfl)) h0 hb hlt), rfl, hb.frame _, fun h => by cases h⟩

theorem holds : Rows.FnSievedBySaid :=
  OpenClaim.holds_of_wide 4 Try.f4 rfl rfl rfl rfl rfl rfl rfl ⟨rfl, rfl, rfl, rfl, rfl⟩ rfl rfl rfl rfl rfl (by kernel_rfl) Try.func4 (by kernel_rfl)
    (of_decide_eq_true (by kernel_rfl)) (by unfold Func.isWrapper; first | (rw [if_pos (by decide +kernel)]; kernel_rfl) | (rw [if_neg (by decide +kernel)]; exact ⟨rfl, rfl⟩))
    (fun os started H enc _ => lifted os started H enc)
end Go.Proofs.Ytbdmppejflokaaa.fnSievedBy
