/-
  Proved: the law of QuadsOf (FnQuadsOf) returns true for every code, and the code reads afterwards as it read before. No conditions.
-/
import Derived.Test.YtbbeinhjkfjipaaCellQ
import Derived.Test.YtbbeinhjkfjipaaDraws7
import Derived.Test.YtbbeinhjkfjipaaEq
import Derived.Test.YtbbeinhjkfjipaaOpen
namespace Go.Proofs.Ytbbeinhjkfjipaa.fnQuadsOf
open Go.ChangeShapes Go.WideShapes Go.ChangeAt Go.RowKit

set_option maxRecDepth 100000 in
set_option maxHeartbeats 1600000 in
theorem walk (A : Option Addr) (n c : Nat) (w : World) (hb : Bytes w w.heap.size A n) (hn : n ≤ c) (hc : c ≤ 9223372036854775807) :
    Calls Try.prog 7 #[.slice A n c] w (Gives (.bool true) w) := by
  by_cases hbig : 1048576 < n
  · go_enter Try.func7, Try.ntmps7
    go_wp2
    go_ret
    exact ⟨rfl, Below.refl _ _⟩
  · go_enter Try.func7, Try.ntmps7
    go_wp2_with fail
    refine (drawQuadsOf_any A n c _ hb hn hc).mono ?_
    rintro e w1 ⟨v, ps, rfl, op, hpl, bb⟩
    obtain ⟨Ap, cp, rfl, _, _⟩ := op.reads.slice
    clear hb hn hc
    obtain ⟨N, hN⟩ : ∃ N, eulerR ps = N := ⟨_, rfl⟩
    obtain ⟨a, ha⟩ : ∃ a, quadA ps = a := ⟨_, rfl⟩
    obtain ⟨b, hb⟩ : ∃ b, quadB ps = b := ⟨_, rfl⟩
    obtain ⟨k, hk⟩ : ∃ k, quadC ps = k := ⟨_, rfl⟩
    have HN := Lib.hid (And.intro hN (And.intro ha (And.intro hb hk)))
    clear hN ha hb hk
    rcases hp : picB ps with _ | _
    · obtain ⟨h1, h2, h3⟩ := quads_no hp
      rw [HN.out.2.1] at h1
      rw [HN.out.2.2.1] at h2
      rw [HN.out.2.2.2] at h3
      subst h1 h2 h3
      go_wp2_with fail
      refine (quaI_lit HN.out.2.1 HN.out.2.2.1 HN.out.2.2.2 hp op.reads).mono ?_
      rintro e w2 ⟨rfl, bn⟩
      have bb := below_step bb bn
      have op := op.below bn
      clear bn
      go_wp2_with fail
      refine (quaS_lit HN.out.2.1 HN.out.2.2.1 HN.out.2.2.2 hp op.reads).mono ?_
      rintro e w3 ⟨rfl, bn⟩
      have bb := below_step bb bn
      have op := op.below bn
      clear bn
      clear hp
      go_wp2_with fail
      refine (alive_any _).mono ?_
      rintro e wz ⟨rfl, bn⟩
      have bb := below_step bb bn
      go_wp2
      go_ret
      exact ⟨rfl, bb⟩
    · have hs := (picB_pic hp).2.2
      obtain ⟨h1, h2, h3⟩ := quads_yes hp
      have hq := quads_euler hs
      have hE : N = eulerI ps := by rw [← HN.out.1]; unfold eulerR; rw [hp]; rfl
      have ho : ps ≠ [] → 4 ≤ oneN ps := oneN_four
      unfold oneN crossN threeN at hq
      unfold oneN at ho
      rw [← h1, ← h2, ← h3, HN.out.2.1, HN.out.2.2.1, HN.out.2.2.2, ← hE] at hq
      have e1 := cntN_le hp (n := 1) (by omega) (by omega)
      have e2 := cntN_le hp (n := 2) (by omega) (by omega)
      have e4 := cntN_le hp (n := 4) (by omega) (by omega)
      have e8 := cntN_le hp (n := 8) (by omega) (by omega)
      have e6 := cntN_le hp (n := 6) (by omega) (by omega)
      have e9 := cntN_le hp (n := 9) (by omega) (by omega)
      have e7 := cntN_le hp (n := 7) (by omega) (by omega)
      have e11 := cntN_le hp (n := 11) (by omega) (by omega)
      have e13 := cntN_le hp (n := 13) (by omega) (by omega)
      have e14 := cntN_le hp (n := 14) (by omega) (by omega)
      rw [HN.out.2.1] at h1
      rw [HN.out.2.2.1] at h2
      rw [HN.out.2.2.2] at h3
      have ra : 0 ≤ a ∧ a ≤ 960 := by omega
      have rb : 0 ≤ b ∧ b ≤ 960 := by omega
      have rk : 0 ≤ k ∧ k ≤ 960 := by omega
      have h4 : ps ≠ [] → 4 ≤ a + 2 * b := fun h0 => by have := ho h0; omega
      obtain ⟨ra1, ra2⟩ := ra
      obtain ⟨rb1, rb2⟩ := rb
      obtain ⟨rk1, rk2⟩ := rk
      have heq : (a - k - 2 * b == 4 * N) = true := by rw [beq_iff_eq]; omega
      clear h1 h2 h3 hq hE ho e1 e2 e4 e8 e6 e9 e7 e11 e13 e14 hs
      go_wp2_with fail
      refine (quaI_lit HN.out.2.1 HN.out.2.2.1 HN.out.2.2.2 hp op.reads).mono ?_
      rintro e w2 ⟨rfl, bn⟩
      have bb := below_step bb bn
      have op := op.below bn
      clear bn
      go_wp2_with fail
      refine (quaS_lit HN.out.2.1 HN.out.2.2.1 HN.out.2.2.2 hp op.reads).mono ?_
      rintro e w3 ⟨rfl, bn⟩
      have bb := below_step bb bn
      have op := op.below bn
      clear bn
      go_wp2_with fail
      refine (eulI_lit HN.out.1 hp op.reads).mono ?_
      rintro e w4 ⟨rfl, bn⟩
      have bb := below_step bb bn
      have op := op.below bn
      clear bn
      clear hp
      have rN : -1000 ≤ N ∧ N ≤ 1000 := by rw [beq_iff_eq] at heq; omega
      obtain ⟨rN1, rN2⟩ := rN
      by_cases h0 : ps = []
      · have hz : ((ps.length : Int) == 0) = true := by rw [h0]; rfl
        clear h0 h4
        go_wp2_with fail
        refine (alive_any _).mono ?_
        rintro e wz ⟨rfl, bn⟩
        have bb := below_step bb bn
        go_wp2
        go_ret
        exact ⟨rfl, bb⟩
      · have hz : ((ps.length : Int) == 0) = false := by
          rw [beq_eq_false_iff_ne]
          have : ps.length ≠ 0 := fun e => h0 (List.eq_nil_of_length_eq_zero e)
          omega
        have hge : decide (a + 2 * b ≥ 4) = true := decide_eq_true (h4 h0)
        have hge' : decide (4 ≤ a + 2 * b) = true := decide_eq_true (h4 h0)
        clear h0 h4
        go_wp2_with fail
        refine (alive_any _).mono ?_
        rintro e wz ⟨rfl, bn⟩
        have bb := below_step bb bn
        go_wp2
        go_ret
        exact ⟨rfl, bb⟩
set_option maxRecDepth 100000 in
theorem lifted (os : Os) (started : os.Started) (H : Type) (enc : TypeId × Value → H) :
    ReturnsInHanded {} Try.checked os 7 .any (Rows.fnQuadsOfSpec.pre6 enc Try.prog Try.f7 Rows.fnQuadsOfRow.domain false) (Rows.fnQuadsOfSpec.post enc Try.prog Try.f7 false true false false) := by
  refine returnsInHanded_of_change (C := Try.checked) own started (by kernel_rfl) Try.func7
    (ChangeSpec.witness6 (enc := enc) (C := Try.checked) false ⟨#[], #[.slice none 0 0], []⟩ 8 (by kernel_rfl) (by kernel_rfl) (by kernel_rfl) (by kernel_rfl)) ?_
  intro W base args ds gs before hval0 hW _ _
  have hval : ∀ (j : Nat) t v, Try.f7.params[j]? = some t → args[j]? = some v → Value.okWide Try.prog W .any base t v := hval0
  have hW' := hW
  obtain ⟨p, q, hA0, hV, rfl, _, _⟩ := hW
  have hA : DataW.TrodAll enc Try.prog W 0 (fun _ => true) true Try.f7.params.toList args.toList ds p := hA0
  rw [Try.params7] at hA hval
  obtain ⟨v0, d0, rfl, rfl, h0⟩ := trodAll_one hA
  obtain ⟨rfl, rfl⟩ := trodVars_none hV
  clear hA0 hval0
  simp only [List.append_nil] at hW'
  have hlt : ∀ x ∈ p, x.block < W.heap.size := fun x hx => by simpa using hW'.lt x hx
  have r0 := open_bytes (hval 0 22 v0 rfl rfl) h0 hlt
  obtain ⟨⟨bA, bn, bc⟩, rfl, rb, rn, rc⟩ := r0
  simp only at rb rn rc
  refine (walk bA bn bc W rb rn rc).mono fun e W' hg => ?_
  obtain ⟨he, hb⟩ := hg
  subst he
  exact ⟨_, rfl, _, _, _, [], p, [], hW', trodAll_mk1 (shut_bool Try.underlying4 _), trodAll_mk1 (kept_arg (by kernel_rfl) (of_decide_eq_true (by kernel_rfl)) h0 hb hlt), rfl, hb.frame _, fun h => by cases h⟩

theorem holds : Rows.FnQuadsOfSaid :=
  OpenClaim.holds_of_wide 7 Try.f7 rfl rfl rfl rfl rfl rfl rfl ⟨rfl, rfl, rfl, rfl, rfl⟩ rfl rfl rfl rfl rfl (by kernel_rfl) Try.func7 (by kernel_rfl)
    (of_decide_eq_true (by kernel_rfl)) (by unfold Func.isWrapper; first | (rw [if_pos (by decide +kernel)]; kernel_rfl) | (rw [if_neg (by decide +kernel)]; exact ⟨rfl, rfl⟩))
    (fun os started H enc _ => lifted os started H enc)
end Go.Proofs.Ytbbeinhjkfjipaa.fnQuadsOf
