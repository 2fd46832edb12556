/-
  Proved: the law of SidesOf (FnSidesOf) returns true for every code, and the code reads afterwards as it read before. No conditions.
-/
import Derived.Test.YtbbeinhjkfjipaaJoinI
import Derived.Test.YtbbeinhjkfjipaaCellQ
import Derived.Test.YtbbeinhjkfjipaaDraws7
import Derived.Test.YtbbeinhjkfjipaaEq
import Derived.Test.YtbbeinhjkfjipaaOpen
namespace Go.Proofs.Ytbbeinhjkfjipaa.fnSidesOf
open Go.ChangeShapes Go.WideShapes Go.ChangeAt Go.RowKit

theorem pieces_lit {n : Int} {e : Bool} {ps : List Sp} {v : Value} {w : World} (hk : countR e ps = n) (h : Reads w w.heap.size v ps) : Calls Try.prog 24 #[v, .bool e] w (Gives (.int .i64 n) w) := by
  subst hk; exact implCount7_any e ps v w h
set_option maxRecDepth 100000 in
set_option maxHeartbeats 1600000 in
theorem walk (A : Option Addr) (n c : Nat) (w : World) (hb : Bytes w w.heap.size A n) (hn : n ≤ c) (hc : c ≤ 9223372036854775807) :
    Calls Try.prog 5 #[.slice A n c] w (Gives (.bool true) w) := by
  by_cases hbig : 1048576 < n
  · go_enter Try.func5, Try.ntmps5
    go_wp2
    go_ret
    exact ⟨rfl, Below.refl _ _⟩
  · go_enter Try.func5, Try.ntmps5
    go_wp2_with fail
    refine (drawSidesOf_any A n c _ hb hn hc).mono ?_
    rintro e w1 ⟨v, ps, rfl, op, hpl, bb⟩
    obtain ⟨Ap, cp, rfl, _, _⟩ := op.reads.slice
    clear hb hn hc
    obtain ⟨N, hN⟩ : ∃ N, sidesR ps = N := ⟨_, rfl⟩
    have HN := Lib.hid hN
    clear hN
    go_wp2_with fail
    refine (sidI_lit HN.out op.reads).mono ?_
    rintro e w2 ⟨rfl, bn⟩
    have bb := below_step bb bn
    have op := op.below bn
    clear bn
    go_wp2_with fail
    refine (sidS_lit HN.out op.reads).mono ?_
    rintro e w3 ⟨rfl, bn⟩
    have bb := below_step bb bn
    have op := op.below bn
    clear bn
    rcases hp : picB ps with _ | _
    · have hM : N = -1 := by rw [← HN.out, sidesR_no hp]
      subst hM
      clear hp
      go_wp2_with fail
      refine (alive_any _).mono ?_
      rintro e wz ⟨rfl, bn⟩
      have bb := below_step bb bn
      go_wp2
      go_ret
      exact ⟨rfl, bb⟩
    · have hNN : N = sidesI ps := by rw [← HN.out, sidesR_yes hp]
      have hs := (picB_pic hp).2.2
      have h1 := sides_range hp
      have h2 := sidesI_two hs
      have h3 := sides_ge hs
      have hB := borderR_yes hp
      have hbr := border_range hp
      have hC : cornersR ps = (cornersN ps : Int) := by unfold cornersR; rw [hp]; rfl
      have hP := countR_yes (e := true) hp
      have h4 := corners_le ps
      have h5 := (picB_pic hp).1
      have h6 : (piecesL true ps).length ≤ ps.length := by
        have := length_firsts_le true ps
        rw [← length_piecesL] at this; exact this
      obtain ⟨S, hS⟩ : ∃ S, sidesI ps = S := ⟨_, rfl⟩
      obtain ⟨B, hB'⟩ : ∃ B, borderI ps = B := ⟨_, rfl⟩
      obtain ⟨C, hC'⟩ : ∃ C, cornersN ps = C := ⟨_, rfl⟩
      obtain ⟨P, hP'⟩ : ∃ P, (piecesL true ps).length = P := ⟨_, rfl⟩
      rw [hS] at hNN h1 h2 h3
      rw [hB'] at h2 hB hbr
      rw [hC'] at h3 hC h4
      rw [hP'] at h3 hP h6
      subst hNN
      obtain ⟨h11, h12⟩ := h1
      obtain ⟨hb1, hb2⟩ := hbr
      have H := Lib.hid (And.intro hB (And.intro hC hP))
      have hlt : decide (N < 0) = false := decide_eq_false (by omega)
      have heq : (2 * N == 4 * (ps.length : Int) + B) = true := by rw [beq_iff_eq]; exact h2
      have hge : decide (N ≥ (C : Int) - (P : Int)) = true := decide_eq_true (by omega)
      have hge' : decide ((C : Int) - (P : Int) ≤ N) = true := decide_eq_true (by omega)
      clear hS hB' hC' hP' hB hC hP hp hs h2 h3
      go_wp2_with fail
      refine (borI_lit H.out.1 op.reads).mono ?_
      rintro e w4 ⟨rfl, bn⟩
      have bb := below_step bb bn
      have op := op.below bn
      clear bn
      go_wp2_with fail
      refine (corI_lit H.out.2.1 op.reads).mono ?_
      rintro e w5 ⟨rfl, bn⟩
      have bb := below_step bb bn
      have op := op.below bn
      clear bn
      go_wp2_with fail
      refine (pieces_lit H.out.2.2 op.reads).mono ?_
      rintro e w6 ⟨rfl, bn⟩
      have bb := below_step bb bn
      have op := op.below bn
      clear bn
      go_wp2_with fail
      refine (alive_any _).mono ?_
      rintro e wz ⟨rfl, bn⟩
      have bb := below_step bb bn
      go_wp2
      go_ret
      exact ⟨rfl, bb⟩
set_option maxRecDepth 100000 in
theorem lifted (os : Os) (started : os.Started) (H : Type) (enc : TypeId × Value → H) :
    ReturnsInHanded {} Try.checked os 5 .any (Rows.fnSidesOfSpec.pre6 enc Try.prog Try.f5 Rows.fnSidesOfRow.domain false) (Rows.fnSidesOfSpec.post enc Try.prog Try.f5 false true false false) := by
  refine returnsInHanded_of_change (C := Try.checked) own started (by kernel_rfl) Try.func5
    (ChangeSpec.witness6 (enc := enc) (C := Try.checked) false ⟨#[], #[.slice none 0 0], []⟩ 8 (by kernel_rfl) (by kernel_rfl) (by kernel_rfl) (by kernel_rfl)) ?_
  intro W base args ds gs before hval0 hW _ _
  have hval : ∀ (j : Nat) t v, Try.f5.params[j]? = some t → args[j]? = some v → Value.okWide Try.prog W .any base t v := hval0
  have hW' := hW
  obtain ⟨p, q, hA0, hV, rfl, _, _⟩ := hW
  have hA : DataW.TrodAll enc Try.prog W 0 (fun _ => true) true Try.f5.params.toList args.toList ds p := hA0
  rw [Try.params5] at hA hval
  obtain ⟨v0, d0, rfl, rfl, h0⟩ := trodAll_one hA
  obtain ⟨rfl, rfl⟩ := trodVars_none hV
  clear hA0 hval0
  simp only [List.append_nil] at hW'
  have hlt : ∀ x ∈ p, x.block < W.heap.size := fun x hx => by simpa using hW'.lt x hx
  have r0 := open_bytes (hval 0 22 v0 rfl rfl) h0 hlt
  obtain ⟨⟨bA, bn, bc⟩, rfl, rb, rn, rc⟩ := r0
  simp only at rb rn rc
  refine (walk bA bn bc W rb rn rc).mono fun e W' hg => ?_
  obtain ⟨he, hb⟩ := hg
  subst he
  exact ⟨_, rfl, _, _, _, [], p, [], hW', trodAll_mk1 (shut_bool Try.underlying4 _), trodAll_mk1 (kept_arg (by kernel_rfl) (of_decide_eq_true (by kernel_rfl)) h0 hb hlt), rfl, hb.frame _, fun h => by cases h⟩

theorem holds : Rows.FnSidesOfSaid :=
  OpenClaim.holds_of_wide 5 Try.f5 rfl rfl rfl rfl rfl rfl rfl ⟨rfl, rfl, rfl, rfl, rfl⟩ rfl rfl rfl rfl rfl (by kernel_rfl) Try.func5 (by kernel_rfl)
    (of_decide_eq_true (by kernel_rfl)) (by unfold Func.isWrapper; first | (rw [if_pos (by decide +kernel)]; kernel_rfl) | (rw [if_neg (by decide +kernel)]; exact ⟨rfl, rfl⟩))
    (fun os started H enc _ => lifted os started H enc)
end Go.Proofs.Ytbbeinhjkfjipaa.fnSidesOf
