/-
  Proved: the law of EulerOf (FnEulerOf) returns true for every code, and the code reads afterwards as it read before. No conditions.
-/
import Derived.Test.YtbbeinhjkfjipaaJoinI
import Derived.Test.YtbbeinhjkfjipaaHoleI
import Derived.Test.YtbbeinhjkfjipaaCellQ
import Derived.Test.YtbbeinhjkfjipaaDraws7
import Derived.Test.YtbbeinhjkfjipaaEq
import Derived.Test.YtbbeinhjkfjipaaOpen
namespace Go.Proofs.Ytbbeinhjkfjipaa.fnEulerOf
open Go.ChangeShapes Go.WideShapes Go.ChangeAt Go.RowKit

theorem pieces_lit {n : Int} {e : Bool} {ps : List Sp} {v : Value} {w : World} (hk : countR e ps = n) (h : Reads w w.heap.size v ps) : Calls Try.prog 24 #[v, .bool e] w (Gives (.int .i64 n) w) := by
  subst hk; exact implCount7_any e ps v w h
theorem holes_lit {ls : List (List Sp)} {ps : List Sp} {v : Value} {w : World} (hk : holesR ps = ls) (h : Reads w w.heap.size v ps) : Calls Try.prog 31 #[v] w (GivesParts ls w) := by
  subst hk; exact implHoles_any ps v w h
theorem holesQ_yes {p : List Sp} (h : picB p = true) : holesR p = holesL p := by unfold holesR; rw [h]; rfl
set_option maxRecDepth 100000 in
set_option maxHeartbeats 1600000 in
theorem walk (A : Option Addr) (n c : Nat) (w : World) (hb : Bytes w w.heap.size A n) (hn : n ≤ c) (hc : c ≤ 9223372036854775807) :
    Calls Try.prog 6 #[.slice A n c] w (Gives (.bool true) w) := by
  by_cases hbig : 1048576 < n
  · go_enter Try.func6, Try.ntmps6
    go_wp2
    go_ret
    exact ⟨rfl, Below.refl _ _⟩
  · go_enter Try.func6, Try.ntmps6
    go_wp2_with fail
    refine (drawEulerOf_any A n c _ hb hn hc).mono ?_
    rintro e w1 ⟨v, ps, rfl, op, hpl, bb⟩
    obtain ⟨Ap, cp, rfl, _, _⟩ := op.reads.slice
    clear hb hn hc
    obtain ⟨N, hN⟩ : ∃ N, eulerR ps = N := ⟨_, rfl⟩
    have HN := Lib.hid hN
    clear hN
    rcases hp : picB ps with _ | _
    · have hM : N = 0 := by rw [← HN.out, eulerR_no hp]
      subst hM
      go_wp2_with fail
      refine (eulI_lit HN.out hp op.reads).mono ?_
      rintro e w2 ⟨rfl, bn⟩
      have bb := below_step bb bn
      have op := op.below bn
      clear bn
      go_wp2_with fail
      refine (eulS_lit HN.out hp op.reads).mono ?_
      rintro e w3 ⟨rfl, bn⟩
      have bb := below_step bb bn
      have op := op.below bn
      clear bn
      clear hp
      go_wp2_with fail
      refine (alive_any _).mono ?_
      rintro e wz ⟨rfl, bn⟩
      have bb := below_step bb bn
      go_wp2
      go_ret
      exact ⟨rfl, bb⟩
    · go_wp2_with fail
      refine (eulI_lit HN.out hp op.reads).mono ?_
      rintro e w2 ⟨rfl, bn⟩
      have bb := below_step bb bn
      have op := op.below bn
      clear bn
      go_wp2_with fail
      refine (eulS_lit HN.out hp op.reads).mono ?_
      rintro e w3 ⟨rfl, bn⟩
      have bb := below_step bb bn
      have op := op.below bn
      clear bn
      have hs := (picB_pic hp).2.2
      have h1 : N = ((piecesL true ps).length : Int) - ((holesL ps).length : Int) := by rw [← HN.out]; unfold eulerR; rw [hp, if_pos rfl]; unfold eulerI; exact euler_law hs
      have hP := countR_yes (e := true) hp
      have hH := holesQ_yes hp
      have h5 := (picB_pic hp).1
      have h6 : (piecesL true ps).length ≤ ps.length := by
        have := length_firsts_le true ps
        rw [← length_piecesL] at this; exact this
      obtain ⟨P, hP'⟩ : ∃ P, (piecesL true ps).length = P := ⟨_, rfl⟩
      rw [hP'] at h1 hP h6
      obtain ⟨L, hL⟩ : ∃ L, holesL ps = L := ⟨_, rfl⟩
      rw [hL] at h1 hH
      have H := Lib.hid (And.intro hP hH)
      have heq : (N == (P : Int) - (L.length : Int)) = true := by rw [beq_iff_eq]; exact h1
      clear hP' hL hP hH hp hs h1
      go_wp2_with fail
      refine (pieces_lit H.out.1 op.reads).mono ?_
      rintro e w4 ⟨rfl, bn⟩
      have bb := below_step bb bn
      have op := op.below bn
      clear bn
      go_wp2_with fail
      refine (holes_lit H.out.2 op.reads).mono ?_
      rintro e w5 ⟨v5, rfl, o5, bn⟩
      have bb := below_step bb bn
      have op := op.below bn
      clear bn
      obtain ⟨vs, hvo, hvi⟩ := o5
      obtain ⟨A5, c5, rfl, hc5, hm5, _⟩ := hvo.shape
      rw [hvi.len] at hc5 ⊢
      unfold maxLen at hm5
      go_wp2_with fail
      refine (alive_any _).mono ?_
      rintro e wz ⟨rfl, bn⟩
      have bb := below_step bb bn
      go_wp2
      go_ret
      exact ⟨rfl, bb⟩
set_option maxRecDepth 100000 in
theorem lifted (os : Os) (started : os.Started) (H : Type) (enc : TypeId × Value → H) :
    ReturnsInHanded {} Try.checked os 6 .any (Rows.fnEulerOfSpec.pre6 enc Try.prog Try.f6 Rows.fnEulerOfRow.domain false) (Rows.fnEulerOfSpec.post enc Try.prog Try.f6 false true false false) := by
  refine returnsInHanded_of_change (C := Try.checked) own started (by kernel_rfl) Try.func6
    (ChangeSpec.witness6 (enc := enc) (C := Try.checked) false ⟨#[], #[.slice none 0 0], []⟩ 8 (by kernel_rfl) (by kernel_rfl) (by kernel_rfl) (by kernel_rfl)) ?_
  intro W base args ds gs before hval0 hW _ _
  have hval : ∀ (j : Nat) t v, Try.f6.params[j]? = some t → args[j]? = some v → Value.okWide Try.prog W .any base t v := hval0
  have hW' := hW
  obtain ⟨p, q, hA0, hV, rfl, _, _⟩ := hW
  have hA : DataW.TrodAll enc Try.prog W 0 (fun _ => true) true Try.f6.params.toList args.toList ds p := hA0
  rw [Try.params6] at hA hval
  obtain ⟨v0, d0, rfl, rfl, h0⟩ := trodAll_one hA
  obtain ⟨rfl, rfl⟩ := trodVars_none hV
  clear hA0 hval0
  simp only [List.append_nil] at hW'
  have hlt : ∀ x ∈ p, x.block < W.heap.size := fun x hx => by simpa using hW'.lt x hx
  have r0 := open_bytes (hval 0 22 v0 rfl rfl) h0 hlt
  obtain ⟨⟨bA, bn, bc⟩, rfl, rb, rn, rc⟩ := r0
  simp only at rb rn rc
  refine (walk bA bn bc W rb rn rc).mono fun e W' hg => ?_
  obtain ⟨he, hb⟩ := hg
  subst he
  exact ⟨_, rfl, _, _, _, [], p, [], hW', trodAll_mk1 (shut_bool Try.underlying4 _), trodAll_mk1 (kept_arg (by kernel_rfl) (of_decide_eq_true (by kernel_rfl)) h0 hb hlt), rfl, hb.frame _, fun h => by cases h⟩

theorem holds : Rows.FnEulerOfSaid :=
  OpenClaim.holds_of_wide 6 Try.f6 rfl rfl rfl rfl rfl rfl rfl ⟨rfl, rfl, rfl, rfl, rfl⟩ rfl rfl rfl rfl rfl (by kernel_rfl) Try.func6 (by kernel_rfl)
    (of_decide_eq_true (by kernel_rfl)) (by unfold Func.isWrapper; first | (rw [if_pos (by decide +kernel)]; kernel_rfl) | (rw [if_neg (by decide +kernel)]; exact ⟨rfl, rfl⟩))
    (fun os started H enc _ => lifted os started H enc)
end Go.Proofs.Ytbbeinhjkfjipaa.fnEulerOf
