/-
  Proved: the law of CornersOf (FnCornersOf) returns true for every code, and the code reads afterwards as it read before. No conditions.
-/
import Derived.Test.YtbbeinhjkfjipaaSumI
import Derived.Test.YtbbeinhjkfjipaaSieveI
import Derived.Test.YtbbeinhjkfjipaaCellQ
import Derived.Test.YtbbeinhjkfjipaaDraws7
import Derived.Test.YtbbeinhjkfjipaaEq
import Derived.Test.YtbbeinhjkfjipaaOpen
namespace Go.Proofs.Ytbbeinhjkfjipaa.fnCornersOf
open Go.ChangeShapes Go.WideShapes Go.ChangeAt Go.RowKit

theorem sum_lit {b : Bool} {r p q : List Sp} {v u : Value} {w : World} (hb : sumOk p q = b) (hr : sumR p q = r) (h : Reads w w.heap.size v p) (k : Reads w w.heap.size u q) : Calls Try.prog 17 #[v, u] w (Gives2' r b w) := by
  subst hb hr; exact implSum_any p q v u w h k
set_option maxRecDepth 100000 in
set_option maxHeartbeats 1600000 in
theorem walk (A : Option Addr) (n c : Nat) (w : World) (hb : Bytes w w.heap.size A n) (hn : n ≤ c) (hc : c ≤ 9223372036854775807) :
    Calls Try.prog 3 #[.slice A n c] w (Gives (.bool true) w) := by
  by_cases hbig : 1048576 < n
  · go_enter Try.func3, Try.ntmps3
    go_wp2
    go_ret
    exact ⟨rfl, Below.refl _ _⟩
  · go_enter Try.func3, Try.ntmps3
    go_wp2_with fail
    refine (drawCornersOf_any A n c _ hb hn hc).mono ?_
    rintro e w1 ⟨v, ps, rfl, op, hpl, bb⟩
    obtain ⟨Ap, cp, rfl, _, _⟩ := op.reads.slice
    clear hb hn hc
    obtain ⟨N, hN⟩ : ∃ N, cornersR ps = N := ⟨_, rfl⟩
    have HN := Lib.hid hN
    clear hN
    go_wp2_with fail
    refine (corI_lit HN.out op.reads).mono ?_
    rintro e w2 ⟨rfl, bn⟩
    have bb := below_step bb bn
    have op := op.below bn
    clear bn
    go_wp2_with fail
    refine (corS_lit HN.out op.reads).mono ?_
    rintro e w3 ⟨rfl, bn⟩
    have bb := below_step bb bn
    have op := op.below bn
    clear bn
    rcases hp : picB ps with _ | _
    · have hM : N = -1 := by rw [← HN.out, cornersR_no hp]
      subst hM
      clear hp
      go_wp2_with fail
      refine (alive_any _).mono ?_
      rintro e wz ⟨rfl, bn⟩
      have bb := below_step bb bn
      go_wp2
      go_ret
      exact ⟨rfl, bb⟩
    · have hNN : N = (cornersN ps : Int) := by rw [← HN.out]; unfold cornersR; rw [hp]; rfl
      have h4 := corners_le ps
      have h5 := corners_sum (p := ps)
      obtain ⟨m, hm⟩ : ∃ m, cornersN ps = m := ⟨_, rfl⟩
      rw [hm] at hNN h4 h5
      subst hNN
      have H5 := Lib.hid h5
      clear h5 hm
      have hlt : decide ((m : Int) < 0) = false := decide_eq_false (by omega)
      have hle : decide ((m : Int) ≤ 4 * (ps.length : Int)) = true := decide_eq_true (by omega)
      go_wp2_with fail
      refine (implSquare_any 2 _).mono ?_
      rintro e w4 ⟨v4, rfl, o4, bn⟩
      have bb := below_step bb bn
      have op := op.below bn
      clear bn
      rcases hk : sumOk ps (squareR 2) with _ | _
      · have hr := sumR_no' hk
        go_wp2_with fail
        refine (sum_lit hk hr op.reads o4.reads).mono ?_
        rintro e w5 ⟨v5, rfl, o5, bn⟩
        have bb := below_step bb bn
        have op := op.below bn
        clear bn
        clear hk hr hp
        go_wp2_with fail
        refine (alive_any _).mono ?_
        rintro e wz ⟨rfl, bn⟩
        have bb := below_step bb bn
        go_wp2
        go_ret
        exact ⟨rfl, bb⟩
      · obtain ⟨r, hr⟩ : ∃ r, sumR ps (squareR 2) = r := ⟨_, rfl⟩
        have hrl : r.length = m := by rw [← hr]; unfold sumR; rw [hk, if_pos rfl, ← H5.out]
        have heq : ((r.length : Int) == (m : Int)) = true := by rw [hrl]; exact beq_self_eq_true _
        go_wp2_with fail
        refine (sum_lit hk hr op.reads o4.reads).mono ?_
        rintro e w5 ⟨v5, rfl, o5, bn⟩
        have bb := below_step bb bn
        have op := op.below bn
        clear bn
        obtain ⟨A5, c5, rfl, _, _⟩ := o5.reads.slice
        clear hk hr hp hrl
        go_wp2_with fail
        refine (alive_any _).mono ?_
        rintro e wz ⟨rfl, bn⟩
        have bb := below_step bb bn
        go_wp2
        go_ret
        exact ⟨rfl, bb⟩
set_option maxRecDepth 100000 in
theorem lifted (os : Os) (started : os.Started) (H : Type) (enc : TypeId × Value → H) :
    ReturnsInHanded {} Try.checked os 3 .any (Rows.fnCornersOfSpec.pre6 enc Try.prog Try.f3 Rows.fnCornersOfRow.domain false) (Rows.fnCornersOfSpec.post enc Try.prog Try.f3 false true false false) := by
  refine returnsInHanded_of_change (C := Try.checked) own started (by kernel_rfl) Try.func3
    (ChangeSpec.witness6 (enc := enc) (C := Try.checked) false ⟨#[], #[.slice none 0 0], []⟩ 8 (by kernel_rfl) (by kernel_rfl) (by kernel_rfl) (by kernel_rfl)) ?_
  intro W base args ds gs before hval0 hW _ _
  have hval : ∀ (j : Nat) t v, Try.f3.params[j]? = some t → args[j]? = some v → Value.okWide Try.prog W .any base t v := hval0
  have hW' := hW
  obtain ⟨p, q, hA0, hV, rfl, _, _⟩ := hW
  have hA : DataW.TrodAll enc Try.prog W 0 (fun _ => true) true Try.f3.params.toList args.toList ds p := hA0
  rw [Try.params3] at hA hval
  obtain ⟨v0, d0, rfl, rfl, h0⟩ := trodAll_one hA
  obtain ⟨rfl, rfl⟩ := trodVars_none hV
  clear hA0 hval0
  simp only [List.append_nil] at hW'
  have hlt : ∀ x ∈ p, x.block < W.heap.size := fun x hx => by simpa using hW'.lt x hx
  have r0 := open_bytes (hval 0 22 v0 rfl rfl) h0 hlt
  obtain ⟨⟨bA, bn, bc⟩, rfl, rb, rn, rc⟩ := r0
  simp only at rb rn rc
  refine (walk bA bn bc W rb rn rc).mono fun e W' hg => ?_
  obtain ⟨he, hb⟩ := hg
  subst he
  exact ⟨_, rfl, _, _, _, [], p, [], hW', trodAll_mk1 (shut_bool Try.underlying4 _), trodAll_mk1 (kept_arg (by kernel_rfl) (of_decide_eq_true (by kernel_rfl)) h0 hb hlt), rfl, hb.frame _, fun h => by cases h⟩

theorem holds : Rows.FnCornersOfSaid :=
  OpenClaim.holds_of_wide 3 Try.f3 rfl rfl rfl rfl rfl rfl rfl ⟨rfl, rfl, rfl, rfl, rfl⟩ rfl rfl rfl rfl rfl (by kernel_rfl) Try.func3 (by kernel_rfl)
    (of_decide_eq_true (by kernel_rfl)) (by unfold Func.isWrapper; first | (rw [if_pos (by decide +kernel)]; kernel_rfl) | (rw [if_neg (by decide +kernel)]; exact ⟨rfl, rfl⟩))
    (fun os started H enc _ => lifted os started H enc)
end Go.Proofs.Ytbbeinhjkfjipaa.fnCornersOf
