/-
  Proved: the law of BorderSides (FnBorderSides) returns true for every code, and the code reads afterwards as it read before. No conditions.
-/
import Derived.Test.YtbbeinhjkfjipaaJoinI
import Derived.Test.YtbbeinhjkfjipaaRowsI
import Derived.Test.YtbbeinhjkfjipaaMove
import Derived.Test.YtbbeinhjkfjipaaCellQ
import Derived.Test.YtbbeinhjkfjipaaDraws7
import Derived.Test.YtbbeinhjkfjipaaEq
import Derived.Test.YtbbeinhjkfjipaaOpen
namespace Go.Proofs.Ytbbeinhjkfjipaa.fnBorderSides
open Go.ChangeShapes Go.WideShapes Go.ChangeAt Go.RowKit

theorem pieces_lit {n : Int} {e : Bool} {ps : List Sp} {v : Value} {w : World} (hk : countR e ps = n) (h : Reads w w.heap.size v ps) : Calls Try.prog 24 #[v, .bool e] w (Gives (.int .i64 n) w) := by
  subst hk; exact implCount7_any e ps v w h
theorem both_lit {p q : List Sp} {b : Bool} {v : Value} {w : World} (hb : bothOk p = b) (hq : bothR p = q) (hl : p.length ≤ 1000000) (h : Reads w w.heap.size v p) : Calls Try.prog 22 #[v] w (Gives2' q b w) := by
  subst hb hq; exact implBoth_any p v w h (by omega)
theorem turn_lit {p q : List Sp} {v : Value} {w : World} (hq : turnedP p = q) (h : Reads w w.heap.size v p) : Calls Try.prog 23 #[v] w (fun e w' => ∃ v', e = .returned v' ∧ Owns w' w.heap.size v' q ∧ Below w.heap.size w w') := by
  subst hq; exact implTurned_any p v w h
set_option maxRecDepth 100000 in
set_option maxHeartbeats 1600000 in
theorem walk (A : Option Addr) (n c : Nat) (w : World) (hb : Bytes w w.heap.size A n) (hn : n ≤ c) (hc : c ≤ 9223372036854775807) :
    Calls Try.prog 4 #[.slice A n c] w (Gives (.bool true) w) := by
  by_cases hbig : 1048576 < n
  · go_enter Try.func4, Try.ntmps4
    go_wp2
    go_ret
    exact ⟨rfl, Below.refl _ _⟩
  · go_enter Try.func4, Try.ntmps4
    go_wp2_with fail
    refine (drawBorderSides_any A n c _ hb hn hc).mono ?_
    rintro e w1 ⟨v, ps, rfl, op, hpl, bb⟩
    obtain ⟨Ap, cp, rfl, _, _⟩ := op.reads.slice
    clear hb hn hc
    obtain ⟨N, hN⟩ : ∃ N, borderR ps = N := ⟨_, rfl⟩
    have HN := Lib.hid hN
    clear hN
    go_wp2_with fail
    refine (borI_lit HN.out op.reads).mono ?_
    rintro e w2 ⟨rfl, bn⟩
    have bb := below_step bb bn
    have op := op.below bn
    clear bn
    go_wp2_with fail
    refine (borS_lit HN.out op.reads).mono ?_
    rintro e w3 ⟨rfl, bn⟩
    have bb := below_step bb bn
    have op := op.below bn
    clear bn
    rcases hp : picB ps with _ | _
    · have hM : N = -1 := by rw [← HN.out, borderR_no hp]
      subst hM
      clear hp
      go_wp2_with fail
      refine (alive_any _).mono ?_
      rintro e wz ⟨rfl, bn⟩
      have bb := below_step bb bn
      go_wp2
      go_ret
      exact ⟨rfl, bb⟩
    · have hs := (picB_pic hp).2.2
      have hNN : N = borderI ps := by rw [← HN.out, borderR_yes hp]
      obtain ⟨h1, h2⟩ := border_range hp
      have he := border_even hs
      have hone := border_one (p := ps)
      have htp : picB (turned ps) = true := pic_turned7 hp
      have hT : borderR (turned ps) = N := by rw [borderR_yes htp, border_turned, hNN]
      have hTP := turnedP_yes hp
      rw [← hNN] at h1 h2 he hone
      obtain ⟨K, hK⟩ : ∃ K : Int, N = 2 * K := ⟨_, he⟩
      subst hK
      have H := Lib.hid (And.intro hTP hT)
      have hlt : decide (2 * K < 0) = false := decide_eq_false (by omega)
      have hmod : Int.tmod (2 * K) 2 = 0 := Int.mul_tmod_right 2 K
      have hpl' : ps.length ≤ 1000000 := by omega
      obtain ⟨q, hq⟩ : ∃ q, bothR ps = q := ⟨_, rfl⟩
      have hl1 : (((ps.length : Int) != 1) = true) ∨ (((ps.length : Int) != 1) = false ∧ K = 2) := by
        by_cases e : ps.length = 1
        · exact .inr ⟨by rw [bne_eq_false_iff_eq]; omega, by have := hone e; omega⟩
        · exact .inl (by rw [bne_iff_ne]; omega)
      have hmod2 : 2 * K % 2 = 0 := by omega
      have HNN := Lib.hid hNN
      clear hTP hT htp hone he hNN
      rcases hbk : bothOk ps with _ | _
      · clear hp
        rcases hl1 with e1 | ⟨e1, rfl⟩
        · go_wp2_with fail
          refine (both_lit hbk hq hpl' op.reads).mono ?_
          rintro e w4 ⟨v4, rfl, o4, bn⟩
          have bb := below_step bb bn
          have op := op.below bn
          clear bn
          obtain ⟨A4, c4, rfl, _, _⟩ := o4.reads.slice
          go_wp2_with fail
          refine (turn_lit H.out.1 op.reads).mono ?_
          rintro e w5 ⟨v5, rfl, o5, bn⟩
          have o4 := o4.below bn
          have bb := below_step bb bn
          have op := op.below bn
          clear bn
          go_wp2_with fail
          refine (borI_lit H.out.2 o5.reads).mono ?_
          rintro e w6 ⟨rfl, bn⟩
          have o4 := o4.below bn
          have bb := below_step bb bn
          have op := op.below bn
          clear bn
          clear o5
          clear hbk hq
          go_wp2_with fail
          refine (alive_any _).mono ?_
          rintro e wz ⟨rfl, bn⟩
          have bb := below_step bb bn
          go_wp2
          go_ret
          exact ⟨rfl, bb⟩
        · go_wp2_with fail
          refine (both_lit hbk hq hpl' op.reads).mono ?_
          rintro e w4 ⟨v4, rfl, o4, bn⟩
          have bb := below_step bb bn
          have op := op.below bn
          clear bn
          obtain ⟨A4, c4, rfl, _, _⟩ := o4.reads.slice
          go_wp2_with fail
          refine (turn_lit H.out.1 op.reads).mono ?_
          rintro e w5 ⟨v5, rfl, o5, bn⟩
          have o4 := o4.below bn
          have bb := below_step bb bn
          have op := op.below bn
          clear bn
          go_wp2_with fail
          refine (borI_lit H.out.2 o5.reads).mono ?_
          rintro e w6 ⟨rfl, bn⟩
          have o4 := o4.below bn
          have bb := below_step bb bn
          have op := op.below bn
          clear bn
          clear o5
          clear hbk hq
          go_wp2_with fail
          refine (alive_any _).mono ?_
          rintro e wz ⟨rfl, bn⟩
          have bb := below_step bb bn
          go_wp2
          go_ret
          exact ⟨rfl, bb⟩
      · have hB := both_is hbk
        rw [hq] at hB
        have hC := countR_yes (e := false) hp
        have hlc : (piecesL false ps).length ≤ ps.length := by
          have := length_firsts_le false ps
          rw [← length_piecesL] at this; exact this
        have hle := fun e => both_border hB (p := ps) e
        have hbq := borderR_yes hB.pics
        obtain ⟨M, hM⟩ : ∃ M, borderI q = M := ⟨_, rfl⟩
        obtain ⟨C, hC'⟩ : ∃ C, (piecesL false ps).length = C := ⟨_, rfl⟩
        rw [hC'] at hC hlc hle
        rw [hM, ← HNN.out] at hle
        rw [hM] at hbq
        have HC := Lib.hid hC
        have HQ := Lib.hid hbq
        clear hC hC' hM hbq hB hp
        by_cases hc1 : C = 1
        · have hm := hle hc1
          subst hc1
          have hmd : decide (M ≤ 2 * K) = true := decide_eq_true hm
          clear hle
          rcases hl1 with e1 | ⟨e1, rfl⟩
          · go_wp2_with fail
            refine (both_lit hbk hq hpl' op.reads).mono ?_
            rintro e w4 ⟨v4, rfl, o4, bn⟩
            have bb := below_step bb bn
            have op := op.below bn
            clear bn
            obtain ⟨A4, c4, rfl, _, _⟩ := o4.reads.slice
            go_wp2_with fail
            refine (turn_lit H.out.1 op.reads).mono ?_
            rintro e w5 ⟨v5, rfl, o5, bn⟩
            have o4 := o4.below bn
            have bb := below_step bb bn
            have op := op.below bn
            clear bn
            go_wp2_with fail
            refine (borI_lit H.out.2 o5.reads).mono ?_
            rintro e w6 ⟨rfl, bn⟩
            have o4 := o4.below bn
            have bb := below_step bb bn
            have op := op.below bn
            clear bn
            clear o5
            go_wp2_with fail
            refine (pieces_lit HC.out op.reads).mono ?_
            rintro e w7 ⟨rfl, bn⟩
            have o4 := o4.below bn
            have bb := below_step bb bn
            have op := op.below bn
            clear bn
            go_wp2_with fail
            refine (borI_lit HQ.out o4.reads).mono ?_
            rintro e w8 ⟨rfl, bn⟩
            have bb := below_step bb bn
            have op := op.below bn
            clear bn
            clear hbk hq
            go_wp2_with fail
            refine (alive_any _).mono ?_
            rintro e wz ⟨rfl, bn⟩
            have bb := below_step bb bn
            go_wp2
            go_ret
            exact ⟨rfl, bb⟩
          · go_wp2_with fail
            refine (both_lit hbk hq hpl' op.reads).mono ?_
            rintro e w4 ⟨v4, rfl, o4, bn⟩
            have bb := below_step bb bn
            have op := op.below bn
            clear bn
            obtain ⟨A4, c4, rfl, _, _⟩ := o4.reads.slice
            go_wp2_with fail
            refine (turn_lit H.out.1 op.reads).mono ?_
            rintro e w5 ⟨v5, rfl, o5, bn⟩
            have o4 := o4.below bn
            have bb := below_step bb bn
            have op := op.below bn
            clear bn
            go_wp2_with fail
            refine (borI_lit H.out.2 o5.reads).mono ?_
            rintro e w6 ⟨rfl, bn⟩
            have o4 := o4.below bn
            have bb := below_step bb bn
            have op := op.below bn
            clear bn
            clear o5
            go_wp2_with fail
            refine (pieces_lit HC.out op.reads).mono ?_
            rintro e w7 ⟨rfl, bn⟩
            have o4 := o4.below bn
            have bb := below_step bb bn
            have op := op.below bn
            clear bn
            go_wp2_with fail
            refine (borI_lit HQ.out o4.reads).mono ?_
            rintro e w8 ⟨rfl, bn⟩
            have bb := below_step bb bn
            have op := op.below bn
            clear bn
            clear hbk hq
            go_wp2_with fail
            refine (alive_any _).mono ?_
            rintro e wz ⟨rfl, bn⟩
            have bb := below_step bb bn
            go_wp2
            go_ret
            exact ⟨rfl, bb⟩
        · have hcb : ((C : Int) != 1) = true := by rw [bne_iff_ne]; omega
          clear hle
          rcases hl1 with e1 | ⟨e1, rfl⟩
          · go_wp2_with fail
            refine (both_lit hbk hq hpl' op.reads).mono ?_
            rintro e w4 ⟨v4, rfl, o4, bn⟩
            have bb := below_step bb bn
            have op := op.below bn
            clear bn
            obtain ⟨A4, c4, rfl, _, _⟩ := o4.reads.slice
            go_wp2_with fail
            refine (turn_lit H.out.1 op.reads).mono ?_
            rintro e w5 ⟨v5, rfl, o5, bn⟩
            have o4 := o4.below bn
            have bb := below_step bb bn
            have op := op.below bn
            clear bn
            go_wp2_with fail
            refine (borI_lit H.out.2 o5.reads).mono ?_
            rintro e w6 ⟨rfl, bn⟩
            have o4 := o4.below bn
            have bb := below_step bb bn
            have op := op.below bn
            clear bn
            clear o5
            go_wp2_with fail
            refine (pieces_lit HC.out op.reads).mono ?_
            rintro e w7 ⟨rfl, bn⟩
            have o4 := o4.below bn
            have bb := below_step bb bn
            have op := op.below bn
            clear bn
            clear hbk hq
            go_wp2_with fail
            refine (alive_any _).mono ?_
            rintro e wz ⟨rfl, bn⟩
            have bb := below_step bb bn
            go_wp2
            go_ret
            exact ⟨rfl, bb⟩
          · go_wp2_with fail
            refine (both_lit hbk hq hpl' op.reads).mono ?_
            rintro e w4 ⟨v4, rfl, o4, bn⟩
            have bb := below_step bb bn
            have op := op.below bn
            clear bn
            obtain ⟨A4, c4, rfl, _, _⟩ := o4.reads.slice
            go_wp2_with fail
            refine (turn_lit H.out.1 op.reads).mono ?_
            rintro e w5 ⟨v5, rfl, o5, bn⟩
            have o4 := o4.below bn
            have bb := below_step bb bn
            have op := op.below bn
            clear bn
            go_wp2_with fail
            refine (borI_lit H.out.2 o5.reads).mono ?_
            rintro e w6 ⟨rfl, bn⟩
            have o4 := o4.below bn
            have bb := below_step bb bn
            have op := op.below bn
            clear bn
            clear o5
            go_wp2_with fail
            refine (pieces_lit HC.out op.reads).mono ?_
            rintro e w7 ⟨rfl, bn⟩
            have o4 := o4.below bn
            have bb := below_step bb bn
            have op := op.below bn
            clear bn
            clear hbk hq
            go_wp2_with fail
            refine (alive_any _).mono ?_
            rintro e wz ⟨rfl, bn⟩
            have bb := below_step bb bn
            go_wp2
            go_ret
            exact ⟨rfl, bb⟩
set_option maxRecDepth 100000 in
theorem lifted (os : Os) (started : os.Started) (H : Type) (enc : TypeId × Value → H) :
    ReturnsInHanded {} Try.checked os 4 .any (Rows.fnBorderSidesSpec.pre6 enc Try.prog Try.f4 Rows.fnBorderSidesRow.domain false) (Rows.fnBorderSidesSpec.post enc Try.prog Try.f4 false true false false) := by
  refine returnsInHanded_of_change (C := Try.checked) own started (by kernel_rfl) Try.func4
    (ChangeSpec.witness6 (enc := enc) (C := Try.checked) false ⟨#[], #[.slice none 0 0], []⟩ 8 (by kernel_rfl) (by kernel_rfl) (by kernel_rfl) (by kernel_rfl)) ?_
  intro W base args ds gs before hval0 hW _ _
  have hval : ∀ (j : Nat) t v, Try.f4.params[j]? = some t → args[j]? = some v → Value.okWide Try.prog W .any base t v := hval0
  have hW' := hW
  obtain ⟨p, q, hA0, hV, rfl, _, _⟩ := hW
  have hA : DataW.TrodAll enc Try.prog W 0 (fun _ => true) true Try.f4.params.toList args.toList ds p := hA0
  rw [Try.params4] at hA hval
  obtain ⟨v0, d0, rfl, rfl, h0⟩ := trodAll_one hA
  obtain ⟨rfl, rfl⟩ := trodVars_none hV
  clear hA0 hval0
  simp only [List.append_nil] at hW'
  have hlt : ∀ x ∈ p, x.block < W.heap.size := fun x hx => by simpa using hW'.lt x hx
  have r0 := open_bytes (hval 0 22 v0 rfl rfl) h0 hlt
  obtain ⟨⟨bA, bn, bc⟩, rfl, rb, rn, rc⟩ := r0
  simp only at rb rn rc
  refine (walk bA bn bc W rb rn rc).mono fun e W' hg => ?_
  obtain ⟨he, hb⟩ := hg
  subst he
  exact ⟨_, rfl, _, _, _, [], p, [], hW', trodAll_mk1 (shut_bool Try.underlying4 _), trodAll_mk1 (kept_arg (by kernel_rfl) (of_decide_eq_true (by kernel_rfl)) h0 hb hlt), rfl, hb.frame _, fun h => by cases h⟩

theorem holds : Rows.FnBorderSidesSaid :=
  OpenClaim.holds_of_wide 4 Try.f4 rfl rfl rfl rfl rfl rfl rfl ⟨rfl, rfl, rfl, rfl, rfl⟩ rfl rfl rfl rfl rfl (by kernel_rfl) Try.func4 (by kernel_rfl)
    (of_decide_eq_true (by kernel_rfl)) (by unfold Func.isWrapper; first | (rw [if_pos (by decide +kernel)]; kernel_rfl) | (rw [if_neg (by decide +kernel)]; exact ⟨rfl, rfl⟩))
    (fun os started H enc _ => lifted os started H enc)
end Go.Proofs.Ytbbeinhjkfjipaa.fnBorderSides
