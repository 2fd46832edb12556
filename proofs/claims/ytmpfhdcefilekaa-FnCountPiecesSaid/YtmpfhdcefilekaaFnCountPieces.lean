/-
  Proved: the law of CountPieces (FnCountPieces) returns true for every code, and the code reads afterwards as it read before. No conditions.
-/
import Derived.Test.YtmpfhdcefilekaaDraws7
import Derived.Test.YtmpfhdcefilekaaPieceS
import Derived.Test.YtmpfhdcefilekaaJoinI
import Derived.Test.YtmpfhdcefilekaaLaw7
import Derived.Test.YtmpfhdcefilekaaTurn
import Derived.Test.YtmpfhdcefilekaaOpen
namespace Go.Proofs.Ytmpfhdcefilekaa.fnCountPieces
open Go.ChangeShapes Go.WideShapes Go.ChangeAt Go.RowKit

theorem impl_lit {n : Int} {e : Bool} {ps : List Sp} {v : Value} {w : World} (hk : countR e ps = n) (h : Reads w w.heap.size v ps) : Calls Try.prog 26 #[v, .bool e] w (Gives (.int .i64 n) w) := by
  subst hk; exact implCount7_any e ps v w h
theorem spec_lit {n : Int} {e : Bool} {ps : List Sp} {v : Value} {w : World} (hk : countR e ps = n) (h : Reads w w.heap.size v ps) : Calls Try.prog 27 #[v, .bool e] w (Gives (.int .i64 n) w) := by
  subst hk; exact specCount7_any e ps v w h
set_option maxRecDepth 100000 in
set_option maxHeartbeats 1600000 in
theorem walk (A : Option Addr) (n c : Nat) (w : World) (hb : Bytes w w.heap.size A n) (hn : n ≤ c) (hc : c ≤ 9223372036854775807) :
    Calls Try.prog 5 #[.slice A n c] w (Gives (.bool true) w) := by
  by_cases hbig : 1048576 < n
  · go_enter Try.func5, Try.ntmps5
    go_wp2
    go_ret
    exact ⟨rfl, Below.refl _ _⟩
  · go_enter Try.func5, Try.ntmps5
    go_wp2_with fail
    refine (drawCountPieces_any A n c _ hb hn hc).mono ?_
    rintro e w1 ⟨v, ps, b, rfl, op, hpl, bb⟩
    obtain ⟨Ap, cp, rfl, _, _⟩ := op.reads.slice
    clear hb hn hc
    obtain ⟨N, hN⟩ : ∃ N, countR b ps = N := ⟨_, rfl⟩
    have HN := Lib.hid hN
    clear hN
    go_wp2_with fail
    refine (impl_lit HN.out op.reads).mono ?_
    rintro e w2 ⟨rfl, bn⟩
    have bb := below_step bb bn
    have op := op.below bn
    clear bn
    go_wp2_with fail
    refine (spec_lit HN.out op.reads).mono ?_
    rintro e w3 ⟨rfl, bn⟩
    have bb := below_step bb bn
    have op := op.below bn
    clear bn
    have hne : ((N != N)) = false := by simp
    rcases hp : picB ps with _ | _
    · have hM : N = -1 := by rw [← HN.out, countR_no hp]
      subst hM
      clear hp
      go_wp2_with fail
      refine (alive_any _).mono ?_
      rintro e w4 ⟨rfl, bn⟩
      have bb := below_step bb bn
      go_wp2
      go_ret
      exact ⟨rfl, bb⟩
    · have h0 : 0 ≤ N := by rw [← HN.out]; exact count7_nonneg hp
      have hlt : decide (N < 0) = false := decide_eq_false (by omega)
      obtain ⟨T, hT⟩ : ∃ T, countR true ps = T := ⟨_, rfl⟩
      obtain ⟨F, hF⟩ : ∃ F, countR false ps = F := ⟨_, rfl⟩
      have hle : T ≤ F := by rw [← hT, ← hF]; exact count7_le hp
      have hled : decide (T ≤ F) = true := decide_eq_true hle
      have HT := Lib.hid hT
      have HF := Lib.hid hF
      have htp : turnedP ps = turned ps := turnedP_yes hp
      have HTT := Lib.hid (show countR b (turned ps) = N by rw [count7_turned hp]; exact HN.out)
      have hz : (N == 0) = ((ps.length : Int) == 0) := by
        have := count7_zero (e := b) hp
        rw [HN.out] at this
        rw [Bool.eq_iff_iff, beq_iff_eq, beq_iff_eq, this]
        omega
      obtain ⟨Z, hZ⟩ : ∃ Z, ((ps.length : Int) == 0) = Z := ⟨_, rfl⟩
      rw [hZ] at hz
      have HTP := Lib.hid htp
      clear hT hF htp hp
      go_wp2_with fail
      refine (impl_lit HT.out op.reads).mono ?_
      rintro e w4 ⟨rfl, bn⟩
      have bb := below_step bb bn
      have op := op.below bn
      clear bn
      go_wp2_with fail
      refine (impl_lit HF.out op.reads).mono ?_
      rintro e w5 ⟨rfl, bn⟩
      have bb := below_step bb bn
      have op := op.below bn
      clear bn
      go_wp2_with fail
      refine (implTurned_any ps _ _ op.reads).mono ?_
      rintro e w6 ⟨vt, rfl, ot, bn⟩
      have bb := below_step bb bn
      have op := op.below bn
      clear bn
      rw [HTP.out] at ot
      go_wp2_with fail
      refine (impl_lit HTT.out ot.reads).mono ?_
      rintro e w7 ⟨rfl, bn⟩
      have bb := below_step bb bn
      have op := op.below bn
      clear bn
      go_wp2_with fail
      refine (alive_any _).mono ?_
      rintro e w8 ⟨rfl, bn⟩
      have bb := below_step bb bn
      go_wp2
      go_ret
      exact ⟨ret_bool (by simp [*]), bb⟩
set_option maxRecDepth 100000 in
theorem lifted (os : Os) (started : os.Started) (H : Type) (enc : TypeId × Value → H) :
    ReturnsInHanded {} Try.checked os 5 .any (Rows.fnCountPiecesSpec.pre6 enc Try.prog Try.f5 Rows.fnCountPiecesRow.domain false) (Rows.fnCountPiecesSpec.post enc Try.prog Try.f5 false true false false) := by
  refine returnsInHanded_of_change (C := Try.checked) own started (by kernel_rfl) Try.func5
    (ChangeSpec.witness6 (enc := enc) (C := Try.checked) false ⟨#[], #[.slice none 0 0], []⟩ 8 (by kernel_rfl) (by kernel_rfl) (by kernel_rfl) (by kernel_rfl)) ?_
  intro W base args ds gs before hval0 hW _ _
  have hval : ∀ (j : Nat) t v, Try.f5.params[j]? = some t → args[j]? = some v → Value.okWide Try.prog W .any base t v := hval0
  have hW' := hW
  obtain ⟨p, q, hA0, hV, rfl, _, _⟩ := hW
  have hA : DataW.TrodAll enc Try.prog W 0 (fun _ => true) true Try.f5.params.toList args.toList ds p := hA0
  rw [Try.params5] at hA hval
  obtain ⟨v0, d0, rfl, rfl, h0⟩ := trodAll_one hA
  obtain ⟨rfl, rfl⟩ := trodVars_none hV
  clear hA0 hval0
  simp only [List.append_nil] at hW'
  have hlt : ∀ x ∈ p, x.block < W.heap.size := fun x hx => by simpa using hW'.lt x hx
  have r0 := open_bytes (hval 0 22 v0 rfl rfl) h0 hlt
  obtain ⟨⟨bA, bn, bc⟩, rfl, rb, rn, rc⟩ := r0
  simp only at rb rn rc
  refine (walk bA bn bc W rb rn rc).mono fun e W' hg => ?_
  obtain ⟨he, hb⟩ := hg
  subst he
  exact ⟨_, rfl, _, _, _, [], p, [], hW', trodAll_mk1 (shut_bool Try.underlying4 _), trodAll_mk1 (kept_arg (by kernel_rfl) (of_decide_eq_true (by kernel_rfl)) h0 hb hlt), rfl, hb.frame _, fun h => by cases h⟩

theorem holds : Rows.FnCountPiecesSaid :=
  OpenClaim.holds_of_wide 5 Try.f5 rfl rfl rfl rfl rfl rfl rfl ⟨rfl, rfl, rfl, rfl, rfl⟩ rfl rfl rfl rfl rfl (by kernel_rfl) Try.func5 (by kernel_rfl)
    (of_decide_eq_true (by kernel_rfl)) (by unfold Func.isWrapper; first | (rw [if_pos (by decide +kernel)]; kernel_rfl) | (rw [if_neg (by decide +kernel)]; exact ⟨rfl, rfl⟩))
    (fun os started H enc _ => lifted os started H enc)
end Go.Proofs.Ytmpfhdcefilekaa.fnCountPieces
