/-
  Proved: the law of FarFrom (FnFarFrom) returns true for every code, and the code reads afterwards as it read before. No conditions.
-/
import Derived.Test.YtfofmfkdkihhbaaDraws4
import Derived.Test.YtfofmfkdkihhbaaBallT
import Derived.Test.YtfofmfkdkihhbaaBallI
import Derived.Test.YtfofmfkdkihhbaaHas2
import Derived.Test.YtfofmfkdkihhbaaOpen
namespace Go.Proofs.Ytfofmfkdkihhbaa.fnFarFrom
open Go.ChangeShapes Go.WideShapes Go.ChangeAt Go.RowKit

theorem impl_lit {n : Int} {p : List Sp} {v : Value} {x y way : Int} {w : World} (hk : farFromI p (x, y) way = n) (h : Reads w w.heap.size v p) : Calls Try.prog 37 #[v, .agg #[.int .i64 x, .int .i64 y], .int .i64 way] w (Gives (.int .i64 n) w) := by
  subst hk; exact implFarFrom_any p v x y way w h
theorem spec_lit {n : Int} {p : List Sp} {v : Value} {x y way : Int} {w : World} (hk : farFromI p (x, y) way = n) (h : Reads w w.heap.size v p) : Calls Try.prog 38 #[v, .agg #[.int .i64 x, .int .i64 y], .int .i64 way] w (Gives (.int .i64 n) w) := by
  subst hk; exact specFarFrom_any p v x y way w h
theorem has_lit {b : Bool} {p : List Sp} {v : Value} {x y : Int} {w : World} (hk : hasB p (x, y) = b) (h : Reads w w.heap.size v p) : Calls Try.prog 12 #[v, .agg #[.int .i64 x, .int .i64 y]] w (Gives (.bool b) w) := by
  subst hk; exact implHas_any p v x y w h
theorem far_le {p : List Sp} {a : Sp} {way : Int} (h : farOk p a way = true) : farFromI p a way ≤ 1000 := by
  obtain ⟨b, hb, e⟩ := (farFrom_is h).some'
  have k := farOk_is h
  have := distI_le (a := a) (b := b) (way := way)
  rw [dist_yes k.pa (pic_one k.pp b hb) k.pw] at this
  omega
/-- it is 0 exactly for spots of the picture -/
theorem zero_has {p : List Sp} {a : Sp} {way : Int} (h : farOk p a way = true) : hasB p a = (farFromI p a way == 0) := by
  have k := farOk_is h
  rw [hasB_yes k.pp, Bool.eq_iff_iff, decide_eq_true_eq, beq_iff_eq]
  exact (farFrom_zero h).symm
set_option maxHeartbeats 1600000 in
theorem walk (A : Option Addr) (n c : Nat) (w : World) (hb : Bytes w w.heap.size A n) (hn : n ≤ c) (hc : c ≤ 9223372036854775807) :
    Calls Try.prog 9 #[.slice A n c] w (Gives (.bool true) w) := by
  by_cases hbig : 1048576 < n
  · go_enter Try.func9, Try.ntmps9
    go_wp2
    go_ret
    exact ⟨rfl, Below.refl _ _⟩
  · go_enter Try.func9, Try.ntmps9
    go_wp2_with fail
    refine (drawFarFrom_any A n c _ hb hn hc).mono ?_
    rintro e w1 ⟨v, ps, x, y, way, rfl, op, hl, ⟨hx1, hx2, hy1, hy2⟩, hw, bb⟩
    have b2 := box_below w1 #[.int .i64 x, .int .i64 y] 25
    have bb := below_step bb b2
    have op := op.below b2
    have c0 : (w1.alloc (.cells #[.int .i64 x, .int .i64 y] 25)).cell? ⟨w1.heap.size, 0, none⟩ = some (.int .i64 x) := by simp [go_sem]
    have c1 : (w1.alloc (.cells #[.int .i64 x, .int .i64 y] 25)).cell? ⟨w1.heap.size, 1, none⟩ = some (.int .i64 y) := by simp [go_sem]
    have t0 : w1.heap.size < (w1.alloc (.cells #[.int .i64 x, .int .i64 y] 25)).heap.size := by simp
    clear b2 hb hn hc
    obtain ⟨m, hm⟩ : ∃ m, farFromI ps (x, y) way = m := ⟨_, rfl⟩
    have HN := Lib.hid hm
    obtain ⟨Ap, cp, rfl, _, _⟩ := op.reads.slice
    rcases hk : farOk ps (x, y) way with _ | _
    · have hm1 : farFromI ps (x, y) way = -1 := farFrom_no hk
      have HN := Lib.hid hm1
      clear hk hm hm1
      go_wp2_with fail
      refine (impl_lit HN.out op.reads).mono ?_
      rintro e w3 ⟨rfl, bn⟩
      have bb := below_step bb bn
      have c0 := (bn.cell (p := ⟨w1.heap.size, 0, none⟩) t0).trans c0
      have c1 := (bn.cell (p := ⟨w1.heap.size, 1, none⟩) t0).trans c1
      have t0 := Nat.lt_of_lt_of_le t0 bn.size
      have op := op.below bn
      clear bn
      go_wp2_with fail
      refine (spec_lit HN.out op.reads).mono ?_
      rintro e w4 ⟨rfl, bn⟩
      have bb := below_step bb bn
      clear c0 c1 bn
      go_wp2_with fail
      refine (alive_any _).mono ?_
      rintro e w5 ⟨rfl, bn⟩
      have bb := below_step bb bn
      go_wp2
      go_ret
      exact ⟨rfl, bb⟩
    · have h0 : 0 ≤ m := by rw [← hm]; exact farFrom_nonneg hk
      have h9 : m ≤ 1000 := by rw [← hm]; exact far_le hk
      have hd : decide (m < 0) = false := decide_eq_false (by omega)
      obtain ⟨z, hz⟩ : ∃ z, (m == 0) = z := ⟨_, rfl⟩
      have hh : hasB ps (x, y) = z := by rw [zero_has hk, hm, hz]
      have HZ := Lib.hid hz
      have HH := Lib.hid hh
      have HK := Lib.hid hk
      clear hm hz hh hk
      go_wp2_with fail
      refine (impl_lit HN.out op.reads).mono ?_
      rintro e w3 ⟨rfl, bn⟩
      have bb := below_step bb bn
      have c0 := (bn.cell (p := ⟨w1.heap.size, 0, none⟩) t0).trans c0
      have c1 := (bn.cell (p := ⟨w1.heap.size, 1, none⟩) t0).trans c1
      have t0 := Nat.lt_of_lt_of_le t0 bn.size
      have op := op.below bn
      clear bn
      go_wp2_with fail
      refine (spec_lit HN.out op.reads).mono ?_
      rintro e w4 ⟨rfl, bn⟩
      have bb := below_step bb bn
      have c0 := (bn.cell (p := ⟨w1.heap.size, 0, none⟩) t0).trans c0
      have c1 := (bn.cell (p := ⟨w1.heap.size, 1, none⟩) t0).trans c1
      have t0 := Nat.lt_of_lt_of_le t0 bn.size
      have op := op.below bn
      clear bn
      rcases hk2 : farOk ps (x + 1, y) way with _ | _
      · have HM := Lib.hid (farFrom_no hk2)
        clear hk2
        go_wp2_with fail
        refine (impl_lit HM.out op.reads).mono ?_
        rintro e w5 ⟨rfl, bn⟩
        have bb := below_step bb bn
        have c0 := (bn.cell (p := ⟨w1.heap.size, 0, none⟩) t0).trans c0
        have c1 := (bn.cell (p := ⟨w1.heap.size, 1, none⟩) t0).trans c1
        have t0 := Nat.lt_of_lt_of_le t0 bn.size
        have op := op.below bn
        clear bn
        have hz := HZ.out
        go_wp2_with fail
        refine (has_lit HH.out op.reads).mono ?_
        rintro e w6 ⟨rfl, bn⟩
        have bb := below_step bb bn
        clear c0 c1 bn
        go_wp2_with fail
        refine (alive_any _).mono ?_
        rintro e w7 ⟨rfl, bn⟩
        have bb := below_step bb bn
        go_wp2
        go_ret
        exact ⟨rfl, bb⟩
      · obtain ⟨m2, hm2⟩ : ∃ m2, farFromI ps (x + 1, y) way = m2 := ⟨_, rfl⟩
        have HM := Lib.hid hm2
        have hs := farFrom_step HK.out hk2 (far_right (x, y) way)
        rw [HN.out, hm2] at hs
        have g0 : 0 ≤ m2 := by rw [← hm2]; exact farFrom_nonneg hk2
        have gd : decide (m2 < 0) = false := decide_eq_false (by omega)
        obtain ⟨hs1, hs2⟩ := hs
        have hs3 : m ≤ m2 + 1 := by omega
        clear hm2 hk2
        go_wp2_with fail
        refine (impl_lit HM.out op.reads).mono ?_
        rintro e w5 ⟨rfl, bn⟩
        have bb := below_step bb bn
        have c0 := (bn.cell (p := ⟨w1.heap.size, 0, none⟩) t0).trans c0
        have c1 := (bn.cell (p := ⟨w1.heap.size, 1, none⟩) t0).trans c1
        have t0 := Nat.lt_of_lt_of_le t0 bn.size
        have op := op.below bn
        clear bn
        have hz := HZ.out
        go_wp2_with fail
        refine (has_lit HH.out op.reads).mono ?_
        rintro e w6 ⟨rfl, bn⟩
        have bb := below_step bb bn
        clear c0 c1 bn
        go_wp2_with fail
        refine (alive_any _).mono ?_
        rintro e w7 ⟨rfl, bn⟩
        have bb := below_step bb bn
        go_wp2
        go_ret
        exact ⟨rfl, bb⟩
set_option maxRecDepth 100000 in
theorem lifted (os : Os) (started : os.Started) (H : Type) (enc : TypeId × Value → H) :
    ReturnsInHanded {} Try.checked os 9 .any (Rows.fnFarFromSpec.pre6 enc Try.prog Try.f9 Rows.fnFarFromRow.domain false) (Rows.fnFarFromSpec.post enc Try.prog Try.f9 false true false false) := by
  refine returnsInHanded_of_change (C := Try.checked) own started (by kernel_rfl) Try.func9
    (ChangeSpec.witness6 (enc := enc) (C := Try.checked) false ⟨#[], #[.slice none 0 0], []⟩ 8 (by kernel_rfl) (by kernel_rfl) (by kernel_rfl) (by kernel_rfl)) ?_
  intro W base args ds gs before hval0 hW _ _
  have hval : ∀ (j : Nat) t v, Try.f9.params[j]? = some t → args[j]? = some v → Value.okWide Try.prog W .any base t v := hval0
  have hW' := hW
  obtain ⟨p, q, hA0, hV, rfl, _, _⟩ := hW
  have hA : DataW.TrodAll enc Try.prog W 0 (fun _ => true) true Try.f9.params.toList args.toList ds p := hA0
  rw [Try.params9] at hA hval
  obtain ⟨v0, d0, rfl, rfl, h0⟩ := trodAll_one hA
  obtain ⟨rfl, rfl⟩ := trodVars_none hV
  clear hA0 hval0
  simp only [List.append_nil] at hW'
  have hlt : ∀ x ∈ p, x.block < W.heap.size := fun x hx => by simpa using hW'.lt x hx
  have r0 := open_bytes (hval 0 22 v0 rfl rfl) h0 hlt
  obtain ⟨⟨bA, bn, bc⟩, rfl, rb, rn, rc⟩ := r0
  simp only at rb rn rc
  refine (walk bA bn bc W rb rn rc).mono fun e W' hg => ?_
  obtain ⟨he, hb⟩ := hg
  subst he
  exact ⟨_, rfl, _, _, _, [], p, [], hW', trodAll_mk1 (shut_bool Try.underlying4 _), trodAll_mk1 (kept_arg (by kernel_rfl) (of_decide_eq_true (by kernel_rfl)) h0 hb hlt), rfl, hb.frame _, fun h => by cases h⟩

theorem holds : Rows.FnFarFromSaid :=
  OpenClaim.holds_of_wide 9 Try.f9 rfl rfl rfl rfl rfl rfl rfl ⟨rfl, rfl, rfl, rfl, rfl⟩ rfl rfl rfl rfl rfl (by kernel_rfl) Try.func9 (by kernel_rfl)
    (of_decide_eq_true (by kernel_rfl)) (by unfold Func.isWrapper; first | (rw [if_pos (by decide +kernel)]; kernel_rfl) | (rw [if_neg (by decide +kernel)]; exact ⟨rfl, rfl⟩))
    (fun os started H enc _ => lifted os started H enc)
end Go.Proofs.Ytfofmfkdkihhbaa.fnFarFrom
