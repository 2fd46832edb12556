/-
  Proved: the law of FitsAt (FnFitsAt) returns true for every code, and the code reads afterwards as it read before. No conditions.
-/
import Derived.Test.YtfofmfkdkihhbabDraws3
import Derived.Test.YtfofmfkdkihhbabShrinkQ
import Derived.Test.YtfofmfkdkihhbabShrinkI
import Derived.Test.YtfofmfkdkihhbabOpen
namespace Go.Proofs.Ytfofmfkdkihhbab.fnFitsAt
open Go.ChangeShapes Go.WideShapes Go.ChangeAt Go.RowKit

theorem impl_is {b : Bool} {p q : List Sp} {v u : Value} {x y : Int} {w : World} (hk : fitsB p q (x, y) = b) (h : Reads w w.heap.size v p) (k : Reads w w.heap.size u q) : Calls Try.prog 32 #[v, u, .agg #[.int .i64 x, .int .i64 y]] w (Gives (.bool b) w) := by
  subst hk; exact implFits_any p q v u x y w h k
theorem spec_is {b : Bool} {p q : List Sp} {v u : Value} {x y : Int} {w : World} (hk : fitsB p q (x, y) = b) (h : Reads w w.heap.size v p) (k : Reads w w.heap.size u q) : Calls Try.prog 33 #[v, u, .agg #[.int .i64 x, .int .i64 y]] w (Gives (.bool b) w) := by
  subst hk; exact specFits_any p q v u x y w h k
theorem move_is {b : Bool} {p : List Sp} {v : Value} {x y : Int} {w : World} (hk : moveOk p (x, y) = b) (h : Reads w w.heap.size v p) : Calls Try.prog 34 #[v, .agg #[.int .i64 x, .int .i64 y]] w (Gives2' (moveL p (x, y)) b w) := by
  subst hk; exact implMoved_any p v x y w h
set_option maxHeartbeats 1600000 in
theorem walk (A : Option Addr) (n c : Nat) (w : World) (hb : Bytes w w.heap.size A n) (hn : n ≤ c) (hc : c ≤ 9223372036854775807) :
    Calls Try.prog 9 #[.slice A n c] w (Gives (.bool true) w) := by
  by_cases hbig : 1048576 < n
  · go_enter Try.func9, Try.ntmps9
    go_wp2
    go_ret
    exact ⟨rfl, Below.refl _ _⟩
  · go_enter Try.func9, Try.ntmps9
    go_wp2_with fail
    refine (drawFitsAt_any A n c _ hb hn hc).mono ?_
    rintro e w1 ⟨vp, ps, vq, qs, x, y, rfl, Dp, Dq, hx1, hx2, hy1, hy2⟩
    have b1 := Dp.below
    have rp := Dp.own.reads
    have rq := Dq.own.reads
    obtain ⟨Ap, cp, rfl, hcp, hmp⟩ := rp.slice
    obtain ⟨Aq, cq, rfl, hcq, hmq⟩ := rq.slice
    unfold maxLen at hmp hmq
    clear Dp Dq
    have hbW : Below w1.heap.size w1 (w1.alloc (.cells #[.int .i64 x, .int .i64 y] 32)) := box_below w1 _ _
    have hsz : w1.heap.size < (w1.alloc (.cells #[.int .i64 x, .int .i64 y] 32)).heap.size := by simp
    have c0 : (w1.alloc (.cells #[.int .i64 x, .int .i64 y] 32)).cell? ⟨w1.heap.size, 0, none⟩ = some (.int .i64 x) := by simp [go_sem]
    have c1 : (w1.alloc (.cells #[.int .i64 x, .int .i64 y] 32)).cell? ⟨w1.heap.size, 1, none⟩ = some (.int .i64 y) := by simp [go_sem]
    rcases hf : fitsB ps qs (x, y) with _ | _
    all_goals
      go_wp2_with fail
      refine (impl_is hf (rp.kept hbW) (rq.kept hbW)).mono ?_
      rintro e w2 ⟨rfl, b2⟩
      have bb2 := below_step hbW b2
      have c0 := ((b2).cell (p := ⟨w1.heap.size, 0, none⟩) hsz).trans c0
      have c1 := ((b2).cell (p := ⟨w1.heap.size, 1, none⟩) hsz).trans c1
      have hsz := Nat.lt_of_lt_of_le hsz (b2).size
      go_wp2_with fail
      refine (spec_is hf (rp.kept bb2) (rq.kept bb2)).mono ?_
      rintro e w3 ⟨rfl, b3⟩
      have bb3 := below_step bb2 b3
      have c0 := ((b3).cell (p := ⟨w1.heap.size, 0, none⟩) hsz).trans c0
      have c1 := ((b3).cell (p := ⟨w1.heap.size, 1, none⟩) hsz).trans c1
      have hsz := Nat.lt_of_lt_of_le hsz (b3).size
      rcases hk : shrinkOk ps qs with _ | _
      all_goals
        go_wp2_with fail
        refine (specShrunk_is hk (rp.kept bb3) (rq.kept bb3)).mono ?_
        rintro e w4 ⟨vx, rfl, _, b4⟩
        have bb4 := below_step bb3 b4
        have c0 := ((b4).cell (p := ⟨w1.heap.size, 0, none⟩) hsz).trans c0
        have c1 := ((b4).cell (p := ⟨w1.heap.size, 1, none⟩) hsz).trans c1
        have hsz := Nat.lt_of_lt_of_le hsz (b4).size
        clear b2 b3 b4 hbW
    · clear hk
      go_wp2_with fail
      refine (alive_any _).mono ?_
      rintro e wz ⟨rfl, bz⟩
      go_wp2
      go_ret
      exact ⟨rfl, below_step b1 (below_step bb4 bz)⟩
    rotate_left
    · rw [fits_no hk] at hf; exact absurd hf Bool.false_ne_true
    rotate_left
    all_goals
      rcases hm : moveOk qs (x, y) with _ | _
      all_goals
        first
          | have HI := Lib.hid ((fits_in hk hm).symm.trans hf)
          | have HI := trivial
        go_wp2_with fail
        refine (move_is hm (rq.kept bb4)).mono ?_
        rintro e w5 ⟨vm, rfl, om, b5⟩
        have bb5 := below_step bb4 b5
        clear hk hf b5
      · clear hm HI
        go_wp2_with fail
        refine (alive_any _).mono ?_
        rintro e wz ⟨rfl, bz⟩
        go_wp2
        go_ret
        exact ⟨rfl, below_step b1 (below_step bb5 bz)⟩
      · clear hm
        go_wp2_with fail
        refine (gives_is HI.out (implWithin_any _ _ _ _ _ om.reads (rp.kept bb5))).mono ?_
        rintro e w6 ⟨rfl, b6⟩
        have bb6 := below_step bb5 b6
        go_wp2_with fail
        refine (alive_any _).mono ?_
        rintro e wz ⟨rfl, bz⟩
        go_wp2
        go_ret
        exact ⟨rfl, below_step b1 (below_step bb6 bz)⟩
set_option maxRecDepth 100000 in
theorem lifted (os : Os) (started : os.Started) (H : Type) (enc : TypeId × Value → H) :
    ReturnsInHanded {} Try.checked os 9 .any (Rows.fnFitsAtSpec.pre6 enc Try.prog Try.f9 Rows.fnFitsAtRow.domain false) (Rows.fnFitsAtSpec.post enc Try.prog Try.f9 false true false false) := by
  refine returnsInHanded_of_change (C := Try.checked) own started (by kernel_rfl) Try.func9
    (ChangeSpec.witness6 (enc := enc) (C := Try.checked) false ⟨#[], #[.slice none 0 0], []⟩ 8 (by kernel_rfl) (by kernel_rfl) (by kernel_rfl) (by kernel_rfl)) ?_
  intro W base args ds gs before hval0 hW _ _
  have hval : ∀ (j : Nat) t v, Try.f9.params[j]? = some t → args[j]? = some v → Value.okWide Try.prog W .any base t v := hval0
  have hW' := hW
  obtain ⟨p, q, hA0, hV, rfl, _, _⟩ := hW
  have hA : DataW.TrodAll enc Try.prog W 0 (fun _ => true) true Try.f9.params.toList args.toList ds p := hA0
  rw [Try.params9] at hA hval
  obtain ⟨v0, d0, rfl, rfl, h0⟩ := trodAll_one hA
  obtain ⟨rfl, rfl⟩ := trodVars_none hV
  clear hA0 hval0
  simp only [List.append_nil] at hW'
  have hlt : ∀ x ∈ p, x.block < W.heap.size := fun x hx => by simpa using hW'.lt x hx
  have r0 := open_bytes (hval 0 22 v0 rfl rfl) h0 hlt
  obtain ⟨⟨bA, bn, bc⟩, rfl, rb, rn, rc⟩ := r0
  simp only at rb rn rc
  refine (walk bA bn bc W rb rn rc).mono fun e W' hg => ?_
  obtain ⟨he, hb⟩ := hg
  subst he
  exact ⟨_, rfl, _, _, _, [], p, [], hW', trodAll_mk1 (shut_bool Try.underlying4 _), trodAll_mk1 (kept_arg (by kernel_rfl) (of_decide_eq_true (by kernel_rfl)) h0 hb hlt), rfl, hb.frame _, fun h => by cases h⟩

theorem holds : Rows.FnFitsAtSaid :=
  OpenClaim.holds_of_wide 9 Try.f9 rfl rfl rfl rfl rfl rfl rfl ⟨rfl, rfl, rfl, rfl, rfl⟩ rfl rfl rfl rfl rfl (by kernel_rfl) Try.func9 (by kernel_rfl)
    (of_decide_eq_true (by kernel_rfl)) (by unfold Func.isWrapper; first | (rw [if_pos (by decide +kernel)]; kernel_rfl) | (rw [if_neg (by decide +kernel)]; exact ⟨rfl, rfl⟩))
    (fun os started H enc _ => lifted os started H enc)
end Go.Proofs.Ytfofmfkdkihhbab.fnFitsAt
