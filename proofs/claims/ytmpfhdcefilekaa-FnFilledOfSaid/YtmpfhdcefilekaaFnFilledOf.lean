/-
  Proved: the law of FilledOf (FnFilledOf) returns true for every code, and the code reads afterwards as it read before. No conditions.
-/
import Derived.Test.YtmpfhdcefilekaaDraws7
import Derived.Test.YtmpfhdcefilekaaFillS
import Derived.Test.YtmpfhdcefilekaaFillI
import Derived.Test.YtmpfhdcefilekaaJoinI
import Derived.Test.YtmpfhdcefilekaaBox
import Derived.Test.YtmpfhdcefilekaaReach
import Derived.Test.YtmpfhdcefilekaaOpen
namespace Go.Proofs.Ytmpfhdcefilekaa.fnFilledOf
open Go.ChangeShapes Go.WideShapes Go.ChangeAt Go.RowKit

theorem impl_lit {b : Bool} {r ps : List Sp} {v : Value} {w : World} (hk : fillOk ps = b) (hr : fillR ps = r) (h : Reads w w.heap.size v ps) : Calls Try.prog 34 #[v] w (Gives2' r b w) := by
  subst hk hr; exact implFilled_any ps v w h
theorem spec_lit {b : Bool} {r ps : List Sp} {v : Value} {w : World} (hk : fillOk ps = b) (hr : fillR ps = r) (h : Reads w w.heap.size v ps) (hl : ps.length ≤ 1100000) : Calls Try.prog 35 #[v] w (Gives2' r b w) := by
  subst hk hr; exact specFilled_any ps v w h hl
theorem holes_lit {ls : List (List Sp)} {ps : List Sp} {v : Value} {w : World} (hk : holesR ps = ls) (h : Reads w w.heap.size v ps) : Calls Try.prog 30 #[v] w (GivesParts ls w) := by
  subst hk; exact implHoles_any ps v w h
theorem count_lit {n : Int} {e : Bool} {ps : List Sp} {v : Value} {w : World} (hk : countR e ps = n) (h : Reads w w.heap.size v ps) : Calls Try.prog 26 #[v, .bool e] w (Gives (.int .i64 n) w) := by
  subst hk; exact implCount7_any e ps v w h
theorem within_lit {b : Bool} {p q : List Sp} {v u : Value} {w : World} (hk : withinB p q = b) (h : Reads w w.heap.size v p) (h' : Reads w w.heap.size u q) : Calls Try.prog 18 #[v, u] w (Gives (.bool b) w) := by
  subst hk; exact implWithin_any p q v u w h h'
theorem box_lit {b : Bool} {ps : List Sp} {lx ly gx gy : Int} {v : Value} {w : World} (hB : boxR ps = ((lx, ly), (gx, gy))) (hk : boxOk ps = b) (h : Reads w w.heap.size v ps) :
    Calls Try.prog 36 #[v] w fun e w' => e = .returned (.tuple #[.agg #[.int .i64 lx, .int .i64 ly], .agg #[.int .i64 gx, .int .i64 gy], .bool b]) ∧ Below w.heap.size w w' := by
  have c := implBox_any ps v w h
  rw [hB, hk] at c
  exact c
/-- what is asked of a filled picture -/
structure Filled7 (p s : List Sp) : Prop where
  win : withinB p s = true
  box : boxR s = boxR p
  holes : holesR s = []
  count : countR true s ≤ countR true p
theorem filled7 {p : List Sp} (h : fillOk p = true) : Filled7 p (fillR p) := by
  have hp : picB p = true := by unfold fillOk at h; rw [Bool.and_eq_true] at h; exact h.1
  have hf : picB (fillL p) = true := by rw [← fillOk_is hp]; exact h
  have hs := (picB_pic hp).2.2
  rw [fillR_yes hp hf]
  refine ⟨within7 hp hf fun x hx => mem_fillL.2 (.inl hx), ?_, ?_, ?_⟩
  · by_cases h0 : p = []
    · subst h0
      rfl
    · have e1 : boxOk p = true := by unfold boxOk; rw [hp]; simpa using h0
      have e2 : boxOk (fillL p) = true := by unfold boxOk; rw [hf]; simpa using fill_some h0
      unfold boxR
      rw [e1, e2, if_pos rfl, if_pos rfl, fill_boxL h0]
  · rw [holesR_yes hf, fill_holes hs]
  · unfold countR
    rw [hp, hf, if_pos rfl, if_pos rfl]
    have := fill_count hs
    omega
set_option maxRecDepth 100000 in
set_option maxHeartbeats 1600000 in
theorem walk (A : Option Addr) (n c : Nat) (w : World) (hb : Bytes w w.heap.size A n) (hn : n ≤ c) (hc : c ≤ 9223372036854775807) :
    Calls Try.prog 7 #[.slice A n c] w (Gives (.bool true) w) := by
  by_cases hbig : 1048576 < n
  · go_enter Try.func7, Try.ntmps7
    go_wp2
    go_ret
    exact ⟨rfl, Below.refl _ _⟩
  · go_enter Try.func7, Try.ntmps7
    go_wp2_with fail
    refine (drawFilledOf_any A n c _ hb hn hc).mono ?_
    rintro e w1 ⟨v, ps, rfl, op, hpl, bb⟩
    obtain ⟨Ap, cp, rfl, _, _⟩ := op.reads.slice
    clear hb hn hc
    rcases hf : fillOk ps with _ | _
    · have hr : fillR ps = [] := by unfold fillR; rw [hf]; rfl
      have HF := Lib.hid (And.intro hf hr)
      clear hf hr
      go_wp2_with fail
      refine (impl_lit HF.out.1 HF.out.2 op.reads).mono ?_
      rintro e w2 ⟨vs, rfl, os, bn⟩
      have bb := below_step bb bn
      have op := op.below bn
      go_wp2_with fail
      refine (spec_lit HF.out.1 HF.out.2 op.reads (by omega)).mono ?_
      rintro e w3 ⟨vx, rfl, ox, bn⟩
      have bb := below_step bb bn
      have os := os.below bn
      obtain ⟨As, cs, rfl, _, _⟩ := os.reads.slice
      go_wp2_with fail
      refine (gives_is (show decide (([] : List Sp) = []) = true by simp) (sameSpots_any _ _ _ _ _ os.reads ox.reads)).mono ?_
      rintro e w4 ⟨rfl, bn⟩
      have bb := below_step bb bn
      clear bn os ox op
      have hnil : ([] : List Sp).length = 0 := rfl
      go_wp2_with fail
      refine (alive_any _).mono ?_
      rintro e w5 ⟨rfl, bn⟩
      have bb := below_step bb bn
      go_wp2
      go_ret
      exact ⟨rfl, bb⟩
    · have h7 := filled7 hf
      obtain ⟨s, hs⟩ : ∃ s, fillR ps = s := ⟨_, rfl⟩
      rw [hs] at h7
      have HF := Lib.hid (And.intro hf hs)
      obtain ⟨lx, ly, gx, gy, hB⟩ : ∃ lx ly gx gy, boxR ps = ((lx, ly), (gx, gy)) := ⟨_, _, _, _, rfl⟩
      obtain ⟨cs', hcs⟩ : ∃ z, countR true s = z := ⟨_, rfl⟩
      obtain ⟨cp', hcp⟩ : ∃ z, countR true ps = z := ⟨_, rfl⟩
      have hle : cs' ≤ cp' := by rw [← hcs, ← hcp]; exact h7.count
      have HB := Lib.hid (And.intro hB (h7.box.trans hB))
      have HC := Lib.hid (And.intro hcs hcp)
      have HW := Lib.hid h7.win
      have HH := Lib.hid h7.holes
      have hled : decide (cs' ≤ cp') = true := decide_eq_true hle
      clear hf hs hB hcs hcp h7 hle
      go_wp2_with fail
      refine (impl_lit HF.out.1 HF.out.2 op.reads).mono ?_
      rintro e w2 ⟨vs, rfl, os, bn⟩
      have bb := below_step bb bn
      have op := op.below bn
      go_wp2_with fail
      refine (spec_lit HF.out.1 HF.out.2 op.reads (by omega)).mono ?_
      rintro e w3 ⟨vx, rfl, ox, bn⟩
      have bb := below_step bb bn
      have op := op.below bn
      have os := os.below bn
      obtain ⟨As, cs, rfl, _, _⟩ := os.reads.slice
      go_wp2_with fail
      refine (gives_is (show decide (s = s) = true by simp) (sameSpots_any _ _ _ _ _ os.reads ox.reads)).mono ?_
      rintro e w4 ⟨rfl, bn⟩
      have bb := below_step bb bn
      have rp := (op.below bn).reads
      have rs := (os.below bn).reads
      clear bn os ox op
      go_wp2_with fail
      refine (box_lit HB.out.1 rfl rp).mono ?_
      rintro e w5 ⟨rfl, b5⟩
      have bb := below_step bb b5
      obtain ⟨W5, hW5, b05, s5, la, ga⟩ := two_boxes w5 (.int .i64 lx) (.int .i64 ly) (.int .i64 gx) (.int .i64 gy)
      have rp := (rp.kept b5).kept b05
      have rs := (rs.kept b5).kept b05
      have bb := below_step bb b05
      clear b5 b05
      go_wp2_with fail
      rw [← hW5]
      clear hW5
      refine (box_lit HB.out.2 rfl rs).mono ?_
      rintro e w6 ⟨rfl, b6⟩
      have bb := below_step bb b6
      obtain ⟨W6, hW6, b06, s6, lb, gb⟩ := two_boxes w6 (.int .i64 lx) (.int .i64 ly) (.int .i64 gx) (.int .i64 gy)
      have rp := (rp.kept b6).kept b06
      have rs := (rs.kept b6).kept b06
      have bb := below_step bb b06
      have hs6 := b6.size
      have la := (b06.block w5.heap.size (by omega)).trans ((b6.block w5.heap.size (by omega)).trans la)
      have ga := (b06.block (w5.heap.size + 1) (by omega)).trans ((b6.block (w5.heap.size + 1) (by omega)).trans ga)
      clear b6 b06
      go_wp2_with fail
      rw [← hW6]
      clear hW6
      refine (within_lit HW.out rp rs).mono ?_
      rintro e w7 ⟨rfl, b7⟩
      have bb := below_step bb b7
      have rp := rp.kept b7
      have rs := rs.kept b7
      obtain ⟨c0, c1⟩ := cells_of_row ((b7.block w5.heap.size (by omega)).trans la)
      obtain ⟨c2, c3⟩ := cells_of_row ((b7.block (w5.heap.size + 1) (by omega)).trans ga)
      obtain ⟨c4, c5⟩ := cells_of_row ((b7.block w6.heap.size (by omega)).trans lb)
      obtain ⟨c6, c7⟩ := cells_of_row ((b7.block (w6.heap.size + 1) (by omega)).trans gb)
      clear la ga lb gb b7
      go_wp2_with fail
      refine (holes_lit HH.out rs).mono ?_
      rintro e w8 ⟨vh, rfl, oh, bn⟩
      have bb := below_step bb bn
      have rp := rp.kept bn
      have rs := rs.kept bn
      obtain ⟨Ah, ch, rfl, _, _⟩ := oh.reads.slice
      have hnil : ([] : List (List Sp)).length = 0 := rfl
      clear bn oh c0 c1 c2 c3 c4 c5 c6 c7
      go_wp2_with fail
      refine (count_lit HC.out.1 rs).mono ?_
      rintro e w9 ⟨rfl, bn⟩
      have bb := below_step bb bn
      have rp := rp.kept bn
      clear bn rs
      go_wp2_with fail
      refine (count_lit HC.out.2 rp).mono ?_
      rintro e w10 ⟨rfl, bn⟩
      have bb := below_step bb bn
      clear bn rp
      go_wp2_with fail
      refine (alive_any _).mono ?_
      rintro e w11 ⟨rfl, bn⟩
      have bb := below_step bb bn
      go_wp2
      go_ret
      exact ⟨rfl, bb⟩
set_option maxRecDepth 100000 in
theorem lifted (os : Os) (started : os.Started) (H : Type) (enc : TypeId × Value → H) :
    ReturnsInHanded {} Try.checked os 7 .any (Rows.fnFilledOfSpec.pre6 enc Try.prog Try.f7 Rows.fnFilledOfRow.domain false) (Rows.fnFilledOfSpec.post enc Try.prog Try.f7 false true false false) := by
  refine returnsInHanded_of_change (C := Try.checked) own started (by kernel_rfl) Try.func7
    (ChangeSpec.witness6 (enc := enc) (C := Try.checked) false ⟨#[], #[.slice none 0 0], []⟩ 8 (by kernel_rfl) (by kernel_rfl) (by kernel_rfl) (by kernel_rfl)) ?_
  intro W base args ds gs before hval0 hW _ _
  have hval : ∀ (j : Nat) t v, Try.f7.params[j]? = some t → args[j]? = some v → Value.okWide Try.prog W .any base t v := hval0
  have hW' := hW
  obtain ⟨p, q, hA0, hV, rfl, _, _⟩ := hW
  have hA : DataW.TrodAll enc Try.prog W 0 (fun _ => true) true Try.f7.params.toList args.toList ds p := hA0
  rw [Try.params7] at hA hval
  obtain ⟨v0, d0, rfl, rfl, h0⟩ := trodAll_one hA
  obtain ⟨rfl, rfl⟩ := trodVars_none hV
  clear hA0 hval0
  simp only [List.append_nil] at hW'
  have hlt : ∀ x ∈ p, x.block < W.heap.size := fun x hx => by simpa using hW'.lt x hx
  have r0 := open_bytes (hval 0 22 v0 rfl rfl) h0 hlt
  obtain ⟨⟨bA, bn, bc⟩, rfl, rb, rn, rc⟩ := r0
  simp only at rb rn rc
  refine (walk bA bn bc W rb rn rc).mono fun e W' hg => ?_
  obtain ⟨he, hb⟩ := hg
  subst he
  exact ⟨_, rfl, _, _, _, [], p, [], hW', trodAll_mk1 (shut_bool Try.underlying4 _), trodAll_mk1 (kept_arg (by kernel_rfl) (of_decide_eq_true (by kernel_rfl)) h0 hb hlt), rfl, hb.frame _, fun h => by cases h⟩

theorem holds : Rows.FnFilledOfSaid :=
  OpenClaim.holds_of_wide 7 Try.f7 rfl rfl rfl rfl rfl rfl rfl ⟨rfl, rfl, rfl, rfl, rfl⟩ rfl rfl rfl rfl rfl (by kernel_rfl) Try.func7 (by kernel_rfl)
    (of_decide_eq_true (by kernel_rfl)) (by unfold Func.isWrapper; first | (rw [if_pos (by decide +kernel)]; kernel_rfl) | (rw [if_neg (by decide +kernel)]; exact ⟨rfl, rfl⟩))
    (fun os started H enc _ => lifted os started H enc)
end Go.Proofs.Ytmpfhdcefilekaa.fnFilledOf
