/-
  Proved: the exact law of DeskOk (FnExactDeskOk) returns true for every input, and its arguments read afterwards as they read before. No conditions.
-/
import Derived.Test.YtgdifenicjgfjaaDeskB
import Derived.Test.YtgdifenicjgfjaaDeskT
import Derived.Test.YtgdifenicjgfjaaOpenD
namespace Go.Proofs.Ytgdifenicjgfjaa.exDeskOk
open Go.ChangeShapes Go.WideShapes Go.ChangeAt Go.RowKit

set_option maxRecDepth 100000 in
set_option maxHeartbeats 1600000 in
theorem walk (d : Dk) (v : Value) (w : World) (h : DeskR w w.heap.size v d) : Calls Try.prog 5 #[v] w (Gives (.bool true) w) := by
  have hD := h
  obtain ⟨n, p, rfl, rn, rp⟩ := h
  obtain ⟨An, cn, rfl, _, _⟩ := rn.slice
  obtain ⟨Ap, cp, rfl, _, _⟩ := rp.slice
  have b0 := box_below w #[.slice An d.1.length cn, .slice Ap d.2.length cp] 42
  obtain ⟨W, hW⟩ : ∃ W, W = w.alloc (.cells #[.slice An d.1.length cn, .slice Ap d.2.length cp] 42) := ⟨_, rfl⟩
  have q0 : W.cell? ⟨w.heap.size, 0, none⟩ = some (.slice An d.1.length cn) := by rw [hW]; simp [go_sem]
  have q1 : W.cell? ⟨w.heap.size, 1, none⟩ = some (.slice Ap d.2.length cp) := by rw [hW]; simp [go_sem]
  have s0 : w.heap.size < W.heap.size := by rw [hW]; simp
  rw [← hW] at b0
  have hD := hD.kept b0
  clear rn rp
  by_cases hl : 1048576 < (dsz d : Int)
  · go_enter Try.func5, Try.ntmps5
    go_wp2_with (first | (rw [← hW]; clear hW) | fail)
    refine (szDesk_yes hD (by omega) (by omega) hl).mono ?_
    rintro e w1 ⟨rfl, b1⟩
    go_wp2
    go_ret
    exact ⟨rfl, below_step b0 b1⟩
  have hlN : dsz d ≤ 1048576 := by omega
  obtain ⟨b, hb⟩ : ∃ b, deskB d = b := ⟨_, rfl⟩
  have HB := Lib.hid hb
  have HL := Lib.hid hlN
  clear hb
  cases b
  all_goals
    go_enter Try.func5, Try.ntmps5
    go_wp2_with (first | (rw [← hW]; clear hW) | fail)
    refine (szDesk_no (r := 1048576 - (dsz d : Int)) hD (by omega) (by omega) rfl (by omega)).mono ?_
    rintro e w1 ⟨rfl, b1⟩
    have hnn : ¬ (1048576 - (dsz d : Int) < 0) := by omega
    have bb := b1
    have q0 := (bb.cell (p := ⟨w.heap.size, 0, none⟩) s0).trans q0
    have q1 := (bb.cell (p := ⟨w.heap.size, 1, none⟩) s0).trans q1
    have hs := bb.size
    have hD := hD.kept b1
    clear b1
    go_wp2_with fail
    refine (toDesk_any d _ _ hD HL.out).mono ?_
    rintro e w2 ⟨v2, rfl, o2, b2⟩
    have bb := below_step bb b2
    go_wp2_with fail
    refine (dokS_is HB.out o2.rd).mono ?_
    rintro e w3 ⟨rfl, b3⟩
    have bb := below_step bb b3
    have b23 := below_step b2 b3
    have hs3 := b23.size
    have q0 := (b23.cell (p := ⟨w.heap.size, 0, none⟩) (by simp only []; omega)).trans q0
    have q1 := (b23.cell (p := ⟨w.heap.size, 1, none⟩) (by simp only []; omega)).trans q1
    have hD := hD.kept b23
    clear o2 b2 b3 b23
    go_wp2_with fail
    refine (toDesk_any d _ _ hD HL.out).mono ?_
    rintro e w4 ⟨v4, rfl, o4, b4⟩
    obtain ⟨n4, p4, e4, rn4, rp4⟩ := o4.rd
    subst e4
    obtain ⟨A4, c4, rfl, _, _⟩ := rn4.slice
    obtain ⟨P4, d4, rfl, _, _⟩ := rp4.slice
    clear rn4 rp4
    obtain ⟨W5, hW5⟩ : ∃ W5, W5 = w4.alloc (.cells #[.slice A4 d.1.length c4, .slice P4 d.2.length d4] 26) := ⟨_, rfl⟩
    have b5 : Below w4.heap.size w4 W5 := by rw [hW5]; exact box_below _ _ _
    have r5 : W5.heap[w4.heap.size]? = some (.cells #[.slice A4 d.1.length c4, .slice P4 d.2.length d4] 26 (0, 0)) := by rw [hW5]; exact heap_alloc_new w4 _
    have hs5 : w4.heap.size < W5.heap.size := by rw [hW5]; simp
    obtain ⟨t0, t1⟩ := cells_of_row r5
    have b45 := below_step b4 b5
    have bb := below_step bb b45
    have q0 := (b45.cell (p := ⟨w.heap.size, 0, none⟩) (by simp only []; omega)).trans q0
    have q1 := (b45.cell (p := ⟨w.heap.size, 1, none⟩) (by simp only []; omega)).trans q1
    have hD := hD.kept b45
    have hs45 := b45.size
    have oR := o4.rd.kept b5
    clear b4 b45 o4 b5
    go_wp2_with (first | (rw [← hW5]; clear hW5) | fail)
    refine (dokI_is HB.out oR).mono ?_
    rintro e w6 ⟨rfl, b6⟩
    have bb := below_step bb b6
    have hs6 := b6.size
    have q0 := (b6.cell (p := ⟨w.heap.size, 0, none⟩) (by simp only []; omega)).trans q0
    have q1 := (b6.cell (p := ⟨w.heap.size, 1, none⟩) (by simp only []; omega)).trans q1
    have t0 := (b6.cell (p := ⟨w4.heap.size, 0, none⟩) hs5).trans t0
    have t1 := (b6.cell (p := ⟨w4.heap.size, 1, none⟩) hs5).trans t1
    have hD := hD.kept b6
    have oR := oR.kept b6
    have hww : w.heap.size < w6.heap.size := by omega
    have hwg : w4.heap.size < w6.heap.size := by omega
    obtain ⟨G, hG⟩ : ∃ G, w4.heap.size = G := ⟨_, rfl⟩
    have bD : Below w6.heap.size w6 w6.drew := (Below.refl _ _).drew
    have p0 : w6.drew.cell? ⟨w.heap.size, 0, none⟩ = some (.slice An d.1.length cn) := q0
    have p1 : w6.drew.cell? ⟨w.heap.size, 1, none⟩ = some (.slice Ap d.2.length cp) := q1
    have hDD := hD.kept bD
    have oRD := oR.kept bD
    have bbD := below_step bb bD
    have hwwD : w.heap.size < w6.drew.heap.size := hww
    have hwgD : w4.heap.size < w6.drew.heap.size := hwg
    rw [hG] at t0 t1 hwgD ⊢
    have r0 : w6.drew.cell? ⟨G, 0, none⟩ = some (.slice A4 d.1.length c4) := t0
    have r1 : w6.drew.cell? ⟨G, 1, none⟩ = some (.slice P4 d.2.length d4) := t1
    clear b6 hG
    go_wp2_with fail
    go_region_held3 (fun w' => w'.cell? ⟨w.heap.size, 0, none⟩ = some (.slice An d.1.length cn) ∧ w'.cell? ⟨w.heap.size, 1, none⟩ = some (.slice Ap d.2.length cp) ∧ w'.cell? ⟨G, 0, none⟩ = some (.slice A4 d.1.length c4) ∧ w'.cell? ⟨G, 1, none⟩ = some (.slice P4 d.2.length d4)) (refine ⟨?_, ?_, ?_, ?_⟩ <;> with_reducible assumption)
      (first
        | (go_at_call 19; refine (toDesk_any d _ _ hDD HL.out).mono ?_; rintro e wb ⟨vb, rfl, ob, bn⟩; have p0 := (bn.cell (p := ⟨w.heap.size, 0, none⟩) hwwD).trans p0; have p1 := (bn.cell (p := ⟨w.heap.size, 1, none⟩) hwwD).trans p1; have r0 := (bn.cell (p := ⟨G, 0, none⟩) hwgD).trans r0; have r1 := (bn.cell (p := ⟨G, 1, none⟩) hwgD).trans r1; have hwwD := Nat.lt_of_lt_of_le hwwD bn.size; have hwgD := Nat.lt_of_lt_of_le hwgD bn.size; have oRD := oRD.kept bn; have bbD := below_step bbD bn; clear bn)
        | (go_at_call 20; refine (eqD_is (b := true) (by simp) oRD ob.rd).mono ?_; rintro e wc ⟨rfl, bn⟩; have p0 := (bn.cell (p := ⟨w.heap.size, 0, none⟩) hwwD).trans p0; have p1 := (bn.cell (p := ⟨w.heap.size, 1, none⟩) hwwD).trans p1; have r0 := (bn.cell (p := ⟨G, 0, none⟩) hwgD).trans r0; have r1 := (bn.cell (p := ⟨G, 1, none⟩) hwgD).trans r1; have bbD := below_step bbD bn; clear bn))
    go_wp2
    go_ret
    exact ⟨rfl, below_step b0 bbD⟩
set_option maxRecDepth 100000 in
theorem lifted (os : Os) (started : os.Started) (H : Type) (enc : TypeId × Value → H) :
    ReturnsInHanded {} Try.checked os 5 .any (Rows.fnExactDeskOkSpec.pre6 enc Try.prog Try.f5 Rows.fnExactDeskOkRow.domain false) (Rows.fnExactDeskOkSpec.post enc Try.prog Try.f5 false true false false) := by
  refine returnsInHanded_of_change (C := Try.checked) own started (by kernel_rfl) Try.func5
    (ChangeSpec.witness6 (enc := enc) (C := Try.checked) false ⟨#[], #[.agg #[.slice none 0 0, .slice none 0 0]], []⟩ 8 (by kernel_rfl) (by kernel_rfl) (by kernel_rfl) (by kernel_rfl)) ?_
  intro W base args ds gs before hval0 hW _ _
  have hval : ∀ (j : Nat) t v, Try.f5.params[j]? = some t → args[j]? = some v → Value.okWide Try.prog W .any base t v := hval0
  have hW' := hW
  obtain ⟨p, q, hA0, hV, rfl, _, _⟩ := hW
  have hA : DataW.TrodAll enc Try.prog W 0 (fun _ => true) true Try.f5.params.toList args.toList ds p := hA0
  rw [Try.params5] at hA hval
  obtain ⟨v0, d0, rfl, rfl, h0⟩ := trodAll_one hA
  obtain ⟨rfl, rfl⟩ := trodVars_none hV
  clear hA0 hval0
  simp only [List.append_nil] at hW'
  have hlt : ∀ x ∈ p, x.block < W.heap.size := fun x hx => by simpa using hW'.lt x hx
  have r0 := open_ldesk (hval 0 42 v0 rfl rfl) h0 hlt
  obtain ⟨ps0, r0⟩ := r0
  refine (walk ps0 v0 W r0).mono fun e W' hg => ?_
  obtain ⟨he, hb⟩ := hg
  subst he
  exact ⟨_, rfl, _, _, _, [], p, [], hW', trodAll_mk1 (shut_bool Try.underlying4 _), trodAll_mk1 (kept_arg (by kernel_rfl) (of_decide_eq_true (by kernel_rfl)) h0 hb hlt), rfl, hb.frame _, fun h => by cases h⟩

theorem holds : Rows.FnExactDeskOkSaid :=
  OpenClaim.holds_of_wide 5 Try.f5 rfl rfl rfl rfl rfl rfl rfl ⟨rfl, rfl, rfl, rfl, rfl⟩ rfl rfl rfl rfl rfl (by kernel_rfl) Try.func5 (by kernel_rfl)
    (of_decide_eq_true (by kernel_rfl)) (by unfold Func.isWrapper; first | (rw [if_pos (by decide +kernel)]; kernel_rfl) | (rw [if_neg (by decide +kernel)]; exact ⟨rfl, rfl⟩))
    (fun os started H enc _ => lifted os started H enc)
end Go.Proofs.Ytgdifenicjgfjaa.exDeskOk
