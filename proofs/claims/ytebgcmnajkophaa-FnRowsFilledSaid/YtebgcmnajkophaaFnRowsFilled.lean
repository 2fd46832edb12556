/-
  Proved: the law of RowsFilled (FnRowsFilled) returns true for every code, and the code reads afterwards as it read before. No conditions.
-/
import Derived.Test.YtebgcmnajkophaaDraws9
import Derived.Test.YtebgcmnajkophaaFilledQ
import Derived.Test.YtebgcmnajkophaaBox
import Derived.Test.YtebgcmnajkophaaTwo
import Derived.Test.YtebgcmnajkophaaOpen
namespace Go.Proofs.Ytebgcmnajkophaa.fnRowsFilled
open Go.ChangeShapes Go.WideShapes Go.ChangeAt Go.RowKit

theorem box_lit {b : Bool} {ps : List Sp} {lx ly gx gy : Int} {v : Value} {w : World} (hB : boxR ps = ((lx, ly), (gx, gy))) (hk : boxOk ps = b) (h : Reads w w.heap.size v ps) :
    Calls Try.prog 23 #[v] w fun e w' => e = .returned (.tuple #[.agg #[.int .i64 lx, .int .i64 ly], .agg #[.int .i64 gx, .int .i64 gy], .bool b]) ∧ Below w.heap.size w w' := by
  have c := implBox_any ps v w h
  rw [hB, hk] at c
  exact c
def leftB (ps : List Sp) (a : Sp) (j : Nat) : Bool := (ps.take j).any fun b => (b.2 == a.2) && decide (b.1 ≤ a.1)
def rightB (ps : List Sp) (a : Sp) (j : Nat) : Bool := (ps.take j).any fun b => (b.2 == a.2) && decide (a.1 ≤ b.1)
theorem left_zero (ps : List Sp) (a : Sp) : leftB ps a 0 = false := by unfold leftB; rw [List.take_zero]; rfl
theorem right_zero (ps : List Sp) (a : Sp) : rightB ps a 0 = false := by unfold rightB; rw [List.take_zero]; rfl
theorem left_succ {ps : List Sp} {a b : Sp} {j : Nat} (h : ps[j]? = some b) : leftB ps a (j + 1) = (leftB ps a j || ((b.2 == a.2) && decide (b.1 ≤ a.1))) := by
  unfold leftB
  rw [List.take_add_one, h, List.any_append]; simp
theorem right_succ {ps : List Sp} {a b : Sp} {j : Nat} (h : ps[j]? = some b) : rightB ps a (j + 1) = (rightB ps a j || ((b.2 == a.2) && decide (a.1 ≤ b.1))) := by
  unfold rightB
  rw [List.take_add_one, h, List.any_append]; simp
theorem left_all {ps : List Sp} (hs : Sorted ps) {a : Sp} (h : a ∈ rowsL ps) : leftB ps a ps.length = true := by
  obtain ⟨b, _, hb, _, h1, _, h3, _⟩ := ((mem_rowsL hs).1 h).is
  unfold leftB
  rw [List.take_length, List.any_eq_true]
  exact ⟨b, hb, by rw [Bool.and_eq_true, beq_iff_eq, decide_eq_true_eq]; exact ⟨h1, h3⟩⟩
theorem right_all {ps : List Sp} (hs : Sorted ps) {a : Sp} (h : a ∈ rowsL ps) : rightB ps a ps.length = true := by
  obtain ⟨_, b, _, hb, _, h2, _, h4⟩ := ((mem_rowsL hs).1 h).is
  unfold rightB
  rw [List.take_length, List.any_eq_true]
  exact ⟨b, hb, by rw [Bool.and_eq_true, beq_iff_eq, decide_eq_true_eq]; exact ⟨h2, h4⟩⟩
/-- what is asked of filled rows -/
structure Rows9 (p s : List Sp) : Prop where
  again : rowsOk s = true
  againR : rowsR s = s
  win : withinB p s = true
  box : boxR s = boxR p
  some : p = [] → s = []
theorem rows9 {p : List Sp} (h : rowsOk p = true) : Rows9 p (rowsL p) := by
  obtain ⟨h1, h2⟩ := rows_parts h
  have hs := (picB_pic h1).2.2
  have h3 := rowsOk_again h
  refine ⟨h3, by rw [rowsR_yes h3, rowsL_again hs], within9 h1 h2 (rowsL_has hs), ?_, fun e => by rw [e]; rfl⟩
  by_cases h0 : p = []
  · subst h0; rfl
  · have hn : rowsL p ≠ [] := fun e => by
      obtain ⟨x, hx⟩ := List.exists_mem_of_ne_nil _ h0
      have := rowsL_has hs x hx
      rw [e] at this; cases this
    have e1 : boxOk p = true := by unfold boxOk; rw [h1]; simpa using h0
    have e2 : boxOk (rowsL p) = true := by unfold boxOk; rw [h2]; simpa using hn
    unfold boxR
    rw [e1, e2, if_pos rfl, if_pos rfl, box_rows hs h0]
set_option maxRecDepth 100000 in
set_option maxHeartbeats 6400000 in
theorem walk (A : Option Addr) (n c : Nat) (w : World) (hb : Bytes w w.heap.size A n) (hn : n ≤ c) (hc : c ≤ 9223372036854775807) :
    Calls Try.prog 4 #[.slice A n c] w (Gives (.bool true) w) := by
  by_cases hbig : 1048576 < n
  · go_enter Try.func4, Try.ntmps4
    go_wp2
    go_ret
    exact ⟨rfl, Below.refl _ _⟩
  · go_enter Try.func4, Try.ntmps4
    go_wp2_with fail
    refine (drawRowsFilled_any A n c _ hb hn hc).mono ?_
    rintro e w1 ⟨v, ps, rfl, op, hpl, bb⟩
    obtain ⟨Ap, cp, rfl, hcp, hmp⟩ := op.reads.slice
    unfold maxLen at hmp
    clear hb hn hc
    obtain ⟨s, hs⟩ : ∃ s, rowsR ps = s := ⟨_, rfl⟩
    rcases hk : rowsOk ps with _ | _
    all_goals
      have HS := Lib.hid (And.intro hk hs)
      clear hk hs
      go_wp2_with fail
      refine (rowsI_lit HS.out.1 HS.out.2 op.reads).mono ?_
      rintro e w2 ⟨v2, rfl, os, bn⟩
      have bb := below_step bb bn
      have op := op.below bn
      obtain ⟨A2, c2, rfl, hc2, hm2⟩ := os.reads.slice
      unfold maxLen at hm2
      go_wp2_with fail
      refine (rowsS_lit HS.out.1 HS.out.2 op.reads).mono ?_
      rintro e w3 ⟨v3, rfl, o3, bn⟩
      have bb := below_step bb bn
      have op := op.below bn
      have os := os.below bn
      go_wp2_with fail
      refine (same_lit os.reads o3.reads).mono ?_
      rintro e w4 ⟨rfl, bn⟩
      have bb := below_step bb bn
      have op := op.below bn
      have os := os.below bn
      clear o3 bn
    · have h0 : ((s.length : Int) == 0) = true := by rw [← HS.out.2, rowsR_no HS.out.1]; rfl
      go_wp2_with fail
      refine (alive_any _).mono ?_
      rintro e w5 ⟨rfl, bn⟩
      go_wp2
      go_ret
      exact ⟨rfl, below_step bb bn⟩
    · have hse : s = rowsL ps := (rowsR_yes HS.out.1).symm.trans HS.out.2 |>.symm
      have H9 := rows9 HS.out.1
      rw [← hse] at H9
      have HM := Lib.hid (fun (a : Sp) (h : a ∈ s) => And.intro (left_all (picB_pic (rows_parts HS.out.1).1).2.2 (hse ▸ h)) (right_all (picB_pic (rows_parts HS.out.1).1).2.2 (hse ▸ h)))
      have H := Lib.hid H9
      clear H9 hse
      have rp := op.reads
      have rs := os.reads
      obtain ⟨_, _, ep, _, _, _, hrp⟩ := rp.is
      obtain ⟨_, _, es, _, _, _, hrs⟩ := rs.is
      injection ep with ep1 ep2 ep3
      injection es with es1 es2 es3
      subst ep1 ep3 es1 es3
      clear ep2 es2
      go_wp2
      go_loopw [8] (fun i wr => ∃ k : Nat, i = .int .i64 (k : Int) ∧ k ≤ s.length ∧ Below w4.heap.size w4 wr) (fun i _ => s.length - (intOf i).toNat)
      case atStart => exact ⟨0, rfl, by omega, Below.refl _ _⟩
      case round =>
        obtain ⟨k, rfl, hk, hbw⟩ := hrel
        by_cases hlt : k < s.length
        · as_aux_lemma =>
            have hd : decide ((k : Int) < (s.length : Int)) = true := decide_eq_true (by omega)
            obtain ⟨⟨x, y⟩, hxy⟩ : ∃ a, s[k]? = some a := ⟨_, List.getElem?_eq_getElem hlt⟩
            have hps : 0 < ps.length := by
              rcases Nat.eq_zero_or_pos ps.length with h | h
              · have := H.out.some (List.eq_nil_of_length_eq_zero h)
                rw [this] at hlt; exact absurd hlt (Nat.not_lt_zero _)
              · exact h
            obtain ⟨bp, fp, rfl, hbp, hcellp⟩ := hrp (by omega)
            obtain ⟨bs, fs, rfl, hbs, hcells⟩ := hrs (by omega)
            obtain ⟨g2, g3⟩ := hcells k x y hxy
            obtain ⟨hL, hR⟩ := HM.out _ (List.mem_of_getElem? hxy)
            have HLR := Lib.hid (And.intro hL hR)
            have m2 : (0 : Int) ≤ (k : Int) := Int.natCast_nonneg _
            have m3 : (k : Int) < (s.length : Int) := by omega
            clear hxy hL hR hrp hrs
            go_wp2
            go_loopw [9, 10, 11] (fun lv rv i wr => ∃ j : Nat, i = .int .i64 (j : Int) ∧ j ≤ ps.length ∧ lv = .bool (leftB ps (x, y) j) ∧ rv = .bool (rightB ps (x, y) j) ∧ Below w4.heap.size w4 wr) (fun _ _ i _ => ps.length - (intOf i).toNat)
            case atStart => exact ⟨0, rfl, by omega, by rw [left_zero], by rw [right_zero], hbw⟩
            case round =>
              clear hbw
              obtain ⟨j, rfl, hj, rfl, rfl, hbw⟩ := hrel
              by_cases hjl : j < ps.length
              · have hdj : decide ((j : Int) < (ps.length : Int)) = true := decide_eq_true (by omega)
                obtain ⟨⟨u, z⟩, huz⟩ : ∃ a, ps[j]? = some a := ⟨_, List.getElem?_eq_getElem hjl⟩
                obtain ⟨g0, g1⟩ := hcellp j u z huz
                have m0 : (0 : Int) ≤ (j : Int) := Int.natCast_nonneg _
                have m1 : (j : Int) < (ps.length : Int) := by omega
                have hl1 := left_succ (a := (x, y)) huz
                have hr1 := right_succ (a := (x, y)) huz
                simp only at hl1 hr1
                clear huz hd hlt hcells
                rcases eL : leftB ps (x, y) j with _ | _ <;> rcases eR : rightB ps (x, y) j with _ | _
                · rcases eZ : (z == y) with _ | _
                  · rw [eL, eZ] at hl1
                    rw [eR, eZ] at hr1
                    have HL := Lib.hid hl1
                    have HR := Lib.hid hr1
                    clear hl1 hr1 eL eR
                    as_aux_lemma =>
                      have f0 := cell_regrown (((hbw).cell (p := ⟨bp, fp + j * 2, none⟩) hbp).trans g0)
                      have f1 := cell_regrown (((hbw).cell (p := ⟨bp, fp + j * 2 + 1, none⟩) hbp).trans g1)
                      have f2 := cell_regrown (((hbw).cell (p := ⟨bs, fs + k * 2, none⟩) hbs).trans g2)
                      have f3 := cell_regrown (((hbw).cell (p := ⟨bs, fs + k * 2 + 1, none⟩) hbs).trans g3)
                      go_wp2
                      refine wp_region_quiet_below (by kernel_rfl) (by kernel_rfl) ?_
                      repeat (go_big_quiet_step (first | fail))
                      refine wpQuiet_nil ?_
                      intro wN hw'
                      obtain ⟨⟨dq, osq⟩, hw''⟩ := hw'
                      have hN : Below wr.heap.size wr wN := by rw [hw'']; exact below_regrown _ _ _
                      clear hw'' dq osq
                      have hbw := hbw.trans (hN.mono hbw.size)
                      clear hN f0 f1 f2 f3
                      have f0 := cell_regrown (((hbw).cell (p := ⟨bp, fp + j * 2, none⟩) hbp).trans g0)
                      have f1 := cell_regrown (((hbw).cell (p := ⟨bp, fp + j * 2 + 1, none⟩) hbp).trans g1)
                      have f2 := cell_regrown (((hbw).cell (p := ⟨bs, fs + k * 2, none⟩) hbs).trans g2)
                      have f3 := cell_regrown (((hbw).cell (p := ⟨bs, fs + k * 2 + 1, none⟩) hbs).trans g3)
                      go_wp2
                      refine wp_region_quiet_below (by kernel_rfl) (by kernel_rfl) ?_
                      repeat (go_big_quiet_step (first | fail))
                      refine wpQuiet_nil ?_
                      intro wM hw'
                      obtain ⟨⟨dq, osq⟩, hw''⟩ := hw'
                      have hM : Below wN.heap.size wN wM := by rw [hw'']; exact below_regrown _ _ _
                      clear hw'' dq osq
                      have hbw := hbw.trans (hM.mono hbw.size)
                      clear hM f0 f1 f2 f3
                      go_wp2
                      go_roundw
                      case rel => exact ⟨j + 1, by go_num, by omega, by rw [HL.out] <;> rfl, by rw [HR.out] <;> rfl, hbw⟩
                      case measure => simp [intOf]; omega
                  · rcases eU : decide (u ≤ x) with _ | _ <;> rcases eV : decide (x ≤ u) with _ | _
                    all_goals
                      rw [eL, eZ, eU] at hl1
                      rw [eR, eZ, eV] at hr1
                      have HL := Lib.hid hl1
                      have HR := Lib.hid hr1
                      clear hl1 hr1 eL eR
                      as_aux_lemma =>
                        have f0 := cell_regrown (((hbw).cell (p := ⟨bp, fp + j * 2, none⟩) hbp).trans g0)
                        have f1 := cell_regrown (((hbw).cell (p := ⟨bp, fp + j * 2 + 1, none⟩) hbp).trans g1)
                        have f2 := cell_regrown (((hbw).cell (p := ⟨bs, fs + k * 2, none⟩) hbs).trans g2)
                        have f3 := cell_regrown (((hbw).cell (p := ⟨bs, fs + k * 2 + 1, none⟩) hbs).trans g3)
                        go_wp2
                        refine wp_region_quiet_below (by kernel_rfl) (by kernel_rfl) ?_
                        repeat (go_big_quiet_step (first | fail))
                        refine wpQuiet_nil ?_
                        intro wN hw'
                        obtain ⟨⟨dq, osq⟩, hw''⟩ := hw'
                        have hN : Below wr.heap.size wr wN := by rw [hw'']; exact below_regrown _ _ _
                        clear hw'' dq osq
                        have hbw := hbw.trans (hN.mono hbw.size)
                        clear hN f0 f1 f2 f3
                        have f0 := cell_regrown (((hbw).cell (p := ⟨bp, fp + j * 2, none⟩) hbp).trans g0)
                        have f1 := cell_regrown (((hbw).cell (p := ⟨bp, fp + j * 2 + 1, none⟩) hbp).trans g1)
                        have f2 := cell_regrown (((hbw).cell (p := ⟨bs, fs + k * 2, none⟩) hbs).trans g2)
                        have f3 := cell_regrown (((hbw).cell (p := ⟨bs, fs + k * 2 + 1, none⟩) hbs).trans g3)
                        go_wp2
                        refine wp_region_quiet_below (by kernel_rfl) (by kernel_rfl) ?_
                        repeat (go_big_quiet_step (first | fail))
                        refine wpQuiet_nil ?_
                        intro wM hw'
                        obtain ⟨⟨dq, osq⟩, hw''⟩ := hw'
                        have hM : Below wN.heap.size wN wM := by rw [hw'']; exact below_regrown _ _ _
                        clear hw'' dq osq
                        have hbw := hbw.trans (hM.mono hbw.size)
                        clear hM f0 f1 f2 f3
                        go_wp2
                        go_roundw
                        case rel => exact ⟨j + 1, by go_num, by omega, by rw [HL.out] <;> rfl, by rw [HR.out] <;> rfl, hbw⟩
                        case measure => simp [intOf]; omega
                · rw [eR, Bool.true_or] at hr1
                  rcases eZ : (z == y) with _ | _
                  · rw [eL, eZ] at hl1
                    have HL := Lib.hid hl1
                    have HR := Lib.hid hr1
                    clear hl1 hr1 eL eR
                    as_aux_lemma =>
                      have f0 := cell_regrown (((hbw).cell (p := ⟨bp, fp + j * 2, none⟩) hbp).trans g0)
                      have f1 := cell_regrown (((hbw).cell (p := ⟨bp, fp + j * 2 + 1, none⟩) hbp).trans g1)
                      have f2 := cell_regrown (((hbw).cell (p := ⟨bs, fs + k * 2, none⟩) hbs).trans g2)
                      have f3 := cell_regrown (((hbw).cell (p := ⟨bs, fs + k * 2 + 1, none⟩) hbs).trans g3)
                      go_wp2
                      refine wp_region_quiet_below (by kernel_rfl) (by kernel_rfl) ?_
                      repeat (go_big_quiet_step (first | fail))
                      refine wpQuiet_nil ?_
                      intro wN hw'
                      obtain ⟨⟨dq, osq⟩, hw''⟩ := hw'
                      have hN : Below wr.heap.size wr wN := by rw [hw'']; exact below_regrown _ _ _
                      clear hw'' dq osq
                      have hbw := hbw.trans (hN.mono hbw.size)
                      clear hN f0 f1 f2 f3
                      have f0 := cell_regrown (((hbw).cell (p := ⟨bp, fp + j * 2, none⟩) hbp).trans g0)
                      have f1 := cell_regrown (((hbw).cell (p := ⟨bp, fp + j * 2 + 1, none⟩) hbp).trans g1)
                      have f2 := cell_regrown (((hbw).cell (p := ⟨bs, fs + k * 2, none⟩) hbs).trans g2)
                      have f3 := cell_regrown (((hbw).cell (p := ⟨bs, fs + k * 2 + 1, none⟩) hbs).trans g3)
                      go_wp2
                      refine wp_region_quiet_below (by kernel_rfl) (by kernel_rfl) ?_
                      repeat (go_big_quiet_step (first | fail))
                      refine wpQuiet_nil ?_
                      intro wM hw'
                      obtain ⟨⟨dq, osq⟩, hw''⟩ := hw'
                      have hM : Below wN.heap.size wN wM := by rw [hw'']; exact below_regrown _ _ _
                      clear hw'' dq osq
                      have hbw := hbw.trans (hM.mono hbw.size)
                      clear hM f0 f1 f2 f3
                      go_wp2
                      go_roundw
                      case rel => exact ⟨j + 1, by go_num, by omega, by rw [HL.out] <;> rfl, by rw [HR.out] <;> rfl, hbw⟩
                      case measure => simp [intOf]; omega
                  · rcases eU : decide (u ≤ x) with _ | _
                    all_goals
                      rw [eL, eZ, eU] at hl1
                      have HL := Lib.hid hl1
                      have HR := Lib.hid hr1
                      clear hl1 hr1 eL eR
                      as_aux_lemma =>
                        have f0 := cell_regrown (((hbw).cell (p := ⟨bp, fp + j * 2, none⟩) hbp).trans g0)
                        have f1 := cell_regrown (((hbw).cell (p := ⟨bp, fp + j * 2 + 1, none⟩) hbp).trans g1)
                        have f2 := cell_regrown (((hbw).cell (p := ⟨bs, fs + k * 2, none⟩) hbs).trans g2)
                        have f3 := cell_regrown (((hbw).cell (p := ⟨bs, fs + k * 2 + 1, none⟩) hbs).trans g3)
                        go_wp2
                        refine wp_region_quiet_below (by kernel_rfl) (by kernel_rfl) ?_
                        repeat (go_big_quiet_step (first | fail))
                        refine wpQuiet_nil ?_
                        intro wN hw'
                        obtain ⟨⟨dq, osq⟩, hw''⟩ := hw'
                        have hN : Below wr.heap.size wr wN := by rw [hw'']; exact below_regrown _ _ _
                        clear hw'' dq osq
                        have hbw := hbw.trans (hN.mono hbw.size)
                        clear hN f0 f1 f2 f3
                        have f0 := cell_regrown (((hbw).cell (p := ⟨bp, fp + j * 2, none⟩) hbp).trans g0)
                        have f1 := cell_regrown (((hbw).cell (p := ⟨bp, fp + j * 2 + 1, none⟩) hbp).trans g1)
                        have f2 := cell_regrown (((hbw).cell (p := ⟨bs, fs + k * 2, none⟩) hbs).trans g2)
                        have f3 := cell_regrown (((hbw).cell (p := ⟨bs, fs + k * 2 + 1, none⟩) hbs).trans g3)
                        go_wp2
                        refine wp_region_quiet_below (by kernel_rfl) (by kernel_rfl) ?_
                        repeat (go_big_quiet_step (first | fail))
                        refine wpQuiet_nil ?_
                        intro wM hw'
                        obtain ⟨⟨dq, osq⟩, hw''⟩ := hw'
                        have hM : Below wN.heap.size wN wM := by rw [hw'']; exact below_regrown _ _ _
                        clear hw'' dq osq
                        have hbw := hbw.trans (hM.mono hbw.size)
                        clear hM f0 f1 f2 f3
                        go_wp2
                        go_roundw
                        case rel => exact ⟨j + 1, by go_num, by omega, by rw [HL.out] <;> rfl, by rw [HR.out] <;> rfl, hbw⟩
                        case measure => simp [intOf]; omega
                · rw [eL, Bool.true_or] at hl1
                  rcases eZ : (z == y) with _ | _
                  · rw [eR, eZ] at hr1
                    have HL := Lib.hid hl1
                    have HR := Lib.hid hr1
                    clear hl1 hr1 eL eR
                    as_aux_lemma =>
                      have f0 := cell_regrown (((hbw).cell (p := ⟨bp, fp + j * 2, none⟩) hbp).trans g0)
                      have f1 := cell_regrown (((hbw).cell (p := ⟨bp, fp + j * 2 + 1, none⟩) hbp).trans g1)
                      have f2 := cell_regrown (((hbw).cell (p := ⟨bs, fs + k * 2, none⟩) hbs).trans g2)
                      have f3 := cell_regrown (((hbw).cell (p := ⟨bs, fs + k * 2 + 1, none⟩) hbs).trans g3)
                      go_wp2
                      refine wp_region_quiet_below (by kernel_rfl) (by kernel_rfl) ?_
                      repeat (go_big_quiet_step (first | fail))
                      refine wpQuiet_nil ?_
                      intro wN hw'
                      obtain ⟨⟨dq, osq⟩, hw''⟩ := hw'
                      have hN : Below wr.heap.size wr wN := by rw [hw'']; exact below_regrown _ _ _
                      clear hw'' dq osq
                      have hbw := hbw.trans (hN.mono hbw.size)
                      clear hN f0 f1 f2 f3
                      have f0 := cell_regrown (((hbw).cell (p := ⟨bp, fp + j * 2, none⟩) hbp).trans g0)
                      have f1 := cell_regrown (((hbw).cell (p := ⟨bp, fp + j * 2 + 1, none⟩) hbp).trans g1)
                      have f2 := cell_regrown (((hbw).cell (p := ⟨bs, fs + k * 2, none⟩) hbs).trans g2)
                      have f3 := cell_regrown (((hbw).cell (p := ⟨bs, fs + k * 2 + 1, none⟩) hbs).trans g3)
                      go_wp2
                      refine wp_region_quiet_below (by kernel_rfl) (by kernel_rfl) ?_
                      repeat (go_big_quiet_step (first | fail))
                      refine wpQuiet_nil ?_
                      intro wM hw'
                      obtain ⟨⟨dq, osq⟩, hw''⟩ := hw'
                      have hM : Below wN.heap.size wN wM := by rw [hw'']; exact below_regrown _ _ _
                      clear hw'' dq osq
                      have hbw := hbw.trans (hM.mono hbw.size)
                      clear hM f0 f1 f2 f3
                      go_wp2
                      go_roundw
                      case rel => exact ⟨j + 1, by go_num, by omega, by rw [HL.out] <;> rfl, by rw [HR.out] <;> rfl, hbw⟩
                      case measure => simp [intOf]; omega
                  · rcases eV : decide (x ≤ u) with _ | _
                    all_goals
                      rw [eR, eZ, eV] at hr1
                      have HL := Lib.hid hl1
                      have HR := Lib.hid hr1
                      clear hl1 hr1 eL eR
                      as_aux_lemma =>
                        have f0 := cell_regrown (((hbw).cell (p := ⟨bp, fp + j * 2, none⟩) hbp).trans g0)
                        have f1 := cell_regrown (((hbw).cell (p := ⟨bp, fp + j * 2 + 1, none⟩) hbp).trans g1)
                        have f2 := cell_regrown (((hbw).cell (p := ⟨bs, fs + k * 2, none⟩) hbs).trans g2)
                        have f3 := cell_regrown (((hbw).cell (p := ⟨bs, fs + k * 2 + 1, none⟩) hbs).trans g3)
                        go_wp2
                        refine wp_region_quiet_below (by kernel_rfl) (by kernel_rfl) ?_
                        repeat (go_big_quiet_step (first | fail))
                        refine wpQuiet_nil ?_
                        intro wN hw'
                        obtain ⟨⟨dq, osq⟩, hw''⟩ := hw'
                        have hN : Below wr.heap.size wr wN := by rw [hw'']; exact below_regrown _ _ _
                        clear hw'' dq osq
                        have hbw := hbw.trans (hN.mono hbw.size)
                        clear hN f0 f1 f2 f3
                        have f0 := cell_regrown (((hbw).cell (p := ⟨bp, fp + j * 2, none⟩) hbp).trans g0)
                        have f1 := cell_regrown (((hbw).cell (p := ⟨bp, fp + j * 2 + 1, none⟩) hbp).trans g1)
                        have f2 := cell_regrown (((hbw).cell (p := ⟨bs, fs + k * 2, none⟩) hbs).trans g2)
                        have f3 := cell_regrown (((hbw).cell (p := ⟨bs, fs + k * 2 + 1, none⟩) hbs).trans g3)
                        go_wp2
                        refine wp_region_quiet_below (by kernel_rfl) (by kernel_rfl) ?_
                        repeat (go_big_quiet_step (first | fail))
                        refine wpQuiet_nil ?_
                        intro wM hw'
                        obtain ⟨⟨dq, osq⟩, hw''⟩ := hw'
                        have hM : Below wN.heap.size wN wM := by rw [hw'']; exact below_regrown _ _ _
                        clear hw'' dq osq
                        have hbw := hbw.trans (hM.mono hbw.size)
                        clear hM f0 f1 f2 f3
                        go_wp2
                        go_roundw
                        case rel => exact ⟨j + 1, by go_num, by omega, by rw [HL.out] <;> rfl, by rw [HR.out] <;> rfl, hbw⟩
                        case measure => simp [intOf]; omega
                · rw [eL, Bool.true_or] at hl1
                  rw [eR, Bool.true_or] at hr1
                  have HL := Lib.hid hl1
                  have HR := Lib.hid hr1
                  clear hl1 hr1 eL eR
                  as_aux_lemma =>
                    have f0 := cell_regrown (((hbw).cell (p := ⟨bp, fp + j * 2, none⟩) hbp).trans g0)
                    have f1 := cell_regrown (((hbw).cell (p := ⟨bp, fp + j * 2 + 1, none⟩) hbp).trans g1)
                    have f2 := cell_regrown (((hbw).cell (p := ⟨bs, fs + k * 2, none⟩) hbs).trans g2)
                    have f3 := cell_regrown (((hbw).cell (p := ⟨bs, fs + k * 2 + 1, none⟩) hbs).trans g3)
                    go_wp2
                    refine wp_region_quiet_below (by kernel_rfl) (by kernel_rfl) ?_
                    repeat (go_big_quiet_step (first | fail))
                    refine wpQuiet_nil ?_
                    intro wN hw'
                    obtain ⟨⟨dq, osq⟩, hw''⟩ := hw'
                    have hN : Below wr.heap.size wr wN := by rw [hw'']; exact below_regrown _ _ _
                    clear hw'' dq osq
                    have hbw := hbw.trans (hN.mono hbw.size)
                    clear hN f0 f1 f2 f3
                    have f0 := cell_regrown (((hbw).cell (p := ⟨bp, fp + j * 2, none⟩) hbp).trans g0)
                    have f1 := cell_regrown (((hbw).cell (p := ⟨bp, fp + j * 2 + 1, none⟩) hbp).trans g1)
                    have f2 := cell_regrown (((hbw).cell (p := ⟨bs, fs + k * 2, none⟩) hbs).trans g2)
                    have f3 := cell_regrown (((hbw).cell (p := ⟨bs, fs + k * 2 + 1, none⟩) hbs).trans g3)
                    go_wp2
                    refine wp_region_quiet_below (by kernel_rfl) (by kernel_rfl) ?_
                    repeat (go_big_quiet_step (first | fail))
                    refine wpQuiet_nil ?_
                    intro wM hw'
                    obtain ⟨⟨dq, osq⟩, hw''⟩ := hw'
                    have hM : Below wN.heap.size wN wM := by rw [hw'']; exact below_regrown _ _ _
                    clear hw'' dq osq
                    have hbw := hbw.trans (hM.mono hbw.size)
                    clear hM f0 f1 f2 f3
                    go_wp2
                    go_roundw
                    case rel => exact ⟨j + 1, by go_num, by omega, by rw [HL.out] <;> rfl, by rw [HR.out] <;> rfl, hbw⟩
                    case measure => simp [intOf]; omega
              · have hdj : decide ((j : Int) < (ps.length : Int)) = false := decide_eq_false (by omega)
                have hjn : j = ps.length := by omega
                rw [hjn, HLR.out.1, HLR.out.2]
                clear hjn
                go_wp2
                go_roundw
                case rel => exact ⟨k + 1, by go_num, by omega, hbw⟩
                case measure => simp [intOf]; omega
        · as_aux_lemma =>
            have hd : decide ((k : Int) < (s.length : Int)) = false := decide_eq_false (by omega)
            have rp := op.reads.kept hbw
            have rs := os.reads.kept hbw
            have bb := below_step bb hbw
            obtain ⟨lx, ly, gx, gy, hB⟩ : ∃ lx ly gx gy, boxR ps = ((lx, ly), (gx, gy)) := ⟨_, _, _, _, rfl⟩
            have HB := Lib.hid (And.intro hB (H.out.box.trans hB))
            clear hB hrp hrs op os
            go_wp2_with fail
            refine (box_lit HB.out.1 rfl rp).mono ?_
            rintro e w5 ⟨rfl, b5⟩
            have bb := below_step bb b5
            obtain ⟨W5, hW5, b05, s5, la, ga⟩ := two_boxes w5 (.int .i64 lx) (.int .i64 ly) (.int .i64 gx) (.int .i64 gy)
            have rp := (rp.kept b5).kept b05
            have rs := (rs.kept b5).kept b05
            have bb := below_step bb b05
            clear b5 b05
            go_wp2_with fail
            rw [← hW5]
            clear hW5
            refine (box_lit HB.out.2 rfl rs).mono ?_
            rintro e w6 ⟨rfl, b6⟩
            have bb := below_step bb b6
            obtain ⟨W6, hW6, b06, s6, lb, gb⟩ := two_boxes w6 (.int .i64 lx) (.int .i64 ly) (.int .i64 gx) (.int .i64 gy)
            have rp := (rp.kept b6).kept b06
            have rs := (rs.kept b6).kept b06
            have bb := below_step bb b06
            have hs6 := b6.size
            have la := (b06.block w5.heap.size (by omega)).trans ((b6.block w5.heap.size (by omega)).trans la)
            have ga := (b06.block (w5.heap.size + 1) (by omega)).trans ((b6.block (w5.heap.size + 1) (by omega)).trans ga)
            clear b6 b06
            go_wp2_with fail
            rw [← hW6]
            clear hW6
            refine (rowsI_lit H.out.again H.out.againR rs).mono ?_
            rintro e w7 ⟨v7, rfl, o7, b7⟩
            have bb := below_step bb b7
            have rp := rp.kept b7
            have rs := rs.kept b7
            obtain ⟨A7, c7, rfl, _, _⟩ := o7.reads.slice
            have la := (b7.block w5.heap.size (by omega)).trans la
            have ga := (b7.block (w5.heap.size + 1) (by omega)).trans ga
            have lb := (b7.block w6.heap.size (by omega)).trans lb
            have gb := (b7.block (w6.heap.size + 1) (by omega)).trans gb
            have hs7 := b7.size
            clear b7
            go_wp2_with fail
            refine (within_lit9 H.out.win rp rs).mono ?_
            rintro e w8 ⟨rfl, b8⟩
            have bb := below_step bb b8
            have rs := rs.kept b8
            have o7 := o7.below b8
            obtain ⟨c0, c1⟩ := cells_of_row ((b8.block w5.heap.size (by omega)).trans la)
            obtain ⟨c2, c3⟩ := cells_of_row ((b8.block (w5.heap.size + 1) (by omega)).trans ga)
            obtain ⟨c4, c5⟩ := cells_of_row ((b8.block w6.heap.size (by omega)).trans lb)
            obtain ⟨c6, c7⟩ := cells_of_row ((b8.block (w6.heap.size + 1) (by omega)).trans gb)
            clear la ga lb gb b8
            go_wp2_with fail
            refine (same_lit o7.reads rs).mono ?_
            rintro e w9 ⟨rfl, bn⟩
            have bb := below_step bb bn
            clear c0 c1 c2 c3 c4 c5 c6 c7
            go_wp2_with fail
            refine (alive_any _).mono ?_
            rintro e w10 ⟨rfl, bn⟩
            go_wp2
            go_ret
            exact ⟨rfl, below_step bb bn⟩

set_option maxRecDepth 100000 in
theorem lifted (os : Os) (started : os.Started) (H : Type) (enc : TypeId × Value → H) :
    ReturnsInHanded {} Try.checked os 4 .any (Rows.fnRowsFilledSpec.pre6 enc Try.prog Try.f4 Rows.fnRowsFilledRow.domain false) (Rows.fnRowsFilledSpec.post enc Try.prog Try.f4 false true false false) := by
  refine returnsInHanded_of_change (C := Try.checked) own started (by kernel_rfl) Try.func4
    (ChangeSpec.witness6 (enc := enc) (C := Try.checked) false ⟨#[], #[.slice none 0 0], []⟩ 8 (by kernel_rfl) (by kernel_rfl) (by kernel_rfl) (by kernel_rfl)) ?_
  intro W base args ds gs before hval0 hW _ _
  have hval : ∀ (j : Nat) t v, Try.f4.params[j]? = some t → args[j]? = some v → Value.okWide Try.prog W .any base t v := hval0
  have hW' := hW
  obtain ⟨p, q, hA0, hV, rfl, _, _⟩ := hW
  have hA : DataW.TrodAll enc Try.prog W 0 (fun _ => true) true Try.f4.params.toList args.toList ds p := hA0
  rw [Try.params4] at hA hval
  obtain ⟨v0, d0, rfl, rfl, h0⟩ := trodAll_one hA
  obtain ⟨rfl, rfl⟩ := trodVars_none hV
  clear hA0 hval0
  simp only [List.append_nil] at hW'
  have hlt : ∀ x ∈ p, x.block < W.heap.size := fun x hx => by simpa using hW'.lt x hx
  have r0 := open_bytes (hval 0 22 v0 rfl rfl) h0 hlt
  obtain ⟨⟨bA, bn, bc⟩, rfl, rb, rn, rc⟩ := r0
  simp only at rb rn rc
  refine (walk bA bn bc W rb rn rc).mono fun e W' hg => ?_
  obtain ⟨he, hb⟩ := hg
  subst he
  exact ⟨_, rfl, _, _, _, [], p, [], hW', trodAll_mk1 (shut_bool Try.underlying4 _), trodAll_mk1 (kept_arg (by kernel_rfl) (of_decide_eq_true (by kernel_rfl)) h0 hb hlt), rfl, hb.frame _, fun h => by cases h⟩

theorem holds : Rows.FnRowsFilledSaid :=
  OpenClaim.holds_of_wide 4 Try.f4 rfl rfl rfl rfl rfl rfl rfl ⟨rfl, rfl, rfl, rfl, rfl⟩ rfl rfl rfl rfl rfl (by kernel_rfl) Try.func4 (by kernel_rfl)
    (of_decide_eq_true (by kernel_rfl)) (by unfold Func.isWrapper; first | (rw [if_pos (by decide +kernel)]; kernel_rfl) | (rw [if_neg (by decide +kernel)]; exact ⟨rfl, rfl⟩))
    (fun os started H enc _ => lifted os started H enc)
end Go.Proofs.Ytebgcmnajkophaa.fnRowsFilled
