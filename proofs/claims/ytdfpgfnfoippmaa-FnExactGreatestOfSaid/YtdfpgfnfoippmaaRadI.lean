/- RadiusAt of the program: summedIn, fitRule, radiusIn with its closures, greatestRadius. No conditions but those typed. -/
import Derived.Test.YtdfpgfnfoippmaaBallK
import Derived.Test.YtdfpgfnfoippmaaFitI
import Derived.Test.YtdfpgfnfoippmaaGreats
namespace Go.Proofs.Ytdfpgfnfoippmaa
open Go.RowKit Go.Sort

theorem way2_ok {way : Int} (h : way2 way = true) : wayOk way = true := by
  have := way2_cases h
  unfold wayOk; rw [decide_eq_true_eq]; omega
theorem summed_yes {way : Int} (w : World) (h : way2 way = true) : Calls Try.prog 45 #[.int .i64 way] w (GivesTell (tellF way) w) := by
  have hd := distanceIn_yes w (way2_ok h)
  have hlt : way < 2 := by have := way2_cases h; omega
  have HW := Lib.hid h
  clear h
  go_enter Try.func45, Try.ntmps45
  go_wp2_with fail
  refine hd.mono ?_
  rintro e w1 ⟨rfl, b1⟩
  go_wp2
  go_ret2
  exact ⟨rfl, b1⟩
theorem summed_no {way : Int} (w : World) (h : way2 way = false) : Calls Try.prog 45 #[.int .i64 way] w (GivesNone w) := by
  unfold way2 at h
  rw [decide_eq_false_iff_not] at h
  by_cases h2 : 2 ≤ way
  · clear h
    go_enter Try.func45, Try.ntmps45
    go_wp2
    go_ret2
    exact ⟨rfl, Below.refl _ _⟩
  · have hd := distanceIn_no w (show wayOk way = false by unfold wayOk; rw [decide_eq_false_iff_not]; omega)
    clear h
    go_enter Try.func45, Try.ntmps45
    go_wp2_with fail
    refine hd.mono ?_
    rintro e w1 ⟨rfl, b1⟩
    go_wp2
    go_ret2
    exact ⟨rfl, b1⟩

theorem ballNear {r way : Int} : ∀ d ∈ ballL r way, NearS d := fun d hd => by
  unfold NearS
  rcases h : ballOk r way with _ | _
  · rw [ball_no h] at hd; cases hd
  · have := far_coord ((mem_ball h).1 hd)
    unfold ballOk at h
    rw [Bool.and_eq_true, decide_eq_true_eq] at h
    omega
def RulePost (v u : Value) (w : World) (e : Ending) (w' : World) : Prop := ∃ Q P : Nat, e = .returned (.func (.func 102) #[] #[.pointer (some ⟨Q, 0, none⟩), .pointer (some ⟨P, 0, none⟩)]) ∧ P < w'.heap.size ∧ Q < w'.heap.size ∧ w'.cell? ⟨P, 0, none⟩ = some v ∧ w'.cell? ⟨Q, 0, none⟩ = some u ∧ Below w.heap.size w w'
theorem fitRule_any (A A' : Option Addr) (n c n' c' : Nat) (w : World) : Calls Try.prog 79 #[.slice A n c, .slice A' n' c'] w (RulePost (.slice A n c) (.slice A' n' c') w) := by
  have b0 := (box_below w #[.slice A n c] 23).alloc (by simp) (.cells #[.slice A' n' c'] 23)
  go_enter Try.func79, Try.ntmps79
  go_wp2
  go_ret
  exact ⟨w.heap.size + 1, w.heap.size, rfl, by simp; omega, by simp, by simp [go_sem, World.cell?_alloc_past], by simp [go_sem], b0⟩

/-- what the closures of radiusIn keep: the picture, and the maker of balls -/
structure RadBoxes (Pb Bl M T : Nat) (v : Value) (w : World) : Prop where
  p : Pb < w.heap.size
  b : Bl < w.heap.size
  pM : Pb ≠ M
  bM : Bl ≠ M
  pc : w.cell? ⟨Pb, 0, none⟩ = some v
  bc : w.cell? ⟨Bl, 0, none⟩ = some (.func (.func 99) #[] #[.pointer (some ⟨M, 0, none⟩), .pointer (some ⟨T, 0, none⟩)])
theorem RadBoxes.but {Pb Bl M T : Nat} {v : Value} {w w' : World} (h : RadBoxes Pb Bl M T v w) (k : But M w w') : RadBoxes Pb Bl M T v w' :=
  ⟨Nat.lt_of_lt_of_le h.p k.size, Nat.lt_of_lt_of_le h.b k.size, h.pM, h.bM, k.cell h.pM h.pc, k.cell h.bM h.bc⟩
def FitPost (b : Bool) (M T : Nat) (way : Int) (w : World) (e : Ending) (w' : World) : Prop := e = .returned (.bool b) ∧ Making M T way w' ∧ But M w w'
set_option maxHeartbeats 800000 in
theorem radFit_any (ps : List Sp) (v : Value) (Pb Bl Ab M T : Nat) (r way ax ay : Int) (w : World) (hw : wayOk way = true) (hr : 0 ≤ r ∧ r ≤ 3) (hM : Making M T way w) (hB : RadBoxes Pb Bl M T v w) (hv : Reads w M v ps) (hs : Sorted ps) (hl : ps.length ≤ 60) (ha : NearS (ax, ay))
    (hAM : Ab ≠ M) (a0 : w.cell? ⟨Ab, 0, none⟩ = some (.int .i64 ax)) (a1 : w.cell? ⟨Ab, 1, none⟩ = some (.int .i64 ay)) :
    Calls Try.prog 78 #[.int .i64 r, .pointer (some ⟨Pb, 0, none⟩), .pointer (some ⟨Bl, 0, none⟩), .pointer (some ⟨Ab, 0, none⟩)] w (FitPost (fitAt ps (ballL r way) (ax, ay)) M T way w) := by
  obtain ⟨A, c, rfl, hc, hm⟩ := hv.slice
  unfold maxLen at hm
  have kd : But M w w.drew := But.of (Below.refl _ _).drew
  have HW := Lib.hid hw
  have HA := Lib.hid ha
  have HR := Lib.hid hr
  have hMd : Making M T way w.drew := hM.below (Below.refl _ _).drew
  have p0 : w.drew.cell? ⟨Pb, 0, none⟩ = some (.slice A ps.length c) := hB.pc
  have b0 : w.drew.cell? ⟨Bl, 0, none⟩ = some (.func (.func 99) #[] #[.pointer (some ⟨M, 0, none⟩), .pointer (some ⟨T, 0, none⟩)]) := hB.bc
  have a0 : w.drew.cell? ⟨Ab, 0, none⟩ = some (.int .i64 ax) := a0
  have a1 : w.drew.cell? ⟨Ab, 1, none⟩ = some (.int .i64 ay) := a1
  have hpM := hB.pM
  have hbM := hB.bM
  have hp := hB.p
  have hb := hB.b
  have hMm := hM.m
  have hnear : ∀ d ∈ ballL r way, NearS d := ballNear
  have hlen := ball_len r way
  have HN := Lib.hid hnear
  clear hw ha hr hB hM hnear
  go_enter Try.func78, Try.ntmps78
  go_wp2
  go_region_held3 (fun w' => w'.cell? ⟨Pb, 0, none⟩ = some (.slice A ps.length c) ∧ w'.cell? ⟨Bl, 0, none⟩ = some (.func (.func 99) #[] #[.pointer (some ⟨M, 0, none⟩), .pointer (some ⟨T, 0, none⟩)]) ∧ w'.cell? ⟨Ab, 0, none⟩ = some (.int .i64 ax) ∧ w'.cell? ⟨Ab, 1, none⟩ = some (.int .i64 ay)) (refine ⟨?_, ?_, ?_, ?_⟩ <;> with_reducible assumption)
    (first
      | (go_at_call 99; refine (making_any M T r way _ HW.out HR.out hMd).mono ?_; rintro e w1 ⟨vq, rfl, oq, hM1, k1⟩; obtain ⟨A1, c1, rfl, _, _⟩ := oq.reads.slice; have p0 := k1.cell hpM p0; have b0 := k1.cell hbM b0; have a0 := k1.cell hAM a0; have a1 := k1.cell hAM a1)
      | (go_at_call 79; refine (fitRule_any _ _ _ _ _ _ _).mono ?_; rintro e w2 ⟨Q, P, rfl, hP, hQ, cP, cQ, b2⟩; have p0 := (But.of (M := M) b2).cell hpM p0; have b0 := (But.of (M := M) b2).cell hbM b0; have a0 := (But.of (M := M) b2).cell hAM a0; have a1 := (But.of (M := M) b2).cell hAM a1; have rq := oq.reads.kept b2; have k2 := (kd.trans k1).then b2; have hM2 := hM1.below b2; have rp := (hv.below (k2.below (Nat.le_refl M) (Nat.le_of_lt hMm))).more (show M ≤ w2.heap.size from Nat.le_trans (Nat.le_of_lt hMm) k2.size))
      | (go_at_call 102; refine (fitRule1_any ps (ballL r way) _ _ P Q ax ay _ rp rq hs hl (by omega) HA.out HN.out hP hQ cP cQ).mono ?_; rintro e w3 ⟨rfl, b3⟩; have p0 := (But.of (M := M) b3).cell hpM p0; have b0 := (But.of (M := M) b3).cell hbM b0; have a0 := (But.of (M := M) b3).cell hAM a0; have a1 := (But.of (M := M) b3).cell hAM a1))
  all_goals
    go_wp2
    go_ret
    exact ⟨rfl, hM2.below b3, k2.then b3⟩
theorem ballIn_fit (p : List Sp) (a : Sp) (r way : Int) : ballIn p a r way = fitAt p (ballL r way) a := rfl
theorem rad_stop {p : List Sp} {a : Sp} {way k : Int} (h : way2 way = true) (h0 : 0 ≤ k) (h3 : k ≤ 3) (hin : k = 0 ∨ ballIn p a k way = true) (hout : k = 3 ∨ ballIn p a (k + 1) way = false) : radN p a way = k := by
  have i32 : ballIn p a 3 way = true → ballIn p a 2 way = true := ballIn_less h (by omega) (by omega) (by omega)
  have i21 : ballIn p a 2 way = true → ballIn p a 1 way = true := ballIn_less h (by omega) (by omega) (by omega)
  unfold radN
  obtain rfl | rfl | rfl | rfl : k = 0 ∨ k = 1 ∨ k = 2 ∨ k = 3 := by omega
  all_goals
    cases b3 : ballIn p a 3 way <;> cases b2 : ballIn p a 2 way <;> cases b1 : ballIn p a 1 way <;> simp_all
def NumPost (n : Int) (M T : Nat) (way : Int) (w : World) (e : Ending) (w' : World) : Prop := e = .returned (.int .i64 n) ∧ Making M T way w' ∧ But M w w'
set_option maxHeartbeats 800000 in
theorem greatestRadius_any (ps : List Sp) (v : Value) (Pb Bl Ab M T : Nat) (way ax ay : Int) (w : World) (h2 : way2 way = true) (hM : Making M T way w) (hB : RadBoxes Pb Bl M T v w) (hv : Reads w M v ps) (hs : Sorted ps) (hl : ps.length ≤ 60) (ha : NearS (ax, ay))
    (hAM : Ab ≠ M) (a0 : w.cell? ⟨Ab, 0, none⟩ = some (.int .i64 ax)) (a1 : w.cell? ⟨Ab, 1, none⟩ = some (.int .i64 ay)) :
    Calls Try.prog 77 #[.func (.func 78) #[] #[.pointer (some ⟨Pb, 0, none⟩), .pointer (some ⟨Bl, 0, none⟩), .pointer (some ⟨Ab, 0, none⟩)]] w (NumPost (radN ps (ax, ay) way) M T way w) := by
  have H2 := Lib.hid h2
  have HA := Lib.hid ha
  have hMm := hM.m
  clear h2 ha
  go_enter Try.func77, Try.ntmps77
  go_wp2
  go_loopw [3] (fun i wr => ∃ k : Nat, k ≤ 3 ∧ i = .int .i64 k ∧ ((k : Int) = 0 ∨ ballIn ps (ax, ay) k way = true) ∧ Making M T way wr ∧ But M w wr) (fun i _ => 3 - (intOf i).toNat)
  case atStart => exact ⟨0, by omega, rfl, Or.inl rfl, hM, But.refl _ _⟩
  case round =>
    clear hM
    obtain ⟨k, hk, rfl, hin, hM, kb⟩ := hrel
    have HIN := Lib.hid hin
    clear hin
    by_cases hlt : k < 3
    · have hltI : (k : Int) < 3 := by omega
      have hltD : decide ((k : Int) < 3) = true := decide_eq_true hltI
      have hc := radFit_any ps v Pb Bl Ab M T ((k : Int) + 1) way ax ay wr (way2_ok H2.out) (by omega) hM (hB.but kb) (hv.below (kb.below (Nat.le_refl M) (Nat.le_of_lt hMm))) hs hl HA.out hAM (kb.cell hAM a0) (kb.cell hAM a1)
      rw [← ballIn_fit] at hc
      rcases hb : ballIn ps (ax, ay) ((k : Int) + 1) way with _ | _
      · have HN := Lib.hid (rad_stop H2.out (by omega) (by omega) HIN.out (Or.inr hb))
        rw [hb] at hc
        clear hb a0 a1
        go_wp2_with fail
        refine hc.mono ?_
        rintro e w1 ⟨rfl, hM1, k1⟩
        go_wp2
        go_ret
        exact ⟨ret_int HN.out.symm, hM1, kb.trans k1⟩
      · have HN := Lib.hid hb
        rw [hb] at hc
        clear hb a0 a1
        go_wp2_with fail
        refine hc.mono ?_
        rintro e w1 ⟨rfl, hM1, k1⟩
        go_wp2
        go_roundw
        case rel => exact ⟨k + 1, by omega, by go_num, Or.inr (by rw [Int.natCast_add]; exact HN.out), hM1, kb.trans k1⟩
        case measure => simp [intOf]; omega
    · obtain rfl : k = 3 := by omega
      have HN := Lib.hid (rad_stop H2.out (by omega) (by omega) HIN.out (Or.inl rfl))
      go_wp2
      go_ret
      exact ⟨ret_int HN.out.symm, hM, kb⟩
theorem radAt_any (ps : List Sp) (v : Value) (Pb Bl M T : Nat) (way ax ay : Int) (w : World) (h2 : way2 way = true) (hM : Making M T way w) (hB : RadBoxes Pb Bl M T v w) (hv : Reads w M v ps) (hs : Sorted ps) (hl : ps.length ≤ 60) (ha : NearS (ax, ay)) :
    Calls Try.prog 76 #[.agg #[.int .i64 ax, .int .i64 ay], .pointer (some ⟨Pb, 0, none⟩), .pointer (some ⟨Bl, 0, none⟩)] w (NumPost (radN ps (ax, ay) way) M T way w) := by
  have b0 := box_below w #[.int .i64 ax, .int .i64 ay] 25
  obtain ⟨W, hW⟩ : ∃ W, W = w.alloc (.cells #[.int .i64 ax, .int .i64 ay] 25) := ⟨_, rfl⟩
  have g0 : W.cell? ⟨w.heap.size, 0, none⟩ = some (.int .i64 ax) := by rw [hW]; simp [go_sem]
  have g1 : W.cell? ⟨w.heap.size, 1, none⟩ = some (.int .i64 ay) := by rw [hW]; simp [go_sem]
  rw [← hW] at b0
  have kb : But M w W := But.of b0
  have hMm := hM.m
  have hc := greatestRadius_any ps v Pb Bl w.heap.size M T way ax ay W h2 (hM.below b0) (hB.but kb) (hv.below (kb.below (Nat.le_refl M) (Nat.le_of_lt hMm))) hs hl ha (by omega) g0 g1
  clear g0 g1
  go_enter Try.func76, Try.ntmps76
  go_wp2_with (first | (rw [← hW]; clear hW) | fail)
  refine hc.mono ?_
  rintro e w1 ⟨rfl, hM1, k1⟩
  go_wp2
  go_ret
  exact ⟨rfl, hM1, kb.trans k1⟩
def RadPost (v : Value) (way : Int) (w : World) (e : Ending) (w' : World) : Prop := ∃ Pb Bl M T : Nat, e = .returned (.func (.func 76) #[] #[.pointer (some ⟨Pb, 0, none⟩), .pointer (some ⟨Bl, 0, none⟩)]) ∧ w.heap.size ≤ M ∧ Making M T way w' ∧ RadBoxes Pb Bl M T v w' ∧ Below w.heap.size w w'
theorem radiusIn_any (A : Option Addr) (n c : Nat) (way : Int) (w : World) : Calls Try.prog 46 #[.slice A n c, .func (.func (tellF way)) #[] #[]] w (RadPost (.slice A n c) way w) := by
  have b0 := box_below w #[.slice A n c] 23
  obtain ⟨W, hW⟩ : ∃ W, W = w.alloc (.cells #[.slice A n c] 23) := ⟨_, rfl⟩
  have p0 : W.cell? ⟨w.heap.size, 0, none⟩ = some (.slice A n c) := by rw [hW]; simp [go_sem]
  have s0 : w.heap.size < W.heap.size := by rw [hW]; simp
  rw [← hW] at b0
  go_enter Try.func46, Try.ntmps46
  go_wp2_with (first | (rw [← hW]; clear hW) | fail)
  refine (ballsBy_any way W).mono ?_
  rintro e w1 ⟨M, T, rfl, hMW, hM, b1⟩
  have p1 := (b1.cell (p := ⟨w.heap.size, 0, none⟩) s0).trans p0
  have hMs := hM.m
  have b2 := box_below w1 #[.func (.func 99) #[] #[.pointer (some ⟨M, 0, none⟩), .pointer (some ⟨T, 0, none⟩)]] 97
  go_wp2
  go_ret
  exact ⟨w.heap.size, w1.heap.size, M, T, rfl, by omega, hM.making.below b2, ⟨by simp; omega, by simp, by omega, by omega, (b2.cell (p := ⟨w.heap.size, 0, none⟩) (by simp only []; omega)).trans p1, by simp [go_sem]⟩, below_step (below_step b0 b1) b2⟩
end Go.Proofs.Ytdfpgfnfoippmaa
