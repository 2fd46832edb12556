/- PatternOk, FoundIn, ThinnedBy, LoneSpots and BorderOf of the program. No conditions but those typed. -/
import Derived.Test.YtfofmfkdkihhbacPattC
import Derived.Test.YtfofmfkdkihhbacBallI
import Derived.Test.YtfofmfkdkihhbacUnion
import Derived.Test.YtfofmfkdkihhbacPlain
import Derived.Test.YtfofmfkdkihhbacFitI
import Derived.Test.YtfofmfkdkihhbacTold
import Derived.Test.YtfofmfkdkihhbacLess
import Derived.Test.YtfofmfkdkihhbacEq
namespace Go.Proofs.Ytfofmfkdkihhbac
open Go.RowKit Go.Sort

/-! ### PatternOk -/
theorem partOne_any (x y : Int) (w : World) : Calls Try.prog 93 #[.agg #[.int .i64 x, .int .i64 y]] w (Gives (.bool (!inB x y 3)) w) := by
  have b0 := box_below w #[.int .i64 x, .int .i64 y] 35
  go_enter Try.func93, Try.ntmps93
  go_wp2_with fail
  refine (spotWithin_any x y 3 _ (by omega) (by omega)).mono ?_
  rintro e w1 ⟨rfl, b1⟩
  go_wp2
  go_ret
  exact ⟨rfl, below_step b0 b1⟩
/-- PatternOk's test of one part -/
def partB (t : List Sp) : Bool := decide (t.length ≤ 9) && (picB t && !t.any fun a => !inB a.1 a.2 3)
theorem partB_no9 {t : List Sp} (h : ¬ t.length ≤ 9) : partB t = false := by unfold partB; rw [decide_eq_false h]; rfl
theorem partB_nop {t : List Sp} (h : picB t = false) : partB t = false := by unfold partB; rw [h]; simp
theorem partB_is {t : List Sp} {b : Bool} (h : t.length ≤ 9) (hp : picB t = true) (hb : (t.any fun a => !inB a.1 a.2 3) = b) : partB t = !b := by unfold partB; rw [decide_eq_true h, hp, hb]; rfl
theorem inB3_iff {x y : Int} : inB x y 3 = true ↔ -3 ≤ x ∧ x ≤ 3 ∧ -3 ≤ y ∧ y ≤ 3 := by unfold inB; simp
theorem partB_iff {t : List Sp} : partB t = true ↔ t.length ≤ 9 ∧ picB t = true ∧ ∀ a ∈ t, -3 ≤ a.1 ∧ a.1 ≤ 3 ∧ -3 ≤ a.2 ∧ a.2 ≤ 3 := by
  unfold partB
  rw [Bool.and_eq_true, Bool.and_eq_true, decide_eq_true_eq, Bool.not_eq_true', List.any_eq_false]
  constructor
  · rintro ⟨h1, h2, h3⟩
    refine ⟨h1, h2, fun a ha => ?_⟩
    have := h3 a ha
    rw [Bool.not_eq_true, Bool.not_eq_false'] at this
    exact inB3_iff.1 this
  · rintro ⟨h1, h2, h3⟩
    refine ⟨h1, h2, fun a ha => ?_⟩
    rw [Bool.not_eq_true, Bool.not_eq_false']
    exact inB3_iff.2 (h3 a ha)
theorem partOk_any (t : List Sp) (v : Value) (w : World) (h : Reads w w.heap.size v t) : Calls Try.prog 73 #[v] w (Gives (.bool (partB t)) w) := by
  obtain ⟨A, c, rfl, hc, hm⟩ := h.slice
  unfold maxLen at hm
  by_cases h9 : t.length ≤ 9
  · have g9 : (t.length : Int) ≤ 9 := by omega
    have d9 : decide ((t.length : Int) ≤ 9) = true := decide_eq_true g9
    rcases hp : picB t with _ | _
    · rw [partB_nop hp]
      go_enter Try.func73, Try.ntmps73
      go_wp2_with fail
      refine (gives_is hp (implPicture_any t _ _ h)).mono ?_
      rintro e w1 ⟨rfl, b1⟩
      go_wp2
      go_ret
      exact ⟨rfl, b1⟩
    · rcases ha : (t.any fun a => !inB a.1 a.2 3) with _ | _
      all_goals
        rw [partB_is h9 hp ha]
        have HP := Lib.hid hp
        have HA := Lib.hid ha
        clear hp ha
        go_enter Try.func73, Try.ntmps73
        go_wp2_with fail
        refine (gives_is HP.out (implPicture_any t _ _ h)).mono ?_
        rintro e w1 ⟨rfl, b1⟩
        go_wp2_with fail
        refine (gives_is HA.out (containsFar (fun a => !inB a.1 a.2 3) t _ _ (h.kept b1) (fun x y w1 _ _ => partOne_any x y w1))).mono ?_
        rintro e w2 ⟨rfl, b2⟩
        go_wp2
        go_ret
        exact ⟨rfl, below_step b1 b2⟩
  · rw [partB_no9 h9]
    go_enter Try.func73, Try.ntmps73
    go_wp2
    go_ret
    exact ⟨rfl, Below.refl _ _⟩
theorem patB_t0 {u : List Sp} : patB [] u = false := by
  rw [← Bool.not_eq_true, patB_iff]; exact fun h => h.t0 rfl
theorem patB_t {t u : List Sp} (h : partB t = false) : patB t u = false := by
  rw [← Bool.not_eq_true, patB_iff]; intro k
  rw [← Bool.not_eq_true, partB_iff] at h
  exact h ⟨k.t9, k.pt, fun a ha => k.small a (List.mem_append_left _ ha)⟩
theorem patB_u {t u : List Sp} (h : partB u = false) : patB t u = false := by
  rw [← Bool.not_eq_true, patB_iff]; intro k
  rw [← Bool.not_eq_true, partB_iff] at h
  exact h ⟨k.u9, k.pu, fun a ha => k.small a (List.mem_append_right _ ha)⟩
theorem patB_parts {t u : List Sp} (h0 : 0 < t.length) (ht : partB t = true) (hu : partB u = true) : patB t u = decide ((commonL t u).length = 0) := by
  obtain ⟨t9, pt, st⟩ := partB_iff.1 ht
  obtain ⟨u9, pu, su⟩ := partB_iff.1 hu
  have e : commonL t u = common t u := by unfold commonL bothB; rw [pt, pu]; rfl
  rw [e, Bool.eq_iff_iff, patB_iff, decide_eq_true_eq]
  constructor
  · intro k; rw [k.apart]; rfl
  · intro k
    refine ⟨fun a ha => ?_, pt, pu, List.eq_nil_of_length_eq_zero k, h0, t9, u9⟩
    rcases List.mem_append.1 ha with h | h
    · exact st a h
    · exact su a h
theorem patB_com {t u : List Sp} {n : Nat} (h0 : 0 < t.length) (ht : partB t = true) (hu : partB u = true) (hn : (commonL t u).length = n) : patB t u = decide (n = 0) := by rw [patB_parts h0 ht hu, hn]
set_option maxHeartbeats 1600000 in
theorem implPattern_any (t u : List Sp) (vt vu : Value) (w : World) (ht : Reads w w.heap.size vt t) (hu : Reads w w.heap.size vu u) : Calls Try.prog 44 #[.agg #[vt, vu]] w (Gives (.bool (patB t u)) w) := by
  obtain ⟨At, ct, rfl, hct, hmt⟩ := ht.slice
  obtain ⟨Au, cu, rfl, hcu, hmu⟩ := hu.slice
  unfold maxLen at hmt hmu
  have b0 := box_below w #[.slice At t.length ct, .slice Au u.length cu] 25
  obtain ⟨W, hW⟩ : ∃ W, W = w.alloc (.cells #[.slice At t.length ct, .slice Au u.length cu] 25) := ⟨_, rfl⟩
  have q0 : W.cell? ⟨w.heap.size, 0, none⟩ = some (.slice At t.length ct) := by rw [hW]; simp [go_sem]
  have q1 : W.cell? ⟨w.heap.size, 1, none⟩ = some (.slice Au u.length cu) := by rw [hW]; simp [go_sem]
  have s0 : w.heap.size < W.heap.size := by rw [hW]; simp
  rw [← hW] at b0
  have rt := ht.kept b0
  have ru := hu.kept b0
  by_cases h0 : t.length = 0
  · obtain rfl := List.eq_nil_of_length_eq_zero h0
    rw [patB_t0]
    go_enter Try.func44, Try.ntmps44
    go_wp2_with (first | (rw [← hW]; clear hW) | fail)
    go_ret
    subst hW
    exact ⟨rfl, b0⟩
  have h1 : 0 < t.length := by omega
  rcases hpt : partB t with _ | _
  · rw [patB_t hpt]
    have HT := Lib.hid hpt
    clear hpt
    go_enter Try.func44, Try.ntmps44
    go_wp2_with (first | (rw [← hW]; clear hW) | fail)
    refine (gives_is HT.out (partOk_any t _ _ rt)).mono ?_
    rintro e w1 ⟨rfl, bn⟩
    have q0 := (bn.cell (p := ⟨w.heap.size, 0, none⟩) s0).trans q0
    have q1 := (bn.cell (p := ⟨w.heap.size, 1, none⟩) s0).trans q1
    have s0 := Nat.lt_of_lt_of_le s0 bn.size
    have b0 := below_step b0 bn
    have rt := rt.kept bn
    have ru := ru.kept bn
    clear bn
    go_wp2
    go_ret
    exact ⟨rfl, b0⟩
  rcases hpu : partB u with _ | _
  · rw [patB_u hpu]
    have HT := Lib.hid hpt
    have HU := Lib.hid hpu
    clear hpt hpu
    go_enter Try.func44, Try.ntmps44
    go_wp2_with (first | (rw [← hW]; clear hW) | fail)
    refine (gives_is HT.out (partOk_any t _ _ rt)).mono ?_
    rintro e w1 ⟨rfl, bn⟩
    have q0 := (bn.cell (p := ⟨w.heap.size, 0, none⟩) s0).trans q0
    have q1 := (bn.cell (p := ⟨w.heap.size, 1, none⟩) s0).trans q1
    have s0 := Nat.lt_of_lt_of_le s0 bn.size
    have b0 := below_step b0 bn
    have rt := rt.kept bn
    have ru := ru.kept bn
    clear bn
    go_wp2_with fail
    refine (gives_is HU.out (partOk_any u _ _ ru)).mono ?_
    rintro e w2 ⟨rfl, bn⟩
    have q0 := (bn.cell (p := ⟨w.heap.size, 0, none⟩) s0).trans q0
    have q1 := (bn.cell (p := ⟨w.heap.size, 1, none⟩) s0).trans q1
    have s0 := Nat.lt_of_lt_of_le s0 bn.size
    have b0 := below_step b0 bn
    have rt := rt.kept bn
    have ru := ru.kept bn
    clear bn
    go_wp2
    go_ret
    exact ⟨rfl, b0⟩
  · obtain ⟨n, hn⟩ : ∃ n, (commonL t u).length = n := ⟨_, rfl⟩
    rw [patB_com h1 hpt hpu hn]
    have HN := Lib.hid hn
    have HT := Lib.hid hpt
    have HU := Lib.hid hpu
    clear hpt hpu hn
    go_enter Try.func44, Try.ntmps44
    go_wp2_with (first | (rw [← hW]; clear hW) | fail)
    refine (gives_is HT.out (partOk_any t _ _ rt)).mono ?_
    rintro e w1 ⟨rfl, bn⟩
    have q0 := (bn.cell (p := ⟨w.heap.size, 0, none⟩) s0).trans q0
    have q1 := (bn.cell (p := ⟨w.heap.size, 1, none⟩) s0).trans q1
    have s0 := Nat.lt_of_lt_of_le s0 bn.size
    have b0 := below_step b0 bn
    have rt := rt.kept bn
    have ru := ru.kept bn
    clear bn
    go_wp2_with fail
    refine (gives_is HU.out (partOk_any u _ _ ru)).mono ?_
    rintro e w2 ⟨rfl, bn⟩
    have q0 := (bn.cell (p := ⟨w.heap.size, 0, none⟩) s0).trans q0
    have q1 := (bn.cell (p := ⟨w.heap.size, 1, none⟩) s0).trans q1
    have s0 := Nat.lt_of_lt_of_le s0 bn.size
    have b0 := below_step b0 bn
    have rt := rt.kept bn
    have ru := ru.kept bn
    clear bn
    go_wp2_with fail
    refine (implCommon_any t u _ _ _ rt ru).mono ?_
    rintro e w3 ⟨v3, rfl, o3, bn⟩
    have q0 := (bn.cell (p := ⟨w.heap.size, 0, none⟩) s0).trans q0
    have q1 := (bn.cell (p := ⟨w.heap.size, 1, none⟩) s0).trans q1
    have s0 := Nat.lt_of_lt_of_le s0 bn.size
    have b0 := below_step b0 bn
    have rt := rt.kept bn
    have ru := ru.kept bn
    clear bn
    obtain ⟨A3, c3, rfl, _, _⟩ := o3.reads.slice
    rw [HN.out]
    go_wp2
    go_ret
    refine ⟨ret_bool ?_, b0⟩
    first | rfl | (rw [Bool.eq_iff_iff]; simp)

/-! ### the rule: where a pattern is found in a picture -/
/-- ruleIn's first closure: whether the picture has a spot -/
theorem hasIn_any (ps : List Sp) (v : Value) (P : Nat) (x y : Int) (w : World) (h : Reads w w.heap.size v ps) (hs : Sorted ps) (hl : ps.length ≤ 60) (hP : P < w.heap.size) (cP : w.cell? ⟨P, 0, none⟩ = some v) {b : Bool} (hb : inP ps (x, y) = b) :
    Calls Try.prog 76 #[.agg #[.int .i64 x, .int .i64 y], .pointer (some ⟨P, 0, none⟩)] w (Gives (.bool b) w) := by
  obtain ⟨A, c, rfl, hc, hm⟩ := h.slice
  have b0 := box_below w #[.int .i64 x, .int .i64 y] 35
  have e0 := (b0.cell (p := ⟨P, 0, none⟩) hP).trans cP
  have hcl := inPicture_is (w := w.alloc (.cells #[.int .i64 x, .int .i64 y] 35)) hb (h.kept b0) hs (by omega)
  clear hb
  go_enter Try.func76, Try.ntmps76
  go_wp2_with fail
  refine hcl.mono ?_
  rintro e w1 ⟨rfl, b1⟩
  go_wp2
  go_ret
  exact ⟨rfl, below_step b0 b1⟩
/-- what the closures of a rule look at: the pattern's box M, the picture's box P, the box H of ruleIn's first closure -/
structure RuleIn (w : World) (M P H : Nat) (v vt vu : Value) : Prop where
  m : M < w.heap.size
  p : P < w.heap.size
  h : H < w.heap.size
  c0 : w.cell? ⟨M, 0, none⟩ = some vt
  c1 : w.cell? ⟨M, 1, none⟩ = some vu
  cp : w.cell? ⟨P, 0, none⟩ = some v
  ch : w.cell? ⟨H, 0, none⟩ = some (.func (.func 76) #[] #[.pointer (some ⟨P, 0, none⟩)])
theorem RuleIn.kept {w w' : World} {M P H : Nat} {v vt vu : Value} (h : RuleIn w M P H v vt vu) (hb : Below w.heap.size w w') : RuleIn w' M P H v vt vu :=
  ⟨Nat.lt_of_lt_of_le h.m hb.size, Nat.lt_of_lt_of_le h.p hb.size, Nat.lt_of_lt_of_le h.h hb.size, (hb.cell (p := ⟨M, 0, none⟩) h.m).trans h.c0, (hb.cell (p := ⟨M, 1, none⟩) h.m).trans h.c1, (hb.cell (p := ⟨P, 0, none⟩) h.p).trans h.cp, (hb.cell (p := ⟨H, 0, none⟩) h.h).trans h.ch⟩
/-- foundAt's first closure: whether the picture has a spot moved -/
theorem isThere_any (ps : List Sp) (v : Value) (P H D : Nat) (ax ay bx by' : Int) (w : World) (h : Reads w w.heap.size v ps) (hs : Sorted ps) (hl : ps.length ≤ 60) (ha : NearS (ax, ay)) (hb : NearS (bx, by'))
    (hP : P < w.heap.size) (hH : H < w.heap.size) (hD : D < w.heap.size) (cP : w.cell? ⟨P, 0, none⟩ = some v) (cH : w.cell? ⟨H, 0, none⟩ = some (.func (.func 76) #[] #[.pointer (some ⟨P, 0, none⟩)]))
    (q0 : w.cell? ⟨D, 0, none⟩ = some (.int .i64 ax)) (q1 : w.cell? ⟨D, 1, none⟩ = some (.int .i64 ay)) {k : Bool} (hk : inP ps (ax + bx, ay + by') = k) :
    Calls Try.prog 95 #[.agg #[.int .i64 bx, .int .i64 by'], .pointer (some ⟨H, 0, none⟩), .pointer (some ⟨D, 0, none⟩)] w (Gives (.bool k) w) := by
  unfold NearS at ha hb
  simp only at ha hb
  have b0 := box_below w #[.int .i64 bx, .int .i64 by'] 35
  obtain ⟨W, hW⟩ : ∃ W, W = w.alloc (.cells #[.int .i64 bx, .int .i64 by'] 35) := ⟨_, rfl⟩
  have f3 := cell_regrown (show W.cell? ⟨w.heap.size, 0, none⟩ = some (.int .i64 bx) by rw [hW]; simp [go_sem])
  have f4 := cell_regrown (show W.cell? ⟨w.heap.size, 1, none⟩ = some (.int .i64 by') by rw [hW]; simp [go_sem])
  rw [← hW] at b0
  have f0 := cell_regrown ((b0.cell (p := ⟨H, 0, none⟩) hH).trans cH)
  have f1 := cell_regrown ((b0.cell (p := ⟨D, 0, none⟩) hD).trans q0)
  have f2 := cell_regrown ((b0.cell (p := ⟨D, 1, none⟩) hD).trans q1)
  have HC := Lib.hid (fun (w1 : World) (hb1 : Below W.heap.size W w1) => hasIn_any ps v P (ax + bx) (ay + by') w1 (h.kept (below_step b0 hb1)) hs hl (Nat.lt_of_lt_of_le hP (below_step b0 hb1).size) (((below_step b0 hb1).cell (p := ⟨P, 0, none⟩) hP).trans cP) hk)
  clear hk cP cH q0 q1 h
  go_enter Try.func95, Try.ntmps95
  go_wp2_with fail
  rw [← hW]
  clear hW
  go_wp2
  refine wp_region_quiet_below (by kernel_rfl) (by kernel_rfl) ?_
  repeat (go_big_quiet_step (first | (go_at_call 55; exact gives_regrown (fun w1 _ => added_in ax ay bx by' w1 (by omega) (by omega)) _ _) | (with_reducible exact gives_regrown (fun w1 hb1 => HC.out w1 hb1) _ _)))
  refine wpQuiet_nil ?_
  intro _ hw'
  obtain ⟨⟨dq, osq⟩, hw''⟩ := hw'
  subst hw''
  go_wp2
  go_ret
  exact ⟨rfl, b0.trans ((below_regrown _ _ _).mono b0.size)⟩
/-- foundAt's second closure: whether it has it not -/
theorem isNot_any (ps : List Sp) (v : Value) (P H D I : Nat) (ax ay bx by' : Int) (w : World) (h : Reads w w.heap.size v ps) (hs : Sorted ps) (hl : ps.length ≤ 60) (ha : NearS (ax, ay)) (hb : NearS (bx, by'))
    (hP : P < w.heap.size) (hH : H < w.heap.size) (hD : D < w.heap.size) (hI : I < w.heap.size) (cP : w.cell? ⟨P, 0, none⟩ = some v) (cH : w.cell? ⟨H, 0, none⟩ = some (.func (.func 76) #[] #[.pointer (some ⟨P, 0, none⟩)]))
    (q0 : w.cell? ⟨D, 0, none⟩ = some (.int .i64 ax)) (q1 : w.cell? ⟨D, 1, none⟩ = some (.int .i64 ay)) (cI : w.cell? ⟨I, 0, none⟩ = some (.func (.func 95) #[] #[.pointer (some ⟨H, 0, none⟩), .pointer (some ⟨D, 0, none⟩)])) {k : Bool} (hk : inP ps (ax + bx, ay + by') = k) :
    Calls Try.prog 96 #[.agg #[.int .i64 bx, .int .i64 by'], .pointer (some ⟨I, 0, none⟩)] w (Gives (.bool (!k)) w) := by
  have b0 := box_below w #[.int .i64 bx, .int .i64 by'] 35
  have hcl := isThere_any ps v P H D ax ay bx by' (w.alloc (.cells #[.int .i64 bx, .int .i64 by'] 35)) (h.kept b0) hs hl ha hb (Nat.lt_of_lt_of_le hP b0.size) (Nat.lt_of_lt_of_le hH b0.size) (Nat.lt_of_lt_of_le hD b0.size) ((b0.cell (p := ⟨P, 0, none⟩) hP).trans cP) ((b0.cell (p := ⟨H, 0, none⟩) hH).trans cH) ((b0.cell (p := ⟨D, 0, none⟩) hD).trans q0) ((b0.cell (p := ⟨D, 1, none⟩) hD).trans q1) hk
  have e0 := (b0.cell (p := ⟨I, 0, none⟩) hI).trans cI
  clear hk cP cH q0 q1 cI h
  go_enter Try.func96, Try.ntmps96
  go_wp2_with fail
  refine hcl.mono ?_
  rintro e w1 ⟨rfl, b1⟩
  go_wp2
  go_ret
  exact ⟨rfl, below_step b0 b1⟩
theorem patAt_any (p t u : List Sp) (a : Sp) : patAt p t u a = (!(t.any fun b => !inP p (a.1 + b.1, a.2 + b.2)) && !(u.any fun b => inP p (a.1 + b.1, a.2 + b.2))) := by
  unfold patAt
  rw [Bool.eq_iff_iff, Bool.and_eq_true, Bool.and_eq_true, Bool.not_eq_true', Bool.not_eq_true', List.any_eq_false, List.any_eq_false, decide_eq_true_eq, decide_eq_true_eq]
  constructor
  · rintro ⟨h1, h2⟩
    refine ⟨fun d hd => ?_, fun d hd => ?_⟩
    · rw [Bool.not_eq_true, Bool.not_eq_false']; exact decide_eq_true (h1 d hd)
    · exact fun k => h2 d hd (of_decide_eq_true k)
  · rintro ⟨h1, h2⟩
    refine ⟨fun d hd => ?_, fun d hd k => ?_⟩
    · have := h1 d hd
      rw [Bool.not_eq_true, Bool.not_eq_false'] at this
      exact of_decide_eq_true this
    · exact h2 d hd (decide_eq_true k)
theorem patAt_f1 {p t u : List Sp} {x y : Int} (h : (t.any fun b => !inP p (x + b.1, y + b.2)) = true) : patAt p t u (x, y) = false := by rw [patAt_any, h]; rfl
theorem patAt_f2 {p t u : List Sp} {x y : Int} {k : Bool} (h : (t.any fun b => !inP p (x + b.1, y + b.2)) = false) (h2 : (u.any fun b => inP p (x + b.1, y + b.2)) = k) : patAt p t u (x, y) = !k := by rw [patAt_any, h, h2]; rfl
set_option maxHeartbeats 1600000 in
theorem foundAt_any (ps t u : List Sp) (v vt vu : Value) (P : Nat) (ax ay : Int) (w : World) (h : Reads w w.heap.size v ps) (ht : Reads w w.heap.size vt t) (hu : Reads w w.heap.size vu u) (hs : Sorted ps) (hl : ps.length ≤ 60) (ha : NearS (ax, ay)) (htn : ∀ b ∈ t, NearS b) (hun : ∀ b ∈ u, NearS b)
    (hP : P < w.heap.size) (cP : w.cell? ⟨P, 0, none⟩ = some v) :
    Calls Try.prog 79 #[.agg #[vt, vu], .agg #[.int .i64 ax, .int .i64 ay], .func (.func 76) #[] #[.pointer (some ⟨P, 0, none⟩)]] w (Gives (.bool (patAt ps t u (ax, ay))) w) := by
  obtain ⟨At, ct, rfl, hct, hmt⟩ := ht.slice
  obtain ⟨Au, cu, rfl, hcu, hmu⟩ := hu.slice
  obtain ⟨B, hB⟩ : ∃ B, B = w.heap.size := ⟨_, rfl⟩
  obtain ⟨W, hW⟩ : ∃ W, W = (((w.alloc (.cells #[.slice At t.length ct, .slice Au u.length cu] 25)).alloc (.cells #[.int .i64 ax, .int .i64 ay] 35)).alloc (.cells #[.func (.func 76) #[] #[.pointer (some ⟨P, 0, none⟩)]] 62)).alloc (.cells #[.func (.func 95) #[] #[.pointer (some ⟨w.heap.size + 2, 0, none⟩), .pointer (some ⟨w.heap.size + 1, 0, none⟩)]] 62) := ⟨_, rfl⟩
  have b0 : Below w.heap.size w W := by rw [hW]; exact ((((Below.refl _ _).alloc (Nat.le_refl _) _).alloc (by simp) _).alloc (by simp; omega) _).alloc (by simp; omega) _
  have q0 : W.cell? ⟨w.heap.size, 0, none⟩ = some (.slice At t.length ct) := by rw [hW]; simp [go_sem, World.cell?_alloc_past]
  have q1 : W.cell? ⟨w.heap.size, 1, none⟩ = some (.slice Au u.length cu) := by rw [hW]; simp [go_sem, World.cell?_alloc_past]
  have a0 : W.cell? ⟨w.heap.size + 1, 0, none⟩ = some (.int .i64 ax) := by rw [hW]; simp [go_sem, World.cell?_alloc_past]
  have a1 : W.cell? ⟨w.heap.size + 1, 1, none⟩ = some (.int .i64 ay) := by rw [hW]; simp [go_sem, World.cell?_alloc_past]
  have k0 : W.cell? ⟨w.heap.size + 2, 0, none⟩ = some (.func (.func 76) #[] #[.pointer (some ⟨P, 0, none⟩)]) := by rw [hW]; simp [go_sem, World.cell?_alloc_past]
  have i0 : W.cell? ⟨w.heap.size + 3, 0, none⟩ = some (.func (.func 95) #[] #[.pointer (some ⟨w.heap.size + 2, 0, none⟩), .pointer (some ⟨w.heap.size + 1, 0, none⟩)]) := by rw [hW]; simp [go_sem]
  have hsz : w.heap.size + 3 < W.heap.size := by rw [hW]; simp
  have s0 : w.heap.size < W.heap.size := by omega
  have s1 : w.heap.size + 1 < W.heap.size := by omega
  have s2 : w.heap.size + 2 < W.heap.size := by omega
  have p0 := (b0.cell (p := ⟨P, 0, none⟩) hP).trans cP
  have hPW := Nat.lt_of_lt_of_le hP b0.size
  have rp := h.kept b0
  have rt := ht.kept b0
  have ru := hu.kept b0
  have ct1 := containsNot (fun b => !inP ps (ax + b.1, ay + b.2)) t _ (w.heap.size + 3) W rt (fun x y w1 hm hb => isNot_any ps v P (w.heap.size + 2) (w.heap.size + 1) (w.heap.size + 3) ax ay x y w1 (rp.kept hb) hs hl ha (htn _ hm) (Nat.lt_of_lt_of_le hPW hb.size) (Nat.lt_of_lt_of_le s2 hb.size) (Nat.lt_of_lt_of_le s1 hb.size) (Nat.lt_of_lt_of_le hsz hb.size) ((hb.cell (p := ⟨P, 0, none⟩) hPW).trans p0) ((hb.cell (p := ⟨w.heap.size + 2, 0, none⟩) s2).trans k0) ((hb.cell (p := ⟨w.heap.size + 1, 0, none⟩) s1).trans a0) ((hb.cell (p := ⟨w.heap.size + 1, 1, none⟩) s1).trans a1) ((hb.cell (p := ⟨w.heap.size + 3, 0, none⟩) hsz).trans i0) rfl)
  have ct2 := fun (w2 : World) (hb2 : Below W.heap.size W w2) => containsThere (fun b => inP ps (ax + b.1, ay + b.2)) u _ (w.heap.size + 2) (w.heap.size + 1) w2 (ru.kept hb2) (fun x y w1 hm hb => isThere_any ps v P (w.heap.size + 2) (w.heap.size + 1) ax ay x y w1 ((rp.kept hb2).kept hb) hs hl ha (hun _ hm) (Nat.lt_of_lt_of_le hPW (below_step hb2 hb).size) (Nat.lt_of_lt_of_le s2 (below_step hb2 hb).size) (Nat.lt_of_lt_of_le s1 (below_step hb2 hb).size) (((below_step hb2 hb).cell (p := ⟨P, 0, none⟩) hPW).trans p0) (((below_step hb2 hb).cell (p := ⟨w.heap.size + 2, 0, none⟩) s2).trans k0) (((below_step hb2 hb).cell (p := ⟨w.heap.size + 1, 0, none⟩) s1).trans a0) (((below_step hb2 hb).cell (p := ⟨w.heap.size + 1, 1, none⟩) s1).trans a1) rfl)
  rcases h1 : (t.any fun b => !inP ps (ax + b.1, ay + b.2)) with _ | _
  · rcases h2 : (u.any fun b => inP ps (ax + b.1, ay + b.2)) with _ | _
    all_goals
      rw [patAt_f2 h1 h2]
      have C1 := gives_is h1 ct1
      have C2 := fun w2 hb2 => gives_is h2 (ct2 w2 hb2)
      clear h1 h2 ct1 ct2 cP p0
      go_enter Try.func79, Try.ntmps79
      go_wp2_with (first | (rw [← hW]; clear hW) | fail)
      refine C1.mono ?_
      rintro e w1 ⟨rfl, b1⟩
      have q1 := (b1.cell (p := ⟨w.heap.size, 1, none⟩) s0).trans q1
      have i0 := (b1.cell (p := ⟨w.heap.size + 3, 0, none⟩) hsz).trans i0
      go_wp2_with fail
      refine (C2 _ b1).mono ?_
      rintro e w2 ⟨rfl, b2⟩
      go_wp2
      go_ret
      exact ⟨rfl, below_step (below_step b0 b1) b2⟩
  · rw [patAt_f1 h1]
    have C1 := gives_is h1 ct1
    clear h1 ct1 ct2 cP p0
    go_enter Try.func79, Try.ntmps79
    go_wp2_with (first | (rw [← hW]; clear hW) | fail)
    refine C1.mono ?_
    rintro e w1 ⟨rfl, b1⟩
    go_wp2
    go_ret
    exact ⟨rfl, below_step b0 b1⟩

def RulePat (v vt vu : Value) (w : World) (e : Ending) (w' : World) : Prop := ∃ M P H : Nat, e = .returned (.func (.func 78) #[] #[.pointer (some ⟨M, 0, none⟩), .pointer (some ⟨H, 0, none⟩)]) ∧ RuleIn w' M P H v vt vu ∧ Below w.heap.size w w'
theorem ruleIn_any (A At Au : Option Addr) (n c nt ct nu cu : Nat) (w : World) :
    Calls Try.prog 48 #[.agg #[.slice At nt ct, .slice Au nu cu], .slice A n c] w (RulePat (.slice A n c) (.slice At nt ct) (.slice Au nu cu) w) := by
  go_enter Try.func48, Try.ntmps48
  go_wp2
  go_ret
  refine ⟨w.heap.size, w.heap.size + 1, w.heap.size + 2, rfl, ⟨by simp; omega, by simp, by simp, ?_, ?_, ?_, ?_⟩, (((Below.refl _ _).alloc (Nat.le_refl _) _).alloc (by simp) _).alloc (by simp; omega) _⟩
  all_goals simp [go_sem, World.cell?_alloc_past]
/-- the rule: whether the pattern is found at a spot -/
theorem ruleTold_any (ps t u : List Sp) (v vt vu : Value) (M P H : Nat) (ax ay : Int) (w : World) (hR : RuleIn w M P H v vt vu) (h : Reads w w.heap.size v ps) (ht : Reads w w.heap.size vt t) (hu : Reads w w.heap.size vu u) (hs : Sorted ps) (hl : ps.length ≤ 60) (ha : NearS (ax, ay)) (htn : ∀ b ∈ t, NearS b) (hun : ∀ b ∈ u, NearS b) :
    Calls Try.prog 78 #[.agg #[.int .i64 ax, .int .i64 ay], .pointer (some ⟨M, 0, none⟩), .pointer (some ⟨H, 0, none⟩)] w (Gives (.bool (patAt ps t u (ax, ay))) w) := by
  have b0 := box_below w #[.int .i64 ax, .int .i64 ay] 35
  have R := hR.kept b0
  have hcl := foundAt_any ps t u v vt vu P ax ay (w.alloc (.cells #[.int .i64 ax, .int .i64 ay] 35)) (h.kept b0) (ht.kept b0) (hu.kept b0) hs hl ha htn hun R.p R.cp
  obtain ⟨A, c, rfl, _, _⟩ := h.slice
  obtain ⟨At, ct, rfl, _, _⟩ := ht.slice
  obtain ⟨Au, cu, rfl, _, _⟩ := hu.slice
  have e0 := R.c0
  have e1 := R.c1
  have e2 := R.ch
  clear R hR
  generalize patAt ps t u (ax, ay) = k at *
  go_enter Try.func78, Try.ntmps78
  go_wp2_with fail
  refine hcl.mono ?_
  rintro e w1 ⟨rfl, b1⟩
  go_wp2
  go_ret
  exact ⟨rfl, below_step b0 b1⟩
/-- ThinnedBy's closure: whether it is not found there -/
theorem thinRule_any (ps t u : List Sp) (v vt vu : Value) (M P H F : Nat) (ax ay : Int) (w : World) (hR : RuleIn w M P H v vt vu) (h : Reads w w.heap.size v ps) (ht : Reads w w.heap.size vt t) (hu : Reads w w.heap.size vu u) (hs : Sorted ps) (hl : ps.length ≤ 60) (ha : NearS (ax, ay)) (htn : ∀ b ∈ t, NearS b) (hun : ∀ b ∈ u, NearS b)
    (hF : F < w.heap.size) (cF : w.cell? ⟨F, 0, none⟩ = some (.func (.func 78) #[] #[.pointer (some ⟨M, 0, none⟩), .pointer (some ⟨H, 0, none⟩)])) :
    Calls Try.prog 58 #[.agg #[.int .i64 ax, .int .i64 ay], .pointer (some ⟨F, 0, none⟩)] w (Gives (.bool (!patAt ps t u (ax, ay))) w) := by
  have b0 := box_below w #[.int .i64 ax, .int .i64 ay] 35
  have hcl := ruleTold_any ps t u v vt vu M P H ax ay (w.alloc (.cells #[.int .i64 ax, .int .i64 ay] 35)) (hR.kept b0) (h.kept b0) (ht.kept b0) (hu.kept b0) hs hl ha htn hun
  have e0 := (b0.cell (p := ⟨F, 0, none⟩) hF).trans cF
  clear cF
  generalize patAt ps t u (ax, ay) = k at *
  go_enter Try.func58, Try.ntmps58
  go_wp2_with fail
  refine hcl.mono ?_
  rintro e w1 ⟨rfl, b1⟩
  go_wp2
  go_ret
  exact ⟨rfl, below_step b0 b1⟩
theorem near_pat {t u : List Sp} (h : patB t u = true) : (∀ b ∈ t, NearS b) ∧ ∀ b ∈ u, NearS b := by
  have k := (patB_iff.1 h).small
  exact ⟨fun b hb => by have := k b (List.mem_append_left _ hb); unfold NearS; omega, fun b hb => by have := k b (List.mem_append_right _ hb); unfold NearS; omega⟩
theorem near_pic {p : List Sp} (h : picB p = true) : ∀ b ∈ p, NearS b := fun b hb => by
  have := (picB_pic h).2.1 b hb
  unfold InR at this; unfold NearS; omega
theorem implPattern_lit {b : Bool} {t u : List Sp} {vt vu : Value} {w : World} (hk : patB t u = b) (ht : Reads w w.heap.size vt t) (hu : Reads w w.heap.size vu u) : Calls Try.prog 44 #[.agg #[vt, vu]] w (Gives (.bool b) w) := by
  subst hk; exact implPattern_any t u vt vu w ht hu

/-! ### ThinnedBy -/
theorem thin_no1' {p t u : List Sp} (h : picB p = false) : thinOk p t u = false ∧ thinR p t u = [] := by
  have : thinOk p t u = false := by unfold thinOk; rw [h]; rfl
  exact ⟨this, thin_no this⟩
theorem thin_no2' {p t u : List Sp} (h : patB t u = false) : thinOk p t u = false ∧ thinR p t u = [] := by
  have : thinOk p t u = false := by unfold thinOk; rw [h, Bool.and_false]
  exact ⟨this, thin_no this⟩
theorem thin_yes2 {p t u : List Sp} (h : picB p = true) (k : patB t u = true) : thinOk p t u = true ∧ thinR p t u = p.filter fun x => !patAt p t u x := by
  have : thinOk p t u = true := by unfold thinOk; rw [h, k]; rfl
  exact ⟨this, thin_yes this⟩
set_option maxHeartbeats 1600000 in
theorem implThin_any (ps t u : List Sp) (v vt vu : Value) (w : World) (h : Reads w w.heap.size v ps) (ht : Reads w w.heap.size vt t) (hu : Reads w w.heap.size vu u) :
    Calls Try.prog 29 #[v, .agg #[vt, vu]] w (Gives2' (thinR ps t u) (thinOk ps t u) w) := by
  obtain ⟨A, c, rfl, hc, hm⟩ := h.slice
  obtain ⟨At, ct, rfl, hct, hmt⟩ := ht.slice
  obtain ⟨Au, cu, rfl, hcu, hmu⟩ := hu.slice
  have b0 := box_below w #[.slice At t.length ct, .slice Au u.length cu] 25
  obtain ⟨W, hW⟩ : ∃ W, W = w.alloc (.cells #[.slice At t.length ct, .slice Au u.length cu] 25) := ⟨_, rfl⟩
  have q0 : W.cell? ⟨w.heap.size, 0, none⟩ = some (.slice At t.length ct) := by rw [hW]; simp [go_sem]
  have q1 : W.cell? ⟨w.heap.size, 1, none⟩ = some (.slice Au u.length cu) := by rw [hW]; simp [go_sem]
  have s0 : w.heap.size < W.heap.size := by rw [hW]; simp
  rw [← hW] at b0
  have rt := ht.kept b0
  have ru := hu.kept b0
  have rp := h.kept b0
  rcases hp : picB ps with _ | _
  · obtain ⟨e1, e2⟩ := thin_no1' (t := t) (u := u) hp
    rw [e1, e2]
    clear e1 e2
    go_enter Try.func29, Try.ntmps29
    go_wp2_with (first | (rw [← hW]; clear hW) | fail)
    refine (gives_is hp (implPicture_any ps _ _ rp)).mono ?_
    rintro e w1 ⟨rfl, bn⟩
    have rp := rp.kept bn
    have q0 := (bn.cell (p := ⟨w.heap.size, 0, none⟩) s0).trans q0
    have q1 := (bn.cell (p := ⟨w.heap.size, 1, none⟩) s0).trans q1
    have s0 := Nat.lt_of_lt_of_le s0 bn.size
    have b0 := below_step b0 bn
    have rt := rt.kept bn
    have ru := ru.kept bn
    clear bn
    go_wp2
    go_ret2
    exact ⟨_, rfl, Owns.nil _ _, b0⟩
  rcases hk : patB t u with _ | _
  · obtain ⟨e1, e2⟩ := thin_no2' (p := ps) hk
    rw [e1, e2]
    have HP := Lib.hid hp
    have HK := Lib.hid hk
    clear e1 e2 hp hk
    go_enter Try.func29, Try.ntmps29
    go_wp2_with (first | (rw [← hW]; clear hW) | fail)
    refine (gives_is HP.out (implPicture_any ps _ _ rp)).mono ?_
    rintro e w1 ⟨rfl, bn⟩
    have rp := rp.kept bn
    have q0 := (bn.cell (p := ⟨w.heap.size, 0, none⟩) s0).trans q0
    have q1 := (bn.cell (p := ⟨w.heap.size, 1, none⟩) s0).trans q1
    have s0 := Nat.lt_of_lt_of_le s0 bn.size
    have b0 := below_step b0 bn
    have rt := rt.kept bn
    have ru := ru.kept bn
    clear bn
    go_wp2_with fail
    refine (implPattern_lit HK.out rt ru).mono ?_
    rintro e w2 ⟨rfl, bn⟩
    have rp := rp.kept bn
    have q0 := (bn.cell (p := ⟨w.heap.size, 0, none⟩) s0).trans q0
    have q1 := (bn.cell (p := ⟨w.heap.size, 1, none⟩) s0).trans q1
    have s0 := Nat.lt_of_lt_of_le s0 bn.size
    have b0 := below_step b0 bn
    have rt := rt.kept bn
    have ru := ru.kept bn
    clear bn
    go_wp2
    go_ret2
    exact ⟨_, rfl, Owns.nil _ _, b0⟩
  · obtain ⟨e1, e2⟩ := thin_yes2 hp hk
    rw [e1, e2]
    have hs := (picB_pic hp).2.2
    have hl := (picB_pic hp).1
    have hpn := near_pic hp
    obtain ⟨htn, hun⟩ := near_pat hk
    have HP := Lib.hid hp
    have HK := Lib.hid hk
    clear e1 e2 hp hk
    go_enter Try.func29, Try.ntmps29
    go_wp2_with (first | (rw [← hW]; clear hW) | fail)
    refine (gives_is HP.out (implPicture_any ps _ _ rp)).mono ?_
    rintro e w1 ⟨rfl, bn⟩
    have rp := rp.kept bn
    have q0 := (bn.cell (p := ⟨w.heap.size, 0, none⟩) s0).trans q0
    have q1 := (bn.cell (p := ⟨w.heap.size, 1, none⟩) s0).trans q1
    have s0 := Nat.lt_of_lt_of_le s0 bn.size
    have b0 := below_step b0 bn
    have rt := rt.kept bn
    have ru := ru.kept bn
    clear bn
    go_wp2_with fail
    refine (implPattern_lit HK.out rt ru).mono ?_
    rintro e w2 ⟨rfl, bn⟩
    have rp := rp.kept bn
    have q0 := (bn.cell (p := ⟨w.heap.size, 0, none⟩) s0).trans q0
    have q1 := (bn.cell (p := ⟨w.heap.size, 1, none⟩) s0).trans q1
    have s0 := Nat.lt_of_lt_of_le s0 bn.size
    have b0 := below_step b0 bn
    have rt := rt.kept bn
    have ru := ru.kept bn
    clear bn
    go_wp2_with fail
    refine (ruleIn_any _ _ _ _ _ _ _ _ _ _).mono ?_
    rintro e w3 ⟨M, P, H, rfl, hR, bn⟩
    have rp := rp.kept bn
    have q0 := (bn.cell (p := ⟨w.heap.size, 0, none⟩) s0).trans q0
    have q1 := (bn.cell (p := ⟨w.heap.size, 1, none⟩) s0).trans q1
    have s0 := Nat.lt_of_lt_of_le s0 bn.size
    have b0 := below_step b0 bn
    have rt := rt.kept bn
    have ru := ru.kept bn
    clear bn
    obtain ⟨w4, hw4⟩ : ∃ w4, w4 = w3.alloc (.cells #[.func (.func 78) #[] #[.pointer (some ⟨M, 0, none⟩), .pointer (some ⟨H, 0, none⟩)]] 62) := ⟨_, rfl⟩
    have cF : w4.cell? ⟨w3.heap.size, 0, none⟩ = some (.func (.func 78) #[] #[.pointer (some ⟨M, 0, none⟩), .pointer (some ⟨H, 0, none⟩)]) := by rw [hw4]; simp [go_sem]
    have sF : w3.heap.size < w4.heap.size := by rw [hw4]; simp
    have bn : Below w3.heap.size w3 w4 := by rw [hw4]; exact box_below _ _ _
    have hR := hR.kept bn
    have rp := rp.kept bn
    have q0 := (bn.cell (p := ⟨w.heap.size, 0, none⟩) s0).trans q0
    have q1 := (bn.cell (p := ⟨w.heap.size, 1, none⟩) s0).trans q1
    have s0 := Nat.lt_of_lt_of_le s0 bn.size
    have b0 := below_step b0 bn
    have rt := rt.kept bn
    have ru := ru.kept bn
    clear bn
    have hsp := spotsThin (fun x => !patAt ps t u x) w3.heap.size ps _ w4 rp (by omega) (fun x y w5 hm5 hb5 => thinRule_any ps t u _ _ _ M P H w3.heap.size x y w5 (hR.kept hb5) (rp.kept hb5) (rt.kept hb5) (ru.kept hb5) hs hl (hpn _ hm5) htn hun (Nat.lt_of_lt_of_le sF hb5.size) ((hb5.cell (p := ⟨w3.heap.size, 0, none⟩) sF).trans cF))
    go_wp2_with (first | (rw [← hw4]; clear hw4) | fail)
    refine hsp.mono ?_
    rintro e w5 ⟨v5, rfl, o5, b5⟩
    have s5 := b0.size
    have bb := below_step b0 b5
    go_wp2
    go_ret2
    exact ⟨_, rfl, o5.base s5, bb⟩

/-! ### FoundIn -/
def backBy (p : List Sp) (c : Sp) : List Sp := p.map fun b => (b.1 - c.1, b.2 - c.2)
theorem length_lessL (p : List Sp) (c : Sp) : (backBy p c).length = p.length := by simp [backBy]
theorem lessL_at {p : List Sp} {c : Sp} {k : Nat} {x y : Int} (h : p[k]? = some (x, y)) : (backBy p c)[k]? = some (x - c.1, y - c.2) := by
  unfold backBy; rw [List.getElem?_map, h]; rfl
theorem less_found {p t u : List Sp} {c : Sp} (h : t[0]? = some c) : (backBy p c).filter (patAt p t u) = foundL p t u := by
  rw [← foundUpto_all h]
  unfold foundUpto backBy
  rw [List.take_length]
theorem less_near {p : List Sp} {c : Sp} (hp : picB p = true) (hc : -3 ≤ c.1 ∧ c.1 ≤ 3 ∧ -3 ≤ c.2 ∧ c.2 ≤ 3) : ∀ b ∈ backBy p c, NearS b := fun b hb => by
  obtain ⟨a, ha, rfl⟩ := List.mem_map.1 hb
  have := (picB_pic hp).2.1 a ha
  unfold InR at this; unfold NearS
  simp only []; omega
theorem keepN {w : World} {g n m k o : Nat} {a b v : Value} (h : k ≠ g) (hc : w.cell? ⟨k, o, none⟩ = some v) : ((w.setCell ⟨g, n, none⟩ a).setCell ⟨g, m, none⟩ b).cell? ⟨k, o, none⟩ = some v := by
  rw [World.cell?_setCell_far _ _ _ _ (fun e => h e.symm), World.cell?_setCell_far _ _ _ _ (fun e => h e.symm), hc]
set_option maxRecDepth 100000 in
set_option maxHeartbeats 3200000 in
theorem implFound_any (ps t u : List Sp) (v vt vu : Value) (w : World) (h : Reads w w.heap.size v ps) (ht : Reads w w.heap.size vt t) (hu : Reads w w.heap.size vu u) :
    Calls Try.prog 12 #[v, .agg #[vt, vu]] w (Gives2' (foundR ps t u) (foundOk ps t u) w) := by
  obtain ⟨A, c, rfl, hc, hm, hA, hr⟩ := h.is
  obtain ⟨At, ct, rfl, hct, hmt, hAt, hrt⟩ := ht.is
  obtain ⟨Au, cu, rfl, hcu, hmu⟩ := hu.slice
  unfold maxLen at hm hmt hmu
  have b0 := box_below w #[.slice At t.length ct, .slice Au u.length cu] 25
  obtain ⟨W, hW⟩ : ∃ W, W = w.alloc (.cells #[.slice At t.length ct, .slice Au u.length cu] 25) := ⟨_, rfl⟩
  have q0 : W.cell? ⟨w.heap.size, 0, none⟩ = some (.slice At t.length ct) := by rw [hW]; simp [go_sem]
  have q1 : W.cell? ⟨w.heap.size, 1, none⟩ = some (.slice Au u.length cu) := by rw [hW]; simp [go_sem]
  have s0 : w.heap.size < W.heap.size := by rw [hW]; simp
  rw [← hW] at b0
  have rt := ht.kept b0
  have ru := hu.kept b0
  have rp := h.kept b0
  rcases hp : picB ps with _ | _
  · obtain ⟨e1, e2⟩ := found_no1 (t := t) (u := u) hp
    rw [e1, e2]
    clear e1 e2
    go_enter Try.func12, Try.ntmps12
    go_wp2_with (first | (rw [← hW]; clear hW) | fail)
    refine (gives_is hp (implPicture_any ps _ _ rp)).mono ?_
    rintro e w1 ⟨rfl, bn⟩
    have rp := rp.kept bn
    have q0 := (bn.cell (p := ⟨w.heap.size, 0, none⟩) s0).trans q0
    have q1 := (bn.cell (p := ⟨w.heap.size, 1, none⟩) s0).trans q1
    have s0 := Nat.lt_of_lt_of_le s0 bn.size
    have b0 := below_step b0 bn
    have rt := rt.kept bn
    have ru := ru.kept bn
    clear bn
    go_wp2
    go_ret2
    exact ⟨_, rfl, Owns.nil _ _, b0⟩
  rcases hk : patB t u with _ | _
  · obtain ⟨e1, e2⟩ := found_no2 (p := ps) hk
    rw [e1, e2]
    have HP := Lib.hid hp
    have HK := Lib.hid hk
    clear e1 e2 hp hk
    go_enter Try.func12, Try.ntmps12
    go_wp2_with (first | (rw [← hW]; clear hW) | fail)
    refine (gives_is HP.out (implPicture_any ps _ _ rp)).mono ?_
    rintro e w1 ⟨rfl, bn⟩
    have rp := rp.kept bn
    have q0 := (bn.cell (p := ⟨w.heap.size, 0, none⟩) s0).trans q0
    have q1 := (bn.cell (p := ⟨w.heap.size, 1, none⟩) s0).trans q1
    have s0 := Nat.lt_of_lt_of_le s0 bn.size
    have b0 := below_step b0 bn
    have rt := rt.kept bn
    have ru := ru.kept bn
    clear bn
    go_wp2_with fail
    refine (implPattern_lit HK.out rt ru).mono ?_
    rintro e w2 ⟨rfl, bn⟩
    have rp := rp.kept bn
    have q0 := (bn.cell (p := ⟨w.heap.size, 0, none⟩) s0).trans q0
    have q1 := (bn.cell (p := ⟨w.heap.size, 1, none⟩) s0).trans q1
    have s0 := Nat.lt_of_lt_of_le s0 bn.size
    have b0 := below_step b0 bn
    have rt := rt.kept bn
    have ru := ru.kept bn
    clear bn
    go_wp2
    go_ret2
    exact ⟨_, rfl, Owns.nil _ _, b0⟩
  · have hs := (picB_pic hp).2.2
    have hl := (picB_pic hp).1
    have hin := (picB_pic hp).2.1
    obtain ⟨htn, hun⟩ := near_pat hk
    have ht1 := (patB_iff.1 hk).t1
    obtain ⟨⟨cx, cy⟩, hcc⟩ : ∃ a, t[0]? = some a := ⟨_, List.getElem?_eq_getElem (by omega)⟩
    have hnc := (patB_iff.1 hk).small _ (List.mem_append_left _ (List.mem_of_getElem? hcc))
    simp only at hnc
    obtain ⟨n1, n2, n3, n4⟩ := hnc
    have HLN := Lib.hid (less_near (c := (cx, cy)) hp ⟨n1, n2, n3, n4⟩)
    have HX := Lib.hid (less_found (p := ps) (u := u) hcc)
    obtain ⟨bt, offt, rfl, hbt, hcellt⟩ := hrt (by omega)
    obtain ⟨e0, e1⟩ := hcellt 0 cx cy hcc
    simp only [Nat.zero_mul, Nat.add_zero] at e0 e1
    rcases hf : picB (foundL ps t u) with _ | _
    all_goals
      first
        | have HE := Lib.hid (found_yes hp hk hf)
        | have HE := Lib.hid (found_no3 hf)
      have HS := Lib.hid hf
      have HP := Lib.hid hp
      have HK := Lib.hid hk
      clear hf hp hk hcc hcellt hrt
      go_enter Try.func12, Try.ntmps12
      go_wp2_with (first | (rw [← hW]; clear hW) | fail)
      refine (gives_is HP.out (implPicture_any ps _ _ rp)).mono ?_
      rintro e w1 ⟨rfl, bn⟩
      have rp := rp.kept bn
      have q0 := (bn.cell (p := ⟨w.heap.size, 0, none⟩) s0).trans q0
      have q1 := (bn.cell (p := ⟨w.heap.size, 1, none⟩) s0).trans q1
      have s0 := Nat.lt_of_lt_of_le s0 bn.size
      have b0 := below_step b0 bn
      have rt := rt.kept bn
      have ru := ru.kept bn
      clear bn
      go_wp2_with fail
      refine (implPattern_lit HK.out rt ru).mono ?_
      rintro e w2 ⟨rfl, bn⟩
      have rp := rp.kept bn
      have q0 := (bn.cell (p := ⟨w.heap.size, 0, none⟩) s0).trans q0
      have q1 := (bn.cell (p := ⟨w.heap.size, 1, none⟩) s0).trans q1
      have s0 := Nat.lt_of_lt_of_le s0 bn.size
      have b0 := below_step b0 bn
      have rt := rt.kept bn
      have ru := ru.kept bn
      clear bn
      go_wp2_with (at_make; refine wpList_make_spots ps.length (by omega) rfl _ _ rfl _ _ rfl rfl rfl rfl ?_)
      intro w3 ho1 hg1
      have hb1 : Below w2.heap.size w2 w3 := (Below.refl _ _).grown hg1 (Nat.le_refl _) (by simp)
      clear hg1
      have hO := Lib.hid ho1
      clear ho1
      obtain ⟨T, hT⟩ : ∃ T, T = w2.heap.size := ⟨_, rfl⟩
      by_cases h0 : ps.length = 0
      · obtain rfl := List.eq_nil_of_length_eq_zero h0
        have o : Owns w3 w2.heap.size (.slice (some ⟨w2.heap.size, 0, none⟩) 0 0) (backBy [] (cx, cy)) := hO.out
        have bn := hb1
        have rp := rp.kept bn
        have q0 := (bn.cell (p := ⟨w.heap.size, 0, none⟩) s0).trans q0
        have q1 := (bn.cell (p := ⟨w.heap.size, 1, none⟩) s0).trans q1
        have s0 := Nat.lt_of_lt_of_le s0 bn.size
        have b0 := below_step b0 bn
        have rt := rt.kept bn
        have ru := ru.kept bn
        clear bn
        go_wp2
        refine wp_loop_rounds 1 ?_
        rw [rounds_succ]
        go_wp2_with fail
        refine (ruleIn_any _ _ _ _ _ _ _ _ _ _).mono ?_
        rintro e w5 ⟨M, P, H, rfl, hR, bn⟩
        have o := o.below bn
        have rp := rp.kept bn
        have q0 := (bn.cell (p := ⟨w.heap.size, 0, none⟩) s0).trans q0
        have q1 := (bn.cell (p := ⟨w.heap.size, 1, none⟩) s0).trans q1
        have s0 := Nat.lt_of_lt_of_le s0 bn.size
        have b0 := below_step b0 bn
        have rt := rt.kept bn
        have ru := ru.kept bn
        clear bn
        have hsp := spotsPat (patAt [] t u) M H (backBy [] (cx, cy)) _ w5 o.reads (by rw [length_lessL]; omega) (fun x y w6 hm6 hb6 => ruleTold_any [] t u _ _ _ M P H x y w6 (hR.kept hb6) (rp.kept hb6) (rt.kept hb6) (ru.kept hb6) hs hl (HLN.out _ hm6) htn hun)
        rw [HX.out] at hsp
        go_wp2_with fail
        refine hsp.mono ?_
        rintro e w6 ⟨v6, rfl, o6, bn⟩
        have s5 := b0.size
        have rp := rp.kept bn
        have q0 := (bn.cell (p := ⟨w.heap.size, 0, none⟩) s0).trans q0
        have q1 := (bn.cell (p := ⟨w.heap.size, 1, none⟩) s0).trans q1
        have s0 := Nat.lt_of_lt_of_le s0 bn.size
        have b0 := below_step b0 bn
        have rt := rt.kept bn
        have ru := ru.kept bn
        clear bn
        obtain ⟨A6, c6, rfl, _, _⟩ := o6.reads.slice
        go_wp2_with fail
        first
          | (with_reducible refine (told_yes HS.out o6).mono ?_)
          | (with_reducible refine (told_no HS.out o6).mono ?_)
        rintro e w7 ⟨rfl, bn⟩
        have o6 := o6.below bn
        have rp := rp.kept bn
        have q0 := (bn.cell (p := ⟨w.heap.size, 0, none⟩) s0).trans q0
        have q1 := (bn.cell (p := ⟨w.heap.size, 1, none⟩) s0).trans q1
        have s0 := Nat.lt_of_lt_of_le s0 bn.size
        have b0 := below_step b0 bn
        have rt := rt.kept bn
        have ru := ru.kept bn
        clear bn
        go_wp2
        go_ret2
        first
          | exact ⟨_, by rw [HE.out.1]; rfl, by rw [HE.out.2]; exact o6.base s5, b0⟩
          | exact ⟨_, by rw [HE.out.1]; rfl, by rw [HE.out.2]; exact Owns.nil _ _, b0⟩
      · obtain ⟨b, off, rfl, hb, hcell⟩ := hr (by omega)
        go_wp2
        go_loopw [22] (fun i wr => ∃ (k : Nat) (cur : List Sp), k ≤ ps.length ∧ i = .int .i64 k ∧ cur.length = ps.length ∧ Agree cur (backBy ps (cx, cy)) k ∧ Owns wr w2.heap.size (.slice (some ⟨w2.heap.size, 0, none⟩) ps.length ps.length) cur ∧ Below w2.heap.size w2 wr) (fun i _ => ps.length - (intOf i).toNat)
        case atStart => exact ⟨0, _, Nat.zero_le _, rfl, List.length_replicate, fun j hj => by omega, hO.out, hb1⟩
        case round =>
          obtain ⟨k, cur, hk, rfl, hcl, hag, hown, hbw⟩ := hrel
          have hcl1 : cur.length ≤ ps.length := by omega
          have hcl2 : ps.length ≤ cur.length := by omega
          have hCL := Lib.hid hcl
          clear hcl
          by_cases hlt : k < ps.length
          · obtain ⟨⟨x, y⟩, hxy⟩ : ∃ a, ps[k]? = some a := ⟨_, List.getElem?_eq_getElem hlt⟩
            obtain ⟨c0, c1⟩ := hcell k x y hxy
            obtain ⟨i1, i2, i3, i4⟩ := hin _ (List.mem_of_getElem? hxy)
            simp only at i1 i2 i3 i4
            have hH := Lib.hid (lessL_at (c := (cx, cy)) hxy)
            have bbr := below_step b0 hbw
            have d0 := (bbr.cell (p := ⟨b, off + k * 2, none⟩) hb).trans c0
            have d1 := (bbr.cell (p := ⟨b, off + k * 2 + 1, none⟩) hb).trans c1
            have hws2 : w.heap.size < w2.heap.size := s0
            have hwr : w2.heap.size < wr.heap.size := hown.lo.2
            obtain ⟨wb, hwb⟩ : ∃ wb, wb = wr.alloc (.cells #[.int .i64 x, .int .i64 y] 35) := ⟨_, rfl⟩
            have bal : Below wr.heap.size wr wb := by rw [hwb]; exact box_below _ _ _
            have g0 : wb.drew.cell? ⟨wr.heap.size, 0, none⟩ = some (.int .i64 x) := by rw [hwb]; simp [go_sem]
            have g1 : wb.drew.cell? ⟨wr.heap.size, 1, none⟩ = some (.int .i64 y) := by rw [hwb]; simp [go_sem]
            have sG : wr.heap.size < wb.drew.heap.size := by rw [hwb]; simp [go_sem]
            have bb2 := (hbw.trans (bal.mono (Nat.le_of_lt hwr))).drew
            have oT := (hown.below bal).below (Below.refl _ _).drew
            have bwb := below_step b0 bb2
            have p0 : wb.drew.cell? ⟨w.heap.size, 0, none⟩ = some (.slice (some ⟨bt, offt, none⟩) t.length ct) := (bb2.cell (p := ⟨w.heap.size, 0, none⟩) hws2).trans q0
            have r0 : wb.drew.cell? ⟨bt, offt, none⟩ = some (.int .i64 cx) := (bwb.cell (p := ⟨bt, offt, none⟩) hbt).trans e0
            have r1 : wb.drew.cell? ⟨bt, offt + 1, none⟩ = some (.int .i64 cy) := (bwb.cell (p := ⟨bt, offt + 1, none⟩) hbt).trans e1
            have sP : w.heap.size < wb.drew.heap.size := Nat.lt_trans (Nat.lt_trans hws2 hwr) sG
            have sB : bt < wb.drew.heap.size := Nat.lt_trans hbt sP
            obtain ⟨G, hG⟩ : ∃ G, G = wr.heap.size := ⟨_, rfl⟩
            have nG : G ≠ w2.heap.size := by omega
            have nP : w.heap.size ≠ w2.heap.size := by omega
            have nB : bt ≠ w2.heap.size := by omega
            have m2 : (0 : Int) < (t.length : Int) := by omega
            have m5 : 0 < t.length := by omega
            have m3 : (0 : Int) ≤ (k : Int) := Int.natCast_nonneg _
            have m4 : (k : Int) < (ps.length : Int) := by omega
            have fz := oT.free
            obtain ⟨px, py, _, t0, t1⟩ := oT.there (k := k) (by omega)
            clear c0 c1 hxy
            go_wp2_with fail
            rw [← hwb]
            rw [← hG] at g0 g1 sG ⊢
            clear hwb hG bal hwr hown hbw bbr q0 q1 e0 e1
            go_region_held3 (fun w' => w'.cell? ⟨G, 0, none⟩ = some (.int .i64 x) ∧ w'.cell? ⟨G, 1, none⟩ = some (.int .i64 y) ∧ w'.cell? ⟨w.heap.size, 0, none⟩ = some (.slice (some ⟨bt, offt, none⟩) t.length ct) ∧ w'.cell? ⟨bt, offt, none⟩ = some (.int .i64 cx) ∧ w'.cell? ⟨bt, offt + 1, none⟩ = some (.int .i64 cy)) (first | (refine ⟨?_, ?_, ?_, ?_, ?_⟩ <;> with_reducible assumption) | (refine ⟨keepN ?_ ?_, keepN ?_ ?_, keepN ?_ ?_, keepN ?_ ?_, keepN ?_ ?_⟩ <;> with_reducible assumption))
              ((go_at_call 45; refine (less_any x y cx cy _ (by omega) (by omega)).mono ?_; rintro e w5 ⟨rfl, hn5⟩; have g0 := (hn5.cell (p := ⟨G, 0, none⟩) sG).trans g0; have g1 := (hn5.cell (p := ⟨G, 1, none⟩) sG).trans g1; have p0 := (hn5.cell (p := ⟨w.heap.size, 0, none⟩) sP).trans p0; have r0 := (hn5.cell (p := ⟨bt, offt, none⟩) sB).trans r0; have r1 := (hn5.cell (p := ⟨bt, offt + 1, none⟩) sB).trans r1; have oT := oT.below hn5; have fz := oT.free; obtain ⟨px, py, _, t0, t1⟩ := oT.there (k := k) (by omega); have bb2 := bb2.trans (hn5.mono bb2.size)))
            all_goals
              go_wp2
              go_roundw
              case rel => exact ⟨k + 1, cur.set k (x - cx, y - cy), by omega, by go_num, by rw [List.length_set]; exact hCL.out, agree_set hag (by omega) hH.out, oT.set k (x - cx) (y - cy) (by omega), (bb2.setCell (by simp) _).setCell (by simp) _⟩
              case measure => simp [intOf]; omega
          · have hE := Lib.hid (agree_all (hCL.out.trans (length_lessL _ _).symm) (fun j hj => hag j (by omega)))
            have e := hE.out
            have o : Owns wr w2.heap.size (.slice (some ⟨w2.heap.size, 0, none⟩) ps.length ps.length) (backBy ps (cx, cy)) := by rw [← e]; exact hown
            clear e hag hown
            have bn := hbw
            have rp := rp.kept bn
            have q0 := (bn.cell (p := ⟨w.heap.size, 0, none⟩) s0).trans q0
            have q1 := (bn.cell (p := ⟨w.heap.size, 1, none⟩) s0).trans q1
            have s0 := Nat.lt_of_lt_of_le s0 bn.size
            have b0 := below_step b0 bn
            have rt := rt.kept bn
            have ru := ru.kept bn
            clear bn
            clear hbw
            go_wp2_with fail
            refine (ruleIn_any _ _ _ _ _ _ _ _ _ _).mono ?_
            rintro e w5 ⟨M, P, H, rfl, hR, bn⟩
            have o := o.below bn
            have rp := rp.kept bn
            have q0 := (bn.cell (p := ⟨w.heap.size, 0, none⟩) s0).trans q0
            have q1 := (bn.cell (p := ⟨w.heap.size, 1, none⟩) s0).trans q1
            have s0 := Nat.lt_of_lt_of_le s0 bn.size
            have b0 := below_step b0 bn
            have rt := rt.kept bn
            have ru := ru.kept bn
            clear bn
            have hsp := spotsPat (patAt ps t u) M H (backBy ps (cx, cy)) _ w5 o.reads (by rw [length_lessL]; omega) (fun x y w6 hm6 hb6 => ruleTold_any ps t u _ _ _ M P H x y w6 (hR.kept hb6) (rp.kept hb6) (rt.kept hb6) (ru.kept hb6) hs hl (HLN.out _ hm6) htn hun)
            rw [HX.out] at hsp
            go_wp2_with fail
            refine hsp.mono ?_
            rintro e w6 ⟨v6, rfl, o6, bn⟩
            have s5 := b0.size
            have rp := rp.kept bn
            have q0 := (bn.cell (p := ⟨w.heap.size, 0, none⟩) s0).trans q0
            have q1 := (bn.cell (p := ⟨w.heap.size, 1, none⟩) s0).trans q1
            have s0 := Nat.lt_of_lt_of_le s0 bn.size
            have b0 := below_step b0 bn
            have rt := rt.kept bn
            have ru := ru.kept bn
            clear bn
            obtain ⟨A6, c6, rfl, _, _⟩ := o6.reads.slice
            go_wp2_with fail
            first
              | (with_reducible refine (told_yes HS.out o6).mono ?_)
              | (with_reducible refine (told_no HS.out o6).mono ?_)
            rintro e w7 ⟨rfl, bn⟩
            have o6 := o6.below bn
            have rp := rp.kept bn
            have q0 := (bn.cell (p := ⟨w.heap.size, 0, none⟩) s0).trans q0
            have q1 := (bn.cell (p := ⟨w.heap.size, 1, none⟩) s0).trans q1
            have s0 := Nat.lt_of_lt_of_le s0 bn.size
            have b0 := below_step b0 bn
            have rt := rt.kept bn
            have ru := ru.kept bn
            clear bn
            go_wp2
            go_ret2
            first
              | exact ⟨_, by rw [HE.out.1]; rfl, by rw [HE.out.2]; exact o6.base s5, b0⟩
              | exact ⟨_, by rw [HE.out.1]; rfl, by rw [HE.out.2]; exact Owns.nil _ _, b0⟩
end Go.Proofs.Ytfofmfkdkihhbac
