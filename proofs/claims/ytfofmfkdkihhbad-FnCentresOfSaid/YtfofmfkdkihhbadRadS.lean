/- l6Within and RadiusAt of the model. No conditions but those typed. -/
import Derived.Test.YtfofmfkdkihhbadGreats
import Derived.Test.YtfofmfkdkihhbadBallT
import Derived.Test.YtfofmfkdkihhbadHas2
import Derived.Test.YtfofmfkdkihhbadPattS
namespace Go.Proofs.Ytfofmfkdkihhbad
open Go.RowKit Go.Sort

theorem ballIn_no {p : List Sp} {a : Sp} {r way : Int} {k : Nat} {d : Sp} (hd : (ballL r way)[k]? = some d) (hm : ¬ addS a d ∈ p) : ballIn p a r way = false :=
  decide_eq_false fun h => hm (h d (List.mem_of_getElem? hd))
theorem ballIn_yes {p : List Sp} {a : Sp} {r way : Int} (h : FitUpto p (ballL r way) a (ballL r way).length) : ballIn p a r way = true := decide_eq_true fun d hd => by
  obtain ⟨j, hj⟩ := List.mem_iff_getElem?.1 hd
  exact h j d (List.getElem?_eq_some_iff.1 hj).1 hj
theorem ball_near {r way : Int} : ∀ d ∈ ballL r way, -3 ≤ d.1 ∧ d.1 ≤ 3 ∧ -3 ≤ d.2 ∧ d.2 ≤ 3 := fun d hd => by
  rcases h : ballOk r way with _ | _
  · rw [ball_no h] at hd; cases hd
  · have := far_coord ((mem_ball h).1 hd)
    unfold ballOk at h
    rw [Bool.and_eq_true, decide_eq_true_eq] at h
    omega
set_option maxHeartbeats 1600000 in
theorem l6Within_any (ps : List Sp) (v : Value) (ax ay r way : Int) (w : World) (h : Reads w w.heap.size v ps) (hs : Sorted ps) (hl : ps.length ≤ 60) (ha : -30 ≤ ax ∧ ax ≤ 30 ∧ -30 ≤ ay ∧ ay ≤ 30) :
    Calls Try.prog 45 #[v, .agg #[.int .i64 ax, .int .i64 ay], .int .i64 r, .int .i64 way] w (Gives (.bool (ballIn ps (ax, ay) r way)) w) := by
  obtain ⟨A, c, rfl, hc, hm⟩ := h.slice
  unfold maxLen at hm
  have b0 := box_below w #[.int .i64 ax, .int .i64 ay] 25
  obtain ⟨W, hW⟩ : ∃ W, W = w.alloc (.cells #[.int .i64 ax, .int .i64 ay] 25) := ⟨_, rfl⟩
  have q2 : W.cell? ⟨w.heap.size, 0, none⟩ = some (.int .i64 ax) := by rw [hW]; simp [go_sem]
  have q3 : W.cell? ⟨w.heap.size, 1, none⟩ = some (.int .i64 ay) := by rw [hW]; simp [go_sem]
  have s1 : w.heap.size < W.heap.size := by rw [hW]; simp
  rw [← hW] at b0
  have hf0 : FitUpto ps (ballL r way) (ax, ay) 0 := fun j d hj => by omega
  go_enter Try.func45, Try.ntmps45
  go_wp2_with (first | (rw [← hW]; clear hW) | fail)
  refine (specBall_any r way W).mono ?_
  rintro e w1 ⟨vb, rfl, ob, b1⟩
  have hbn := ball_near (r := r) (way := way)
  have hIn := Lib.hid (fun (e : FitUpto ps (ballL r way) (ax, ay) (ballL r way).length) => ballIn_yes e)
  have hNo := Lib.hid (fun (k : Nat) (d : Sp) (e : (ballL r way)[k]? = some d) (m : ¬ addS (ax, ay) d ∈ ps) => ballIn_no (a := (ax, ay)) (p := ps) e m)
  have hbl := ball_len r way
  generalize ballL r way = bs at *
  generalize ballIn ps (ax, ay) r way = ans at *
  obtain ⟨Ab, cb, rfl, hcb, hmb, _, hrb⟩ := ob.reads.is
  unfold maxLen at hmb
  have q2 := (b1.cell (p := ⟨w.heap.size, 0, none⟩) s1).trans q2
  have q3 := (b1.cell (p := ⟨w.heap.size, 1, none⟩) s1).trans q3
  have s1 := Nat.lt_of_lt_of_le s1 b1.size
  have bb := below_step b0 b1
  clear b1 ob b0
  go_wp2
  go_loopw [10] (fun i wr => ∃ k : Nat, k ≤ bs.length ∧ i = .int .i64 k ∧ FitUpto ps bs (ax, ay) k ∧ Below w1.heap.size w1 wr) (fun i _ => bs.length - (intOf i).toNat)
  case atStart => exact ⟨0, Nat.zero_le _, rfl, hf0, Below.refl _ _⟩
  case round =>
    clear hf0
    obtain ⟨k, hk, rfl, hfit, hbw⟩ := hrel
    have HI := Lib.hid hfit
    clear hfit
    have hbs := hbw.size
    have hw0 := below_step bb hbw
    by_cases hlt : k < bs.length
    · obtain ⟨⟨x, y⟩, hxy⟩ : ∃ a, bs[k]? = some a := ⟨_, List.getElem?_eq_getElem hlt⟩
      have hd := hbn _ (List.mem_of_getElem? hxy)
      simp only at hd
      obtain ⟨b, off, rfl, hb, hcell⟩ := hrb (by omega)
      obtain ⟨c0, c1⟩ := hcell k x y hxy
      have e2 := cell_regrown ((hbw.cell (p := ⟨w.heap.size, 0, none⟩) s1).trans q2)
      have e3 := cell_regrown ((hbw.cell (p := ⟨w.heap.size, 1, none⟩) s1).trans q3)
      have e4 := cell_regrown ((hbw.cell (p := ⟨b, off + k * 2, none⟩) hb).trans c0)
      have e5 := cell_regrown ((hbw.cell (p := ⟨b, off + k * 2 + 1, none⟩) hb).trans c1)
      have hwx : IntKind.i64.wrap (ax + x) = ax + x := IntWalk.i64_in _ (by omega)
      have hwy : IntKind.i64.wrap (ay + y) = ay + y := IntWalk.i64_in _ (by omega)
      have hm3 : (0 : Int) ≤ (k : Int) := Int.natCast_nonneg _
      have hm4 : (k : Int) < (bs.length : Int) := by omega
      have rpw := h.kept hw0
      by_cases hin : addS (ax, ay) (x, y) ∈ ps
      · have HN := Lib.hid (HI.out.next hxy hin)
        have HK := Lib.hid (show inP ps (ax + x, ay + y) = true from decide_eq_true hin)
        clear hxy c0 c1 hin hbn hcell hrb
        go_wp2
        refine wp_region_quiet_below (by kernel_rfl) (by kernel_rfl) ?_
        repeat (go_big_quiet_step (first | (go_at_call 75; exact gives_regrown (fun w1 hb1 => l1Has_lit HK.out (rpw.kept hb1) hs (by omega)) _ _)))
        refine wpQuiet_nil ?_
        intro _ hw'
        obtain ⟨⟨dq, osq⟩, hw''⟩ := hw'
        subst hw''
        go_wp2
        go_roundw
        case rel => exact ⟨k + 1, by omega, by go_num, HN.out, hbw.trans ((below_regrown _ _ _).mono hbs)⟩
        case measure => simp [intOf]; omega
      · have HN := Lib.hid (hNo.out k _ hxy hin)
        have HK := Lib.hid (show inP ps (ax + x, ay + y) = false from decide_eq_false hin)
        clear hxy c0 c1 hin hbn hcell hrb
        go_wp2
        refine wp_region_quiet_below (by kernel_rfl) (by kernel_rfl) ?_
        repeat (go_big_quiet_step (first | (go_at_call 75; exact gives_regrown (fun w1 hb1 => l1Has_lit HK.out (rpw.kept hb1) hs (by omega)) _ _)))
        refine wpQuiet_nil ?_
        intro _ hw'
        obtain ⟨⟨dq, osq⟩, hw''⟩ := hw'
        subst hw''
        go_wp2
        go_ret
        exact ⟨ret_bool HN.out.symm, hw0.trans ((below_regrown _ _ _).mono hw0.size)⟩
    · obtain rfl : k = bs.length := by omega
      have HN := Lib.hid (hIn.out HI.out)
      go_wp2
      go_ret
      exact ⟨ret_bool HN.out.symm, hw0⟩

/-- the greatest radius so far -/
def radUpto (p : List Sp) (a : Sp) (way : Int) : Nat → Int
  | 0 => 0
  | k + 1 => if ballIn p a ((k : Int) + 1) way then (k : Int) + 1 else radUpto p a way k
theorem radUpto_3 {p : List Sp} {a : Sp} {way : Int} : radUpto p a way 3 = radN p a way := rfl
theorem radUpto_rng (p : List Sp) (a : Sp) (way : Int) : ∀ k : Nat, 0 ≤ radUpto p a way k ∧ radUpto p a way k ≤ k
  | 0 => ⟨Int.le_refl 0, Int.le_refl 0⟩
  | k + 1 => by
    have := radUpto_rng p a way k
    unfold radUpto
    split <;> omega
theorem l6Within_lit {b : Bool} {ps : List Sp} {v : Value} {ax ay r way : Int} {w : World} (hk : ballIn ps (ax, ay) r way = b) (h : Reads w w.heap.size v ps) (hs : Sorted ps) (hl : ps.length ≤ 60) (ha : -30 ≤ ax ∧ ax ≤ 30 ∧ -30 ≤ ay ∧ ay ≤ 30) :
    Calls Try.prog 45 #[v, .agg #[.int .i64 ax, .int .i64 ay], .int .i64 r, .int .i64 way] w (Gives (.bool b) w) := by
  subst hk; exact l6Within_any ps v ax ay r way w h hs hl ha
theorem specHas_lit {b : Bool} {ps : List Sp} {v : Value} {ax ay : Int} {w : World} (hk : hasB ps (ax, ay) = b) (h : Reads w w.heap.size v ps) : Calls Try.prog 43 #[v, .agg #[.int .i64 ax, .int .i64 ay]] w (Gives (.bool b) w) := by
  subst hk; exact specHas_any ps v ax ay w h
set_option maxHeartbeats 800000 in
theorem specRadius_any (ps : List Sp) (v : Value) (ax ay way : Int) (w : World) (h : Reads w w.heap.size v ps) :
    Calls Try.prog 12 #[v, .agg #[.int .i64 ax, .int .i64 ay], .int .i64 way] w (Gives (.int .i64 (radI ps (ax, ay) way)) w) := by
  obtain ⟨A, c, rfl, hc, hm⟩ := h.slice
  rcases h1 : hasB ps (ax, ay) with _ | _
  · rw [rad_no (show radOk ps (ax, ay) way = false by unfold radOk; rw [h1]; rfl)]
    have b0 := box_below w #[.int .i64 ax, .int .i64 ay] 25
    obtain ⟨W, hW⟩ : ∃ W, W = w.alloc (.cells #[.int .i64 ax, .int .i64 ay] 25) := ⟨_, rfl⟩
    have q2 : W.cell? ⟨w.heap.size, 0, none⟩ = some (.int .i64 ax) := by rw [hW]; simp [go_sem]
    have q3 : W.cell? ⟨w.heap.size, 1, none⟩ = some (.int .i64 ay) := by rw [hW]; simp [go_sem]
    have s1 : w.heap.size < W.heap.size := by rw [hW]; simp
    rw [← hW] at b0
    have hr := h.kept b0
    go_enter Try.func12, Try.ntmps12
    go_wp2_with (first | (rw [← hW]; clear hW) | fail)
    refine (specHas_lit h1 hr).mono ?_
    rintro e w1 ⟨rfl, b1⟩
    go_wp2
    go_ret
    exact ⟨rfl, below_step b0 b1⟩
  rcases h2 : way2 way with _ | _
  · rw [rad_no (show radOk ps (ax, ay) way = false by unfold radOk; rw [h2, Bool.and_false])]
    have H2 := Lib.hid (show decide ((0 : Int) ≤ way ∧ way ≤ 1) = false from h2)
    clear h2
    have b0 := box_below w #[.int .i64 ax, .int .i64 ay] 25
    obtain ⟨W, hW⟩ : ∃ W, W = w.alloc (.cells #[.int .i64 ax, .int .i64 ay] 25) := ⟨_, rfl⟩
    have q2 : W.cell? ⟨w.heap.size, 0, none⟩ = some (.int .i64 ax) := by rw [hW]; simp [go_sem]
    have q3 : W.cell? ⟨w.heap.size, 1, none⟩ = some (.int .i64 ay) := by rw [hW]; simp [go_sem]
    have s1 : w.heap.size < W.heap.size := by rw [hW]; simp
    rw [← hW] at b0
    have hr := h.kept b0
    go_enter Try.func12, Try.ntmps12
    go_wp2_with (first | (rw [← hW]; clear hW) | fail)
    refine (specHas_lit h1 hr).mono ?_
    rintro e w1 ⟨rfl, b1⟩
    clear h1
    go_wp2_with fail
    refine (gives_is H2.out (l1In_any _ _ _ _)).mono ?_
    rintro e w2 ⟨rfl, b2⟩
    go_wp2
    go_ret
    exact ⟨rfl, below_step (below_step b0 b1) b2⟩
  · have hk : radOk ps (ax, ay) way = true := by unfold radOk; rw [h1, h2]; rfl
    have k := radOk_iff.1 hk
    have HE := Lib.hid (rad_yes hk)
    have hpic := picB_pic k.pp
    have hin := hpic.2.1 _ k.pa
    unfold InR at hin
    simp only at hin
    have hs := hpic.2.2
    have hl := hpic.1
    have H2 := Lib.hid (show decide ((0 : Int) ≤ way ∧ way ≤ 1) = true from h2)
    clear h2 hk k hpic
    have b0 := box_below w #[.int .i64 ax, .int .i64 ay] 25
    obtain ⟨W, hW⟩ : ∃ W, W = w.alloc (.cells #[.int .i64 ax, .int .i64 ay] 25) := ⟨_, rfl⟩
    have q2 : W.cell? ⟨w.heap.size, 0, none⟩ = some (.int .i64 ax) := by rw [hW]; simp [go_sem]
    have q3 : W.cell? ⟨w.heap.size, 1, none⟩ = some (.int .i64 ay) := by rw [hW]; simp [go_sem]
    have s1 : w.heap.size < W.heap.size := by rw [hW]; simp
    rw [← hW] at b0
    have hr := h.kept b0
    go_enter Try.func12, Try.ntmps12
    go_wp2_with (first | (rw [← hW]; clear hW) | fail)
    refine (specHas_lit h1 hr).mono ?_
    rintro e w1 ⟨rfl, b1⟩
    clear h1
    have q2 := (b1.cell (p := ⟨w.heap.size, 0, none⟩) s1).trans q2
    have q3 := (b1.cell (p := ⟨w.heap.size, 1, none⟩) s1).trans q3
    have s1 := Nat.lt_of_lt_of_le s1 b1.size
    have hr := hr.kept b1
    have bb := below_step b0 b1
    go_wp2_with fail
    refine (gives_is H2.out (l1In_any _ _ _ _)).mono ?_
    rintro e w2 ⟨rfl, b2⟩
    have q2 := (b2.cell (p := ⟨w.heap.size, 0, none⟩) s1).trans q2
    have q3 := (b2.cell (p := ⟨w.heap.size, 1, none⟩) s1).trans q3
    have s1 := Nat.lt_of_lt_of_le s1 b2.size
    have hr := hr.kept b2
    have bb := below_step bb b2
    clear b0 b1 b2
    go_wp2
    go_loopw [7, 8] (fun o i wr => ∃ k : Nat, k ≤ 3 ∧ i = .int .i64 ((k : Int) + 1) ∧ o = .int .i64 (radUpto ps (ax, ay) way k) ∧ Below w2.heap.size w2 wr) (fun _ i _ => 5 - (intOf i).toNat)
    case atStart => exact ⟨0, by omega, rfl, rfl, Below.refl _ _⟩
    case round =>
      obtain ⟨k, hk, rfl, rfl, hbw⟩ := hrel
      have hrg := radUpto_rng ps (ax, ay) way k
      have q2 := (hbw.cell (p := ⟨w.heap.size, 0, none⟩) s1).trans q2
      have q3 := (hbw.cell (p := ⟨w.heap.size, 1, none⟩) s1).trans q3
      by_cases hlt : k < 3
      · rcases hb : ballIn ps (ax, ay) ((k : Int) + 1) way with _ | _
        · have HT := Lib.hid (show radUpto ps (ax, ay) way (k + 1) = radUpto ps (ax, ay) way k by simp [radUpto, hb])
          have HB := Lib.hid hb
          clear hb
          go_wp2_with fail
          refine (l6Within_lit HB.out (hr.kept hbw) hs hl (by omega)).mono ?_
          rintro e w3 ⟨rfl, b3⟩
          go_wp2
          go_roundw
          case rel => exact ⟨k + 1, by omega, by go_num, by rw [HT.out], below_step hbw b3⟩
          case measure => simp [intOf]; omega
        · have HT := Lib.hid (show radUpto ps (ax, ay) way (k + 1) = (k : Int) + 1 by simp [radUpto, hb])
          have HB := Lib.hid hb
          clear hb
          go_wp2_with fail
          refine (l6Within_lit HB.out (hr.kept hbw) hs hl (by omega)).mono ?_
          rintro e w3 ⟨rfl, b3⟩
          go_wp2
          go_roundw
          case rel => exact ⟨k + 1, by omega, by go_num, by rw [HT.out], below_step hbw b3⟩
          case measure => simp [intOf]; omega
      · obtain rfl : k = 3 := by omega
        go_wp2
        go_ret
        exact ⟨ret_int (by rw [HE.out, radUpto_3]), below_step bb hbw⟩
end Go.Proofs.Ytfofmfkdkihhbad
