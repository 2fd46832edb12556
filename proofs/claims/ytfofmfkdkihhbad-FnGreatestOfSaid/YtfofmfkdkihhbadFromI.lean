/- PictureFrom of the program: balls made once, moved to each centre, and united. No conditions but those typed. -/
import Derived.Test.YtfofmfkdkihhbadRadJ
import Derived.Test.YtfofmfkdkihhbadFromS
import Derived.Test.YtfofmfkdkihhbadUnion
import Derived.Test.YtfofmfkdkihhbadMove
namespace Go.Proofs.Ytfofmfkdkihhbad
open Go.RowKit Go.Sort

theorem ballAt_moved (way : Int) (c : Cn) : ballAt way c = moved (ballL c.2 way) c.1 := by
  unfold ballAt moved
  refine List.map_congr_left fun d _ => ?_
  unfold addS
  exact sp_ext (Int.add_comm ..) (Int.add_comm ..)
/-- whether the ball of a centre is told -/
def cbOk (c : Cn) (way : Int) : Bool := ballOk c.2 way && moveOk (ballL c.2 way) c.1
def cbL (c : Cn) (way : Int) : List Sp := if cbOk c way then ballAt way c else []
theorem cb_no {c : Cn} {way : Int} (h : cbOk c way = false) : cbL c way = [] := by unfold cbL; rw [h]; rfl
theorem cb_is {c : Cn} {way : Int} (h : cbOk c way = true) : cbL c way = ballAt way c := by unfold cbL; rw [h]; rfl
theorem cb_move {c : Cn} {way : Int} (h : ballOk c.2 way = true) : cbOk c way = moveOk (ballL c.2 way) c.1 ∧ cbL c way = moveL (ballL c.2 way) c.1 := by
  have e : cbOk c way = moveOk (ballL c.2 way) c.1 := by unfold cbOk; rw [h, Bool.true_and]
  refine ⟨e, ?_⟩
  unfold cbL moveL
  rw [e, ballAt_moved]
theorem cb_zero {c : Cn} {way : Int} (h : ballOk c.2 way = true) : c.1 ∈ ballAt way c := by
  rw [mem_ballAt h, farI_zero.2 rfl]
  unfold ballOk at h
  rw [Bool.and_eq_true, decide_eq_true_eq] at h
  omega
theorem cb_pic {c : Cn} {way : Int} (h : cbOk c way = true) : ballOk c.2 way = true ∧ picB [c.1] = true ∧ picB (ballAt way c) = true := by
  have h' := h
  unfold cbOk moveOk at h'
  simp only [Bool.and_eq_true] at h'
  have hp : picB (ballAt way c) = true := by rw [ballAt_moved]; exact h'.2.2
  exact ⟨h'.1, picB_one.2 ((picB_pic hp).2.1 _ (cb_zero h'.1)), hp⟩
theorem from_cb {l : List Cn} {way : Int} {c : Cn} (h : fromOk l way = true) (hc : c ∈ l) : cbOk c way = true := by
  have f := from_is h
  have hb := (f.all c hc).1
  have hin := picB_one.1 (f.all c hc).2
  unfold InR at hin
  have hsub : ∀ x ∈ ballAt way c, InR x := fun x hx => (picB_pic f.pp).2.1 x (mem_fromL.2 ⟨c, hc, hx⟩)
  unfold cbOk moveOk
  simp only [Bool.and_eq_true]
  refine ⟨hb, ⟨picB_ball, ?_⟩, ?_⟩
  · unfold wide; rw [decide_eq_true_eq]; omega
  · rw [← ballAt_moved]
    refine decide_eq_true ⟨?_, hsub, ?_⟩
    · unfold ballAt; rw [List.length_map]; exact ball_len _ _
    · rw [ballAt_moved]; exact sorted_moved (sorted_ball _ _)
theorem cb_bad {l : List Cn} {way : Int} {c : Cn} (hc : c ∈ l) (h : cbOk c way = false) : fromOk l way = false := by
  rcases k : fromOk l way with _ | _
  · rfl
  · rw [from_cb k hc] at h; cases h
theorem from_end {l : List Cn} {way : Int} (h2 : way2 way = true) (h : ∀ j d, j < l.length → l[j]? = some d → cbOk d way = true) (hp : picB (fromUpto l way l.length) = true) : fromOk l way = true ∧ fromR l way = fromUpto l way l.length := by
  rw [fromUpto_all] at hp ⊢
  refine from_yes h2 (fun c hc => ?_) hp
  obtain ⟨j, hj⟩ := List.mem_iff_getElem?.1 hc
  have := cb_pic (h j c (List.getElem?_eq_some_iff.1 hj).1 hj)
  exact ⟨this.1, this.2.1⟩
theorem cbUpto_next {l : List Cn} {way : Int} {k : Nat} {c : Cn} (h : ∀ j d, j < k → l[j]? = some d → cbOk d way = true) (hc : l[k]? = some c) (h1 : cbOk c way = true) : ∀ j d, j < k + 1 → l[j]? = some d → cbOk d way = true := fun j d hj hd => by
  by_cases e : j = k
  · subst e; rw [hc] at hd; cases hd; exact h1
  · exact h j d (by omega) hd

structure BallBox (Bl M T : Nat) (w : World) : Prop where
  b : Bl < w.heap.size
  bM : Bl ≠ M
  bc : w.cell? ⟨Bl, 0, none⟩ = some (.func (.func 94) #[] #[.pointer (some ⟨M, 0, none⟩), .pointer (some ⟨T, 0, none⟩)])
theorem BallBox.but {Bl M T : Nat} {w w' : World} (h : BallBox Bl M T w) (k : But M w w') : BallBox Bl M T w' := ⟨Nat.lt_of_lt_of_le h.b k.size, h.bM, k.cell h.bM h.bc⟩
def CbPost (c : Cn) (M T : Nat) (way : Int) (w : World) (e : Ending) (w' : World) : Prop := ∃ v', e = .returned (.tuple #[v', .bool (cbOk c way)]) ∧ Owns w' (M + 1) v' (cbL c way) ∧ Making M T way w' ∧ But M w w'
set_option maxHeartbeats 800000 in
theorem centredBall_any (Bl M T : Nat) (x y r way : Int) (w : World) (h2 : way2 way = true) (hM : Making M T way w) (hB : BallBox Bl M T w) :
    Calls Try.prog 86 #[.agg #[.int .i64 x, .int .i64 y, .int .i64 r], .pointer (some ⟨Bl, 0, none⟩)] w (CbPost ((x, y), r) M T way w) := by
  by_cases hr0 : r < 0
  · have HN := Lib.hid (show cbOk ((x, y), r) way = false by unfold cbOk; rw [show ballOk r way = false from ballOk_no1 (decide_eq_false (by omega))]; rfl)
    have b0 := box_below w #[.int .i64 x, .int .i64 y, .int .i64 r] 45
    obtain ⟨W, hW⟩ : ∃ W, W = w.alloc (.cells #[.int .i64 x, .int .i64 y, .int .i64 r] 45) := ⟨_, rfl⟩
    have q0 : W.cell? ⟨w.heap.size, 0, none⟩ = some (.int .i64 x) := by rw [hW]; simp [go_sem]
    have q1 : W.cell? ⟨w.heap.size, 1, none⟩ = some (.int .i64 y) := by rw [hW]; simp [go_sem]
    have q2 : W.cell? ⟨w.heap.size, 2, none⟩ = some (.int .i64 r) := by rw [hW]; simp [go_sem]
    rw [← hW] at b0
    go_enter Try.func86, Try.ntmps86
    go_wp2_with (first | (rw [← hW]; clear hW) | fail)
    go_ret2
    exact ⟨_, by rw [HN.out]; rfl, by rw [cb_no HN.out]; exact Owns.nil _ _, hM.below b0, But.of b0⟩
  by_cases hr3 : 3 < r
  · have HN := Lib.hid (show cbOk ((x, y), r) way = false by unfold cbOk; rw [show ballOk r way = false from ballOk_no1 (decide_eq_false (by omega))]; rfl)
    have b0 := box_below w #[.int .i64 x, .int .i64 y, .int .i64 r] 45
    obtain ⟨W, hW⟩ : ∃ W, W = w.alloc (.cells #[.int .i64 x, .int .i64 y, .int .i64 r] 45) := ⟨_, rfl⟩
    have q0 : W.cell? ⟨w.heap.size, 0, none⟩ = some (.int .i64 x) := by rw [hW]; simp [go_sem]
    have q1 : W.cell? ⟨w.heap.size, 1, none⟩ = some (.int .i64 y) := by rw [hW]; simp [go_sem]
    have q2 : W.cell? ⟨w.heap.size, 2, none⟩ = some (.int .i64 r) := by rw [hW]; simp [go_sem]
    rw [← hW] at b0
    go_enter Try.func86, Try.ntmps86
    go_wp2_with (first | (rw [← hW]; clear hW) | fail)
    go_ret2
    exact ⟨_, by rw [HN.out]; rfl, by rw [cb_no HN.out]; exact Owns.nil _ _, hM.below b0, But.of b0⟩
  · have hb : ballOk r way = true := ball_way2 h2 (by omega) (by omega)
    have HE := Lib.hid (cb_move (c := ((x, y), r)) hb)
    have HW := Lib.hid (way2_ok h2)
    have hbM := hB.bM
    have hMm := hM.m
    have hr1 : ¬ (3 : Int) < r := hr3
    clear h2 hb
    have b0 := box_below w #[.int .i64 x, .int .i64 y, .int .i64 r] 45
    obtain ⟨W, hW⟩ : ∃ W, W = w.alloc (.cells #[.int .i64 x, .int .i64 y, .int .i64 r] 45) := ⟨_, rfl⟩
    have q0 : W.cell? ⟨w.heap.size, 0, none⟩ = some (.int .i64 x) := by rw [hW]; simp [go_sem]
    have q1 : W.cell? ⟨w.heap.size, 1, none⟩ = some (.int .i64 y) := by rw [hW]; simp [go_sem]
    have q2 : W.cell? ⟨w.heap.size, 2, none⟩ = some (.int .i64 r) := by rw [hW]; simp [go_sem]
    rw [← hW] at b0
    go_enter Try.func86, Try.ntmps86
    go_wp2_with (first | (rw [← hW]; clear hW) | fail)
    have hMd := hM.below b0.drew
    have kd : But M w W.drew := But.of b0.drew
    have bl := kd.cell hbM hB.bc
    have q0 : W.drew.cell? ⟨w.heap.size, 0, none⟩ = some (.int .i64 x) := q0
    have q1 : W.drew.cell? ⟨w.heap.size, 1, none⟩ = some (.int .i64 y) := q1
    have q2 : W.drew.cell? ⟨w.heap.size, 2, none⟩ = some (.int .i64 r) := q2
    have nM : w.heap.size ≠ M := Nat.ne_of_gt hMm
    clear hM hB b0
    go_wp2
    go_region_held3 (fun w' => w'.cell? ⟨w.heap.size, 0, none⟩ = some (.int .i64 x) ∧ w'.cell? ⟨w.heap.size, 1, none⟩ = some (.int .i64 y) ∧ w'.cell? ⟨w.heap.size, 2, none⟩ = some (.int .i64 r) ∧ w'.cell? ⟨Bl, 0, none⟩ = some (.func (.func 94) #[] #[.pointer (some ⟨M, 0, none⟩), .pointer (some ⟨T, 0, none⟩)])) (refine ⟨?_, ?_, ?_, ?_⟩ <;> with_reducible assumption)
      (first
        | (go_at_call 94; refine (making_any M T r way _ HW.out (by omega) hMd).mono ?_; rintro e w1 ⟨vq, rfl, oq, hM1, k1⟩; have q0 := k1.cell nM q0; have q1 := k1.cell nM q1; have q2 := k1.cell nM q2; have bl := k1.cell hbM bl)
        | (go_at_call 87; refine (implMoved_any _ _ x y _ oq.reads).mono ?_; rintro e w2 ⟨v2, rfl, o2, b2⟩; have q0 := (But.of (M := M) b2).cell nM q0; have q1 := (But.of (M := M) b2).cell nM q1; have q2 := (But.of (M := M) b2).cell nM q2; have bl := (But.of (M := M) b2).cell hbM bl))
    all_goals
      have hM2 := hM1.below b2
      have hm1 := hM1.m
      go_wp2
      go_ret2
      exact ⟨_, by rw [HE.out.1]; rfl, by rw [HE.out.2]; exact o2.base hm1, hM2, (kd.trans k1).then b2⟩
def CballsPost (way : Int) (w : World) (e : Ending) (w' : World) : Prop := ∃ Bl M T : Nat, e = .returned (.func (.func 86) #[] #[.pointer (some ⟨Bl, 0, none⟩)]) ∧ w.heap.size ≤ M ∧ Making M T way w' ∧ BallBox Bl M T w' ∧ Below w.heap.size w w'
theorem centredBalls_any (way : Int) (w : World) : Calls Try.prog 63 #[.func (.func (tellF way)) #[] #[]] w (CballsPost way w) := by
  go_enter Try.func63, Try.ntmps63
  go_wp2_with fail
  refine (ballsBy_any way w).mono ?_
  rintro e w1 ⟨M, T, rfl, hMW, hM, b1⟩
  have hMs := hM.m
  have b2 := box_below w1 #[.func (.func 94) #[] #[.pointer (some ⟨M, 0, none⟩), .pointer (some ⟨T, 0, none⟩)]] 90
  go_wp2
  go_ret
  exact ⟨w1.heap.size, M, T, rfl, hMW, hM.making.below b2, ⟨by simp, by omega, by simp [go_sem]⟩, below_step b1 b2⟩
set_option maxRecDepth 100000 in
set_option maxHeartbeats 1600000 in
theorem implFrom_any (l : List Cn) (v : Value) (way : Int) (w : World) (h : CReads w w.heap.size v l) :
    Calls Try.prog 32 #[v, .int .i64 way] w (Gives2' (fromR l way) (fromOk l way) w) := by
  obtain ⟨A, c, rfl, hc, hm, hA, hr⟩ := h.is
  unfold maxLen at hm
  rcases h2 : way2 way with _ | _
  · have hs := summed_no w h2
    go_enter Try.func32, Try.ntmps32
    go_wp2_with fail
    refine hs.mono ?_
    rintro e w1 ⟨rfl, bx⟩
    have HN := Lib.hid (from_bad2 (l := l) h2)
    go_wp2
    go_ret2
    exact ⟨_, by rw [HN.out]; rfl, by rw [from_no HN.out]; exact Owns.nil _ _, bx⟩
  have hs := summed_yes w h2
  have H2 := Lib.hid h2
  clear h2
  go_enter Try.func32, Try.ntmps32
  go_wp2_with fail
  refine hs.mono ?_
  rintro e w1 ⟨rfl, b1⟩
  go_wp2_with fail
  refine (centredBalls_any way _).mono ?_
  rintro e w2 ⟨Bl, M, T, rfl, hMW, hM, hB, b2⟩
  have bx := below_step b1 b2
  have hwM : w.heap.size ≤ M := Nat.le_trans b1.size hMW
  have hMs := hM.m
  clear b1 b2
  by_cases h0 : l.length = 0
  · obtain rfl := List.eq_nil_of_length_eq_zero h0
    have HE := Lib.hid (from_end (l := []) H2.out (fun j d hj => by simp at hj) (show picB [] = true by decide))
    go_wp2
    refine wp_loop_rounds 1 ?_
    rw [rounds_succ]
    go_wp2
    go_ret2
    exact ⟨_, by rw [HE.out.1]; rfl, by rw [HE.out.2]; exact Owns.nil _ _, bx⟩
  obtain ⟨b, off, rfl, hb, hcell⟩ := hr (by omega)
  go_wp2
  go_loopw [9, 25] (fun o i wr => ∃ k : Nat, k ≤ l.length ∧ i = .int .i64 k ∧ Owns wr (M + 1) o (fromUpto l way k) ∧ picB (fromUpto l way k) = true ∧ (∀ j d, j < k → l[j]? = some d → cbOk d way = true) ∧ Making M T way wr ∧ BallBox Bl M T wr ∧ Below M w2 wr) (fun _ i _ => l.length - (intOf i).toNat)
  case atStart => exact ⟨0, Nat.zero_le _, rfl, Owns.nil _ _, by rw [fromUpto_zero]; decide, fun j d hj => by omega, hM, hB, Below.refl _ _⟩
  case round =>
    clear hM hB
    obtain ⟨k, hk, rfl, hown, hpic, hall, hM, hB, hbw⟩ := hrel
    have HALL := Lib.hid hall
    have HPIC := Lib.hid hpic
    clear hall hpic
    have bx := bx.trans (hbw.mono hwM)
    by_cases hlt : k < l.length
    · obtain ⟨⟨⟨x, y⟩, r⟩, hxy⟩ : ∃ a, l[k]? = some a := ⟨_, List.getElem?_eq_getElem hlt⟩
      obtain ⟨a0, a1, a2⟩ := hcell k x y r hxy
      have HMEM := Lib.hid (List.mem_of_getElem? hxy)
      have HX := Lib.hid hxy
      have d0 := (bx.cell (p := ⟨b, off + k * 3, none⟩) hb).trans a0
      have d1 := (bx.cell (p := ⟨b, off + k * 3 + 1, none⟩) hb).trans a1
      have d2 := (bx.cell (p := ⟨b, off + k * 3 + 2, none⟩) hb).trans a2
      have bal := box_below wr #[.int .i64 x, .int .i64 y, .int .i64 r] 45
      have hMb := hM.below bal
      have hBb := hB.but (But.of bal)
      have hob := hown.below bal
      have hMm := hM.m
      have hc := centredBall_any Bl M T x y r way _ H2.out hMb hBb
      have bxb := below_step bx bal
      have hbM := hbw.trans (bal.mono (Nat.le_of_lt hMm))
      clear hxy a0 a1 a2 hM hB hown hbw
      rcases hcb : cbOk ((x, y), r) way with _ | _
      · have HN0 := Lib.hid (cb_bad HMEM.out hcb)
        unfold CbPost at hc
        rw [hcb] at hc
        clear hcb
        go_wp2_with fail
        refine hc.mono ?_
        rintro e w3 ⟨v3, rfl, o3, hM3, k3⟩
        have bx := bxb.trans (k3.below hwM bxb.size)
        have HN := Lib.hid HN0.out
        go_wp2
        go_ret2
        exact ⟨_, by rw [HN.out]; rfl, by rw [from_no HN.out]; exact Owns.nil _ _, bx⟩
      · have HCB := Lib.hid hcb
        have HNX := Lib.hid (cbUpto_next HALL.out HX.out hcb)
        have HCL := Lib.hid (cb_is hcb)
        have HPB := Lib.hid (cb_pic hcb).2.2
        unfold CbPost at hc
        rw [hcb] at hc
        clear hcb
        go_wp2_with fail
        refine hc.mono ?_
        rintro e w3 ⟨v3, rfl, o3, hM3, k3⟩
        rw [HCL.out] at o3
        have bx3 := bxb.trans (k3.below hwM bxb.size)
        have hob3 := hob.but k3
        have hB3 := hBb.but k3
        have hbM3 := hbM.trans (k3.below (Nat.le_refl M) (Nat.le_of_lt hMb.m))
        have HSU := Lib.hid (show puts (fromUpto l way k) (ballAt way ((x, y), r)) = fromUpto l way (k + 1) from (fromUpto_succ HX.out).symm)
        have hboth := bothB_y HPIC.out HPB.out
        have hu := implUnion_any (fromUpto l way k) (ballAt way ((x, y), r)) _ _ w3 hob3.reads o3.reads
        clear d0 d1 d2 hc
        by_cases hbig : (puts (fromUpto l way k) (ballAt way ((x, y), r))).length ≤ 60
        · obtain ⟨e1, e2⟩ := union_yes hboth hbig
          have HP2 := Lib.hid (picB_puts (picB_pic HPIC.out) (picB_pic HPB.out) hbig)
          rw [HSU.out] at HP2
          unfold Gives2 at hu
          rw [e1, e2, HSU.out] at hu
          clear e1 e2 hbig hboth
          go_wp2_with fail
          refine hu.mono ?_
          rintro e w4 ⟨v4, rfl, o4, b4⟩
          have hm3 := hM3.m
          have hM4 := hM3.below b4
          have hB4 := hB3.but (But.of b4)
          have o4 := o4.base (show M + 1 ≤ w3.heap.size from hm3)
          have hbM4 := hbM3.trans (b4.mono (Nat.le_of_lt hm3))
          go_wp2
          go_roundw
          case rel => exact ⟨k + 1, by omega, by go_num, o4, HP2.out, HNX.out, hM4, hB4, hbM4⟩
          case measure => simp [intOf]; omega
        · obtain ⟨e1, e2⟩ := union_big (p := fromUpto l way k) (q := ballAt way ((x, y), r)) hbig
          have HN0 := Lib.hid (from_bad4 (l := l) (way := way) (k := k + 1) (by rw [← HSU.out]; omega))
          unfold Gives2 at hu
          rw [e1, e2] at hu
          clear e1 e2 hbig hboth
          go_wp2_with fail
          refine hu.mono ?_
          rintro e w4 ⟨v4, rfl, o4, b4⟩
          have bx := below_step bx3 b4
          have HN := Lib.hid HN0.out
          go_wp2
          go_ret2
          exact ⟨_, by rw [HN.out]; rfl, by rw [from_no HN.out]; exact Owns.nil _ _, bx⟩
    · obtain rfl : k = l.length := by omega
      have HE := Lib.hid (from_end H2.out HALL.out HPIC.out)
      have hO := hown.base (show w.heap.size ≤ M + 1 by omega)
      go_wp2
      go_ret2
      exact ⟨_, by rw [HE.out.1]; rfl, by rw [HE.out.2]; exact hO, bx⟩
end Go.Proofs.Ytfofmfkdkihhbad
