/- The program's rule whether one picture, moved by a spot, is within another one: fitRule, its two closures, IndexFunc and ContainsFunc with it. No conditions but those typed. -/
import Derived.Test.YtkiidmdgdjphjaaGreatHas2
import Derived.Test.YtkiidmdgdjphjaaGreatMove
import Derived.Test.YtkiidmdgdjphjaaGreatPlain
namespace Go.Proofs.YtkiidmdgdjphjaaGreat
open Go.RowKit Go.Sort

theorem inPicture_is {b : Bool} {ps : List Sp} {v : Value} {ax ay : Int} {w : World} (hk : inP ps (ax, ay) = b) (h : Reads w w.heap.size v ps) (hs : Sorted ps) (hl : ps.length ≤ 1000000) :
    Calls Tryz.prog 119 #[v, .agg #[.int .i64 ax, .int .i64 ay]] w (Gives (.bool b) w) := by
  subst hk; exact inPicture_any ps v ax ay w h hs hl

/-- the inner closure: whether one spot of the second picture, moved, is none of the first one -/
theorem fitOne_any (ps : List Sp) (v : Value) (P Q : Nat) (ax ay bx by' : Int) (w : World) (h : Reads w w.heap.size v ps) (hs : Sorted ps) (hl : ps.length ≤ 60) (ha : NearS (ax, ay)) (hb : NearS (bx, by'))
    (hP : P < w.heap.size) (hQ : Q < w.heap.size) (cP : w.cell? ⟨P, 0, none⟩ = some v) (q0 : w.cell? ⟨Q, 0, none⟩ = some (.int .i64 ax)) (q1 : w.cell? ⟨Q, 1, none⟩ = some (.int .i64 ay)) {k : Bool} (hk : inP ps (ax + bx, ay + by') = !k) :
    Calls Tryz.prog 118 #[.agg #[.int .i64 bx, .int .i64 by'], .pointer (some ⟨P, 0, none⟩), .pointer (some ⟨Q, 0, none⟩)] w (Gives (.bool k) w) := by
  obtain ⟨A, c, rfl, hc, hm⟩ := h.slice
  unfold maxLen at hm
  unfold NearS at ha hb
  simp only at ha hb
  have b0 := box_below w #[.int .i64 bx, .int .i64 by'] 53
  have hr := h.kept b0
  have f0 := cell_regrown ((b0.cell (p := ⟨P, 0, none⟩) hP).trans cP)
  have f1 := cell_regrown ((b0.cell (p := ⟨Q, 0, none⟩) hQ).trans q0)
  have f2 := cell_regrown ((b0.cell (p := ⟨Q, 1, none⟩) hQ).trans q1)
  have f3 := cell_regrown (w := w.alloc (Obj.cells #[Value.int IntKind.i64 bx, Value.int IntKind.i64 by'] 53)) (a := ⟨w.heap.size, 0, none⟩) (v := .int .i64 bx) (by simp [go_sem])
  have f4 := cell_regrown (w := w.alloc (Obj.cells #[Value.int IntKind.i64 bx, Value.int IntKind.i64 by'] 53)) (a := ⟨w.heap.size, 1, none⟩) (v := .int .i64 by') (by simp [go_sem])
  have HK := Lib.hid hk
  clear hk cP q0 q1
  go_enter Tryz.func118, Tryz.ntmps118
  go_wp2
  refine wp_region_quiet_below (by kernel_rfl) (by kernel_rfl) ?_
  repeat (go_big_quiet_step (first | (go_at_call 82; exact gives_regrown (fun w1 _ => added_in ax ay bx by' w1 (by omega) (by omega)) _ _) | (go_at_call 119; exact gives_regrown (fun w1 hb1 => inPicture_is HK.out (hr.kept hb1) hs (by omega)) _ _)))
  refine wpQuiet_nil ?_
  intro _ hw'
  obtain ⟨⟨dq, osq⟩, hw''⟩ := hw'
  subst hw''
  go_wp2
  go_ret
  exact ⟨ret_bool (by simp), b0.trans ((below_regrown _ _ _).mono (by simp))⟩

def IdxPost (ps qs : List Sp) (a : Sp) (w : World) (e : Ending) (w' : World) : Prop := ∃ i : Int, e = .returned (.int .i64 i) ∧ decide (0 ≤ i) = (!fitAt ps qs a) ∧ Below w.heap.size w w'
set_option maxHeartbeats 800000 in
theorem fitIndex_any (ps qs : List Sp) (v u : Value) (P Q : Nat) (ax ay : Int) (w : World) (h : Reads w w.heap.size v ps) (k : Reads w w.heap.size u qs) (hs : Sorted ps) (hl : ps.length ≤ 60) (hl2 : qs.length ≤ 60) (ha : NearS (ax, ay)) (hq : ∀ b ∈ qs, NearS b)
    (hP : P < w.heap.size) (hQ : Q < w.heap.size) (cP : w.cell? ⟨P, 0, none⟩ = some v) (q0 : w.cell? ⟨Q, 0, none⟩ = some (.int .i64 ax)) (q1 : w.cell? ⟨Q, 1, none⟩ = some (.int .i64 ay)) :
    Calls Tryz.prog 134 #[u, .func (.func 118) #[] #[.pointer (some ⟨P, 0, none⟩), .pointer (some ⟨Q, 0, none⟩)]] w (IdxPost ps qs (ax, ay) w) := by
  obtain ⟨A, c, rfl, hc, hm, hA, hr⟩ := k.is
  unfold maxLen at hm
  have b0 := Below.refl w.heap.size w
  have hp0 : FitUpto ps qs (ax, ay) 0 := fun j d hj => by omega
  go_enter Tryz.func134, Tryz.ntmps134
  go_wp2
  by_cases h0 : qs.length = 0
  · have HZ := Lib.hid (fitAt_yes (ps := ps) (a := (ax, ay)) (show FitUpto ps qs (ax, ay) qs.length by rw [h0]; exact hp0))
    obtain rfl := List.eq_nil_of_length_eq_zero h0
    refine wp_loop_rounds 1 ?_
    rw [rounds_succ]
    go_wp2
    go_ret
    exact ⟨_, rfl, by rw [HZ.out]; rfl, b0⟩
  · obtain ⟨b, off, rfl, hb, hcell⟩ := hr (by omega)
    go_loopw [8] (fun i wr => ∃ j : Nat, j ≤ qs.length ∧ i = .int .i64 j ∧ FitUpto ps qs (ax, ay) j ∧ Below w.heap.size w wr) (fun i _ => qs.length - (intOf i).toNat)
    case atStart => exact ⟨0, Nat.zero_le _, rfl, hp0, b0⟩
    case round =>
      obtain ⟨j, hj, rfl, hI, hbw⟩ := hrel
      have HI := Lib.hid hI
      clear hI hp0
      have hbs := hbw.size
      by_cases hlt : j < qs.length
      · obtain ⟨⟨x, y⟩, hxy⟩ : ∃ a, qs[j]? = some a := ⟨_, List.getElem?_eq_getElem hlt⟩
        obtain ⟨c0, c1⟩ := hcell j x y hxy
        have d0 := (hbw.cell (p := ⟨b, off + j * 2, none⟩) hb).trans c0
        have d1 := (hbw.cell (p := ⟨b, off + j * 2 + 1, none⟩) hb).trans c1
        have hn := hq _ (List.mem_of_getElem? hxy)
        have e0 := (hbw.cell (p := ⟨P, 0, none⟩) hP).trans cP
        have e1 := (hbw.cell (p := ⟨Q, 0, none⟩) hQ).trans q0
        have e2 := (hbw.cell (p := ⟨Q, 1, none⟩) hQ).trans q1
        have hPr := Nat.lt_of_lt_of_le hP hbs
        have hQr := Nat.lt_of_lt_of_le hQ hbs
        have hpr := h.kept hbw
        by_cases hin : addS (ax, ay) (x, y) ∈ ps
        · have HN := Lib.hid (HI.out.next hxy hin)
          have hk : inP ps (ax + x, ay + y) = !false := decide_eq_true hin
          have hcl := fitOne_any ps v P Q ax ay x y wr hpr hs hl ha hn hPr hQr e0 e1 e2 hk
          clear hxy c0 c1 hin hk e0 e1 e2 cP q0 q1
          go_wp2_with fail
          refine hcl.mono ?_
          rintro e w1 ⟨rfl, b1⟩
          have bw1 := below_step hbw b1
          go_wp2
          go_roundw
          case rel => exact ⟨j + 1, by omega, by go_num, HN.out, bw1⟩
          case measure => simp [intOf]; omega
        · have HN := Lib.hid (fitAt_no hxy hin)
          have hk : inP ps (ax + x, ay + y) = !true := decide_eq_false hin
          have hcl := fitOne_any ps v P Q ax ay x y wr hpr hs hl ha hn hPr hQr e0 e1 e2 hk
          clear hxy c0 c1 hin hk e0 e1 e2 cP q0 q1
          go_wp2_with fail
          refine hcl.mono ?_
          rintro e w1 ⟨rfl, b1⟩
          have bw1 := below_step hbw b1
          go_wp2
          go_ret
          exact ⟨_, rfl, by rw [HN.out]; simp, bw1⟩
      · obtain rfl : j = qs.length := by omega
        have HN := Lib.hid (fitAt_yes HI.out)
        go_wp2
        go_ret
        exact ⟨_, rfl, by rw [HN.out]; rfl, hbw⟩

/-- the outer closure: whether the second picture, moved by a spot, is within the first one -/
theorem fitRule1_any (ps qs : List Sp) (v u : Value) (P Q : Nat) (ax ay : Int) (w : World) (h : Reads w w.heap.size v ps) (k : Reads w w.heap.size u qs) (hs : Sorted ps) (hl : ps.length ≤ 60) (hl2 : qs.length ≤ 60) (ha : NearS (ax, ay)) (hq : ∀ b ∈ qs, NearS b)
    (hP : P < w.heap.size) (hQ : Q < w.heap.size) (cP : w.cell? ⟨P, 0, none⟩ = some v) (cQ : w.cell? ⟨Q, 0, none⟩ = some u) :
    Calls Tryz.prog 116 #[.agg #[.int .i64 ax, .int .i64 ay], .pointer (some ⟨Q, 0, none⟩), .pointer (some ⟨P, 0, none⟩)] w (Gives (.bool (fitAt ps qs (ax, ay))) w) := by
  obtain ⟨A, c, rfl, hc, hm⟩ := h.slice
  obtain ⟨A', c', rfl, hc', hm'⟩ := k.slice
  have b0 := box_below w #[.int .i64 ax, .int .i64 ay] 53
  obtain ⟨W, hW⟩ : ∃ W, W = w.alloc (.cells #[.int .i64 ax, .int .i64 ay] 53) := ⟨_, rfl⟩
  have g0 : W.cell? ⟨w.heap.size, 0, none⟩ = some (.int .i64 ax) := by rw [hW]; simp [go_sem]
  have g1 : W.cell? ⟨w.heap.size, 1, none⟩ = some (.int .i64 ay) := by rw [hW]; simp [go_sem]
  have hWs : w.heap.size < W.heap.size := by rw [hW]; simp
  rw [← hW] at b0
  have hbs := b0.size
  have hcl := fitIndex_any ps qs _ _ P w.heap.size ax ay W (h.kept b0) (k.kept b0) hs hl hl2 ha hq (by omega) hWs ((b0.cell (p := ⟨P, 0, none⟩) hP).trans cP) g0 g1
  have hcc : Calls Tryz.prog 117 #[.slice A' qs.length c', .func (.func 118) #[] #[.pointer (some ⟨P, 0, none⟩), .pointer (some ⟨w.heap.size, 0, none⟩)]] W (Gives (.bool (!fitAt ps qs (ax, ay))) W) := by
    clear hW g0 g1
    go_enter Tryz.func117, Tryz.ntmps117
    go_wp2_with fail
    refine hcl.mono ?_
    rintro e w1 ⟨i, rfl, hi, b1⟩
    have HI := Lib.hid hi
    clear hi
    go_wp2
    go_ret
    exact ⟨ret_bool HI.out, b1⟩
  have e0 := (b0.cell (p := ⟨Q, 0, none⟩) hQ).trans cQ
  clear hcl g0 g1
  go_enter Tryz.func116, Tryz.ntmps116
  go_wp2_with (first | (rw [← hW]; clear hW) | fail)
  refine hcc.mono ?_
  rintro e w1 ⟨rfl, b1⟩
  go_wp2
  go_ret
  exact ⟨ret_bool (by simp), below_step b0 b1⟩
end Go.Proofs.YtkiidmdgdjphjaaGreat
