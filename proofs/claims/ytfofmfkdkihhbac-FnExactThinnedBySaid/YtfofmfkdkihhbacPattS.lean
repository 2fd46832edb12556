/- PatternOk, FoundIn and ThinnedBy of the model. No conditions but those typed. -/
import Derived.Test.YtfofmfkdkihhbacBordS
import Derived.Test.YtfofmfkdkihhbacCommonS
import Derived.Test.YtfofmfkdkihhbacMove
namespace Go.Proofs.Ytfofmfkdkihhbac
open Go.RowKit Go.Sort

def NoneUpto (ps qs : List Sp) (a : Sp) (k : Nat) : Prop := ∀ j d, j < k → qs[j]? = some d → ¬ addS a d ∈ ps
theorem NoneUpto.next {ps qs : List Sp} {a d : Sp} {k : Nat} (h : NoneUpto ps qs a k) (hd : qs[k]? = some d) (hm : ¬ addS a d ∈ ps) : NoneUpto ps qs a (k + 1) := fun j x hj hx => by
  by_cases e : j = k
  · subst e; rw [hd] at hx; cases hx; exact hm
  · exact h j x (by omega) hx
theorem patAt_no1 {ps t u : List Sp} {a d : Sp} {k : Nat} (hd : t[k]? = some d) (hm : ¬ addS a d ∈ ps) : patAt ps t u a = false := by
  rw [← Bool.not_eq_true, patAt_iff]; exact fun h => hm (h.1 d (List.mem_of_getElem? hd))
theorem patAt_no2 {ps t u : List Sp} {a d : Sp} {k : Nat} (hd : u[k]? = some d) (hm : addS a d ∈ ps) : patAt ps t u a = false := by
  rw [← Bool.not_eq_true, patAt_iff]; exact fun h => h.2 d (List.mem_of_getElem? hd) hm
theorem patAt_yes {ps t u : List Sp} {a : Sp} (h : FitUpto ps t a t.length) (k : NoneUpto ps u a u.length) : patAt ps t u a = true := by
  rw [patAt_iff]
  constructor
  · intro d hd
    obtain ⟨j, hj⟩ := List.mem_iff_getElem?.1 hd
    exact h j d (List.getElem?_eq_some_iff.1 hj).1 hj
  · intro d hd
    obtain ⟨j, hj⟩ := List.mem_iff_getElem?.1 hd
    exact k j d (List.getElem?_eq_some_iff.1 hj).1 hj
theorem l1Has_lit {b : Bool} {ps : List Sp} {v : Value} {ax ay : Int} {w : World} (hk : inP ps (ax, ay) = b) (h : Reads w w.heap.size v ps) (hs : Sorted ps) (hl : ps.length ≤ 1000000) :
    Calls Try.prog 72 #[v, .agg #[.int .i64 ax, .int .i64 ay]] w (Gives (.bool b) w) := by
  subst hk; exact l1Has_any ps v ax ay w h hs hl
set_option maxHeartbeats 1600000 in
theorem l5At_any (ps t u : List Sp) (v vt vu : Value) (ax ay : Int) (w : World) (h : Reads w w.heap.size v ps) (ht : Reads w w.heap.size vt t) (hu : Reads w w.heap.size vu u) (hs : Sorted ps) (hl : ps.length ≤ 60) (ha : NearS (ax, ay)) (htn : ∀ b ∈ t, NearS b) (hun : ∀ b ∈ u, NearS b) :
    Calls Try.prog 50 #[v, .agg #[vt, vu], .agg #[.int .i64 ax, .int .i64 ay]] w (Gives (.bool (patAt ps t u (ax, ay))) w) := by
  obtain ⟨A, c, rfl, hc, hm⟩ := h.slice
  obtain ⟨At, ct, rfl, hct, hmt, hAt, hrt⟩ := ht.is
  obtain ⟨Au, cu, rfl, hcu, hmu, hAu, hru⟩ := hu.is
  unfold maxLen at hm hmt hmu
  obtain ⟨vt, hvt⟩ : ∃ vt, vt = Value.slice At t.length ct := ⟨_, rfl⟩
  obtain ⟨vu, hvu⟩ : ∃ vu, vu = Value.slice Au u.length cu := ⟨_, rfl⟩
  rw [← hvt, ← hvu]
  have b0 : Below w.heap.size w ((w.alloc (.cells #[vt, vu] 25)).alloc (.cells #[.int .i64 ax, .int .i64 ay] 35)) := (box_below w _ _).alloc (by simp) _
  obtain ⟨W, hW⟩ : ∃ W, W = (w.alloc (.cells #[vt, vu] 25)).alloc (.cells #[.int .i64 ax, .int .i64 ay] 35) := ⟨_, rfl⟩
  have q0 : W.cell? ⟨w.heap.size, 0, none⟩ = some vt := by rw [hW]; simp [go_sem, World.cell?_alloc_past]
  have q1 : W.cell? ⟨w.heap.size, 1, none⟩ = some vu := by rw [hW]; simp [go_sem, World.cell?_alloc_past]
  have q2 : W.cell? ⟨w.heap.size + 1, 0, none⟩ = some (.int .i64 ax) := by rw [hW]; simp [go_sem]
  have q3 : W.cell? ⟨w.heap.size + 1, 1, none⟩ = some (.int .i64 ay) := by rw [hW]; simp [go_sem]
  have s0 : w.heap.size < W.heap.size := by rw [hW]; simp; omega
  have s1 : w.heap.size + 1 < W.heap.size := by rw [hW]; simp
  rw [← hW] at b0
  have hA := ha
  unfold NearS at ha
  simp only at ha
  have hf0 : FitUpto ps t (ax, ay) 0 := fun j d hj => by omega
  have hn0 : NoneUpto ps u (ax, ay) 0 := fun j d hj => by omega
  subst hvt hvu
  go_enter Try.func50, Try.ntmps50
  go_wp2
  rw [← hW]
  clear hW
  go_loopw [7] (fun i wr => ∃ k : Nat, k ≤ t.length ∧ i = .int .i64 k ∧ FitUpto ps t (ax, ay) k ∧ Below W.heap.size W wr) (fun i _ => t.length - (intOf i).toNat)
  case atStart => exact ⟨0, Nat.zero_le _, rfl, hf0, Below.refl _ _⟩
  case round =>
    clear hf0
    obtain ⟨k, hk, rfl, hfit, hbw⟩ := hrel
    have HI := Lib.hid hfit
    clear hfit
    have hbs := hbw.size
    have g0 := (hbw.cell (p := ⟨w.heap.size, 0, none⟩) s0).trans q0
    by_cases hlt : k < t.length
    · obtain ⟨⟨x, y⟩, hxy⟩ : ∃ a, t[k]? = some a := ⟨_, List.getElem?_eq_getElem hlt⟩
      have hw0 := b0.trans (hbw.mono b0.size)
      have e2 := cell_regrown ((hbw.cell (p := ⟨w.heap.size + 1, 0, none⟩) s1).trans q2)
      have e3 := cell_regrown ((hbw.cell (p := ⟨w.heap.size + 1, 1, none⟩) s1).trans q3)
      have hwx : IntKind.i64.wrap (ax + x) = ax + x := IntWalk.i64_in _ (by have := htn _ (List.mem_of_getElem? hxy); unfold NearS at this; simp only at this; omega)
      have hwy : IntKind.i64.wrap (ay + y) = ay + y := IntWalk.i64_in _ (by have := htn _ (List.mem_of_getElem? hxy); unfold NearS at this; simp only at this; omega)
      have hm3 : (0 : Int) ≤ (k : Int) := Int.natCast_nonneg _
      have hm4 : (k : Int) < (t.length : Int) := by omega
      have rpw := h.kept hw0
      obtain ⟨b, off, rfl, hb, hcell⟩ := hrt (by omega)
      obtain ⟨c0, c1⟩ := hcell k x y hxy
      have e4 := cell_regrown ((hw0.cell (p := ⟨b, off + k * 2, none⟩) hb).trans c0)
      have e5 := cell_regrown ((hw0.cell (p := ⟨b, off + k * 2 + 1, none⟩) hb).trans c1)
      have e0 := cell_regrown g0
      by_cases hin : addS (ax, ay) (x, y) ∈ ps
      · have HN := Lib.hid (HI.out.next hxy hin)
        have HK := Lib.hid (show inP ps (ax + x, ay + y) = true from decide_eq_true hin)
        clear hxy c0 c1 hin
        go_wp2
        refine wp_region_quiet_below (by kernel_rfl) (by kernel_rfl) ?_
        repeat (go_big_quiet_step (first | (go_at_call 72; exact gives_regrown (fun w1 hb1 => l1Has_lit HK.out (rpw.kept hb1) hs (by omega)) _ _)))
        refine wpQuiet_nil ?_
        intro _ hw'
        obtain ⟨⟨dq, osq⟩, hw''⟩ := hw'
        subst hw''
        go_wp2
        go_roundw
        case rel => exact ⟨k + 1, by omega, by go_num, HN.out, hbw.trans ((below_regrown _ _ _).mono hbs)⟩
        case measure => simp [intOf]; omega
      · have HN := Lib.hid (patAt_no1 (u := u) hxy hin)
        have HK := Lib.hid (show inP ps (ax + x, ay + y) = false from decide_eq_false hin)
        clear hxy c0 c1 hin
        go_wp2
        refine wp_region_quiet_below (by kernel_rfl) (by kernel_rfl) ?_
        repeat (go_big_quiet_step (first | (go_at_call 72; exact gives_regrown (fun w1 hb1 => l1Has_lit HK.out (rpw.kept hb1) hs (by omega)) _ _)))
        refine wpQuiet_nil ?_
        intro _ hw'
        obtain ⟨⟨dq, osq⟩, hw''⟩ := hw'
        subst hw''
        go_wp2
        go_ret
        exact ⟨ret_bool HN.out.symm, hw0.trans ((below_regrown _ _ _).mono hw0.size)⟩
    · obtain rfl : k = t.length := by omega
      go_wp2
      go_loopw [8] (fun i wr => ∃ k : Nat, k ≤ u.length ∧ i = .int .i64 k ∧ NoneUpto ps u (ax, ay) k ∧ Below W.heap.size W wr) (fun i _ => u.length - (intOf i).toNat)
      case atStart => exact ⟨0, Nat.zero_le _, rfl, hn0, hbw⟩
      case round =>
        clear hn0 hbw g0 hbs
        obtain ⟨k, hk, rfl, hfit, hbw⟩ := hrel
        have HJ := Lib.hid hfit
        clear hfit
        have hbs := hbw.size
        have g1 := (hbw.cell (p := ⟨w.heap.size, 1, none⟩) s0).trans q1
        by_cases hlt : k < u.length
        · obtain ⟨⟨x, y⟩, hxy⟩ : ∃ a, u[k]? = some a := ⟨_, List.getElem?_eq_getElem hlt⟩
          have hw0 := b0.trans (hbw.mono b0.size)
          have e2 := cell_regrown ((hbw.cell (p := ⟨w.heap.size + 1, 0, none⟩) s1).trans q2)
          have e3 := cell_regrown ((hbw.cell (p := ⟨w.heap.size + 1, 1, none⟩) s1).trans q3)
          have hwx : IntKind.i64.wrap (ax + x) = ax + x := IntWalk.i64_in _ (by have := hun _ (List.mem_of_getElem? hxy); unfold NearS at this; simp only at this; omega)
          have hwy : IntKind.i64.wrap (ay + y) = ay + y := IntWalk.i64_in _ (by have := hun _ (List.mem_of_getElem? hxy); unfold NearS at this; simp only at this; omega)
          have hm3 : (0 : Int) ≤ (k : Int) := Int.natCast_nonneg _
          have hm4 : (k : Int) < (u.length : Int) := by omega
          have rpw := h.kept hw0
          obtain ⟨b, off, rfl, hb, hcell⟩ := hru (by omega)
          obtain ⟨c0, c1⟩ := hcell k x y hxy
          have e4 := cell_regrown ((hw0.cell (p := ⟨b, off + k * 2, none⟩) hb).trans c0)
          have e5 := cell_regrown ((hw0.cell (p := ⟨b, off + k * 2 + 1, none⟩) hb).trans c1)
          have e0 := cell_regrown g1
          by_cases hin : addS (ax, ay) (x, y) ∈ ps
          · have HN := Lib.hid (patAt_no2 (t := t) hxy hin)
            have HK := Lib.hid (show inP ps (ax + x, ay + y) = true from decide_eq_true hin)
            clear hxy c0 c1 hin
            go_wp2
            refine wp_region_quiet_below (by kernel_rfl) (by kernel_rfl) ?_
            repeat (go_big_quiet_step (first | (go_at_call 72; exact gives_regrown (fun w1 hb1 => l1Has_lit HK.out (rpw.kept hb1) hs (by omega)) _ _)))
            refine wpQuiet_nil ?_
            intro _ hw'
            obtain ⟨⟨dq, osq⟩, hw''⟩ := hw'
            subst hw''
            go_wp2
            go_ret
            exact ⟨ret_bool HN.out.symm, hw0.trans ((below_regrown _ _ _).mono hw0.size)⟩
          · have HN := Lib.hid (HJ.out.next hxy hin)
            have HK := Lib.hid (show inP ps (ax + x, ay + y) = false from decide_eq_false hin)
            clear hxy c0 c1 hin
            go_wp2
            refine wp_region_quiet_below (by kernel_rfl) (by kernel_rfl) ?_
            repeat (go_big_quiet_step (first | (go_at_call 72; exact gives_regrown (fun w1 hb1 => l1Has_lit HK.out (rpw.kept hb1) hs (by omega)) _ _)))
            refine wpQuiet_nil ?_
            intro _ hw'
            obtain ⟨⟨dq, osq⟩, hw''⟩ := hw'
            subst hw''
            go_wp2
            go_roundw
            case rel => exact ⟨k + 1, by omega, by go_num, HN.out, hbw.trans ((below_regrown _ _ _).mono hbs)⟩
            case measure => simp [intOf]; omega
        · obtain rfl : k = u.length := by omega
          have HN := Lib.hid (patAt_yes HI.out HJ.out)
          have hw0 := b0.trans (hbw.mono b0.size)
          go_wp2
          go_ret
          exact ⟨ret_bool HN.out.symm, hw0⟩

def In3 (a : Sp) : Prop := -3 ≤ a.1 ∧ a.1 ≤ 3 ∧ -3 ≤ a.2 ∧ a.2 ≤ 3
def SmallUpto (p : List Sp) (k : Nat) : Prop := ∀ j a, j < k → p[j]? = some a → In3 a
theorem SmallUpto.next {p : List Sp} {k : Nat} {a : Sp} (h : SmallUpto p k) (hd : p[k]? = some a) (hm : In3 a) : SmallUpto p (k + 1) := fun j x hj hx => by
  by_cases e : j = k
  · subst e; rw [hd] at hx; cases hx; exact hm
  · exact h j x (by omega) hx
theorem small3_yes {p : List Sp} (h : SmallUpto p p.length) : small3 p = true := decide_eq_true fun a ha => by
  obtain ⟨j, hj⟩ := List.mem_iff_getElem?.1 ha
  exact h j a (List.getElem?_eq_some_iff.1 hj).1 hj
theorem pat_small_no {t u : List Sp} {k : Nat} {a : Sp} (hd : (t ++ u)[k]? = some a) (h : ¬ In3 a) : patB t u = false := by
  have : small3 (t ++ u) = false := decide_eq_false fun k2 => h (k2 a (List.mem_of_getElem? hd))
  unfold patB; rw [this]; rfl
set_option maxHeartbeats 1600000 in
theorem specPattern_any (t u : List Sp) (vt vu : Value) (w : World) (ht : Reads w w.heap.size vt t) (hu : Reads w w.heap.size vu u) (hlt : t.length ≤ 1100000) (hlu : u.length ≤ 1100000) :
    Calls Try.prog 49 #[.agg #[vt, vu]] w (Gives (.bool (patB t u)) w) := by
  obtain ⟨At, ct, rfl, hct, hmt⟩ := ht.slice
  obtain ⟨Au, cu, rfl, hcu, hmu⟩ := hu.slice
  unfold maxLen at hmt hmu
  have b0 := box_below w #[.slice At t.length ct, .slice Au u.length cu] 25
  obtain ⟨W, hW⟩ : ∃ W, W = w.alloc (.cells #[.slice At t.length ct, .slice Au u.length cu] 25) := ⟨_, rfl⟩
  have q0 : W.cell? ⟨w.heap.size, 0, none⟩ = some (.slice At t.length ct) := by rw [hW]; simp [go_sem]
  have q1 : W.cell? ⟨w.heap.size, 1, none⟩ = some (.slice Au u.length cu) := by rw [hW]; simp [go_sem]
  have hsz : W.heap.size = w.heap.size + 1 := by rw [hW]; simp
  rw [← hW] at b0
  have rt := (ht.kept b0).kept (Below.refl W.heap.size W).drew
  have ba := box_below W.drew #[] 35
  have oE : Owns (W.drew.alloc (.cells #[] 35)) W.heap.size (.slice (some ⟨W.heap.size, 0, none⟩) 0 0) [] := Owns.empty W.drew W.heap.size (Nat.le_refl _)
  have rt1 := rt.kept ba
  have ru1 : Reads (W.drew.alloc (.cells #[] 35)) W.heap.size _ u := (hu.kept b0).below ((Below.refl W.heap.size W).drew.trans ba)
  have s0 : w.heap.size < W.heap.size := by omega
  have bal : Below W.heap.size W (W.drew.alloc (.cells #[] 35)) := (Below.refl W.heap.size W).drew.trans ba
  have hq1 : ([] : List Sp).length + t.length ≤ 8000000000000 := by simp; omega
  have hq2 : W.heap.size ≤ (W.drew.alloc (.cells #[] 35)).heap.size := bal.size
  have c0 : W.drew.cell? ⟨w.heap.size, 0, none⟩ = some (.slice At t.length ct) := q0
  have c1 : W.drew.cell? ⟨w.heap.size, 1, none⟩ = some (.slice Au u.length cu) := q1
  have d0 := (ba.cell (p := ⟨w.heap.size, 0, none⟩) s0).trans c0
  have d1 := (ba.cell (p := ⟨w.heap.size, 1, none⟩) s0).trans c1
  have ne0 := World.new_ne W _ q0
  have HZ := Lib.hid hsz
  clear hsz
  go_enter Try.func49, Try.ntmps49
  go_wp2_with fail
  rw [← hW]
  clear hW
  go_region_held3 (fun w' => w'.cell? ⟨w.heap.size, 0, none⟩ = some (.slice At t.length ct) ∧ w'.cell? ⟨w.heap.size, 1, none⟩ = some (.slice Au u.length cu)) (first | (refine ⟨?_, ?_⟩ <;> with_reducible assumption) | go_keep)
    (first
      | (refine step_append_spots (qs := t) oE rt1 hq1 hq2 (by rfl) _ _ (by rfl) (by rfl) (by rfl) ?_; intro v2 w2 o2 g2 _; have bz := oE.below_app bal hq2 g2; have ru2 := ru1.grown g2 hq2 (fun k hk => (oE.lt k hk).1); have e0 := (bz.cell (p := ⟨w.heap.size, 0, none⟩) s0).trans q0; have e1 := (bz.cell (p := ⟨w.heap.size, 1, none⟩) s0).trans q1)
      | (refine step_append_spots (qs := u) o2 ru2 (by simp; omega) bz.size (by rfl) _ _ (by rfl) (by rfl) (by rfl) ?_; intro v3 w3 o3 g3 _; have bz3 := o2.below_app bz bz.size g3; have e2 := (bz3.cell (p := ⟨w.heap.size, 0, none⟩) s0).trans q0; have e3 := (bz3.cell (p := ⟨w.heap.size, 1, none⟩) s0).trans q1))
  rw [List.nil_append] at o3
  have bw3 := b0.trans (bz3.mono b0.size)
  have rt3 := ht.kept bw3
  have ru3 := hu.kept bw3
  have s3 := Nat.lt_of_lt_of_le s0 bz3.size
  have hlen : (t ++ u).length ≤ 2200000 := by rw [List.length_append]; omega
  obtain ⟨al, hal⟩ : ∃ al, al = t ++ u := ⟨_, rfl⟩
  have HAL := Lib.hid hal
  rw [← hal] at o3 hlen
  obtain ⟨A3, c3, rfl, hc3, hm3', hA3, hr3⟩ := o3.reads.is
  unfold maxLen at hm3'
  clear hal oE rt1 ru1 ru2 o2 bz g2 g3 o3 bal ba c0 c1 d0 d1 e0 e1 ne0 hq1 hq2 rt
  have hf0 : SmallUpto al 0 := fun j a hj => by omega
  go_wp2
  go_loopw [4] (fun i wr => ∃ k : Nat, k ≤ al.length ∧ i = .int .i64 k ∧ SmallUpto al k ∧ Below w3.heap.size w3 wr) (fun i _ => al.length - (intOf i).toNat)
  case atStart => exact ⟨0, Nat.zero_le _, rfl, hf0, Below.refl _ _⟩
  case round =>
    clear hf0
    obtain ⟨k, hk, rfl, hfit, hbw⟩ := hrel
    have HI := Lib.hid hfit
    clear hfit
    by_cases hlt2 : k < al.length
    · obtain ⟨⟨x, y⟩, hxy⟩ : ∃ a, al[k]? = some a := ⟨_, List.getElem?_eq_getElem hlt2⟩
      obtain ⟨b, off, rfl, hb, hcell⟩ := hr3 (by omega)
      obtain ⟨c0, c1⟩ := hcell k x y hxy
      have g0 := (hbw.cell (p := ⟨b, off + k * 2, none⟩) hb).trans c0
      have g1 := (hbw.cell (p := ⟨b, off + k * 2 + 1, none⟩) hb).trans c1
      have hm3 : (0 : Int) ≤ (k : Int) := Int.natCast_nonneg _
      have hm4 : (k : Int) < (al.length : Int) := by omega
      by_cases hx : -3 ≤ x ∧ x ≤ 3
      · by_cases hy : -3 ≤ y ∧ y ≤ 3
        · have HN := Lib.hid (HI.out.next hxy (show In3 (x, y) from ⟨hx.1, hx.2, hy.1, hy.2⟩))
          have HX := Lib.hid (show decide (-3 ≤ x ∧ x ≤ 3) = true from decide_eq_true hx)
          have HY := Lib.hid (show decide (-3 ≤ y ∧ y ≤ 3) = true from decide_eq_true hy)
          clear hxy c0 c1 hx hy
          go_wp2_with fail
          refine (gives_is HX.out (l1In_any _ _ _ _)).mono ?_
          rintro e w4 ⟨rfl, b4⟩
          have g1 := (b4.cell (p := ⟨b, off + k * 2 + 1, none⟩) (Nat.lt_of_lt_of_le hb hbw.size)).trans g1
          go_wp2_with fail
          refine (gives_is HY.out (l1In_any _ _ _ _)).mono ?_
          rintro e w5 ⟨rfl, b5⟩
          have bw5 := below_step (below_step hbw b4) b5
          go_wp2
          go_roundw
          case rel => exact ⟨k + 1, by omega, by go_num, HN.out, bw5⟩
          case measure => simp [intOf]; omega
        · have HN := Lib.hid (pat_small_no (t := t) (u := u) (by rw [← HAL.out]; exact hxy) (show ¬ In3 (x, y) from fun h => hy ⟨h.2.2.1, h.2.2.2⟩))
          have HX := Lib.hid (show decide (-3 ≤ x ∧ x ≤ 3) = true from decide_eq_true hx)
          have HY := Lib.hid (show decide (-3 ≤ y ∧ y ≤ 3) = false from decide_eq_false hy)
          clear hxy c0 c1 hx hy
          go_wp2_with fail
          refine (gives_is HX.out (l1In_any _ _ _ _)).mono ?_
          rintro e w4 ⟨rfl, b4⟩
          have g1 := (b4.cell (p := ⟨b, off + k * 2 + 1, none⟩) (Nat.lt_of_lt_of_le hb hbw.size)).trans g1
          go_wp2_with fail
          refine (gives_is HY.out (l1In_any _ _ _ _)).mono ?_
          rintro e w5 ⟨rfl, b5⟩
          have bw5 := below_step (below_step hbw b4) b5
          go_wp2
          go_ret
          exact ⟨ret_bool HN.out.symm, below_step bw3 bw5⟩
      · have HN := Lib.hid (pat_small_no (t := t) (u := u) (by rw [← HAL.out]; exact hxy) (show ¬ In3 (x, y) from fun h => hx ⟨h.1, h.2.1⟩))
        have HX := Lib.hid (show decide (-3 ≤ x ∧ x ≤ 3) = false from decide_eq_false hx)
        clear hxy c0 c1 hx
        go_wp2_with fail
        refine (gives_is HX.out (l1In_any _ _ _ _)).mono ?_
        rintro e w4 ⟨rfl, b4⟩
        have bw4 := below_step hbw b4
        go_wp2
        go_ret
        exact ⟨ret_bool HN.out.symm, below_step bw3 bw4⟩
    · obtain rfl : k = al.length := by omega
      have HS := Lib.hid (show small3 (t ++ u) = true by rw [← HAL.out]; exact small3_yes HI.out)
      have bb := below_step bw3 hbw
      have rt := rt3.kept hbw
      have ru := ru3.kept hbw
      have q0 := (hbw.cell (p := ⟨w.heap.size, 0, none⟩) s3).trans e2
      have q1 := (hbw.cell (p := ⟨w.heap.size, 1, none⟩) s3).trans e3
      have s0 := Nat.lt_of_lt_of_le s3 hbw.size
      clear e2 e3 rt3 ru3 bw3 hr3 hbw bz3 hA3 hk hlt2
      rcases h1 : picB t with _ | _
      · have HN := Lib.hid (show patB t u = false by unfold patB; rw [HS.out, h1]; rfl)
        go_wp2_with fail
        refine (gives_is h1 (specPicture_any t _ _ rt)).mono ?_
        rintro e w5 ⟨rfl, bn⟩
        go_wp2
        go_ret
        exact ⟨ret_bool HN.out.symm, below_step bb bn⟩
      rcases h2 : picB u with _ | _
      · have HN := Lib.hid (show patB t u = false by unfold patB; rw [HS.out, h1, h2]; rfl)
        have H2 := Lib.hid h2
        clear h2
        go_wp2_with fail
        refine (gives_is h1 (specPicture_any t _ _ rt)).mono ?_
        rintro e w5 ⟨rfl, bn⟩
        have bb := below_step bb bn
        have rt := rt.kept bn
        have ru := ru.kept bn
        have q0 := (bn.cell (p := ⟨w.heap.size, 0, none⟩) s0).trans q0
        have q1 := (bn.cell (p := ⟨w.heap.size, 1, none⟩) s0).trans q1
        have s0 := Nat.lt_of_lt_of_le s0 bn.size
        clear bn
        clear h1
        go_wp2_with fail
        refine (gives_is H2.out (specPicture_any u _ _ ru)).mono ?_
        rintro e w6 ⟨rfl, bn⟩
        go_wp2
        go_ret
        exact ⟨ret_bool HN.out.symm, below_step bb bn⟩
      have hcl := common_yes (bothB_y h1 h2)
      have H1 := Lib.hid h1
      have H2 := Lib.hid h2
      have HC := Lib.hid hcl
      clear h1 h2 hcl
      go_wp2_with fail
      refine (gives_is H1.out (specPicture_any t _ _ rt)).mono ?_
      rintro e w5 ⟨rfl, bn⟩
      have bb := below_step bb bn
      have rt := rt.kept bn
      have ru := ru.kept bn
      have q0 := (bn.cell (p := ⟨w.heap.size, 0, none⟩) s0).trans q0
      have q1 := (bn.cell (p := ⟨w.heap.size, 1, none⟩) s0).trans q1
      have s0 := Nat.lt_of_lt_of_le s0 bn.size
      clear bn
      go_wp2_with fail
      refine (gives_is H2.out (specPicture_any u _ _ ru)).mono ?_
      rintro e w6 ⟨rfl, bn⟩
      have bb := below_step bb bn
      have rt := rt.kept bn
      have ru := ru.kept bn
      have q0 := (bn.cell (p := ⟨w.heap.size, 0, none⟩) s0).trans q0
      have q1 := (bn.cell (p := ⟨w.heap.size, 1, none⟩) s0).trans q1
      have s0 := Nat.lt_of_lt_of_le s0 bn.size
      clear bn
      go_wp2_with fail
      refine (specCommon_any t u _ _ _ rt ru hlt).mono ?_
      rintro e w7 ⟨vc, rfl, oc, bn⟩
      rw [HC.out] at oc
      have bb := below_step bb bn
      have rt := rt.kept bn
      have ru := ru.kept bn
      have q0 := (bn.cell (p := ⟨w.heap.size, 0, none⟩) s0).trans q0
      have q1 := (bn.cell (p := ⟨w.heap.size, 1, none⟩) s0).trans q1
      have s0 := Nat.lt_of_lt_of_le s0 bn.size
      clear bn
      by_cases h3 : common t u = []
      · rw [h3] at oc
        obtain ⟨Ac, cc, rfl, _, _⟩ := oc.reads.slice
        have H3 := Lib.hid h3
        clear h3
        rcases h4 : decide (1 ≤ t.length ∧ t.length ≤ 9) with _ | _
        · have HN := Lib.hid (show patB t u = false by unfold patB; rw [HS.out, H1.out, H2.out, decide_eq_true H3.out, h4]; rfl)
          have H4 := Lib.hid (show decide ((1 : Int) ≤ (t.length : Int) ∧ (t.length : Int) ≤ 9) = false by rw [← h4, decide_eq_decide]; omega)
          clear h4
          go_wp2_with fail
          refine (gives_is H4.out (l1In_any _ _ _ _)).mono ?_
          rintro e w8 ⟨rfl, bn⟩
          go_wp2
          go_ret
          exact ⟨ret_bool HN.out.symm, below_step bb bn⟩
        · have H4 := Lib.hid (show decide ((1 : Int) ≤ (t.length : Int) ∧ (t.length : Int) ≤ 9) = true by rw [← h4, decide_eq_decide]; omega)
          have HN := Lib.hid (show patB t u = decide (u.length ≤ 9) by unfold patB; rw [HS.out, H1.out, H2.out, decide_eq_true H3.out, h4]; simp)
          clear h4
          go_wp2_with fail
          refine (gives_is H4.out (l1In_any _ _ _ _)).mono ?_
          rintro e w8 ⟨rfl, bn⟩
          have bb := below_step bb bn
          have rt := rt.kept bn
          have ru := ru.kept bn
          have q0 := (bn.cell (p := ⟨w.heap.size, 0, none⟩) s0).trans q0
          have q1 := (bn.cell (p := ⟨w.heap.size, 1, none⟩) s0).trans q1
          have s0 := Nat.lt_of_lt_of_le s0 bn.size
          clear bn
          go_wp2
          go_ret
          exact ⟨ret_bool (by rw [HN.out, Bool.eq_iff_iff]; simp <;> omega), bb⟩
      · have HN := Lib.hid (show patB t u = false by unfold patB; rw [HS.out, H1.out, H2.out, decide_eq_false h3]; rfl)
        have hp3 : 0 < (common t u).length := List.length_pos_iff.2 h3
        have hpb : (((common t u).length : Int) == 0) = false := by rw [beq_eq_false_iff_ne]; omega
        obtain ⟨Ac, cc, rfl, _, _⟩ := oc.reads.slice
        clear h3
        go_wp2
        go_ret
        exact ⟨ret_bool HN.out.symm, bb⟩
end Go.Proofs.Ytfofmfkdkihhbac
