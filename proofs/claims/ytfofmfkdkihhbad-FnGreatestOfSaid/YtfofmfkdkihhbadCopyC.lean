/- The laws' own helpers for centres: eqCentre, eqCentreS, sameCentres, toCentre, toCentreS, szCentreS, markCentreS, heldCentreS. No conditions but those typed. -/
import Derived.Test.YtfofmfkdkihhbadCents
import Derived.Test.YtfofmfkdkihhbadCopy
import Derived.Test.YtfofmfkdkihhbadMark
import Derived.Test.YtfofmfkdkihhbadHas
namespace Go.Proofs.Ytfofmfkdkihhbad
open Go.RowKit Go.Sort

theorem ne_of_lt {v1 v2 : Value} {lo1 hi1 lo2 hi2 : Nat} (h1 : ∀ k, v1.ownBlock = some k → lo1 ≤ k ∧ k < hi1) (h2 : ∀ k, v2.ownBlock = some k → lo2 ≤ k ∧ k < hi2) (h : hi1 ≤ lo2 ∨ hi2 ≤ lo1) : v1.ownBlock = none ∨ v1.ownBlock ≠ v2.ownBlock := by
  cases e1 : v1.ownBlock with
  | none => exact .inl rfl
  | some k1 =>
    refine .inr fun e => ?_
    have l1 := h1 k1 e1
    have l2 := h2 k1 e.symm
    omega
def marksC : Nat → Int → List Cn
  | 0, _ => []
  | n + 1, k => ((k, k + 1), k + 1 + 1) :: marksC n (k + 3)
theorem marksC_length : ∀ (n : Nat) (k : Int), (marksC n k).length = n
  | 0, _ => rfl
  | n + 1, k => by simp [marksC, marksC_length n]
theorem marksC_at : ∀ (n : Nat) (k : Int) (j : Nat), j < n → (marksC n k)[j]? = some ((k + 3 * j, k + 3 * j + 1), k + 3 * j + 1 + 1)
  | 0, _, j, h => by omega
  | n + 1, k, 0, _ => by simp [marksC]
  | n + 1, k, j + 1, h => by
    simp only [marksC, List.getElem?_cons_succ]
    rw [marksC_at n (k + 3) j (by omega)]
    have e : k + 3 + 3 * (j : Int) = k + 3 * ((j : Nat) + 1 : Nat) := by push_cast; omega
    rw [e]
theorem eqSpot_same (x y : Int) (w : World) : Calls Try.prog 48 #[.agg #[.int .i64 x, .int .i64 y], .agg #[.int .i64 x, .int .i64 y]] w (Gives (.bool true) w) := by
  have := eqSpot_any x y x y w
  rwa [show decide (((x, y) : Sp) = (x, y)) = true from decide_eq_true rfl] at this
theorem eqCentre_any (x y r u v s : Int) (w : World) : Calls Try.prog 53 #[.agg #[.int .i64 x, .int .i64 y, .int .i64 r], .agg #[.int .i64 u, .int .i64 v, .int .i64 s]] w (Gives (.bool (decide (((x, y), r) = ((u, v), s)))) w) := by
  have b0 : Below w.heap.size w ((w.alloc (.cells #[.int .i64 x, .int .i64 y, .int .i64 r] 45)).alloc (.cells #[.int .i64 u, .int .i64 v, .int .i64 s] 45)) := (box_below w _ _).alloc (by simp) _
  obtain ⟨W, hW⟩ : ∃ W, W = (w.alloc (.cells #[.int .i64 x, .int .i64 y, .int .i64 r] 45)).alloc (.cells #[.int .i64 u, .int .i64 v, .int .i64 s] 45) := ⟨_, rfl⟩
  have q2 : W.cell? ⟨w.heap.size, 2, none⟩ = some (.int .i64 r) := by rw [hW]; simp [go_sem, World.cell?_alloc_past]
  have q0 : W.cell? ⟨w.heap.size, 0, none⟩ = some (.int .i64 x) := by rw [hW]; simp [go_sem, World.cell?_alloc_past]
  have q1 : W.cell? ⟨w.heap.size, 1, none⟩ = some (.int .i64 y) := by rw [hW]; simp [go_sem, World.cell?_alloc_past]
  have q3 : W.cell? ⟨w.heap.size + 1, 0, none⟩ = some (.int .i64 u) := by rw [hW]; simp [go_sem]
  have q4 : W.cell? ⟨w.heap.size + 1, 1, none⟩ = some (.int .i64 v) := by rw [hW]; simp [go_sem]
  have q5 : W.cell? ⟨w.heap.size + 1, 2, none⟩ = some (.int .i64 s) := by rw [hW]; simp [go_sem]
  have s0 : w.heap.size + 2 = W.heap.size := by rw [hW]; simp
  rw [← hW] at b0
  by_cases h1 : (x, y) = (u, v)
  · obtain ⟨rfl, rfl⟩ := Prod.mk.inj h1
    clear h1
    by_cases h2 : r = s
    · subst h2
      have HE := Lib.hid (show decide ((((x, y), r) : Cn) = ((x, y), r)) = true by simp)
      go_enter Try.func53, Try.ntmps53
      go_wp2_with fail
      rw [← hW]
      clear hW
      refine (eqSpot_same x y W).mono ?_
      rintro e w1 ⟨rfl, b1⟩
      have q2 := (b1.cell (p := ⟨w.heap.size, 2, none⟩) (by simp only []; omega)).trans q2
      have q5 := (b1.cell (p := ⟨w.heap.size + 1, 2, none⟩) (by simp only []; omega)).trans q5
      go_wp2
      go_ret
      exact ⟨ret_bool HE.out.symm, below_step b0 b1⟩
    · have HE := Lib.hid (show decide ((((x, y), r) : Cn) = ((x, y), s)) = false by simp [h2])
      have h2b : (r == s) = false := beq_eq_false_iff_ne.2 h2
      have h2c : (r != s) = true := by simp [h2]
      go_enter Try.func53, Try.ntmps53
      go_wp2_with fail
      rw [← hW]
      clear hW
      refine (eqSpot_same x y W).mono ?_
      rintro e w1 ⟨rfl, b1⟩
      have q2 := (b1.cell (p := ⟨w.heap.size, 2, none⟩) (by simp only []; omega)).trans q2
      have q5 := (b1.cell (p := ⟨w.heap.size + 1, 2, none⟩) (by simp only []; omega)).trans q5
      go_wp2
      go_ret
      exact ⟨ret_bool HE.out.symm, below_step b0 b1⟩
  · have H1 := Lib.hid (show decide (((x, y) : Sp) = (u, v)) = false from decide_eq_false h1)
    have HE := Lib.hid (show decide ((((x, y), r) : Cn) = ((u, v), s)) = false from decide_eq_false (fun e => h1 (Prod.mk.inj e).1))
    clear h1
    go_enter Try.func53, Try.ntmps53
    go_wp2_with fail
    rw [← hW]
    clear hW
    refine (gives_is H1.out (eqSpot_any x y u v W)).mono ?_
    rintro e w1 ⟨rfl, b1⟩
    go_wp2
    go_ret
    exact ⟨ret_bool HE.out.symm, below_step b0 b1⟩
theorem eqCentre_is {b : Bool} {x y r u v s : Int} {w : World} (h : decide ((((x, y), r) : Cn) = ((u, v), s)) = b) : Calls Try.prog 53 #[.agg #[.int .i64 x, .int .i64 y, .int .i64 r], .agg #[.int .i64 u, .int .i64 v, .int .i64 s]] w (Gives (.bool b) w) := by
  subst h; exact eqCentre_any x y r u v s w
set_option maxHeartbeats 800000 in
theorem eqCentreS_any (ps qs : List Cn) (v v' : Value) (w : World) (h : CReads w w.heap.size v ps) (h' : CReads w w.heap.size v' qs) : Calls Try.prog 24 #[v, v'] w (Gives (.bool (decide (ps = qs))) w) := by
  obtain ⟨A, c, rfl, hc, hm, hA, hr⟩ := h.is
  obtain ⟨A', c', rfl, hc', hm', hA', hr'⟩ := h'.is
  unfold maxLen at hm hm'
  by_cases hl : ps.length = qs.length
  · by_cases h0 : ps.length = 0
    · have e : ps = [] := List.eq_nil_of_length_eq_zero h0
      have e' : qs = [] := List.eq_nil_of_length_eq_zero (by omega)
      subst e e'
      go_enter Try.func24, Try.ntmps24
      go_wp2
      go_rounds 2
      go_ret
      exact ⟨rfl, Below.refl _ _⟩
    · obtain ⟨b, off, rfl, hb, hcell⟩ := hr (by omega)
      obtain ⟨b', off', rfl, hb', hcell'⟩ := hr' (by omega)
      have hne : (((ps.length : Int) != (qs.length : Int))) = false := by simp [hl]
      have h1 : ps.length ≤ qs.length := by omega
      have h2 : qs.length ≤ ps.length := by omega
      have hL := Lib.hid hl
      clear hl
      go_enter Try.func24, Try.ntmps24
      go_wp2
      go_loopw [5] (fun i wr => ∃ k : Nat, k ≤ ps.length ∧ i = .int .i64 k ∧ AgreeC ps qs k ∧ Below w.heap.size w wr) (fun i _ => ps.length - (intOf i).toNat)
      case atStart => exact ⟨0, Nat.zero_le _, rfl, fun j hj => by omega, Below.refl _ _⟩
      case round =>
        obtain ⟨k, hk, rfl, hok, hbw⟩ := hrel
        have hbs : w.heap.size ≤ wr.heap.size := hbw.size
        by_cases hlt : k < ps.length
        · have hlt' : k < qs.length := by omega
          obtain ⟨⟨⟨x, y⟩, r⟩, hxy⟩ : ∃ a, ps[k]? = some a := ⟨_, List.getElem?_eq_getElem hlt⟩
          obtain ⟨⟨⟨u, v⟩, s⟩, huv⟩ : ∃ a, qs[k]? = some a := ⟨_, List.getElem?_eq_getElem hlt'⟩
          obtain ⟨c0, c1, c2⟩ := hcell k x y r hxy
          obtain ⟨c3, c4, c5⟩ := hcell' k u v s huv
          have d0 := cell_regrown ((hbw.cell (p := ⟨b, off + k * 3, none⟩) hb).trans c0)
          have d1 := cell_regrown ((hbw.cell (p := ⟨b, off + k * 3 + 1, none⟩) hb).trans c1)
          have d2 := cell_regrown ((hbw.cell (p := ⟨b, off + k * 3 + 2, none⟩) hb).trans c2)
          have d3 := cell_regrown ((hbw.cell (p := ⟨b', off' + k * 3, none⟩) hb').trans c3)
          have d4 := cell_regrown ((hbw.cell (p := ⟨b', off' + k * 3 + 1, none⟩) hb').trans c4)
          have d5 := cell_regrown ((hbw.cell (p := ⟨b', off' + k * 3 + 2, none⟩) hb').trans c5)
          have hm3 : (0 : Int) ≤ (k : Int) := Int.natCast_nonneg _
          have hm4 : (k : Int) < (ps.length : Int) := by omega
          have hm5 : (k : Int) < (qs.length : Int) := by omega
          clear c0 c1 c2 c3 c4 c5
          by_cases hx : (((x, y), r) : Cn) = ((u, v), s)
          · have hH := Lib.hid (agreeC_succ hok hxy huv hx)
            have HC := Lib.hid (show decide ((((x, y), r) : Cn) = ((u, v), s)) = true from decide_eq_true hx)
            clear hok hxy huv hx
            go_wp2
            refine wp_region_quiet_below (by kernel_rfl) (by kernel_rfl) ?_
            repeat (go_big_quiet_step (first | (go_at_call 53; with_reducible exact gives_regrown (fun w1 _ => eqCentre_is HC.out) _ _)))
            refine wpQuiet_nil ?_
            intro _ hw'
            obtain ⟨⟨dq, osq⟩, hw''⟩ := hw'
            subst hw''
            go_wp2
            go_roundw
            case rel => exact ⟨k + 1, by omega, by go_num, hH.out, hbw.trans ((below_regrown _ _ _).mono hbs)⟩
            case measure => simp [intOf]; omega
          · have hH := Lib.hid (show decide (ps = qs) = false from decide_eq_false (agreeC_not hxy huv hx))
            have HC := Lib.hid (show decide ((((x, y), r) : Cn) = ((u, v), s)) = false from decide_eq_false hx)
            clear hok hxy huv hx
            go_wp2
            refine wp_region_quiet_below (by kernel_rfl) (by kernel_rfl) ?_
            repeat (go_big_quiet_step (first | (go_at_call 53; with_reducible exact gives_regrown (fun w1 _ => eqCentre_is HC.out) _ _)))
            refine wpQuiet_nil ?_
            intro _ hw'
            obtain ⟨⟨dq, osq⟩, hw''⟩ := hw'
            subst hw''
            go_wp2
            go_ret
            exact ⟨ret_bool hH.out.symm, hbw.trans ((below_regrown _ _ _).mono hbs)⟩
        · have hH := Lib.hid (show decide (ps = qs) = true from decide_eq_true (agreeC_all hL.out (fun j hj => hok j (by omega))))
          clear hok
          go_wp2
          go_ret
          exact ⟨ret_bool hH.out.symm, hbw⟩
  · have e : decide (ps = qs) = false := decide_eq_false (fun e => hl (by rw [e]))
    rw [e]
    have hne : (((ps.length : Int) != (qs.length : Int))) = true := by simp; omega
    clear hl e
    go_enter Try.func24, Try.ntmps24
    go_wp2
    go_ret
    exact ⟨rfl, Below.refl _ _⟩
set_option maxHeartbeats 800000 in
theorem markC_any (ps : List Cn) (v : Value) (base : Nat) (k : Int) (w : World) (h : COwns w base v ps) (hl : ps.length ≤ 1100000) (h0 : 0 ≤ k) (h1 : k ≤ 10000000) :
    Calls Try.prog 26 #[v, .int .i64 k] w fun e w' => e = .returned (.int .i64 (k + 3 * ps.length)) ∧ COwns w' base v (marksC ps.length k) ∧ w.grownBy w' v.ownBlock := by
  have hpr := h
  rcases h.2 with ⟨rfl, hz⟩ | ⟨g, cap, cur0, rfl, hb0, hg0, hn0, hc0, _, _⟩
  · have e : ps = [] := List.eq_nil_of_length_eq_zero hz
    subst e
    go_enter Try.func26, Try.ntmps26
    go_wp2
    go_rounds 2
    go_ret
    exact ⟨by simp, hpr, World.grownBy.refl _ _⟩
  · clear hg0
    unfold maxLen at hc0
    go_enter Try.func26, Try.ntmps26
    go_wp2
    go_loopw [1, 5] (fun kk i wr => ∃ (j : Nat) (cur : List Cn), j ≤ ps.length ∧ i = .int .i64 j ∧ kk = .int .i64 (k + 3 * (j : Int)) ∧ cur.length = ps.length ∧ AgreeC cur (marksC ps.length k) j ∧ COwns wr base (.slice (some ⟨g, 0, none⟩) ps.length cap) cur ∧ w.grownBy wr (some g)) (fun _ i _ => ps.length - (intOf i).toNat)
    case atStart => exact ⟨0, ps, Nat.zero_le _, rfl, by simp, rfl, fun j hj => by omega, hpr, World.grownBy.refl _ _⟩
    case round =>
      obtain ⟨j, cur, hj, rfl, rfl, hcl, hag, hown, hgr⟩ := hrel
      have hcl1 : cur.length ≤ ps.length := by omega
      have hcl2 : ps.length ≤ cur.length := by omega
      have hCL := Lib.hid hcl
      clear hcl
      by_cases hlt : j < ps.length
      · have fz := hown.free
        obtain ⟨px, py, pr, _, q0, q1, q2⟩ := hown.there (k := j) (by omega)
        have hM := Lib.hid (marksC_at ps.length k j hlt)
        go_wp2
        go_roundw
        case rel => exact ⟨j + 1, cur.set j ((k + 3 * (j : Int), k + 3 * (j : Int) + 1), k + 3 * (j : Int) + 1 + 1), by omega, by go_num, by go_num, by rw [List.length_set]; exact hCL.out, agreeC_set hag (by omega) hM.out, hown.set j _ _ _ (by omega), grown2 hgr (grown2 (grownSet _ _ _ _) (grown2 (grownSet _ _ _ _) (grownSet _ _ _ _)))⟩
        case measure => simp [intOf]; omega
      · have hE := Lib.hid (agreeC_all (hCL.out.trans (marksC_length _ _).symm) (fun i hi => hag i (by omega)))
        have hjn : j = ps.length := by omega
        have hJ := Lib.hid hjn
        clear hjn
        go_wp2
        go_ret
        exact ⟨by have := hJ.out; rw [this]; rfl, by have e := hE.out; rw [e] at hown; exact hown, hgr⟩
set_option maxHeartbeats 800000 in
theorem heldC_any (n : Nat) (v : Value) (k : Int) (w : World) (h : CReads w w.heap.size v (marksC n k)) (hl : n ≤ 1100000) (h0 : 0 ≤ k) (h1 : k ≤ 10000000) :
    Calls Try.prog 27 #[v, .int .i64 k] w (Gives (.int .i64 (k + 3 * n)) w) := by
  obtain ⟨A, c, rfl, hc, hm, hA, hr⟩ := h.is
  unfold maxLen at hm
  rw [marksC_length] at hc ⊢
  by_cases hz : n = 0
  · subst hz
    go_enter Try.func27, Try.ntmps27
    go_wp2
    go_rounds 2
    go_ret
    exact ⟨by simp, Below.refl _ _⟩
  · obtain ⟨b, off, rfl, hb, hcell⟩ := hr (by omega)
    go_enter Try.func27, Try.ntmps27
    go_wp2
    go_loopw [1, 5] (fun kk i wr => ∃ (j : Nat), j ≤ n ∧ i = .int .i64 j ∧ kk = .int .i64 (k + 3 * (j : Int)) ∧ Below w.heap.size w wr) (fun _ i _ => n - (intOf i).toNat)
    case atStart => exact ⟨0, Nat.zero_le _, rfl, by simp, Below.refl _ _⟩
    case round =>
      obtain ⟨j, hj, rfl, rfl, hbw⟩ := hrel
      by_cases hlt : j < n
      · obtain ⟨c0, c1, c2⟩ := hcell j _ _ _ (marksC_at n k j hlt)
        have d0 := (hbw.cell (p := ⟨b, off + j * 3, none⟩) hb).trans c0
        have d1 := (hbw.cell (p := ⟨b, off + j * 3 + 1, none⟩) hb).trans c1
        have d2 := (hbw.cell (p := ⟨b, off + j * 3 + 2, none⟩) hb).trans c2
        clear c0 c1 c2
        go_wp2
        go_roundw
        case rel => exact ⟨j + 1, by omega, by go_num, by go_num, hbw⟩
        case measure => simp [intOf]; omega
      · have hjn : j = n := by omega
        have hJ := Lib.hid hjn
        clear hjn
        go_wp2
        go_ret
        exact ⟨by have := hJ.out; rw [this]; rfl, hbw⟩

end Go.Proofs.Ytfofmfkdkihhbad
