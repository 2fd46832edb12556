/- Texts of one kind, merged: Eq, Copy, Mark. No conditions but those that stand in each theorem. -/
import Derived.Test.YtgdifenicjgfjaaMem
import Derived.Test.YtgdifenicjgfjaaPicWalk
namespace Go.Proofs.Ytgdifenicjgfjaa
/-! ### Eq -/
section
open Go.RowKit Go.Sort

theorem eqSpot_any (x y u v : Int) (w : World) : Calls Try.prog 41 #[.agg #[.int .i64 x, .int .i64 y], .agg #[.int .i64 u, .int .i64 v]] w (Gives (.bool (decide ((x, y) = (u, v)))) w) := by
  by_cases hx : x = u
  · subst hx
    by_cases hy : y = v
    · subst hy
      go_enter Try.func41, Try.ntmps41
      go_wp2
      go_ret
      exact ⟨by simp, ((Below.refl _ _).alloc (Nat.le_refl _) _).alloc (by simp) _⟩
    · go_enter Try.func41, Try.ntmps41
      go_wp2
      all_goals
        go_ret
        exact ⟨by simp [*], ((Below.refl _ _).alloc (Nat.le_refl _) _).alloc (by simp) _⟩
  · go_enter Try.func41, Try.ntmps41
    go_wp2
    all_goals
      go_ret
      exact ⟨by simp [*], ((Below.refl _ _).alloc (Nat.le_refl _) _).alloc (by simp) _⟩

/-- the lists agree below k -/
def Agree (p q : List Sp) (k : Nat) : Prop := ∀ j, j < k → p[j]? = q[j]?
theorem agree_all {p q : List Sp} (hl : p.length = q.length) (h : Agree p q p.length) : p = q := by
  apply List.ext_getElem?
  intro j
  by_cases hj : j < p.length
  · exact h j hj
  · rw [List.getElem?_eq_none (by omega), List.getElem?_eq_none (by omega)]
theorem agree_succ {p q : List Sp} {k : Nat} {a b : Sp} (h : Agree p q k) (hp : p[k]? = some a) (hq : q[k]? = some b) (e : a = b) : Agree p q (k + 1) := upto_succ h (by rw [hp, hq, e])
theorem agree_set {p q : List Sp} {k : Nat} {a : Sp} (h : Agree p q k) (hk : k < p.length) (hq : q[k]? = some a) : Agree (p.set k a) q (k + 1) := fun j hj => by
  by_cases e : j = k
  · subst e; rw [hq, List.getElem?_set]; simp [hk]
  · rw [List.getElem?_set]; simp [show ¬ k = j by omega]; exact h j (by omega)
theorem agree_not {p q : List Sp} {k : Nat} {a b : Sp} (hp : p[k]? = some a) (hq : q[k]? = some b) (e : a ≠ b) : p ≠ q := by
  rintro rfl; rw [hp] at hq; exact e (Option.some.inj hq)


set_option maxHeartbeats 400000 in
theorem eqSpotS_any (ps qs : List Sp) (v v' : Value) (w : World) (h : Reads w w.heap.size v ps) (h' : Reads w w.heap.size v' qs) : Calls Try.prog 23 #[v, v'] w (Gives (.bool (decide (ps = qs))) w) := by
  obtain ⟨A, c, rfl, hc, hm, hA, hr⟩ := h.is
  obtain ⟨A', c', rfl, hc', hm', hA', hr'⟩ := h'.is
  unfold maxLen at hm hm'
  by_cases hl : ps.length = qs.length
  · by_cases h0 : ps.length = 0
    · have e : ps = [] := List.eq_nil_of_length_eq_zero h0
      have e' : qs = [] := List.eq_nil_of_length_eq_zero (by omega)
      subst e e'
      go_enter Try.func23, Try.ntmps23
      go_wp2
      go_rounds 2
      go_ret
      exact ⟨rfl, Below.refl _ _⟩
    · obtain ⟨b, off, rfl, hb, hcell⟩ := hr (by omega)
      obtain ⟨b', off', rfl, hb', hcell'⟩ := hr' (by omega)
      have hne : (((ps.length : Int) != (qs.length : Int))) = false := by simp [hl]
      have h1 : ps.length ≤ qs.length := by omega
      have h2 : qs.length ≤ ps.length := by omega
      have hL := Lib.hid hl
      clear hl
      go_enter Try.func23, Try.ntmps23
      go_wp2
      go_loopw [5] (fun i wr => ∃ k : Nat, k ≤ ps.length ∧ i = .int .i64 k ∧ Agree ps qs k ∧ Below w.heap.size w wr) (fun i _ => ps.length - (intOf i).toNat)
      case atStart => exact ⟨0, Nat.zero_le _, rfl, fun j hj => by omega, Below.refl _ _⟩
      case round =>
        obtain ⟨k, hk, rfl, hok, hbw⟩ := hrel
        have hbs : w.heap.size ≤ wr.heap.size := hbw.size
        by_cases hlt : k < ps.length
        · have hlt' : k < qs.length := by omega
          obtain ⟨⟨x, y⟩, hxy⟩ : ∃ a, ps[k]? = some a := ⟨_, List.getElem?_eq_getElem hlt⟩
          obtain ⟨⟨u, v⟩, huv⟩ : ∃ a, qs[k]? = some a := ⟨_, List.getElem?_eq_getElem hlt'⟩
          obtain ⟨c0, c1⟩ := hcell k x y hxy
          obtain ⟨c2, c3⟩ := hcell' k u v huv
          have d0 := cell_regrown ((hbw.cell (p := ⟨b, off + k * 2, none⟩) hb).trans c0)
          have d1 := cell_regrown ((hbw.cell (p := ⟨b, off + k * 2 + 1, none⟩) hb).trans c1)
          have d2 := cell_regrown ((hbw.cell (p := ⟨b', off' + k * 2, none⟩) hb').trans c2)
          have d3 := cell_regrown ((hbw.cell (p := ⟨b', off' + k * 2 + 1, none⟩) hb').trans c3)
          clear c0 c1 c2 c3
          by_cases hx : (x, y) = (u, v)
          · have hH := Lib.hid (agree_succ hok hxy huv hx)
            obtain ⟨rfl, rfl⟩ := Prod.mk.inj hx
            clear hok hxy huv hx
            go_wp2
            refine wp_region_quiet_below (by kernel_rfl) (by kernel_rfl) ?_
            repeat (go_big_quiet_step (first | (go_at_call 41; exact gives_regrown (fun w1 _ => eqSpot_any _ _ _ _ w1) _ _)))
            refine wpQuiet_nil ?_
            intro _ hw'
            obtain ⟨⟨dq, osq⟩, hw''⟩ := hw'
            subst hw''
            go_wp2
            go_roundw
            case rel => exact ⟨k + 1, by omega, by go_num, hH.out, hbw.trans ((below_regrown _ _ _).mono hbs)⟩
            case measure => simp [intOf]; omega
          · have hH := Lib.hid (show decide (ps = qs) = false from decide_eq_false (agree_not hxy huv hx))
            clear hok hxy huv
            by_cases hxu : x = u
            · subst hxu
              have hyv : ¬ y = v := fun e => hx (by rw [e])
              clear hx
              go_wp2
              refine wp_region_quiet_below (by kernel_rfl) (by kernel_rfl) ?_
              repeat (go_big_quiet_step (first | (go_at_call 41; exact gives_regrown (fun w1 _ => eqSpot_any _ _ _ _ w1) _ _)))
              refine wpQuiet_nil ?_
              intro _ hw'
              obtain ⟨⟨dq, osq⟩, hw''⟩ := hw'
              subst hw''
              go_wp2
              go_ret
              exact ⟨ret_bool hH.out.symm, hbw.trans ((below_regrown _ _ _).mono hbs)⟩
            · clear hx
              go_wp2
              refine wp_region_quiet_below (by kernel_rfl) (by kernel_rfl) ?_
              repeat (go_big_quiet_step (first | (go_at_call 41; exact gives_regrown (fun w1 _ => eqSpot_any _ _ _ _ w1) _ _)))
              refine wpQuiet_nil ?_
              intro _ hw'
              obtain ⟨⟨dq, osq⟩, hw''⟩ := hw'
              subst hw''
              go_wp2
              go_ret
              exact ⟨ret_bool hH.out.symm, hbw.trans ((below_regrown _ _ _).mono hbs)⟩
        · have hH := Lib.hid (show decide (ps = qs) = true from decide_eq_true (agree_all hL.out (fun j hj => hok j (by omega))))
          clear hok
          go_wp2
          go_ret
          exact ⟨ret_bool hH.out.symm, hbw⟩
  · have e : decide (ps = qs) = false := decide_eq_false (fun e => hl (by rw [e]))
    rw [e]
    have hne : (((ps.length : Int) != (qs.length : Int))) = true := by simp; omega
    clear hl e
    go_enter Try.func23, Try.ntmps23
    go_wp2
    go_ret
    exact ⟨rfl, Below.refl _ _⟩

set_option maxHeartbeats 400000 in
theorem sameSpots_any (ps qs : List Sp) (v v' : Value) (w : World) (h : Reads w w.heap.size v ps) (h' : Reads w w.heap.size v' qs) : Calls Try.prog 17 #[v, v'] w (Gives (.bool (decide (ps = qs))) w) := by
  obtain ⟨A, c, rfl, hc, hm, hA, hr⟩ := h.is
  obtain ⟨A', c', rfl, hc', hm', hA', hr'⟩ := h'.is
  unfold maxLen at hm hm'
  by_cases hl : ps.length = qs.length
  · by_cases h0 : ps.length = 0
    · have e : ps = [] := List.eq_nil_of_length_eq_zero h0
      have e' : qs = [] := List.eq_nil_of_length_eq_zero (by omega)
      subst e e'
      go_enter Try.func17, Try.ntmps17
      go_wp2
      go_rounds 2
      go_ret
      exact ⟨rfl, Below.refl _ _⟩
    · obtain ⟨b, off, rfl, hb, hcell⟩ := hr (by omega)
      obtain ⟨b', off', rfl, hb', hcell'⟩ := hr' (by omega)
      have hne : (((ps.length : Int) != (qs.length : Int))) = false := by simp [hl]
      have h1 : ps.length ≤ qs.length := by omega
      have h2 : qs.length ≤ ps.length := by omega
      have hL := Lib.hid hl
      clear hl
      go_enter Try.func17, Try.ntmps17
      go_wp2
      go_loopw [5] (fun i wr => ∃ k : Nat, k ≤ ps.length ∧ i = .int .i64 k ∧ Agree ps qs k ∧ Below w.heap.size w wr) (fun i _ => ps.length - (intOf i).toNat)
      case atStart => exact ⟨0, Nat.zero_le _, rfl, fun j hj => by omega, Below.refl _ _⟩
      case round =>
        obtain ⟨k, hk, rfl, hok, hbw⟩ := hrel
        have hbs : w.heap.size ≤ wr.heap.size := hbw.size
        by_cases hlt : k < ps.length
        · have hlt' : k < qs.length := by omega
          obtain ⟨⟨x, y⟩, hxy⟩ : ∃ a, ps[k]? = some a := ⟨_, List.getElem?_eq_getElem hlt⟩
          obtain ⟨⟨u, v⟩, huv⟩ : ∃ a, qs[k]? = some a := ⟨_, List.getElem?_eq_getElem hlt'⟩
          obtain ⟨c0, c1⟩ := hcell k x y hxy
          obtain ⟨c2, c3⟩ := hcell' k u v huv
          have d0 := cell_regrown ((hbw.cell (p := ⟨b, off + k * 2, none⟩) hb).trans c0)
          have d1 := cell_regrown ((hbw.cell (p := ⟨b, off + k * 2 + 1, none⟩) hb).trans c1)
          have d2 := cell_regrown ((hbw.cell (p := ⟨b', off' + k * 2, none⟩) hb').trans c2)
          have d3 := cell_regrown ((hbw.cell (p := ⟨b', off' + k * 2 + 1, none⟩) hb').trans c3)
          clear c0 c1 c2 c3
          by_cases hx : (x, y) = (u, v)
          · have hH := Lib.hid (agree_succ hok hxy huv hx)
            obtain ⟨rfl, rfl⟩ := Prod.mk.inj hx
            clear hok hxy huv hx
            go_wp2
            refine wp_region_quiet_below (by kernel_rfl) (by kernel_rfl) ?_
            repeat (go_big_quiet_step (first | fail))
            refine wpQuiet_nil ?_
            intro _ hw'
            obtain ⟨⟨dq, osq⟩, hw''⟩ := hw'
            subst hw''
            go_wp2
            go_roundw
            case rel => exact ⟨k + 1, by omega, by go_num, hH.out, hbw.trans ((below_regrown _ _ _).mono hbs)⟩
            case measure => simp [intOf]; omega
          · have hH := Lib.hid (show decide (ps = qs) = false from decide_eq_false (agree_not hxy huv hx))
            clear hok hxy huv
            by_cases hxu : x = u
            · subst hxu
              have hyv : ¬ y = v := fun e => hx (by rw [e])
              clear hx
              go_wp2
              refine wp_region_quiet_below (by kernel_rfl) (by kernel_rfl) ?_
              repeat (go_big_quiet_step (first | fail))
              refine wpQuiet_nil ?_
              intro _ hw'
              obtain ⟨⟨dq, osq⟩, hw''⟩ := hw'
              subst hw''
              go_wp2
              go_ret
              exact ⟨ret_bool hH.out.symm, hbw.trans ((below_regrown _ _ _).mono hbs)⟩
            · clear hx
              go_wp2
              refine wp_region_quiet_below (by kernel_rfl) (by kernel_rfl) ?_
              repeat (go_big_quiet_step (first | fail))
              refine wpQuiet_nil ?_
              intro _ hw'
              obtain ⟨⟨dq, osq⟩, hw''⟩ := hw'
              subst hw''
              go_wp2
              go_ret
              exact ⟨ret_bool hH.out.symm, hbw.trans ((below_regrown _ _ _).mono hbs)⟩
        · have hH := Lib.hid (show decide (ps = qs) = true from decide_eq_true (agree_all hL.out (fun j hj => hok j (by omega))))
          clear hok
          go_wp2
          go_ret
          exact ⟨ret_bool hH.out.symm, hbw⟩
  · have e : decide (ps = qs) = false := decide_eq_false (fun e => hl (by rw [e]))
    rw [e]
    have hne : (((ps.length : Int) != (qs.length : Int))) = true := by simp; omega
    clear hl e
    go_enter Try.func17, Try.ntmps17
    go_wp2
    go_ret
    exact ⟨rfl, Below.refl _ _⟩

theorem szSpotS_any (n c : Nat) (A : Option Addr) (l : Int) (w : World) (hn : n ≤ 9223372036854775807) (h0 : 0 ≤ l) (h1 : l ≤ 1048576) : Calls Try.prog 21 #[.slice A n c, .int .i64 l] w (Gives (.int .i64 (if l < n then -1 else l - n)) w) := by
  by_cases h : l < n
  · rw [if_pos h]
    go_enter Try.func21, Try.ntmps21
    go_wp2
    go_ret
    exact ⟨rfl, Below.refl _ _⟩
  · rw [if_neg h]
    go_enter Try.func21, Try.ntmps21
    go_wp2
    go_ret
    exact ⟨rfl, Below.refl _ _⟩
theorem szSpotS_yes (n c : Nat) (A : Option Addr) (l : Int) (w : World) (hn : n ≤ 9223372036854775807) (h0 : 0 ≤ l) (h1 : l ≤ 1048576) (h : l < n) : Calls Try.prog 21 #[.slice A n c, .int .i64 l] w (Gives (.int .i64 (-1)) w) := by
  have := szSpotS_any n c A l w hn h0 h1
  rwa [if_pos h] at this
theorem szSpotS_no (n c : Nat) (A : Option Addr) (l : Int) (w : World) (hn : n ≤ 9223372036854775807) (h0 : 0 ≤ l) (h1 : l ≤ 1048576) (h : n ≤ l) : Calls Try.prog 21 #[.slice A n c, .int .i64 l] w (Gives (.int .i64 (l - n)) w) := by
  have := szSpotS_any n c A l w hn h0 h1
  rwa [if_neg (by omega)] at this
end
/-! ### Copy -/
section
open Go.RowKit Go.Sort

theorem toSpot_any (x y : Int) (w : World) : Calls Try.prog 40 #[.agg #[.int .i64 x, .int .i64 y]] w (Gives (.agg #[.int .i64 x, .int .i64 y]) w) := by
  go_enter Try.func40, Try.ntmps40
  go_wp2
  refine bodyPost_ret (v := .agg #[.int .i64 x, .int .i64 y]) (by simp [results, Try.results40, go_sem]) rfl ⟨rfl, ?_⟩
  exact (((Below.refl _ _).alloc (Nat.le_refl _) _).alloc (by simp) _).alloc (by simp; omega) _

set_option maxHeartbeats 400000 in
theorem toSpotS_any (ps : List Sp) (v : Value) (w : World) (h : Reads w w.heap.size v ps) (hl : ps.length ≤ 1048576) :
    Calls Try.prog 22 #[v] w fun e w' => ∃ v', e = .returned v' ∧ Owns w' w.heap.size v' ps ∧ Below w.heap.size w w' := by
  obtain ⟨A, c, rfl, hc, hm, hA, hr⟩ := h.is
  unfold maxLen at hm
  go_enter Try.func22, Try.ntmps22
  go_wp2_with (at_make; refine wpList_make_spots ps.length (by omega) rfl _ _ rfl _ _ rfl rfl rfl rfl ?_; intro w1 ho1 hg1)
  have hb1 : Below w.heap.size w w1 := (Below.refl _ _).grown hg1 (Nat.le_refl _) (by simp)
  clear hg1
  by_cases h0 : ps.length = 0
  · have e : ps = [] := List.eq_nil_of_length_eq_zero h0
    subst e
    go_rounds 2
    go_ret
    exact ⟨_, rfl, ho1, hb1⟩
  · obtain ⟨b, off, rfl, hb, hcell⟩ := hr (by omega)
    have hO := Lib.hid ho1
    clear ho1
    go_loopw [4] (fun i wr => ∃ (k : Nat) (cur : List Sp), k ≤ ps.length ∧ i = .int .i64 k ∧ cur.length = ps.length ∧ Agree cur ps k ∧ Owns wr w.heap.size (.slice (some ⟨w.heap.size, 0, none⟩) ps.length ps.length) cur ∧ Below w.heap.size w wr) (fun i _ => ps.length - (intOf i).toNat)
    case atStart => exact ⟨0, _, Nat.zero_le _, rfl, List.length_replicate, fun j hj => by omega, hO.out, hb1⟩
    case round =>
      obtain ⟨k, cur, hk, rfl, hcl, hag, hown, hbw⟩ := hrel
      have hbs : w.heap.size ≤ wr.heap.size := hbw.size
      have hcl1 : cur.length ≤ ps.length := by omega
      have hcl2 : ps.length ≤ cur.length := by omega
      have hCL := Lib.hid hcl
      clear hcl
      by_cases hlt : k < ps.length
      · obtain ⟨⟨x, y⟩, hxy⟩ : ∃ a, ps[k]? = some a := ⟨_, List.getElem?_eq_getElem hlt⟩
        obtain ⟨c0, c1⟩ := hcell k x y hxy
        have d0 := (hbw.cell (p := ⟨b, off + k * 2, none⟩) hb).trans c0
        have d1 := (hbw.cell (p := ⟨b, off + k * 2 + 1, none⟩) hb).trans c1
        have hH := Lib.hid hxy
        clear c0 c1 hxy
        go_wp2_with (go_at_call 40; refine (toSpot_any x y _).mono ?_; rintro e w2 ⟨rfl, hb2⟩; have hown2 := hown.below hb2; have fz := hown2.free; obtain ⟨px, py, _, q0, q1⟩ := hown2.there (k := k) (by omega))
        go_roundw
        case rel => exact ⟨k + 1, cur.set k (x, y), by omega, by go_num, by rw [List.length_set]; exact hCL.out, agree_set hag (by omega) hH.out, hown2.set k x y (by omega), ((hbw.trans (hb2.mono hbs)).setCell (by simp) _).setCell (by simp) _⟩
        case measure => simp [intOf]; omega
      · have hE := Lib.hid (agree_all hCL.out (fun j hj => hag j (by omega)))
        go_wp2
        go_ret
        exact ⟨_, rfl, by have e := hE.out; rw [e] at hown; exact hown, hbw⟩
end
/-! ### Mark -/
section
open Go.RowKit Go.Sort

/-- the marks from k on -/
def marks : Nat → Int → List Sp
  | 0, _ => []
  | n + 1, k => (k, k + 1) :: marks n (k + 2)
theorem marks_length : ∀ (n : Nat) (k : Int), (marks n k).length = n
  | 0, _ => rfl
  | n + 1, k => by simp [marks, marks_length n]
theorem marks_at : ∀ (n : Nat) (k : Int) (j : Nat), j < n → (marks n k)[j]? = some (k + 2 * j, k + 2 * j + 1)
  | 0, _, j, h => by omega
  | n + 1, k, 0, _ => by simp [marks]
  | n + 1, k, j + 1, h => by
    simp only [marks, List.getElem?_cons_succ]
    rw [marks_at n (k + 2) j (by omega)]
    congr 2 <;> omega

theorem Owns.ne {w1 w2 : World} {b1 b2 : Nat} {v1 v2 : Value} {p1 p2 : List Sp} (h1 : Owns w1 b1 v1 p1) (h2 : Owns w2 b2 v2 p2) (hb : w1.heap.size ≤ b2) : v1.ownBlock = none ∨ v1.ownBlock ≠ v2.ownBlock := by
  cases e1 : v1.ownBlock with
  | none => exact .inl rfl
  | some k1 =>
    refine .inr fun e => ?_
    have l1 := h1.lt k1 e1
    have l2 := h2.lt k1 e.symm
    omega
theorem Owns.ne' {w1 w2 : World} {b1 b2 : Nat} {v1 v2 : Value} {p1 p2 : List Sp} (h1 : Owns w1 b1 v1 p1) (h2 : Owns w2 b2 v2 p2) (hb : w2.heap.size ≤ b1) : v1.ownBlock = none ∨ v1.ownBlock ≠ v2.ownBlock := by
  cases e1 : v1.ownBlock with
  | none => exact .inl rfl
  | some k1 =>
    refine .inr fun e => ?_
    have l1 := h1.lt k1 e1
    have l2 := h2.lt k1 e.symm
    omega
theorem grown2 {w w1 w2 : World} {row : Option Nat} (h : w.grownBy w1 row) (k : w1.grownBy w2 row) : w.grownBy w2 row :=
  ⟨k.os.trans h.os, k.tape.trans h.tape, k.output.trans h.output, Nat.le_trans h.size k.size, fun i hi hne => (k.block i (Nat.lt_of_lt_of_le hi h.size) hne).trans (h.block i hi hne)⟩
theorem grownSet (w : World) (g j : Nat) (u : Value) : w.grownBy (w.setCell ⟨g, j, none⟩ u) (some g) :=
  ⟨rfl, rfl, rfl, by simp [World.setCell], fun k _ hne => Below.heap_setCell w ⟨g, j, none⟩ u k (fun e => hne (by rw [e]))⟩

set_option maxHeartbeats 400000 in
theorem mark_any (ps : List Sp) (v : Value) (base : Nat) (k : Int) (w : World) (h : Owns w base v ps) (hl : ps.length ≤ 1100000) (h0 : 0 ≤ k) (h1 : k ≤ 10000000) :
    Calls Try.prog 24 #[v, .int .i64 k] w fun e w' => e = .returned (.int .i64 (k + 2 * ps.length)) ∧ Owns w' base v (marks ps.length k) ∧ w.grownBy w' v.ownBlock := by
  have hpr := h
  rcases h.2 with ⟨rfl, hz⟩ | ⟨g, cap, cur0, rfl, hb0, hg0, hn0, hc0, _, _⟩
  · have e : ps = [] := List.eq_nil_of_length_eq_zero hz
    subst e
    go_enter Try.func24, Try.ntmps24
    go_wp2
    go_rounds 2
    go_ret
    exact ⟨by simp, hpr, World.grownBy.refl _ _⟩
  · clear hg0
    unfold maxLen at hc0
    go_enter Try.func24, Try.ntmps24
    go_wp2
    go_loopw [1, 5] (fun kk i wr => ∃ (j : Nat) (cur : List Sp), j ≤ ps.length ∧ i = .int .i64 j ∧ kk = .int .i64 (k + 2 * (j : Int)) ∧ cur.length = ps.length ∧ Agree cur (marks ps.length k) j ∧ Owns wr base (.slice (some ⟨g, 0, none⟩) ps.length cap) cur ∧ w.grownBy wr (some g)) (fun _ i _ => ps.length - (intOf i).toNat)
    case atStart => exact ⟨0, ps, Nat.zero_le _, rfl, by simp, rfl, fun j hj => by omega, hpr, World.grownBy.refl _ _⟩
    case round =>
      obtain ⟨j, cur, hj, rfl, rfl, hcl, hag, hown, hgr⟩ := hrel
      have hcl1 : cur.length ≤ ps.length := by omega
      have hcl2 : ps.length ≤ cur.length := by omega
      have hCL := Lib.hid hcl
      clear hcl
      by_cases hlt : j < ps.length
      · have fz := hown.free
        obtain ⟨px, py, _, q0, q1⟩ := hown.there (k := j) (by omega)
        have hM := Lib.hid (marks_at ps.length k j hlt)
        go_wp2
        go_roundw
        case rel => exact ⟨j + 1, cur.set j (k + 2 * (j : Int), k + 2 * (j : Int) + 1), by omega, by go_num, by go_num, by rw [List.length_set]; exact hCL.out, agree_set hag (by omega) hM.out, hown.set j _ _ (by omega), grown2 hgr (grown2 (grownSet _ _ _ _) (grownSet _ _ _ _))⟩
        case measure => simp [intOf]; omega
      · have hE := Lib.hid (agree_all (hCL.out.trans (marks_length _ _).symm) (fun i hi => hag i (by omega)))
        have hjn : j = ps.length := by omega
        have hJ := Lib.hid hjn
        clear hjn
        go_wp2
        go_ret
        exact ⟨by have := hJ.out; rw [this]; rfl, by have e := hE.out; rw [e] at hown; exact hown, hgr⟩

set_option maxHeartbeats 400000 in
theorem held_any (n : Nat) (v : Value) (k : Int) (w : World) (h : Reads w w.heap.size v (marks n k)) (hl : n ≤ 1100000) (h0 : 0 ≤ k) (h1 : k ≤ 10000000) :
    Calls Try.prog 43 #[v, .int .i64 k] w (Gives (.int .i64 (k + 2 * n)) w) := by
  obtain ⟨A, c, rfl, hc, hm, hA, hr⟩ := h.is
  unfold maxLen at hm
  rw [marks_length] at hc ⊢
  by_cases hz : n = 0
  · subst hz
    go_enter Try.func43, Try.ntmps43
    go_wp2
    go_rounds 2
    go_ret
    exact ⟨by simp, Below.refl _ _⟩
  · obtain ⟨b, off, rfl, hb, hcell⟩ := hr (by omega)
    go_enter Try.func43, Try.ntmps43
    go_wp2
    go_loopw [1, 5] (fun kk i wr => ∃ (j : Nat), j ≤ n ∧ i = .int .i64 j ∧ kk = .int .i64 (k + 2 * (j : Int)) ∧ Below w.heap.size w wr) (fun _ i _ => n - (intOf i).toNat)
    case atStart => exact ⟨0, Nat.zero_le _, rfl, by simp, Below.refl _ _⟩
    case round =>
      obtain ⟨j, hj, rfl, rfl, hbw⟩ := hrel
      by_cases hlt : j < n
      · obtain ⟨c0, c1⟩ := hcell j _ _ (marks_at n k j hlt)
        have d0 := (hbw.cell (p := ⟨b, off + j * 2, none⟩) hb).trans c0
        have d1 := (hbw.cell (p := ⟨b, off + j * 2 + 1, none⟩) hb).trans c1
        clear c0 c1
        go_wp2
        go_roundw
        case rel => exact ⟨j + 1, by omega, by go_num, by go_num, hbw⟩
        case measure => simp [intOf]; omega
      · have hjn : j = n := by omega
        have hJ := Lib.hid hjn
        clear hjn
        go_wp2
        go_ret
        exact ⟨by have := hJ.out; rw [this]; rfl, hbw⟩
end
end Go.Proofs.Ytgdifenicjgfjaa
