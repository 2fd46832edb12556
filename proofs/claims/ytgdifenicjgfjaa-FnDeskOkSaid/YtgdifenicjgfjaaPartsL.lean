/- The laws' own helpers for lists of pictures: sameParts, eqSpotSS, markSpotSS, heldSpotSS. No conditions but those typed. -/
import Derived.Test.YtgdifenicjgfjaaParts
import Derived.Test.YtgdifenicjgfjaaPlain
import Derived.Test.YtgdifenicjgfjaaMark
namespace Go.Proofs.Ytgdifenicjgfjaa
open Go.RowKit Go.Sort

def AgreeP (p q : List (List Sp)) (k : Nat) : Prop := ∀ j, j < k → p[j]? = q[j]?
theorem agreeP_all {p q : List (List Sp)} (hl : p.length = q.length) (h : AgreeP p q p.length) : p = q := by
  apply List.ext_getElem?
  intro j
  by_cases hj : j < p.length
  · exact h j hj
  · rw [List.getElem?_eq_none (by omega), List.getElem?_eq_none (by omega)]
theorem agreeP_succ {p q : List (List Sp)} {k : Nat} {a b : List Sp} (h : AgreeP p q k) (hp : p[k]? = some a) (hq : q[k]? = some b) (e : a = b) : AgreeP p q (k + 1) := fun j hj => by
  by_cases ej : j = k
  · subst ej; rw [hp, hq, e]
  · exact h j (by omega)
theorem agreeP_not {p q : List (List Sp)} {k : Nat} {a b : List Sp} (hp : p[k]? = some a) (hq : q[k]? = some b) (e : a ≠ b) : p ≠ q := by
  rintro rfl; rw [hp] at hq; exact e (Option.some.inj hq)
theorem eqS_is {b : Bool} {p q : List Sp} {v u : Value} {w : World} (hk : decide (p = q) = b) (h : Reads w w.heap.size v p) (h' : Reads w w.heap.size u q) : Calls Try.prog 23 #[v, u] w (Gives (.bool b) w) := by
  subst hk; exact eqSpotS_any p q v u w h h'
theorem same_is {b : Bool} {p q : List Sp} {v u : Value} {w : World} (hk : decide (p = q) = b) (h : Reads w w.heap.size v p) (h' : Reads w w.heap.size u q) : Calls Try.prog 17 #[v, u] w (Gives (.bool b) w) := by
  subst hk; exact sameSpots_any p q v u w h h'
set_option maxRecDepth 100000 in
set_option maxHeartbeats 800000 in
theorem eqSpotSS_any (ps qs : List (List Sp)) (v v' : Value) (w : World) (h : PReads w w.heap.size v ps) (h' : PReads w w.heap.size v' qs) : Calls Try.prog 39 #[v, v'] w (Gives (.bool (decide (ps = qs))) w) := by
  obtain ⟨A, c, vs, rfl, hc, hm, hvl, hcell, hin⟩ := h.is
  obtain ⟨A', c', us, rfl, hc', hm', hul, hcell', hin'⟩ := h'.is
  unfold maxLen at hm hm'
  by_cases hl : ps.length = qs.length
  · have hne : (((ps.length : Int) != (qs.length : Int))) = false := by simp [hl]
    have h1 : ps.length ≤ qs.length := by omega
    have h2 : qs.length ≤ ps.length := by omega
    have hL := Lib.hid hl
    clear hl
    go_enter Try.func39, Try.ntmps39
    go_wp2
    go_loopw [5] (fun i wr => ∃ k : Nat, k ≤ ps.length ∧ i = .int .i64 k ∧ AgreeP ps qs k ∧ Below w.heap.size w wr) (fun i _ => ps.length - (intOf i).toNat)
    case atStart => exact ⟨0, Nat.zero_le _, rfl, fun j hj => by omega, Below.refl _ _⟩
    case round =>
      obtain ⟨k, hk, rfl, hok, hbw⟩ := hrel
      have hbs : w.heap.size ≤ wr.heap.size := hbw.size
      by_cases hlt : k < ps.length
      · obtain ⟨b, off, rfl, hb, hcv⟩ := hcell (by omega)
        obtain ⟨b', off', rfl, hb', hcv'⟩ := hcell' (by omega)
        obtain ⟨p, hp⟩ : ∃ a, ps[k]? = some a := ⟨_, List.getElem?_eq_getElem hlt⟩
        obtain ⟨q, hq⟩ : ∃ a, qs[k]? = some a := ⟨_, List.getElem?_eq_getElem (by omega)⟩
        obtain ⟨v, hv, hrv⟩ := hin k p hp
        obtain ⟨u, hu, hru⟩ := hin' k q hq
        have d0 := cell_regrown ((hbw.cell (p := ⟨b, off + k, none⟩) hb).trans (hcv k _ hv))
        have d1 := cell_regrown ((hbw.cell (p := ⟨b', off' + k, none⟩) hb').trans (hcv' k _ hu))
        have hrv := hrv.kept hbw
        have hru := hru.kept hbw
        obtain ⟨Av, cv, rfl, _, _⟩ := hrv.slice
        obtain ⟨Au, cu, rfl, _, _⟩ := hru.slice
        have hm3 : (0 : Int) ≤ (k : Int) := Int.natCast_nonneg _
        have hm4 : (k : Int) < (ps.length : Int) := by omega
        have hm5 : (k : Int) < (qs.length : Int) := by omega
        have hm6 : k < qs.length := by omega
        by_cases he : p = q
        · have hH := Lib.hid (agreeP_succ hok hp hq he)
          have HC := Lib.hid (show decide (p = q) = true from decide_eq_true he)
          clear hok hp hq he hv hu
          go_wp2
          refine wp_region_quiet_below (by kernel_rfl) (by kernel_rfl) ?_
          repeat (go_big_quiet_step (first | (go_at_call 23; with_reducible exact gives_regrown (fun w1 hb1 => eqS_is HC.out (hrv.kept hb1) (hru.kept hb1)) _ _)))
          refine wpQuiet_nil ?_
          intro _ hw'
          obtain ⟨⟨dq, osq⟩, hw''⟩ := hw'
          subst hw''
          go_wp2
          go_roundw
          case rel => exact ⟨k + 1, by omega, by go_num, hH.out, hbw.trans ((below_regrown _ _ _).mono hbs)⟩
          case measure => simp [intOf]; omega
        · have hH := Lib.hid (show decide (ps = qs) = false from decide_eq_false (agreeP_not hp hq he))
          have HC := Lib.hid (show decide (p = q) = false from decide_eq_false he)
          clear hok hp hq he hv hu
          go_wp2
          refine wp_region_quiet_below (by kernel_rfl) (by kernel_rfl) ?_
          repeat (go_big_quiet_step (first | (go_at_call 23; with_reducible exact gives_regrown (fun w1 hb1 => eqS_is HC.out (hrv.kept hb1) (hru.kept hb1)) _ _)))
          refine wpQuiet_nil ?_
          intro _ hw'
          obtain ⟨⟨dq, osq⟩, hw''⟩ := hw'
          subst hw''
          go_wp2
          go_ret
          exact ⟨ret_bool hH.out.symm, hbw.trans ((below_regrown _ _ _).mono hbs)⟩
      · have hH := Lib.hid (show decide (ps = qs) = true from decide_eq_true (agreeP_all hL.out (fun j hj => hok j (by omega))))
        clear hok
        go_wp2
        go_ret
        exact ⟨ret_bool hH.out.symm, hbw⟩
  · have e : decide (ps = qs) = false := decide_eq_false (fun e => hl (by rw [e]))
    rw [e]
    have hne : (((ps.length : Int) != (qs.length : Int))) = true := by simp; omega
    clear hl e
    go_enter Try.func39, Try.ntmps39
    go_wp2
    go_ret
    exact ⟨rfl, Below.refl _ _⟩
set_option maxRecDepth 100000 in
set_option maxHeartbeats 800000 in
theorem sameParts_any (ps qs : List (List Sp)) (v v' : Value) (w : World) (h : PReads w w.heap.size v ps) (h' : PReads w w.heap.size v' qs) : Calls Try.prog 34 #[v, v'] w (Gives (.bool (decide (ps = qs))) w) := by
  obtain ⟨A, c, vs, rfl, hc, hm, hvl, hcell, hin⟩ := h.is
  obtain ⟨A', c', us, rfl, hc', hm', hul, hcell', hin'⟩ := h'.is
  unfold maxLen at hm hm'
  by_cases hl : ps.length = qs.length
  · have hne : (((ps.length : Int) != (qs.length : Int))) = false := by simp [hl]
    have h1 : ps.length ≤ qs.length := by omega
    have h2 : qs.length ≤ ps.length := by omega
    have hL := Lib.hid hl
    clear hl
    go_enter Try.func34, Try.ntmps34
    go_wp2
    go_loopw [5] (fun i wr => ∃ k : Nat, k ≤ ps.length ∧ i = .int .i64 k ∧ AgreeP ps qs k ∧ Below w.heap.size w wr) (fun i _ => ps.length - (intOf i).toNat)
    case atStart => exact ⟨0, Nat.zero_le _, rfl, fun j hj => by omega, Below.refl _ _⟩
    case round =>
      obtain ⟨k, hk, rfl, hok, hbw⟩ := hrel
      have hbs : w.heap.size ≤ wr.heap.size := hbw.size
      by_cases hlt : k < ps.length
      · obtain ⟨b, off, rfl, hb, hcv⟩ := hcell (by omega)
        obtain ⟨b', off', rfl, hb', hcv'⟩ := hcell' (by omega)
        obtain ⟨p, hp⟩ : ∃ a, ps[k]? = some a := ⟨_, List.getElem?_eq_getElem hlt⟩
        obtain ⟨q, hq⟩ : ∃ a, qs[k]? = some a := ⟨_, List.getElem?_eq_getElem (by omega)⟩
        obtain ⟨v, hv, hrv⟩ := hin k p hp
        obtain ⟨u, hu, hru⟩ := hin' k q hq
        have d0 := cell_regrown ((hbw.cell (p := ⟨b, off + k, none⟩) hb).trans (hcv k _ hv))
        have d1 := cell_regrown ((hbw.cell (p := ⟨b', off' + k, none⟩) hb').trans (hcv' k _ hu))
        have hrv := hrv.kept hbw
        have hru := hru.kept hbw
        obtain ⟨Av, cv, rfl, _, _⟩ := hrv.slice
        obtain ⟨Au, cu, rfl, _, _⟩ := hru.slice
        have hm3 : (0 : Int) ≤ (k : Int) := Int.natCast_nonneg _
        have hm4 : (k : Int) < (ps.length : Int) := by omega
        have hm5 : (k : Int) < (qs.length : Int) := by omega
        have hm6 : k < qs.length := by omega
        by_cases he : p = q
        · have hH := Lib.hid (agreeP_succ hok hp hq he)
          have HC := Lib.hid (show decide (p = q) = true from decide_eq_true he)
          clear hok hp hq he hv hu
          go_wp2
          refine wp_region_quiet_below (by kernel_rfl) (by kernel_rfl) ?_
          repeat (go_big_quiet_step (first | (go_at_call 17; with_reducible exact gives_regrown (fun w1 hb1 => same_is HC.out (hrv.kept hb1) (hru.kept hb1)) _ _)))
          refine wpQuiet_nil ?_
          intro _ hw'
          obtain ⟨⟨dq, osq⟩, hw''⟩ := hw'
          subst hw''
          go_wp2
          go_roundw
          case rel => exact ⟨k + 1, by omega, by go_num, hH.out, hbw.trans ((below_regrown _ _ _).mono hbs)⟩
          case measure => simp [intOf]; omega
        · have hH := Lib.hid (show decide (ps = qs) = false from decide_eq_false (agreeP_not hp hq he))
          have HC := Lib.hid (show decide (p = q) = false from decide_eq_false he)
          clear hok hp hq he hv hu
          go_wp2
          refine wp_region_quiet_below (by kernel_rfl) (by kernel_rfl) ?_
          repeat (go_big_quiet_step (first | (go_at_call 17; with_reducible exact gives_regrown (fun w1 hb1 => same_is HC.out (hrv.kept hb1) (hru.kept hb1)) _ _)))
          refine wpQuiet_nil ?_
          intro _ hw'
          obtain ⟨⟨dq, osq⟩, hw''⟩ := hw'
          subst hw''
          go_wp2
          go_ret
          exact ⟨ret_bool hH.out.symm, hbw.trans ((below_regrown _ _ _).mono hbs)⟩
      · have hH := Lib.hid (show decide (ps = qs) = true from decide_eq_true (agreeP_all hL.out (fun j hj => hok j (by omega))))
        clear hok
        go_wp2
        go_ret
        exact ⟨ret_bool hH.out.symm, hbw⟩
  · have e : decide (ps = qs) = false := decide_eq_false (fun e => hl (by rw [e]))
    rw [e]
    have hne : (((ps.length : Int) != (qs.length : Int))) = true := by simp; omega
    clear hl e
    go_enter Try.func34, Try.ntmps34
    go_wp2
    go_ret
    exact ⟨rfl, Below.refl _ _⟩

/-! ### marks -/
def marksSS : List (List Sp) → Int → List (List Sp)
  | [], _ => []
  | p :: ls, k => marks p.length k :: marksSS ls (k + 2 * (p.length : Int))
theorem marksSS_length : ∀ (ls : List (List Sp)) (k : Int), (marksSS ls k).length = ls.length
  | [], _ => rfl
  | p :: ls, k => by simp [marksSS, marksSS_length ls]
theorem marksSS_at : ∀ {ls : List (List Sp)} {k : Int} {i : Nat} {p : List Sp}, ls[i]? = some p → (marksSS ls k)[i]? = some (marks p.length (k + 2 * (sumUpTo ls i : Int)))
  | q :: ls, k, 0, p, h => by cases h; simp [marksSS, sumUpTo]
  | q :: ls, k, i + 1, p, h => by
    rw [List.getElem?_cons_succ] at h
    simp only [marksSS, List.getElem?_cons_succ]
    rw [marksSS_at h]
    have e : sumUpTo (q :: ls) (i + 1) = q.length + sumUpTo ls i := by unfold sumUpTo; simp
    rw [e]
    congr 2
    push_cast
    omega
theorem Inner.put {w w' : World} {base : Nat} {vs : List Value} {cur : List (List Sp)} {i : Nat} {u : Value} {m : List Sp} (h : Inner w base vs cur) (hu : vs[i]? = some u) (hg : w.grownBy w' u.ownBlock) (ho : Owns w' base u m) : Inner w' base vs (cur.set i m) := by
  have hil := (List.getElem?_eq_some_iff.1 hu).1
  refine ⟨by rw [List.length_set]; exact h.len, fun k p hk => ?_, h.ne⟩
  by_cases e : i = k
  · subst e
    rw [List.getElem?_set_self (by rw [← h.len]; exact hil)] at hk
    cases hk
    exact ⟨u, hu, ho⟩
  · rw [List.getElem?_set_ne e] at hk
    obtain ⟨u', h1, h2⟩ := h.own k p hk
    refine ⟨u', h1, h2.grown hg ?_⟩
    rcases Nat.lt_or_ge k i with hlt | hge
    · exact h.ne k i u' u hlt h1 hu
    · rcases h.ne i k u u' (by omega) hu h1 with e' | e'
      · rw [e']
        cases hv : u'.ownBlock with
        | none => exact .inl rfl
        | some g => exact .inr fun e => by cases e
      · exact .inr fun e'' => e' e''.symm
set_option maxRecDepth 100000 in
set_option maxHeartbeats 800000 in
theorem markSS_any (ls : List (List Sp)) (v : Value) (base : Nat) (k : Int) (w : World) (h : Parts w base v ls) (hbase : base ≤ w.heap.size) (hl : (ls.map List.length).sum ≤ 1100000) (h0 : 0 ≤ k) (h1 : k ≤ 4000000) :
    Calls Try.prog 42 #[v, .int .i64 k] w fun e w' => e = .returned (.int .i64 (k + 2 * ((ls.map List.length).sum : Int))) ∧ Parts w' base v (marksSS ls k) ∧ Below base w w' := by
  obtain ⟨A, c, hv, hc, hm⟩ := h.reads.slice
  subst hv
  unfold maxLen at hm
  obtain ⟨vs, hvo, hvi⟩ := h
  have hvl := hvi.len
  have HA := Lib.hid (sumUpTo_all ls)
  go_enter Try.func42, Try.ntmps42
  go_wp2
  go_loopw [1, 5] (fun kk i wr => ∃ (j : Nat) (cur : List (List Sp)), j ≤ ls.length ∧ i = .int .i64 j ∧ kk = .int .i64 (k + 2 * (sumUpTo ls j : Int)) ∧ cur.length = ls.length ∧ AgreeP cur (marksSS ls k) j ∧ (∀ i, j ≤ i → cur[i]? = ls[i]?) ∧ VOwns 23 wr base (.slice A ls.length c) vs ∧ Inner wr base vs cur ∧ Below base w wr) (fun _ i _ => ls.length - (intOf i).toNat)
  case atStart => exact ⟨0, ls, Nat.zero_le _, rfl, by simp [sumUpTo], rfl, fun j hj => by omega, fun _ _ => rfl, hvo, hvi, Below.refl _ _⟩
  case round =>
    clear hvo hvi
    obtain ⟨j, cur, hj, rfl, rfl, hcl, hag, hrest, hvo, hvi, hbw⟩ := hrel
    by_cases hlt : j < ls.length
    · obtain ⟨p, hp⟩ : ∃ a, ls[j]? = some a := ⟨_, List.getElem?_eq_getElem hlt⟩
      obtain ⟨A2, c2, he, _, _, hA2⟩ := hvo.shape
      obtain ⟨g, hg, _⟩ := hA2 (by omega)
      injection he with he1 he2 he3
      subst he1 he3
      subst hg
      clear he2
      have hcj := (hrest j (Nat.le_refl _)).trans hp
      obtain ⟨u, hu, ho⟩ := hvi.own j p hcj
      have d0 := (hvo.cell (k := j) (by omega)).trans hu
      obtain ⟨Au, cu, rfl, _, _⟩ := ho.reads.slice
      have hm3 : (0 : Int) ≤ (j : Int) := Int.natCast_nonneg _
      have hm4 : (j : Int) < (ls.length : Int) := by omega
      have hsu := sumUpTo_succ hp
      have hsl := sumUpTo_le ls (j + 1)
      have HS := Lib.hid (show k + 2 * (sumUpTo ls j : Int) + 2 * (p.length : Int) = k + 2 * (sumUpTo ls (j + 1) : Int) by rw [hsu]; push_cast; omega)
      have hsm : sumUpTo ls j + p.length ≤ 1100000 := by omega
      have HM := Lib.hid (marksSS_at (k := k) hp)
      have HAG := Lib.hid (And.intro hag (And.intro hrest (And.intro hcl hu)))
      clear hag hrest hcl hp hcj hsu hsl hu
      go_wp2_with fail
      refine (mark_any p _ base (k + 2 * (sumUpTo ls j : Int)) wr ho (by omega) (by omega) (by omega)).mono ?_
      rintro e w1 ⟨rfl, o1, g1⟩
      rw [HS.out]
      have hv1 := hvo.grown g1 (hvo.apartV parts_apart ho)
      have hi1 := hvi.put HAG.out.2.2.2 g1 o1
      have b1 := hbw.grown g1 (Nat.le_trans hbase hbw.size) (fun k hk => (ho.lt k hk).1)
      have HAG2 := Lib.hid (show AgreeP (cur.set j (marks p.length (k + 2 * (sumUpTo ls j : Int)))) (marksSS ls k) (j + 1) from fun i hi => by
        by_cases e : j = i
        · subst e
          rw [List.getElem?_set_self (by rw [HAG.out.2.2.1]; exact hlt), HM.out]
        · rw [List.getElem?_set_ne e]; exact HAG.out.1 i (by omega))
      have HRE := Lib.hid (show ∀ i, j + 1 ≤ i → (cur.set j (marks p.length (k + 2 * (sumUpTo ls j : Int))))[i]? = ls[i]? from fun i hi => by
        rw [List.getElem?_set_ne (by omega)]; exact HAG.out.2.1 i (by omega))
      have HCL := Lib.hid (show (cur.set j (marks p.length (k + 2 * (sumUpTo ls j : Int)))).length = ls.length by rw [List.length_set]; exact HAG.out.2.2.1)
      clear hvo hvi ho g1 o1
      go_wp2
      go_roundw
      case rel => exact ⟨j + 1, _, by omega, by go_num, rfl, HCL.out, HAG2.out, HRE.out, hv1, hi1, b1⟩
      case measure => simp [intOf]; omega
    · obtain rfl : j = ls.length := by omega
      have hE := agreeP_all (hcl.trans (marksSS_length ls k).symm) (fun i hi => hag i (by omega))
      subst hE
      rw [HA.out]
      have HP := Lib.hid (show Parts wr base (.slice A ls.length c) (marksSS ls k) from ⟨vs, hvo, hvi⟩)
      clear hag hrest hcl hvi hvo
      go_wp2
      go_ret
      exact ⟨rfl, HP.out, hbw⟩
set_option maxRecDepth 100000 in
set_option maxHeartbeats 800000 in
theorem heldSS_any (ls : List (List Sp)) (v : Value) (k : Int) (w : World) (h : PReads w w.heap.size v (marksSS ls k)) (hl : (ls.map List.length).sum ≤ 1100000) (h0 : 0 ≤ k) (h1 : k ≤ 4000000) :
    Calls Try.prog 44 #[v, .int .i64 k] w (Gives (.int .i64 (k + 2 * ((ls.map List.length).sum : Int))) w) := by
  obtain ⟨A, c, vs, rfl, hc, hm, hvl, hcell, hin⟩ := h.is
  unfold maxLen at hm
  rw [marksSS_length] at hc hvl hcell ⊢
  have HA := Lib.hid (sumUpTo_all ls)
  go_enter Try.func44, Try.ntmps44
  go_wp2
  go_loopw [1, 5] (fun kk i wr => ∃ (j : Nat), j ≤ ls.length ∧ i = .int .i64 j ∧ kk = .int .i64 (k + 2 * (sumUpTo ls j : Int)) ∧ Below w.heap.size w wr) (fun _ i _ => ls.length - (intOf i).toNat)
  case atStart => exact ⟨0, Nat.zero_le _, rfl, by simp [sumUpTo], Below.refl _ _⟩
  case round =>
    obtain ⟨j, hj, rfl, rfl, hbw⟩ := hrel
    by_cases hlt : j < ls.length
    · obtain ⟨p, hp⟩ : ∃ a, ls[j]? = some a := ⟨_, List.getElem?_eq_getElem hlt⟩
      obtain ⟨b, off, rfl, hb, hcv⟩ := hcell (by omega)
      obtain ⟨u, hu, hru⟩ := hin j _ (marksSS_at hp)
      have d0 := (hbw.cell (p := ⟨b, off + j, none⟩) hb).trans (hcv j _ hu)
      have hru := hru.kept hbw
      have hm3 : (0 : Int) ≤ (j : Int) := Int.natCast_nonneg _
      have hm4 : (j : Int) < (ls.length : Int) := by omega
      have hsu := sumUpTo_succ hp
      have hsl := sumUpTo_le ls (j + 1)
      have HS := Lib.hid (show k + 2 * (sumUpTo ls j : Int) + 2 * (p.length : Int) = k + 2 * (sumUpTo ls (j + 1) : Int) by rw [hsu]; push_cast; omega)
      have hsm : sumUpTo ls j + p.length ≤ 1100000 := by omega
      clear hp hsu hu hsl
      go_wp2_with fail
      refine (held_any p.length u (k + 2 * (sumUpTo ls j : Int)) wr hru (by omega) (by omega) (by omega)).mono ?_
      rintro e w1 ⟨rfl, b1⟩
      have hnn : 0 ≤ k + 2 * (sumUpTo ls j : Int) + 2 * (p.length : Int) := by omega
      rw [HS.out] at hnn ⊢
      have b2 := below_step hbw b1
      go_wp2
      go_roundw
      case rel => exact ⟨j + 1, by omega, by go_num, rfl, b2⟩
      case measure => simp [intOf]; omega
    · obtain rfl : j = ls.length := by omega
      rw [HA.out]
      go_wp2
      go_ret
      exact ⟨rfl, hbw⟩

/-! ### what stays -/
/-- all blocks of a list of lists lie below B -/
structure PB (B : Nat) (w : World) (base : Nat) (v : Value) (ls : List (List Sp)) : Prop where
  is : ∃ vs, VOwns 23 w base v vs ∧ Inner w base vs ls ∧ (∀ g, v.ownBlock = some g → g < B) ∧ ∀ (k : Nat) u, vs[k]? = some u → ∀ g, u.ownBlock = some g → g < B
theorem Parts.bound {w : World} {base : Nat} {v : Value} {ls : List (List Sp)} (h : Parts w base v ls) : PB w.heap.size w base v ls := by
  obtain ⟨vs, h1, h2⟩ := h
  exact ⟨vs, h1, h2, fun g hg => (h1.lt g hg).2, fun k u hu g hg => (h2.lt hu g hg).2⟩
theorem PB.keep {B : Nat} {w w' : World} {base : Nat} {v : Value} {ls : List (List Sp)} (h : PB B w base v ls) (hb : Below B w w') : PB B w' base v ls := by
  obtain ⟨vs, h1, h2, h3, h4⟩ := h.is
  refine ⟨vs, ⟨h1.1, ?_⟩, ⟨h2.len, fun k p hk => ?_, h2.ne⟩, h3, h4⟩
  · rcases h1.2 with h0 | ⟨g, cap, cur, rfl, hb1, hg, hr⟩
    · exact .inl h0
    · exact .inr ⟨g, cap, cur, rfl, hb1, (hb.block g (h3 g rfl)).trans hg, hr⟩
  · obtain ⟨u, h5, h6⟩ := h2.own k p hk
    refine ⟨u, h5, h6.1, ?_⟩
    rcases h6.2 with h0 | ⟨g, cap, cur, rfl, hb1, hg, hr⟩
    · exact .inl h0
    · exact .inr ⟨g, cap, cur, rfl, hb1, (hb.block g (h4 k _ h5 g rfl)).trans hg, hr⟩
theorem PB.reads {B : Nat} {w : World} {base : Nat} {v : Value} {ls : List (List Sp)} (h : PB B w base v ls) : PReads w w.heap.size v ls := by
  obtain ⟨vs, h1, h2, _⟩ := h.is
  exact Parts.reads ⟨vs, h1, h2⟩
/-- a write below its base leaves it as it was -/
theorem Parts.grownLow {w w' : World} {base : Nat} {v : Value} {ls : List (List Sp)} {row : Option Nat} (h : Parts w base v ls) (hg : w.grownBy w' row) (hrow : ∀ k, row = some k → k < base) : Parts w' base v ls := by
  obtain ⟨vs, h1, h2⟩ := h
  have hne : ∀ (u : Value), (∀ g, u.ownBlock = some g → base ≤ g) → u.ownBlock = none ∨ u.ownBlock ≠ row := fun u hu => by
    cases hv : u.ownBlock with
    | none => exact .inl rfl
    | some g => exact .inr fun e => by have := hu g hv; have := hrow g e.symm; omega
  refine ⟨vs, h1.grown hg (hne v fun g hg => (h1.lt g hg).1), h2.len, fun k p hk => ?_, h2.ne⟩
  obtain ⟨u, h3, h4⟩ := h2.own k p hk
  exact ⟨u, h3, h4.grown hg (hne u fun g hg => (h4.lt g hg).1)⟩
end Go.Proofs.Ytgdifenicjgfjaa
