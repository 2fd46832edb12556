/- The laws' own helpers for lists of pictures: sameParts, eqSpotSS, markSpotSS, heldSpotSS. No conditions but those typed. -/
import Derived.Test.YtkiidmdgdjphjaaGreatParts
import Derived.Test.YtkiidmdgdjphjaaGreatPlain
import Derived.Test.YtkiidmdgdjphjaaGreatMark
namespace Go.Proofs.YtkiidmdgdjphjaaGreat
open Go.RowKit Go.Sort

def AgreeP (p q : List (List Sp)) (k : Nat) : Prop := ∀ j, j < k → p[j]? = q[j]?
theorem agreeP_all {p q : List (List Sp)} (hl : p.length = q.length) (h : AgreeP p q p.length) : p = q := by
  apply List.ext_getElem?
  intro j
  by_cases hj : j < p.length
  · exact h j hj
  · rw [List.getElem?_eq_none (by omega), List.getElem?_eq_none (by omega)]
theorem agreeP_succ {p q : List (List Sp)} {k : Nat} {a b : List Sp} (h : AgreeP p q k) (hp : p[k]? = some a) (hq : q[k]? = some b) (e : a = b) : AgreeP p q (k + 1) := fun j hj => by
  by_cases ej : j = k
  · subst ej; rw [hp, hq, e]
  · exact h j (by omega)
theorem agreeP_not {p q : List (List Sp)} {k : Nat} {a b : List Sp} (hp : p[k]? = some a) (hq : q[k]? = some b) (e : a ≠ b) : p ≠ q := by
  rintro rfl; rw [hp] at hq; exact e (Option.some.inj hq)
theorem same_is {b : Bool} {p q : List Sp} {v u : Value} {w : World} (hk : decide (p = q) = b) (h : Reads w w.heap.size v p) (h' : Reads w w.heap.size u q) : Calls Tryz.prog 24 #[v, u] w (Gives (.bool b) w) := by
  subst hk; exact sameSpots_any p q v u w h h'
set_option maxRecDepth 100000 in
set_option maxHeartbeats 800000 in
theorem sameParts_any (ps qs : List (List Sp)) (v v' : Value) (w : World) (h : PReads w w.heap.size v ps) (h' : PReads w w.heap.size v' qs) : Calls Tryz.prog 25 #[v, v'] w (Gives (.bool (decide (ps = qs))) w) := by
  obtain ⟨A, c, vs, rfl, hc, hm, hvl, hcell, hin⟩ := h.is
  obtain ⟨A', c', us, rfl, hc', hm', hul, hcell', hin'⟩ := h'.is
  unfold maxLen at hm hm'
  by_cases hl : ps.length = qs.length
  · have hne : (((ps.length : Int) != (qs.length : Int))) = false := by simp [hl]
    have h1 : ps.length ≤ qs.length := by omega
    have h2 : qs.length ≤ ps.length := by omega
    have hL := Lib.hid hl
    clear hl
    go_enter Tryz.func25, Tryz.ntmps25
    go_wp2
    go_loopw [5] (fun i wr => ∃ k : Nat, k ≤ ps.length ∧ i = .int .i64 k ∧ AgreeP ps qs k ∧ Below w.heap.size w wr) (fun i _ => ps.length - (intOf i).toNat)
    case atStart => exact ⟨0, Nat.zero_le _, rfl, fun j hj => by omega, Below.refl _ _⟩
    case round =>
      obtain ⟨k, hk, rfl, hok, hbw⟩ := hrel
      have hbs : w.heap.size ≤ wr.heap.size := hbw.size
      by_cases hlt : k < ps.length
      · obtain ⟨b, off, rfl, hb, hcv⟩ := hcell (by omega)
        obtain ⟨b', off', rfl, hb', hcv'⟩ := hcell' (by omega)
        obtain ⟨p, hp⟩ : ∃ a, ps[k]? = some a := ⟨_, List.getElem?_eq_getElem hlt⟩
        obtain ⟨q, hq⟩ : ∃ a, qs[k]? = some a := ⟨_, List.getElem?_eq_getElem (by omega)⟩
        obtain ⟨v, hv, hrv⟩ := hin k p hp
        obtain ⟨u, hu, hru⟩ := hin' k q hq
        have d0 := cell_regrown ((hbw.cell (p := ⟨b, off + k, none⟩) hb).trans (hcv k _ hv))
        have d1 := cell_regrown ((hbw.cell (p := ⟨b', off' + k, none⟩) hb').trans (hcv' k _ hu))
        have hrv := hrv.kept hbw
        have hru := hru.kept hbw
        obtain ⟨Av, cv, rfl, _, _⟩ := hrv.slice
        obtain ⟨Au, cu, rfl, _, _⟩ := hru.slice
        have hm3 : (0 : Int) ≤ (k : Int) := Int.natCast_nonneg _
        have hm4 : (k : Int) < (ps.length : Int) := by omega
        have hm5 : (k : Int) < (qs.length : Int) := by omega
        have hm6 : k < qs.length := by omega
        by_cases he : p = q
        · have hH := Lib.hid (agreeP_succ hok hp hq he)
          have HC := Lib.hid (show decide (p = q) = true from decide_eq_true he)
          clear hok hp hq he hv hu
          go_wp2
          refine wp_region_quiet_below (by kernel_rfl) (by kernel_rfl) ?_
          repeat (go_big_quiet_step (first | (go_at_call 24; with_reducible exact gives_regrown (fun w1 hb1 => same_is HC.out (hrv.kept hb1) (hru.kept hb1)) _ _)))
          refine wpQuiet_nil ?_
          intro _ hw'
          obtain ⟨⟨dq, osq⟩, hw''⟩ := hw'
          subst hw''
          go_wp2
          go_roundw
          case rel => exact ⟨k + 1, by omega, by go_num, hH.out, hbw.trans ((below_regrown _ _ _).mono hbs)⟩
          case measure => simp [intOf]; omega
        · have hH := Lib.hid (show decide (ps = qs) = false from decide_eq_false (agreeP_not hp hq he))
          have HC := Lib.hid (show decide (p = q) = false from decide_eq_false he)
          clear hok hp hq he hv hu
          go_wp2
          refine wp_region_quiet_below (by kernel_rfl) (by kernel_rfl) ?_
          repeat (go_big_quiet_step (first | (go_at_call 24; with_reducible exact gives_regrown (fun w1 hb1 => same_is HC.out (hrv.kept hb1) (hru.kept hb1)) _ _)))
          refine wpQuiet_nil ?_
          intro _ hw'
          obtain ⟨⟨dq, osq⟩, hw''⟩ := hw'
          subst hw''
          go_wp2
          go_ret
          exact ⟨ret_bool hH.out.symm, hbw.trans ((below_regrown _ _ _).mono hbs)⟩
      · have hH := Lib.hid (show decide (ps = qs) = true from decide_eq_true (agreeP_all hL.out (fun j hj => hok j (by omega))))
        clear hok
        go_wp2
        go_ret
        exact ⟨ret_bool hH.out.symm, hbw⟩
  · have e : decide (ps = qs) = false := decide_eq_false (fun e => hl (by rw [e]))
    rw [e]
    have hne : (((ps.length : Int) != (qs.length : Int))) = true := by simp; omega
    clear hl e
    go_enter Tryz.func25, Tryz.ntmps25
    go_wp2
    go_ret
    exact ⟨rfl, Below.refl _ _⟩

/-! ### marks -/
def marksSS : List (List Sp) → Int → List (List Sp)
  | [], _ => []
  | p :: ls, k => marks p.length k :: marksSS ls (k + 2 * (p.length : Int))
theorem marksSS_length : ∀ (ls : List (List Sp)) (k : Int), (marksSS ls k).length = ls.length
  | [], _ => rfl
  | p :: ls, k => by simp [marksSS, marksSS_length ls]
theorem marksSS_at : ∀ {ls : List (List Sp)} {k : Int} {i : Nat} {p : List Sp}, ls[i]? = some p → (marksSS ls k)[i]? = some (marks p.length (k + 2 * (sumUpTo ls i : Int)))
  | q :: ls, k, 0, p, h => by cases h; simp [marksSS, sumUpTo]
  | q :: ls, k, i + 1, p, h => by
    rw [List.getElem?_cons_succ] at h
    simp only [marksSS, List.getElem?_cons_succ]
    rw [marksSS_at h]
    have e : sumUpTo (q :: ls) (i + 1) = q.length + sumUpTo ls i := by unfold sumUpTo; simp
    rw [e]
    congr 2
    push_cast
    omega
theorem Inner.put {w w' : World} {base : Nat} {vs : List Value} {cur : List (List Sp)} {i : Nat} {u : Value} {m : List Sp} (h : Inner w base vs cur) (hu : vs[i]? = some u) (hg : w.grownBy w' u.ownBlock) (ho : Owns w' base u m) : Inner w' base vs (cur.set i m) := by
  have hil := (List.getElem?_eq_some_iff.1 hu).1
  refine ⟨by rw [List.length_set]; exact h.len, fun k p hk => ?_, h.ne⟩
  by_cases e : i = k
  · subst e
    rw [List.getElem?_set_self (by rw [← h.len]; exact hil)] at hk
    cases hk
    exact ⟨u, hu, ho⟩
  · rw [List.getElem?_set_ne e] at hk
    obtain ⟨u', h1, h2⟩ := h.own k p hk
    refine ⟨u', h1, h2.grown hg ?_⟩
    rcases Nat.lt_or_ge k i with hlt | hge
    · exact h.ne k i u' u hlt h1 hu
    · rcases h.ne i k u u' (by omega) hu h1 with e' | e'
      · rw [e']
        cases hv : u'.ownBlock with
        | none => exact .inl rfl
        | some g => exact .inr fun e => by cases e
      · exact .inr fun e'' => e' e''.symm
/-! ### what stays -/
/-- all blocks of a list of lists lie below B -/
structure PB (B : Nat) (w : World) (base : Nat) (v : Value) (ls : List (List Sp)) : Prop where
  is : ∃ vs, VOwns 23 w base v vs ∧ Inner w base vs ls ∧ (∀ g, v.ownBlock = some g → g < B) ∧ ∀ (k : Nat) u, vs[k]? = some u → ∀ g, u.ownBlock = some g → g < B
theorem Parts.bound {w : World} {base : Nat} {v : Value} {ls : List (List Sp)} (h : Parts w base v ls) : PB w.heap.size w base v ls := by
  obtain ⟨vs, h1, h2⟩ := h
  exact ⟨vs, h1, h2, fun g hg => (h1.lt g hg).2, fun k u hu g hg => (h2.lt hu g hg).2⟩
theorem PB.keep {B : Nat} {w w' : World} {base : Nat} {v : Value} {ls : List (List Sp)} (h : PB B w base v ls) (hb : Below B w w') : PB B w' base v ls := by
  obtain ⟨vs, h1, h2, h3, h4⟩ := h.is
  refine ⟨vs, ⟨h1.1, ?_⟩, ⟨h2.len, fun k p hk => ?_, h2.ne⟩, h3, h4⟩
  · rcases h1.2 with h0 | ⟨g, cap, cur, rfl, hb1, hg, hr⟩
    · exact .inl h0
    · exact .inr ⟨g, cap, cur, rfl, hb1, (hb.block g (h3 g rfl)).trans hg, hr⟩
  · obtain ⟨u, h5, h6⟩ := h2.own k p hk
    refine ⟨u, h5, h6.1, ?_⟩
    rcases h6.2 with h0 | ⟨g, cap, cur, rfl, hb1, hg, hr⟩
    · exact .inl h0
    · exact .inr ⟨g, cap, cur, rfl, hb1, (hb.block g (h4 k _ h5 g rfl)).trans hg, hr⟩
theorem PB.reads {B : Nat} {w : World} {base : Nat} {v : Value} {ls : List (List Sp)} (h : PB B w base v ls) : PReads w w.heap.size v ls := by
  obtain ⟨vs, h1, h2, _⟩ := h.is
  exact Parts.reads ⟨vs, h1, h2⟩
/-- a write below its base leaves it as it was -/
theorem Parts.grownLow {w w' : World} {base : Nat} {v : Value} {ls : List (List Sp)} {row : Option Nat} (h : Parts w base v ls) (hg : w.grownBy w' row) (hrow : ∀ k, row = some k → k < base) : Parts w' base v ls := by
  obtain ⟨vs, h1, h2⟩ := h
  have hne : ∀ (u : Value), (∀ g, u.ownBlock = some g → base ≤ g) → u.ownBlock = none ∨ u.ownBlock ≠ row := fun u hu => by
    cases hv : u.ownBlock with
    | none => exact .inl rfl
    | some g => exact .inr fun e => by have := hu g hv; have := hrow g e.symm; omega
  refine ⟨vs, h1.grown hg (hne v fun g hg => (h1.lt g hg).1), h2.len, fun k p hk => ?_, h2.ne⟩
  obtain ⟨u, h3, h4⟩ := h2.own k p hk
  exact ⟨u, h3, h4.grown hg (hne u fun g hg => (h4.lt g hg).1)⟩
end Go.Proofs.YtkiidmdgdjphjaaGreat
