/- ShrunkBy of the program. No conditions but those typed. -/
import Derived.Test.YtkiidmdgdjphjaaGreatLess
import Derived.Test.YtkiidmdgdjphjaaGreatFitI
import Derived.Test.YtkiidmdgdjphjaaGreatBetwI
import Derived.Test.YtkiidmdgdjphjaaGreatPlain
import Derived.Test.YtkiidmdgdjphjaaGreatHas2
import Derived.Test.YtkiidmdgdjphjaaGreatTold
namespace Go.Proofs.YtkiidmdgdjphjaaGreat
open Go.RowKit Go.Sort

def RulePost (v u : Value) (w : World) (e : Ending) (w' : World) : Prop := ∃ P Q : Nat, e = .returned (.func (.func 116) #[] #[.pointer (some ⟨Q, 0, none⟩), .pointer (some ⟨P, 0, none⟩)]) ∧
    P < w'.heap.size ∧ Q < w'.heap.size ∧ w'.cell? ⟨P, 0, none⟩ = some v ∧ w'.cell? ⟨Q, 0, none⟩ = some u ∧ Below w.heap.size w w'
theorem fitRule_any (A B : Option Addr) (n m c d : Nat) (w : World) : Calls Tryz.prog 101 #[.slice A n c, .slice B m d] w (RulePost (.slice A n c) (.slice B m d) w) := by
  go_enter Tryz.func101, Tryz.ntmps101
  go_wp2
  go_ret
  exact ⟨w.heap.size, w.heap.size + 1, rfl, by simp; omega, by simp, by simp [go_sem, World.cell?_alloc_past], by simp [go_sem], (box_below w _ _).alloc (by simp) _⟩
theorem shrinkL_nil (q : List Sp) : shrinkL [] q = [] := by cases q <;> rfl
theorem picB_nil : picB [] = true := by decide
theorem shrink_nil {q : List Sp} (h2 : picB q = true) (h3 : q ≠ []) : shrinkOk [] q = true ∧ shrinkR [] q = [] := by
  have h := shrink_yes picB_nil h2 h3 (by rw [shrinkL_nil]; exact picB_nil)
  exact ⟨h.1, by rw [h.2, shrinkL_nil]⟩
theorem nears_of {p : List Sp} (h : picB p = true) : ∀ a ∈ p, NearS a := fun a ha => by
  have := (picB_pic h).2.1 a ha
  unfold InR at this; unfold NearS; omega
theorem fitBox_in {p q : List Sp} (hp : picB p = true) (hq : picB q = true) (p0 : p ≠ []) (q0 : q ≠ []) :
    (-60 ≤ (fitLo p q).1 ∧ (fitLo p q).1 ≤ 60 ∧ -60 ≤ (fitLo p q).2 ∧ (fitLo p q).2 ≤ 60) ∧ (-60 ≤ (fitHi p q).1 ∧ (fitHi p q).1 ≤ 60 ∧ -60 ≤ (fitHi p q).2 ∧ (fitHi p q).2 ≤ 60) := by
  have bp := boxL_in (n := 30) p0 (fun a ha => (picB_pic hp).2.1 a ha)
  have bq := boxL_in (n := 30) q0 (fun a ha => (picB_pic hq).2.1 a ha)
  unfold fitLo fitHi
  simp only []
  omega

set_option maxHeartbeats 1600000 in
theorem implShrunk_any (ps qs : List Sp) (v u : Value) (w : World) (h : Reads w w.heap.size v ps) (k : Reads w w.heap.size u qs) :
    Calls Tryz.prog 85 #[v, u] w (Gives2' (shrinkR ps qs) (shrinkOk ps qs) w) := by
  obtain ⟨A, c, rfl, hc, hm, _⟩ := k.is
  obtain ⟨A', c', rfl, hc', hm', _⟩ := h.is
  unfold maxLen at hm hm'
  rcases hp : picB ps with _ | _
  · obtain ⟨e1, e2⟩ := shrink_no1 (q := qs) hp
    rw [e1, e2]
    go_enter Tryz.func85, Tryz.ntmps85
    go_wp2_with fail
    refine (gives_is hp (implPicture_any ps _ _ h)).mono ?_
    rintro e w1 ⟨rfl, b1⟩
    go_wp2
    go_ret2
    exact ⟨_, rfl, Owns.nil _ _, b1⟩
  rcases hq : picB qs with _ | _
  · obtain ⟨e1, e2⟩ := shrink_no2 (p := ps) hq
    rw [e1, e2]
    go_enter Tryz.func85, Tryz.ntmps85
    go_wp2_with fail
    refine (gives_is hp (implPicture_any ps _ _ h)).mono ?_
    rintro e w1 ⟨rfl, b1⟩
    go_wp2_with fail
    refine (gives_is hq (implPicture_any qs _ _ (k.kept b1))).mono ?_
    rintro e w2 ⟨rfl, b2⟩
    have bw2 := below_step b1 b2
    go_wp2
    go_ret2
    exact ⟨_, rfl, Owns.nil _ _, bw2⟩
  by_cases q0 : qs = []
  · obtain ⟨e1, e2⟩ := shrink_no3 (p := ps) q0
    rw [e1, e2]
    subst q0
    go_enter Tryz.func85, Tryz.ntmps85
    go_wp2_with fail
    refine (gives_is hp (implPicture_any ps _ _ h)).mono ?_
    rintro e w1 ⟨rfl, b1⟩
    go_wp2_with fail
    refine (gives_is hq (implPicture_any [] _ _ (k.kept b1))).mono ?_
    rintro e w2 ⟨rfl, b2⟩
    have bw2 := below_step b1 b2
    go_wp2
    go_ret2
    exact ⟨_, rfl, Owns.nil _ _, bw2⟩
  have hq1 : 0 < qs.length := by cases qs with | nil => exact absurd rfl q0 | cons _ _ => simp
  have hqb : ((qs.length : Int) == 0) = false := by rw [beq_eq_false_iff_ne]; omega
  by_cases p0 : ps = []
  · subst p0
    obtain ⟨e1, e2⟩ := shrink_nil hq q0
    rw [e1, e2]
    go_enter Tryz.func85, Tryz.ntmps85
    go_wp2_with fail
    refine (gives_is hp (implPicture_any [] _ _ h)).mono ?_
    rintro e w1 ⟨rfl, b1⟩
    go_wp2_with fail
    refine (gives_is hq (implPicture_any qs _ _ (k.kept b1))).mono ?_
    rintro e w2 ⟨rfl, b2⟩
    have bw2 := below_step b1 b2
    go_wp2
    go_ret2
    exact ⟨_, rfl, Owns.nil _ _, bw2⟩
  · have hp1 : 0 < ps.length := by cases ps with | nil => exact absurd rfl p0 | cons _ _ => simp
    have hpb : ((ps.length : Int) == 0) = false := by rw [beq_eq_false_iff_ne]; omega
    have HD := Lib.hid (betw_shrink (picB_pic hp).2.2 p0 q0)
    have hps := (picB_pic hp).2.2
    have hpl := (picB_pic hp).1
    have hql := (picB_pic hq).1
    have hqn := nears_of hq
    obtain ⟨⟨x1, x2, x3, x4⟩, x5, x6, x7, x8⟩ := fitBox_in hp hq p0 q0
    rcases hs : picB (shrinkL ps qs) with _ | _
    all_goals
      first
        | have HE := Lib.hid (shrink_yes hp hq q0 hs)
        | have HE := Lib.hid (shrink_no4 hs)
      have HS := Lib.hid hs
      clear hs
      have HP := Lib.hid hp
      have HQ := Lib.hid hq
      go_enter Tryz.func85, Tryz.ntmps85
      go_wp2_with fail
      refine (gives_is hp (implPicture_any ps _ _ h)).mono ?_
      rintro e w1 ⟨rfl, b1⟩
      go_wp2_with fail
      refine (gives_is hq (implPicture_any qs _ _ (k.kept b1))).mono ?_
      rintro e w2 ⟨rfl, b2⟩
      have bw2 := below_step b1 b2
      clear hp hq
      have r1 := h.kept bw2
      have r2 := k.kept bw2
      go_wp2_with fail
      refine (boxOfFits_any ps qs _ _ w2 r1 r2 HP.out HQ.out p0 q0).mono ?_
      rintro e w3 ⟨rfl, b3⟩
      have bw3 := below_step bw2 b3
      have r1 := r1.kept b3
      have r2 := r2.kept b3
      have b4 : Below w3.heap.size w3 ((w3.alloc (.cells #[.int .i64 (fitLo ps qs).1, .int .i64 (fitLo ps qs).2] 53)).alloc (.cells #[.int .i64 (fitHi ps qs).1, .int .i64 (fitHi ps qs).2] 53)) := (box_below w3 _ _).alloc (by simp) _
      obtain ⟨w4, hw4⟩ : ∃ w4, w4 = (w3.alloc (.cells #[.int .i64 (fitLo ps qs).1, .int .i64 (fitLo ps qs).2] 53)).alloc (.cells #[.int .i64 (fitHi ps qs).1, .int .i64 (fitHi ps qs).2] 53) := ⟨_, rfl⟩
      have l0 : w4.heap[w3.heap.size]? = some (.cells #[.int .i64 (fitLo ps qs).1, .int .i64 (fitLo ps qs).2] 53 (0, 0)) := by
        rw [hw4]; exact (box_below _ #[.int .i64 (fitHi ps qs).1, .int .i64 (fitHi ps qs).2] 53).block w3.heap.size (by simp) |>.trans (heap_alloc_new w3 (.cells #[.int .i64 (fitLo ps qs).1, .int .i64 (fitLo ps qs).2] 53))
      have l1 : w4.heap[w3.heap.size + 1]? = some (.cells #[.int .i64 (fitHi ps qs).1, .int .i64 (fitHi ps qs).2] 53 (0, 0)) := by
        rw [hw4]
        have := heap_alloc_new (w3.alloc (.cells #[.int .i64 (fitLo ps qs).1, .int .i64 (fitLo ps qs).2] 53)) (.cells #[.int .i64 (fitHi ps qs).1, .int .i64 (fitHi ps qs).2] 53)
        rw [World.size_alloc] at this; exact this
      have c0 := cell_of_row w4 _ 0 _ _ _ l0
      have c1 := cell_of_row w4 _ 1 _ _ _ l0
      have c2 := cell_of_row w4 _ 0 _ _ _ l1
      have c3 := cell_of_row w4 _ 1 _ _ _ l1
      simp only [List.getElem?_toArray, List.getElem?_cons_zero, List.getElem?_cons_succ] at c0 c1 c2 c3
      have hs4 : w3.heap.size + 2 ≤ w4.drew.heap.size := by rw [hw4]; simp
      rw [← hw4] at b4
      have bb := (below_step bw3 b4).drew
      have r1 := r1.kept b4.drew
      have r2 := r2.kept b4.drew
      have s2 := bw2.size
      have s3 := b3.size
      obtain ⟨G, hG⟩ : ∃ G, G = w3.heap.size := ⟨_, rfl⟩
      have t0 : G < w4.drew.heap.size := by omega
      have t1 : G + 1 < w4.drew.heap.size := by omega
      rw [← hG] at c0 c1 c2 c3
      have HG := Lib.hid hG
      go_wp2_with fail
      rw [← hw4, ← hG]
      clear hw4 hs4 b3 b4 bw3 l0 l1 h k b1 b2 hm hm' hc hc' hG
      have c0 : w4.drew.cell? ⟨G, 0, none⟩ = some (.int .i64 (fitLo ps qs).1) := c0
      have c1 : w4.drew.cell? ⟨G, 1, none⟩ = some (.int .i64 (fitLo ps qs).2) := c1
      have c2 : w4.drew.cell? ⟨G + 1, 0, none⟩ = some (.int .i64 (fitHi ps qs).1) := c2
      have c3 : w4.drew.cell? ⟨G + 1, 1, none⟩ = some (.int .i64 (fitHi ps qs).2) := c3
      go_region_held3 (fun w' => w'.cell? ⟨G, 0, none⟩ = some (.int .i64 (fitLo ps qs).1) ∧ w'.cell? ⟨G, 1, none⟩ = some (.int .i64 (fitLo ps qs).2) ∧ w'.cell? ⟨G + 1, 0, none⟩ = some (.int .i64 (fitHi ps qs).1) ∧ w'.cell? ⟨G + 1, 1, none⟩ = some (.int .i64 (fitHi ps qs).2)) (refine ⟨?_, ?_, ?_, ?_⟩ <;> with_reducible assumption)
        (first
          | (go_at_call 101; refine (fitRule_any _ _ _ _ _ _ _).mono ?_; rintro e w' ⟨P, Q, rfl, hP, hQ, cP, cQ, hb⟩; have bb := below_step bb hb; have r1 := r1.kept hb; have r2 := r2.kept hb; have c0 := (hb.cell (p := ⟨G, 0, none⟩) t0).trans c0; have c1 := (hb.cell (p := ⟨G, 1, none⟩) t0).trans c1; have c2 := (hb.cell (p := ⟨G + 1, 0, none⟩) t1).trans c2; have c3 := (hb.cell (p := ⟨G + 1, 1, none⟩) t1).trans c3; have t0 := Nat.lt_of_lt_of_le t0 hb.size; have t1 := Nat.lt_of_lt_of_le t1 hb.size)
          | (go_at_call 100; refine (betw_any (fitAt ps qs) P Q _ _ _ _ w' (by omega) (by omega) (by omega) (by omega) (by omega) (by omega) (by omega) (by omega) (fun x y w1 hx1 hx2 hy1 hy2 hb1 => fitRule1_any ps qs _ _ P Q x y w1 (r1.kept hb1) (r2.kept hb1) hps hpl hql ⟨by simp only []; omega, by simp only []; omega, by simp only []; omega, by simp only []; omega⟩ hqn (Nat.lt_of_lt_of_le hP hb1.size) (Nat.lt_of_lt_of_le hQ hb1.size) ((hb1.cell (p := ⟨P, 0, none⟩) hP).trans cP) ((hb1.cell (p := ⟨Q, 0, none⟩) hQ).trans cQ))).mono ?_; rintro e w'' ⟨v6, rfl, o6, hb⟩; have o6 : Owns w'' w'.heap.size v6 (shrinkL ps qs) := (by rw [← HD.out]; exact o6); obtain ⟨A6, c6, rfl, _, _⟩ := o6.reads.slice; have s6 := bb.size; have bb := below_step bb hb; have r1 := r1.kept hb; have r2 := r2.kept hb; have c0 := (hb.cell (p := ⟨G, 0, none⟩) t0).trans c0; have c1 := (hb.cell (p := ⟨G, 1, none⟩) t0).trans c1; have c2 := (hb.cell (p := ⟨G + 1, 0, none⟩) t1).trans c2; have c3 := (hb.cell (p := ⟨G + 1, 1, none⟩) t1).trans c3; have t0 := Nat.lt_of_lt_of_le t0 hb.size; have t1 := Nat.lt_of_lt_of_le t1 hb.size)
          | (go_at_call 79; (first | (with_reducible refine (told_yes HS.out o6).mono ?_) | (with_reducible refine (told_no HS.out o6).mono ?_)); rintro e w7 ⟨rfl, hb⟩; have o6 := o6.below hb; have bb := below_step bb hb; have r1 := r1.kept hb; have r2 := r2.kept hb; have c0 := (hb.cell (p := ⟨G, 0, none⟩) t0).trans c0; have c1 := (hb.cell (p := ⟨G, 1, none⟩) t0).trans c1; have c2 := (hb.cell (p := ⟨G + 1, 0, none⟩) t1).trans c2; have c3 := (hb.cell (p := ⟨G + 1, 1, none⟩) t1).trans c3; have t0 := Nat.lt_of_lt_of_le t0 hb.size; have t1 := Nat.lt_of_lt_of_le t1 hb.size))
      go_wp2
      go_ret2
      first
        | exact ⟨_, by rw [HE.out.1]; rfl, by rw [HE.out.2]; exact o6.base s6, bb⟩
        | exact ⟨_, by rw [HE.out.1]; rfl, by rw [HE.out.2]; exact Owns.nil _ _, bb⟩
theorem implShrunk_is {b : Bool} {p q : List Sp} {v u : Value} {w : World} (hk : shrinkOk p q = b) (h : Reads w w.heap.size v p) (k : Reads w w.heap.size u q) : Calls Tryz.prog 85 #[v, u] w (Gives2' (shrinkR p q) b w) := by
  subst hk; exact implShrunk_any p q v u w h k
end Go.Proofs.YtkiidmdgdjphjaaGreat
