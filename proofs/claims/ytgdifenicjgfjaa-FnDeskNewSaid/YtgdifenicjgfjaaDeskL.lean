/- The laws' own helpers for desks: marks, held marks, copies, equal desks, their size. No conditions but those typed. -/
import Derived.Test.YtgdifenicjgfjaaDeskM
import Derived.Test.YtgdifenicjgfjaaBox
import Derived.Test.YtgdifenicjgfjaaHas
namespace Go.Proofs.Ytgdifenicjgfjaa
open Go.RowKit Go.Sort

theorem below_grown {w w' : World} (h : Below w.heap.size w w') (row : Option Nat) : w.grownBy w' row := ⟨h.os, h.tape, h.output, h.size, fun k hk _ => h.block k hk⟩
theorem InZ.put {w w' : World} {lo hi : Nat} {vs : List Value} {cur : List (List Sp)} {i : Nat} {u : Value} {p m : List Sp} (h : InZ w lo hi vs cur) (hp : cur[i]? = some p) (hu : vs[i]? = some u) (hm : m.length = p.length) (hg : w.grownBy w' (blk u p)) (ho : OZ w' lo hi u m) : InZ w' lo hi vs (cur.set i m) := by
  have hil := (List.getElem?_eq_some_iff.1 hp).1
  have hb : ∀ (k : Nat) (x : Value) q, vs[k]? = some x → (cur.set i m)[k]? = some q → ∃ q', cur[k]? = some q' ∧ blk x q = blk x q' := fun k x q hx hq => by
    by_cases e : i = k
    · subst e
      rw [List.getElem?_set_self hil] at hq
      cases hq
      exact ⟨p, hp, blk_congr hm⟩
    · rw [List.getElem?_set_ne e] at hq
      exact ⟨q, hq, rfl⟩
  refine ⟨by rw [List.length_set]; exact h.len, fun k q hk => ?_, fun a b x y q r hab hx hy hq hr => ?_⟩
  · by_cases e : i = k
    · subst e
      rw [List.getElem?_set_self hil] at hk
      cases hk
      exact ⟨u, hu, ho⟩
    · rw [List.getElem?_set_ne e] at hk
      obtain ⟨x, h1, h2⟩ := h.own k q hk
      refine ⟨x, h1, h2.other hg ?_⟩
      rcases Nat.lt_or_ge k i with hlt | hge
      · exact h.ne k i x u q p hlt h1 hu hk hp
      · rcases h.ne i k u x p q (by omega) hu h1 hp hk with e' | e'
        · rw [e']
          cases hv : blk x q with
          | none => exact .inl rfl
          | some g => exact .inr fun e => by cases e
        · exact .inr fun e'' => e' e''.symm
  · obtain ⟨q', c1, c2⟩ := hb a x q hx hq
    obtain ⟨r', c3, c4⟩ := hb b y r hy hr
    rw [c2, c4]
    exact h.ne a b x y q' r' hab hx hy c1 c3

theorem mark_zero (A : Option Addr) (c : Nat) (k : Int) (w : World) : Calls Try.prog 24 #[.slice A 0 c, .int .i64 k] w (Gives (.int .i64 k) w) := by
  go_enter Try.func24, Try.ntmps24
  go_wp2
  go_rounds 2
  go_ret
  exact ⟨rfl, Below.refl _ _⟩
theorem markZ_any (ps : List Sp) (v : Value) (lo hi : Nat) (k : Int) (w : World) (h : OZ w lo hi v ps) (hl : ps.length ≤ 1100000) (h0 : 0 ≤ k) (h1 : k ≤ 10000000) :
    Calls Try.prog 24 #[v, .int .i64 k] w fun e w' => e = .returned (.int .i64 (k + 2 * ps.length)) ∧ OZ w' lo hi v (marks ps.length k) ∧ w.grownBy w' (blk v ps) := by
  rcases h with ⟨rfl, hr⟩ | ⟨e, ho, hb⟩
  · obtain ⟨A, c, rfl, _, _⟩ := hr.slice
    refine (mark_zero A c k w).mono ?_
    rintro e w1 ⟨rfl, b1⟩
    exact ⟨by simp, .inl ⟨rfl, hr.nilAny (Nat.le_refl _)⟩, below_grown b1 _⟩
  · refine (mark_any ps v lo k w ho hl h0 h1).mono ?_
    rintro e' w1 ⟨rfl, o1, g1⟩
    refine ⟨rfl, .inr ⟨fun e2 => e (List.eq_nil_of_length_eq_zero (by rw [← marks_length ps.length k, e2]; rfl)), o1, hb⟩, ?_⟩
    rw [blk_yes e]; exact g1
theorem VZ.apart {w w' : World} {lo hi a b : Nat} {v u : Value} {vs : List Value} {p : List Sp} (h : VZ w lo hi v vs) (ho : OZ w a b u p) (hg : w.grownBy w' (blk u p)) : VZ w' lo hi v vs := by
  obtain ⟨A, c, h1, h2, h3, h4⟩ := h
  refine ⟨A, c, h1, h2, h3, fun h0 => ?_⟩
  obtain ⟨g, off, cur, h5, h6, h7, h8⟩ := h4 h0
  refine ⟨g, off, cur, h5, h6, (hg.block g (Array.getElem?_eq_some_iff.1 h7).1 fun e => ?_).trans h7, h8⟩
  rcases ho with ⟨rfl, _⟩ | ⟨e2, ho, _⟩
  · rw [blk_nil] at e; cases e
  · rw [blk_yes e2] at e
    rcases ho.apart2 h7 parts_apart with e3 | e3
    · rw [e3] at e; cases e
    · exact e3 e.symm
set_option maxRecDepth 100000 in
set_option maxHeartbeats 800000 in
theorem markSSZ_any (q0 : List Sp) (n v : Value) (ls : List (List Sp)) (vs : List Value) (lo hi : Nat) (k : Int) (w : World) (hv : VZ w lo hi v vs) (hz : InZ w lo hi (n :: vs) (q0 :: ls)) (hl : (ls.map List.length).sum ≤ 1100000) (h0 : 0 ≤ k) (h1 : k ≤ 4000000) :
    Calls Try.prog 42 #[v, .int .i64 k] w fun e w' => e = .returned (.int .i64 (k + 2 * ((ls.map List.length).sum : Int))) ∧ VZ w' lo hi v vs ∧ InZ w' lo hi (n :: vs) (q0 :: marksSS ls k) ∧ GrownIn lo hi w w' := by
  have hvl : vs.length = ls.length := by have := hz.len; simpa using this
  obtain ⟨A, c, rfl, hc, hm, _⟩ := hv.shape
  unfold maxLen at hm
  rw [hvl] at hc hv ⊢
  have HA := Lib.hid (sumUpTo_all ls)
  go_enter Try.func42, Try.ntmps42
  go_wp2
  go_loopw [1, 5] (fun kk i wr => ∃ (j : Nat) (cur : List (List Sp)), j ≤ ls.length ∧ i = .int .i64 j ∧ kk = .int .i64 (k + 2 * (sumUpTo ls j : Int)) ∧ cur.length = ls.length ∧ AgreeP cur (marksSS ls k) j ∧ (∀ i, j ≤ i → cur[i]? = ls[i]?) ∧ VZ wr lo hi (.slice A ls.length c) vs ∧ InZ wr lo hi (n :: vs) (q0 :: cur) ∧ GrownIn lo hi w wr) (fun _ i _ => ls.length - (intOf i).toNat)
  case atStart => exact ⟨0, ls, Nat.zero_le _, rfl, by simp [sumUpTo], rfl, fun j hj => by omega, fun _ _ => rfl, hv, hz, GrownIn.refl _ _ _⟩
  case round =>
    clear hv hz
    obtain ⟨j, cur, hj, rfl, rfl, hcl, hag, hrest, hvo, hvi, hbw⟩ := hrel
    by_cases hlt : j < ls.length
    · obtain ⟨p, hp⟩ : ∃ a, ls[j]? = some a := ⟨_, List.getElem?_eq_getElem hlt⟩
      obtain ⟨A2, c2, he, _, _, hA2⟩ := hvo.shape
      obtain ⟨g, off, hg, _, _, hcell⟩ := hA2 (by omega)
      injection he with he1 he2 he3
      subst he1 he3
      subst hg
      clear he2
      have hcj := (hrest j (Nat.le_refl _)).trans hp
      obtain ⟨u, hu, ho⟩ := hvi.own (j + 1) p (by rw [List.getElem?_cons_succ]; exact hcj)
      rw [List.getElem?_cons_succ] at hu
      have d0 := hcell j _ hu
      obtain ⟨Au, cu, rfl, _, _⟩ := ho.slice
      have hm3 : (0 : Int) ≤ (j : Int) := Int.natCast_nonneg _
      have hm4 : (j : Int) < (ls.length : Int) := by omega
      have hsu := sumUpTo_succ hp
      have hsl := sumUpTo_le ls (j + 1)
      have HS := Lib.hid (show k + 2 * (sumUpTo ls j : Int) + 2 * (p.length : Int) = k + 2 * (sumUpTo ls (j + 1) : Int) by rw [hsu]; push_cast; omega)
      have hsm : sumUpTo ls j + p.length ≤ 1100000 := by omega
      have HM := Lib.hid (marksSS_at (k := k) hp)
      have HAG := Lib.hid (And.intro hag (And.intro hrest (And.intro hcl (And.intro hu hcj))))
      clear hag hrest hcl hp hcj hsu hsl hu hcell
      go_wp2_with fail
      refine (markZ_any p _ lo hi (k + 2 * (sumUpTo ls j : Int)) wr ho (by omega) (by omega) (by omega)).mono ?_
      rintro e w1 ⟨rfl, o1, g1⟩
      rw [HS.out]
      have hv1 := hvo.apart ho g1
      have hi1 := hvi.put (i := j + 1) (by rw [List.getElem?_cons_succ]; exact HAG.out.2.2.2.2) (by rw [List.getElem?_cons_succ]; exact HAG.out.2.2.2.1) (marks_length _ _) g1 o1
      rw [List.set_cons_succ] at hi1
      have b1 := hbw.trans (GrownIn.of_grown g1 fun g hg => (ho.rng g hg).1)
      have HAG2 := Lib.hid (show AgreeP (cur.set j (marks p.length (k + 2 * (sumUpTo ls j : Int)))) (marksSS ls k) (j + 1) from fun i hi => by
        by_cases e : j = i
        · subst e
          rw [List.getElem?_set_self (by rw [HAG.out.2.2.1]; exact hlt), HM.out]
        · rw [List.getElem?_set_ne e]; exact HAG.out.1 i (by omega))
      have HRE := Lib.hid (show ∀ i, j + 1 ≤ i → (cur.set j (marks p.length (k + 2 * (sumUpTo ls j : Int))))[i]? = ls[i]? from fun i hi => by
        rw [List.getElem?_set_ne (by omega)]; exact HAG.out.2.1 i (by omega))
      have HCL := Lib.hid (show (cur.set j (marks p.length (k + 2 * (sumUpTo ls j : Int)))).length = ls.length by rw [List.length_set]; exact HAG.out.2.2.1)
      clear hvo hvi ho g1 o1
      go_wp2
      go_roundw
      case rel => exact ⟨j + 1, _, by omega, by go_num, rfl, HCL.out, HAG2.out, HRE.out, hv1, hi1, b1⟩
      case measure => simp [intOf]; omega
    · obtain rfl : j = ls.length := by omega
      have hE := agreeP_all (hcl.trans (marksSS_length ls k).symm) (fun i hi => hag i (by omega))
      subst hE
      rw [HA.out]
      clear hag hrest hcl
      go_wp2
      go_ret
      exact ⟨rfl, hvo, hvi, hbw⟩
theorem dsum_le {d : Dk} {m : Nat} (h : dsum d ≤ m) : d.1.length ≤ m ∧ (d.2.map List.length).sum ≤ m := by unfold dsum at h; omega
set_option maxHeartbeats 800000 in
theorem markDesk_any (d : Dk) (v : Value) (lo hi : Nat) (k : Int) (w : World) (h : DeskO w lo hi v d) (hl : dsum d ≤ 1100000) (h0 : 0 ≤ k) (h1 : k ≤ 100) :
    Calls Try.prog 25 #[v, .int .i64 k] w fun e w' => e = .returned (.int .i64 (k + 2 * (dsum d : Int))) ∧ DeskO w' lo hi v (marksD d k) ∧ GrownIn lo hi w w' := by
  obtain ⟨n, p, vs, rfl, hv, hz, hs⟩ := h
  obtain ⟨hl1, hl2⟩ := dsum_le hl
  obtain ⟨n', e', hn⟩ := hz.own 0 d.1 rfl
  cases e'
  obtain ⟨An, cn, rfl, _, _⟩ := hn.slice
  obtain ⟨Ap, cp, rfl, _, _⟩ := hv.shape
  have b0 := box_below w #[.slice An d.1.length cn, .slice Ap vs.length cp] 26
  obtain ⟨W, hW⟩ : ∃ W, W = w.alloc (.cells #[.slice An d.1.length cn, .slice Ap vs.length cp] 26) := ⟨_, rfl⟩
  have q0 : W.cell? ⟨w.heap.size, 0, none⟩ = some (.slice An d.1.length cn) := by rw [hW]; simp [go_sem]
  have q1 : W.cell? ⟨w.heap.size, 1, none⟩ = some (.slice Ap vs.length cp) := by rw [hW]; simp [go_sem]
  have s0 : w.heap.size < W.heap.size := by rw [hW]; simp
  rw [← hW] at b0
  have hv := hv.keptBy (w' := W) (fun g _ _ hg => b0.block g hg)
  have hz := hz.keptBy (w' := W) (fun g _ _ hg => b0.block g hg)
  have hn := hn.keptBy (w' := W) (fun g _ _ hg => b0.block g hg)
  have hG : GrownIn lo hi w W := GrownIn.of_below b0
  have HD := Lib.hid (show k + 2 * (d.1.length : Int) + 2 * ((d.2.map List.length).sum : Int) = k + 2 * (dsum d : Int) by unfold dsum; push_cast; omega)
  go_enter Try.func25, Try.ntmps25
  go_wp2_with (first | (rw [← hW]; clear hW) | fail)
  refine (markZ_any d.1 _ lo hi k _ hn (by omega) (by omega) (by omega)).mono ?_
  rintro e w1 ⟨rfl, o1, g1⟩
  have hi1 := hz.put (i := 0) rfl rfl (marks_length _ _) g1 o1
  rw [List.set_cons_zero] at hi1
  have hv1 := hv.apart hn g1
  have hG1 := hG.trans (GrownIn.of_grown (lo := lo) (hi := hi) g1 fun g hg => (hn.rng g hg).1)
  have q1 := ((GrownIn.of_grown (lo := lo) (hi := hi) g1 fun g hg => (hn.rng g hg).1).block w.heap.size s0 (.inr hs))
  have q1 : w1.cell? ⟨w.heap.size, 1, none⟩ = some (.slice Ap vs.length cp) := (World.cell?_of_block (a := ⟨w.heap.size, 1, none⟩) q1).trans (by assumption)
  clear q0 g1 o1 hz hv hn
  go_wp2_with fail
  refine (markSSZ_any _ _ _ d.2 vs lo hi (k + 2 * (d.1.length : Int)) _ hv1 hi1 (by omega) (by omega) (by omega)).mono ?_
  rintro e w2 ⟨rfl, hv2, hi2, g2⟩
  rw [HD.out]
  have hG2 := hG1.trans g2
  go_wp2
  go_ret
  exact ⟨rfl, ⟨_, _, vs, rfl, hv2, hi2, Nat.le_trans hs hG2.size⟩, hG2⟩
set_option maxHeartbeats 800000 in
theorem heldDesk_any (d : Dk) (v : Value) (k : Int) (w : World) (h : DeskR w w.heap.size v (marksD d k)) (hl : dsum d ≤ 1100000) (h0 : 0 ≤ k) (h1 : k ≤ 100) :
    Calls Try.prog 26 #[v, .int .i64 k] w (Gives (.int .i64 (k + 2 * (dsum d : Int))) w) := by
  obtain ⟨n, p, rfl, rn, rp⟩ := h
  obtain ⟨hl1, hl2⟩ := dsum_le hl
  obtain ⟨An, cn, rfl, _, _⟩ := rn.slice
  obtain ⟨Ap, cp, rfl, _, _⟩ := rp.slice
  unfold marksD at rn rp
  simp only at rn rp
  generalize hN : (marks d.1.length k).length = N at rn
  generalize hP : (marksSS d.2 (k + 2 * (d.1.length : Int))).length = M at rp
  have eN : (marksD d k).1.length = N := hN
  have eM : (marksD d k).2.length = M := hP
  rw [eN, eM]
  clear eN eM hN hP
  have b0 := box_below w #[.slice An N cn, .slice Ap M cp] 26
  obtain ⟨W, hW⟩ : ∃ W, W = w.alloc (.cells #[.slice An N cn, .slice Ap M cp] 26) := ⟨_, rfl⟩
  have q0 : W.cell? ⟨w.heap.size, 0, none⟩ = some (.slice An N cn) := by rw [hW]; simp [go_sem]
  have q1 : W.cell? ⟨w.heap.size, 1, none⟩ = some (.slice Ap M cp) := by rw [hW]; simp [go_sem]
  have s0 : w.heap.size < W.heap.size := by rw [hW]; simp
  rw [← hW] at b0
  have HD := Lib.hid (show k + 2 * (d.1.length : Int) + 2 * ((d.2.map List.length).sum : Int) = k + 2 * (dsum d : Int) by unfold dsum; push_cast; omega)
  go_enter Try.func26, Try.ntmps26
  go_wp2_with (first | (rw [← hW]; clear hW) | fail)
  refine (held_any d.1.length _ k _ (rn.kept b0) (by omega) (by omega) (by omega)).mono ?_
  rintro e w1 ⟨rfl, b1⟩
  have q1 := (b1.cell (p := ⟨w.heap.size, 1, none⟩) s0).trans q1
  have hb := below_step b0 b1
  have hk1 : 0 ≤ k + 2 * (d.1.length : Int) := by omega
  clear q0 b1
  go_wp2_with fail
  refine (heldSS_any d.2 _ (k + 2 * (d.1.length : Int)) _ (rp.kept hb) (by omega) (by omega) (by omega)).mono ?_
  rintro e w2 ⟨rfl, b2⟩
  rw [HD.out]
  have hk2 : 0 ≤ k + 2 * (dsum d : Int) := by omega
  go_wp2
  go_ret
  exact ⟨rfl, below_step hb b2⟩
set_option maxHeartbeats 1600000 in
theorem eqDesk_any (d x : Dk) (v v' : Value) (w : World) (h : DeskR w w.heap.size v d) (h' : DeskR w w.heap.size v' x) : Calls Try.prog 20 #[v, v'] w (Gives (.bool (decide (d = x))) w) := by
  obtain ⟨n, p, rfl, rn, rp⟩ := h
  obtain ⟨m, q, rfl, rm, rq⟩ := h'
  obtain ⟨An, cn, rfl, _, _⟩ := rn.slice
  obtain ⟨Ap, cp, rfl, _, _⟩ := rp.slice
  obtain ⟨Am, cm, rfl, _, _⟩ := rm.slice
  obtain ⟨Aq, cq, rfl, _, _⟩ := rq.slice
  obtain ⟨W, hW⟩ : ∃ W, W = (w.alloc (.cells #[.slice An d.1.length cn, .slice Ap d.2.length cp] 26)).alloc (.cells #[.slice Am x.1.length cm, .slice Aq x.2.length cq] 26) := ⟨_, rfl⟩
  have b0 : Below w.heap.size w W := by rw [hW]; exact (box_below w _ _).alloc (by simp) _
  have q0 : W.cell? ⟨w.heap.size, 0, none⟩ = some (.slice An d.1.length cn) := by rw [hW]; simp [go_sem, World.cell?_alloc_past]
  have q1 : W.cell? ⟨w.heap.size, 1, none⟩ = some (.slice Ap d.2.length cp) := by rw [hW]; simp [go_sem, World.cell?_alloc_past]
  have q2 : W.cell? ⟨w.heap.size + 1, 0, none⟩ = some (.slice Am x.1.length cm) := by rw [hW]; simp [go_sem]
  have q3 : W.cell? ⟨w.heap.size + 1, 1, none⟩ = some (.slice Aq x.2.length cq) := by rw [hW]; simp [go_sem]
  have s0 : w.heap.size + 2 = W.heap.size := by rw [hW]; simp
  have r0 := rn.kept b0
  have r1 := rp.kept b0
  have r2 := rm.kept b0
  have r3 := rq.kept b0
  rcases hk : decide (d.1 = x.1) with _ | _
  · have HR := Lib.hid (show decide (d = x) = false from decide_eq_false fun e => of_decide_eq_false hk (by rw [e]))
    have HK := Lib.hid hk
    clear hk
    go_enter Try.func20, Try.ntmps20
    go_wp2_with (first | (rw [← hW]; clear hW) | fail)
    refine (gives_is HK.out (eqSpotS_any _ _ _ _ _ r0 r2)).mono ?_
    rintro e w1 ⟨rfl, b1⟩
    go_wp2
    go_ret
    exact ⟨ret_bool HR.out.symm, below_step b0 b1⟩
  · rcases hk2 : decide (d.2 = x.2) with _ | _
    · have HR := Lib.hid (show decide (d = x) = false from decide_eq_false fun e => of_decide_eq_false hk2 (by rw [e]))
      have HK := Lib.hid hk
      have HK2 := Lib.hid hk2
      clear hk hk2
      go_enter Try.func20, Try.ntmps20
      go_wp2_with (first | (rw [← hW]; clear hW) | fail)
      refine (gives_is HK.out (eqSpotS_any _ _ _ _ _ r0 r2)).mono ?_
      rintro e w1 ⟨rfl, b1⟩
      have q1 := (b1.cell (p := ⟨w.heap.size, 1, none⟩) (by simp only []; omega)).trans q1
      have q3 := (b1.cell (p := ⟨w.heap.size + 1, 1, none⟩) (by simp only []; omega)).trans q3
      go_wp2_with fail
      refine (gives_is HK2.out (eqSpotSS_any _ _ _ _ _ (r1.kept b1) (r3.kept b1))).mono ?_
      rintro e w2 ⟨rfl, b2⟩
      go_wp2
      go_ret
      exact ⟨ret_bool HR.out.symm, below_step (below_step b0 b1) b2⟩
    · have HR := Lib.hid (show decide (d = x) = true from decide_eq_true (Prod.ext (of_decide_eq_true hk) (of_decide_eq_true hk2)))
      have HK := Lib.hid hk
      have HK2 := Lib.hid hk2
      clear hk hk2
      go_enter Try.func20, Try.ntmps20
      go_wp2_with (first | (rw [← hW]; clear hW) | fail)
      refine (gives_is HK.out (eqSpotS_any _ _ _ _ _ r0 r2)).mono ?_
      rintro e w1 ⟨rfl, b1⟩
      have q1 := (b1.cell (p := ⟨w.heap.size, 1, none⟩) (by simp only []; omega)).trans q1
      have q3 := (b1.cell (p := ⟨w.heap.size + 1, 1, none⟩) (by simp only []; omega)).trans q3
      go_wp2_with fail
      refine (gives_is HK2.out (eqSpotSS_any _ _ _ _ _ (r1.kept b1) (r3.kept b1))).mono ?_
      rintro e w2 ⟨rfl, b2⟩
      go_wp2
      go_ret
      exact ⟨ret_bool HR.out.symm, below_step (below_step b0 b1) b2⟩
set_option maxHeartbeats 1600000 in
theorem sameDesk_any (d x : Dk) (v v' : Value) (w : World) (h : DeskR w w.heap.size v d) (h' : DeskR w w.heap.size v' x) : Calls Try.prog 14 #[v, v'] w (Gives (.bool (decide (d = x))) w) := by
  obtain ⟨n, p, rfl, rn, rp⟩ := h
  obtain ⟨m, q, rfl, rm, rq⟩ := h'
  obtain ⟨An, cn, rfl, _, _⟩ := rn.slice
  obtain ⟨Ap, cp, rfl, _, _⟩ := rp.slice
  obtain ⟨Am, cm, rfl, _, _⟩ := rm.slice
  obtain ⟨Aq, cq, rfl, _, _⟩ := rq.slice
  obtain ⟨W, hW⟩ : ∃ W, W = (w.alloc (.cells #[.slice An d.1.length cn, .slice Ap d.2.length cp] 26)).alloc (.cells #[.slice Am x.1.length cm, .slice Aq x.2.length cq] 26) := ⟨_, rfl⟩
  have b0 : Below w.heap.size w W := by rw [hW]; exact (box_below w _ _).alloc (by simp) _
  have q0 : W.cell? ⟨w.heap.size, 0, none⟩ = some (.slice An d.1.length cn) := by rw [hW]; simp [go_sem, World.cell?_alloc_past]
  have q1 : W.cell? ⟨w.heap.size, 1, none⟩ = some (.slice Ap d.2.length cp) := by rw [hW]; simp [go_sem, World.cell?_alloc_past]
  have q2 : W.cell? ⟨w.heap.size + 1, 0, none⟩ = some (.slice Am x.1.length cm) := by rw [hW]; simp [go_sem]
  have q3 : W.cell? ⟨w.heap.size + 1, 1, none⟩ = some (.slice Aq x.2.length cq) := by rw [hW]; simp [go_sem]
  have s0 : w.heap.size + 2 = W.heap.size := by rw [hW]; simp
  have r0 := rn.kept b0
  have r1 := rp.kept b0
  have r2 := rm.kept b0
  have r3 := rq.kept b0
  rcases hk : decide (d.1 = x.1) with _ | _
  · have HR := Lib.hid (show decide (d = x) = false from decide_eq_false fun e => of_decide_eq_false hk (by rw [e]))
    have HK := Lib.hid hk
    clear hk
    go_enter Try.func14, Try.ntmps14
    go_wp2_with (first | (rw [← hW]; clear hW) | fail)
    refine (gives_is HK.out (sameSpots_any _ _ _ _ _ r0 r2)).mono ?_
    rintro e w1 ⟨rfl, b1⟩
    go_wp2
    go_ret
    exact ⟨ret_bool HR.out.symm, below_step b0 b1⟩
  · rcases hk2 : decide (d.2 = x.2) with _ | _
    · have HR := Lib.hid (show decide (d = x) = false from decide_eq_false fun e => of_decide_eq_false hk2 (by rw [e]))
      have HK := Lib.hid hk
      have HK2 := Lib.hid hk2
      clear hk hk2
      go_enter Try.func14, Try.ntmps14
      go_wp2_with (first | (rw [← hW]; clear hW) | fail)
      refine (gives_is HK.out (sameSpots_any _ _ _ _ _ r0 r2)).mono ?_
      rintro e w1 ⟨rfl, b1⟩
      have q1 := (b1.cell (p := ⟨w.heap.size, 1, none⟩) (by simp only []; omega)).trans q1
      have q3 := (b1.cell (p := ⟨w.heap.size + 1, 1, none⟩) (by simp only []; omega)).trans q3
      go_wp2_with fail
      refine (gives_is HK2.out (sameParts_any _ _ _ _ _ (r1.kept b1) (r3.kept b1))).mono ?_
      rintro e w2 ⟨rfl, b2⟩
      go_wp2
      go_ret
      exact ⟨ret_bool HR.out.symm, below_step (below_step b0 b1) b2⟩
    · have HR := Lib.hid (show decide (d = x) = true from decide_eq_true (Prod.ext (of_decide_eq_true hk) (of_decide_eq_true hk2)))
      have HK := Lib.hid hk
      have HK2 := Lib.hid hk2
      clear hk hk2
      go_enter Try.func14, Try.ntmps14
      go_wp2_with (first | (rw [← hW]; clear hW) | fail)
      refine (gives_is HK.out (sameSpots_any _ _ _ _ _ r0 r2)).mono ?_
      rintro e w1 ⟨rfl, b1⟩
      have q1 := (b1.cell (p := ⟨w.heap.size, 1, none⟩) (by simp only []; omega)).trans q1
      have q3 := (b1.cell (p := ⟨w.heap.size + 1, 1, none⟩) (by simp only []; omega)).trans q3
      go_wp2_with fail
      refine (gives_is HK2.out (sameParts_any _ _ _ _ _ (r1.kept b1) (r3.kept b1))).mono ?_
      rintro e w2 ⟨rfl, b2⟩
      go_wp2
      go_ret
      exact ⟨ret_bool HR.out.symm, below_step (below_step b0 b1) b2⟩
theorem eqD_is {b : Bool} {d x : Dk} {v v' : Value} {w : World} (hk : decide (d = x) = b) (h : DeskR w w.heap.size v d) (h' : DeskR w w.heap.size v' x) : Calls Try.prog 20 #[v, v'] w (Gives (.bool b) w) := by
  subst hk; exact eqDesk_any d x v v' w h h'
theorem sameD_is {b : Bool} {d x : Dk} {v v' : Value} {w : World} (hk : decide (d = x) = b) (h : DeskR w w.heap.size v d) (h' : DeskR w w.heap.size v' x) : Calls Try.prog 14 #[v, v'] w (Gives (.bool b) w) := by
  subst hk; exact sameDesk_any d x v v' w h h'
theorem noDesk_any {b : Bool} (d : Dk) (hk : decide (d = (([], []) : Dk)) = b) (v : Value) (w : World) (h : DeskR w w.heap.size v d) : Calls Try.prog 15 #[v] w (Gives (.bool b) w) := by
  obtain ⟨n, p, rfl, rn, rp⟩ := h
  obtain ⟨An, cn, rfl, _, _⟩ := rn.slice
  obtain ⟨Ap, cp, rfl, _, _⟩ := rp.slice
  go_enter Try.func15, Try.ntmps15
  go_wp2_with fail
  refine (sameD_is hk (DeskR.kept ⟨_, _, rfl, rn, rp⟩ (box_below _ _ _)) (DeskR.zero _ _)).mono ?_
  rintro e w1 ⟨rfl, b1⟩
  go_wp2
  go_ret
  exact ⟨rfl, below_step (box_below _ _ _) b1⟩
end Go.Proofs.Ytgdifenicjgfjaa
