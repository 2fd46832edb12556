/- Texts of one kind, merged: DrawR, DrawRun. No conditions but those that stand in each theorem. -/
import Derived.Test.YtkiidmdgdjphjaaGreatDrawD
import Derived.Test.YtkiidmdgdjphjaaGreatDeedL
import Derived.Test.YtkiidmdgdjphjaaGreatDeskM
import Derived.Test.YtkiidmdgdjphjaaGreatDrawM
import Derived.Test.YtkiidmdgdjphjaaGreatSpots
import Derived.Deep.RegionHeld3
namespace Go.Proofs.YtkiidmdgdjphjaaGreat
/-! ### DrawR -/
section
open Go.RowKit Go.Sort

structure DnInv (w wr : World) (g n c : Nat) (A : Option Addr) (v : Value) (l : List Dd) (p : Nat) : Prop where
  own : COwns wr w.heap.size v l
  rd : Rd wr g A n c p
  grown : w.grownBy wr (some g)
theorem DnInv.pick {w wr w' : World} {g n c p q : Nat} {A : Option Addr} {v : Value} {l : List Dd} (I : DnInv w wr g n c A v l p) (hg : g < w.heap.size) (hr : Rd w' g A n c q) (h : wr.grownBy w' (some g)) : DnInv w w' g n c A v l q :=
  ⟨I.own.grown h (by cases hv : v.ownBlock with | none => exact .inl rfl | some k => exact .inr (fun e => by have := (I.own.lt k hv).1; injection e with e; omega)), hr, grown_trans I.grown h⟩
set_option maxRecDepth 100000 in
set_option maxHeartbeats 3200000 in
theorem deeds_any (g n c p : Nat) (A : Option Addr) (ps : List Sp) (v : Value) (w : World) (hr : Rd w g A n c p) (hs : ∀ w', w.grownBy w' (some g) → Reads w' w'.heap.size v ps) (hl : ps.length ≤ 100000) (hp : p ≤ 80000) :
    Calls Tryz.prog 31 #[.pointer (some ⟨g, 0, none⟩), v] w fun e w' => ∃ u l q, e = .returned u ∧ DnInv w w' g n c A u l q ∧ l.length ≤ 5 := by
  have hg := hr.lt
  have I0 : DnInv w (w.alloc (.cells #[] 28)) g n c A (.slice (some ⟨w.heap.size, 0, none⟩) 0 0) [] p :=
    ⟨COwns.empty w w.heap.size (Nat.le_refl _), hr.al _, World.grownBy_alloc _ _ _⟩
  go_enter Tryz.func31, Tryz.ntmps31
  go_wp2_with fail
  refine (pick_any g n c p A 6 _ I0.rd (by omega) (by omega) (by omega)).mono ?_
  rintro e w2 ⟨z2, rfl, z2a, z2b, r2, g2⟩
  have I := I0.pick hg r2 g2
  clear I0 r2 g2 hr
  obtain ⟨m, rfl⟩ := Int.eq_ofNat_of_zero_le z2a
  go_wp2
  go_loopw [5, 6] (fun o k wr => ∃ (j : Nat) (l : List Dd) (q : Nat), k = .int .i64 (j : Int) ∧ j ≤ 5 ∧ DnInv w wr g n c A o l q ∧ l.length + j ≤ 5 ∧ q + 8 * j ≤ p + 60) (fun _ k _ => (intOf k).toNat)
  case atStart => exact ⟨m, [], _, rfl, by omega, I, by simp; omega, by omega⟩
  case round =>
    clear I
    obtain ⟨j, l, q, rfl, hj, I, hl5, hq⟩ := hrel
    by_cases hj0 : 0 < j
    · have hd : decide (0 < j) = true := decide_eq_true hj0
      go_wp2_with fail
      refine (deed_any g n c q A ps v wr I.rd (fun w' h => hs w' (grown_trans I.grown h)) hl (by omega)).mono ?_
      rintro e w6 ⟨kd, x, y, q6, rfl, r6, hq6, g6⟩
      have I := I.pick hg r6 g6
      clear r6 g6
      have ba : Below w6.heap.size w6 (w6.alloc (.cells #[.int .i64 kd, .int .i64 x, .int .i64 y] 28)) := (Below.refl _ _).alloc (Nat.le_refl _) _
      have o2 := I.own.below ba
      have r2 := I.rd.below ba
      have gg := grown_below I.grown ba
      have hsz := I.grown.size
      go_wp2_with (at_builtin; refine wpList_append_cents (m := [((kd, x), y)]) o2 (CReads.one (g := w6.heap.size) (by simp [go_sem]) (by simp [go_sem]) (by simp [go_sem])) (by simp only [List.length_cons, List.length_nil]; omega) (by simp only [World.size_alloc]; omega) rfl (.tmp 14) (.tmp 18) rfl rfl rfl ?_)
      intro v7 w7 o7 g7 hv7
      have J : DnInv w w7 g n c A v7 (l ++ [((kd, x), y)]) q6 :=
        ⟨o7, r2.app g7 (fun k hk => by have := (o2.lt k hk).1; omega), grown_app gg g7 (fun k hk => (o2.lt k hk).1)⟩
      go_wp2
      go_roundw
      case rel => exact ⟨j - 1, _, _, by go_num, by omega, J, by simp; omega, by omega⟩
      case measure => simp [intOf]; omega
    · have hd : decide (0 < j) = false := decide_eq_false hj0
      obtain ⟨A4, c4, rfl, _, _⟩ := I.own.reads.slice
      go_wp2
      go_ret
      exact ⟨_, l, _, rfl, I, by omega⟩
/-- 'make([]Deed, n)' in a region that draws its order -/
theorem step_make_deeds {w : World} {ops : Array Oper} {o : Oper} {a : Act} {K : Act → World → Prop} {Q : Exit → Act → World → Prop} {E : Prop}
    (n : Nat) (hn : n ≤ 5000000000000) (hgd : o.guard = none) (l c : Operand) (hop : o.op = Op.makeSlice 38 l c) (hl : a.eval l = .int .i64 (n : Int)) (hc : a.eval c = .int .i64 (n : Int))
    (hK : ∀ w', COwns w' w.heap.size (.slice (some ⟨w.heap.size, 0, none⟩) n n) (List.replicate n ((0, 0), 0)) → w.grownBy w' none → K (a.put o.dst (.slice (some ⟨w.heap.size, 0, none⟩) n n)) w') :
    if Region.wanted o (yielded ops a.tmps) = true then Oper.wp Tryz.prog o a w K Q else E := by
  have hw : Region.wanted o (yielded ops a.tmps) = true := by simp [Region.wanted, hgd]
  rw [if_pos hw]
  obtain ⟨i0, hi, hz0, hz1, hz2⟩ := info_parts centInfo
  obtain ⟨w', hrun, r1, r2⟩ := run_make_full (P := Tryz.prog) w w.heap.size 38 28 i0 _ 3 Tryz.underlying38 hi hz0 hz1 .i64 .i64 n (by rw [hz2]; omega) (by simp only [maxLen]; omega) (Nat.le_refl _)
  unfold Oper.wp
  simp [execOp, hop, hl, hc, hrun, Result.andThen]
  refine hK w' ?_ r2
  unfold COwns
  rw [List.length_replicate, ← flatC_replicate]
  exact r1
end
/-! ### DrawRun -/
section
open Go.RowKit Go.Sort

theorem make41 (w : World) : ∃ w', (Instr.makeSlice 38 (.int .i64 41) (.int .i64 41)).run Tryz.prog w = .ok (.slice (some ⟨w.heap.size, 0, none⟩) 41 41) w' ∧ COwns w' w.heap.size (.slice (some ⟨w.heap.size, 0, none⟩) 41 41) (List.replicate 41 ((0, 0), 0)) ∧ w.grownBy w' none := by
  obtain ⟨i0, hi, hz0, hz1, hz2⟩ := info_parts centInfo
  obtain ⟨w', hrun, r1, r2⟩ := run_make_full (P := Tryz.prog) w w.heap.size 38 28 i0 _ 3 Tryz.underlying38 hi hz0 hz1 .i64 .i64 41 (by rw [hz2]; omega) (by simp only [maxLen]; omega) (Nat.le_refl _)
  refine ⟨w', hrun, ?_, r2⟩
  unfold COwns
  rw [List.length_replicate, ← flatC_replicate]
  exact r1
theorem COwns.set2 {w : World} {base G : Nat} {v : Value} {l : List Dd} (h : COwns w base v l) (hk : G < base) (a b : Value) : COwns ((w.setCell ⟨G, 0, none⟩ a).setCell ⟨G, 1, none⟩ b) base v l := by
  have hne : v.ownBlock = none ∨ v.ownBlock ≠ some G := by
    cases hv : v.ownBlock with
    | none => exact .inl rfl
    | some k => exact .inr (fun e => by injection e with e; have := (h.lt k hv).1; omega)
  exact (h.grown (grown_set w G 0 a) hne).grown (grown_set _ G 1 b) hne
set_option maxRecDepth 100000 in
set_option maxHeartbeats 6400000 in
theorem drawRun_any (A : Option Addr) (n c : Nat) (w : World) (hb : Bytes w w.heap.size A n) (hn : n ≤ c) (hc : c ≤ 9223372036854775807) :
    Calls Tryz.prog 12 #[.slice A n c] w fun e w' => ∃ v d lo hi u l, e = .returned (.tuple #[v, u]) ∧ DeskO w' lo hi v d ∧ CReads w' w'.heap.size u l ∧ l.length ≤ 41 ∧ Below w.heap.size w w' := by
  obtain ⟨W, hW⟩ : ∃ W, W = w.alloc (.cells #[.slice none 0 0, .slice none 0 0] 26) := ⟨_, rfl⟩
  have bx : Below w.heap.size w W := by rw [hW]; exact box_below _ _ _
  have sx : w.heap.size < W.heap.size := by rw [hW]; simp
  have rA : W.heap[w.heap.size]? = some (.cells #[.slice none 0 0, .slice none 0 0] 26 (0, 0)) := by rw [hW]; exact heap_alloc_new w _
  have hbW : Bytes W W.heap.size A n := (hb.below bx).more (by omega)
  go_enter Tryz.func12, Tryz.ntmps12
  go_wp2_with (first | (rw [← hW]; clear hW) | fail)
  refine (open_any A n c _ hbW hn hc).mono ?_
  rintro e w1 ⟨n', rfl, r1, b1⟩
  go_wp2_with fail
  refine (desk_any _ n' c 0 A 12 _ r1 (by omega) (by omega) (by omega)).mono ?_
  rintro e w2 ⟨v, d, q, lo, hi, rfl, D, r2, hq, g2⟩
  have bW : Below W.heap.size W w2 := Below.of_grown b1 g2 (Nat.le_refl _)
  have s1 : W.heap.size < w1.heap.size := r1.lt
  have s2 := bW.size
  have hge := D.ge
  have hsum := D.sum
  have oD := D.own.o
  clear D g2 r1 b1 hbW hb
  obtain ⟨n2, p2, e2, rn, rp⟩ := oD.rd
  subst e2
  obtain ⟨An, cn, rfl, _, _⟩ := rn.slice
  obtain ⟨Ap, cp, rfl, _, _⟩ := rp.slice
  clear rn rp
  obtain ⟨W3, hW3⟩ : ∃ W3, W3 = w2.alloc (.cells #[.slice An d.1.length cn, .slice Ap d.2.length cp] 26) := ⟨_, rfl⟩
  have b3 : Below w2.heap.size w2 W3 := by rw [hW3]; exact box_below _ _ _
  have rC : W3.heap[w2.heap.size]? = some (.cells #[.slice An d.1.length cn, .slice Ap d.2.length cp] 26 (0, 0)) := by rw [hW3]; exact heap_alloc_new w2 _
  have sC : w2.heap.size < W3.heap.size := by rw [hW3]; simp
  have r3 := r2.below b3
  go_wp2_with (first | (rw [← hW3]; clear hW3) | fail)
  refine (odd_any _ n' c q A 30 _ r3 (by omega) (by omega) (by omega)).mono ?_
  rintro e w4 ⟨z, q4, rfl, hq4, r4, g4⟩
  have hle : hi ≤ w2.heap.size := oD.fits
  obtain ⟨B, hB⟩ : ∃ B, w2.heap.size = B := ⟨_, rfl⟩
  obtain ⟨g, hg⟩ : ∃ g, W.heap.size = g := ⟨_, rfl⟩
  have b23 := below_step bW b3
  have rA := (b23.block _ (by omega)).trans rA
  have o3 := oD.below b3
  have bF := below_step bx b23
  rw [hB] at rC sC hle s2
  rw [hg] at r4 g4 sx s1 s2
  have rA := (g4.block w.heap.size (by omega) (fun e => by injection e with e; omega)).trans rA
  have rC := (g4.block B sC (fun e => by injection e with e; omega)).trans rC
  have o4 := o3.keptBy (w' := w4) g4.size (fun p h1 _ h3 => g4.block p h3 (fun e => by injection e with e; omega))
  have bF := Below.grown bF g4 (by omega) (fun k e => by injection e with e; omega)
  have sC := Nat.lt_of_lt_of_le sC g4.size
  clear r3 g4 o3 b3 b23 oD r2 bW bx
  have bF := below_step bF (Below.refl w4.heap.size w4).drew
  have rA0 : w4.drew.heap[w.heap.size]? = _ := rA
  have rC0 : w4.drew.heap[B]? = _ := rC
  have r5 := r4.below (Below.refl w4.heap.size w4).drew
  have o5 := o4.below (Below.refl w4.heap.size w4).drew
  have sD : B < w4.drew.heap.size := sC
  obtain ⟨ta0, ta1⟩ := cells_of_row rC0
  have hBw : B ≠ w.heap.size := by omega
  have hwB := Ne.symm hBw
  have hlen : d.1.length ≤ 100000 := by omega
  replace hB := Lib.hid hB
  replace hg := Lib.hid hg
  clear rA rC r4 o4 sC
  cases z with
  | true =>
    obtain ⟨wa, hmk, oa, ga⟩ := make41 w4.drew
    have rA1 := (ga.block w.heap.size (by omega) (fun e => (by cases e))).trans rA0
    have rC1 := (ga.block B sD (fun e => (by cases e))).trans rC0
    have od := o5.keptBy (w' := wa) ga.size (fun p h1 _ h3 => ga.block p h3 (fun e => (by cases e)))
    have ba := Below.grown bF ga (by omega) (fun k e => (by cases e))
    have tb0 := (cells_of_row rC1).1
    have tb1 := (cells_of_row rC1).2
    have a0 := (cells_of_row rA1).1
    have a1 := (cells_of_row rA1).2
    have fa0 := frozen_of_row wa _ 0 _ _ rA1
    have fa1 := frozen_of_row wa _ 1 _ _ rA1
    have rA2 : w4.heap[w.heap.size]? = _ := rA0
    have c0 := (cells_of_row rA2).1
    have c1 := (cells_of_row rA2).2
    have fc0 := frozen_of_row w4 _ 0 _ _ rA2
    have fc1 := frozen_of_row w4 _ 1 _ _ rA2
    obtain ⟨wb, hmk2, ob, gb⟩ := make41 ((w4.setCell ⟨w.heap.size, 0, none⟩ (.slice An d.1.length cn)).setCell ⟨w.heap.size, 1, none⟩ (.slice Ap d.2.length cp)).drew
    have oF0 : DeskO ((w4.setCell ⟨w.heap.size, 0, none⟩ (.slice An d.1.length cn)).setCell ⟨w.heap.size, 1, none⟩ (.slice Ap d.2.length cp)).drew lo hi (.agg #[.slice An d.1.length cn, .slice Ap d.2.length cp]) d := o5.keptBy (by simp [World.setCell]) (fun q h1 _ _ => set2_other (w := w4) (by omega))
    have odb := oF0.keptBy (w' := wb) gb.size (fun p h1 _ h3 => gb.block p h3 (fun e => (by cases e)))
    have bF0 : Below w.heap.size w ((w4.setCell ⟨w.heap.size, 0, none⟩ (.slice An d.1.length cn)).setCell ⟨w.heap.size, 1, none⟩ (.slice Ap d.2.length cp)).drew := (bF.setCell (p := ⟨w.heap.size, 0, none⟩) (Nat.le_refl _) (.slice An d.1.length cn)).setCell (p := ⟨w.heap.size, 1, none⟩) (Nat.le_refl _) (.slice Ap d.2.length cp)
    have bb := Below.grown bF0 gb bF0.size (fun k e => (by cases e))
    have ub : CReads wb wb.heap.size (.slice (some ⟨w4.heap.size, 0, none⟩) 41 41) (List.replicate 41 ((0, 0), 0)) := by
      have h := ob.reads
      simpa [World.setCell] using h
    have rE : wb.heap[w.heap.size]? = some (.cells #[.slice An d.1.length cn, .slice Ap d.2.length cp] 26 (0, 0)) := (gb.block w.heap.size (Nat.lt_of_lt_of_le (show w.heap.size < w4.drew.heap.size by omega) (by simp [World.setCell])) (fun e => (by cases e))).trans ((heap_setCell_same _ w.heap.size 1 _ _ (.slice Ap d.2.length cp) ((heap_setCell_same w4 w.heap.size 0 _ _ (.slice An d.1.length cn) rA2).trans rfl)).trans rfl)
    have e0 := (cells_of_row rE).1
    have e1 := (cells_of_row rE).2
    go_wp2_with fail
    try rw [hB.out]
    go_region
    all_goals
      first
        | (go_wp2
           exact bodyPost_ret (v := .tuple #[.agg #[.slice An d.1.length cn, .slice Ap d.2.length cp], .slice (some ⟨w4.heap.size, 0, none⟩) 41 41]) (by simp [results, Tryz.results12, go_sem, *]) rfl ⟨_, d, lo, hi, _, _, rfl, odb, ub, by rw [List.length_replicate]; exact Nat.le_refl _, bb⟩)
        | (have oF : DeskO ((wa.setCell ⟨w.heap.size, 0, none⟩ (.slice An d.1.length cn)).setCell ⟨w.heap.size, 1, none⟩ (.slice Ap d.2.length cp)) lo hi (.agg #[.slice An d.1.length cn, .slice Ap d.2.length cp]) d := od.keptBy (by simp [World.setCell]) (fun q h1 _ _ => set2_other (by omega))
           have uF := (oa.set2 (G := w.heap.size) (by omega) (.slice An d.1.length cn) (.slice Ap d.2.length cp)).reads
           have bE := (ba.setCell (p := ⟨w.heap.size, 0, none⟩) (Nat.le_refl _) (.slice An d.1.length cn)).setCell (p := ⟨w.heap.size, 1, none⟩) (Nat.le_refl _) (.slice Ap d.2.length cp)
           go_wp2
           exact bodyPost_ret (v := .tuple #[.agg #[.slice An d.1.length cn, .slice Ap d.2.length cp], .slice (some ⟨w4.heap.size, 0, none⟩) 41 41]) (by simp [results, Tryz.results12, go_sem, *]) rfl ⟨_, d, lo, hi, _, _, rfl, oF, uF, by rw [List.length_replicate]; exact Nat.le_refl _, bE⟩)
  | false =>
    have hnow : ∀ w', w4.drew.grownBy w' (some g) → Reads w' w'.heap.size (.slice An d.1.length cn) d.1 := fun w' h => by
      have o := o5.keptBy (w' := w') h.size (fun p h1 _ h3 => h.block p h3 (fun e => by injection e with e; omega))
      obtain ⟨n, p, e, h1, _⟩ := o.rd
      cases e
      exact h1
    go_wp2_with fail
    try rw [hB.out]
    try rw [hg.out]
    go_region_held3 (fun w' => w'.cell? ⟨B, 0, none⟩ = some (.slice An d.1.length cn) ∧ w'.cell? ⟨B, 1, none⟩ = some (.slice Ap d.2.length cp)) (first | (refine ⟨?_, ?_⟩ <;> with_reducible assumption) | go_keep)
      ((go_at_call 31; (with_reducible refine (deeds_any g n' c q4 A d.1 _ w4.drew r5 hnow hlen (by omega)).mono ?_); rintro e wa ⟨u, l, qa, rfl, I, hl5⟩; have ga := I.grown; obtain ⟨Au, cu, rfl, _, _⟩ := I.own.reads.slice; have rA1 := (ga.block w.heap.size (by omega) (fun e => (by injection e with e; omega))).trans rA0; have rC1 := (ga.block B sD (fun e => (by injection e with e; omega))).trans rC0; have oa := o5.keptBy (w' := wa) ga.size (fun p h1 _ h3 => ga.block p h3 (fun e => (by injection e with e; omega))); have ba := Below.grown bF ga (by omega) (fun k e => (by injection e with e; omega)); clear ta0 ta1; have ta0 := (cells_of_row rC1).1; have ta1 := (cells_of_row rC1).2; have a0 := (cells_of_row rA1).1; have a1 := (cells_of_row rA1).2; have fa0 := frozen_of_row wa _ 0 _ _ rA1; have fa1 := frozen_of_row wa _ 1 _ _ rA1))
    all_goals
      have oF : DeskO ((wa.setCell ⟨w.heap.size, 0, none⟩ (.slice An d.1.length cn)).setCell ⟨w.heap.size, 1, none⟩ (.slice Ap d.2.length cp)) lo hi (.agg #[.slice An d.1.length cn, .slice Ap d.2.length cp]) d := oa.keptBy (by simp [World.setCell]) (fun q h1 _ _ => set2_other (by omega))
      have uF := (I.own.set2 (G := w.heap.size) (by omega) (.slice An d.1.length cn) (.slice Ap d.2.length cp)).reads
      have bE := (ba.setCell (p := ⟨w.heap.size, 0, none⟩) (Nat.le_refl _) (.slice An d.1.length cn)).setCell (p := ⟨w.heap.size, 1, none⟩) (Nat.le_refl _) (.slice Ap d.2.length cp)
      go_wp2
      exact bodyPost_ret (v := .tuple #[.agg #[.slice An d.1.length cn, .slice Ap d.2.length cp], .slice Au l.length cu]) (by simp [results, Tryz.results12, go_sem, *]) rfl ⟨_, d, lo, hi, _, _, rfl, oF, uF, by omega, bE⟩
end
end Go.Proofs.YtkiidmdgdjphjaaGreat
