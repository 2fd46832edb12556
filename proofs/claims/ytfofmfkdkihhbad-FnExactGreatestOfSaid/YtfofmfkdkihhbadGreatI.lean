/- Texts of one kind, merged: SortC, GreatI. No conditions but those that stand in each theorem. -/
import Derived.Test.YtfofmfkdkihhbadLayC
import Derived.Test.YtfofmfkdkihhbadGreats
import Derived.Test.YtfofmfkdkihhbadCents
import Derived.Test.YtfofmfkdkihhbadPicWalk
import Derived.Test.YtfofmfkdkihhbadRadJ
namespace Go.Proofs.Ytfofmfkdkihhbad
/-! ### SortC -/
section
open Go.RowKit Go.Sort Go.Shelf

def encC (x : Cn) : List Value := [.int .i64 x.1.1, .int .i64 x.1.2, .int .i64 x.2]
theorem ltOf_gf (a b : Cn) : ltOf gfI a b = decide (GLt a b) := by
  unfold ltOf
  rw [decide_eq_decide]
  exact gfI_neg
theorem swo_gf : SWO (ltOf gfI) where
  irrefl x := by rw [ltOf_gf]; exact decide_eq_false (glt_irrefl x)
  trans x y z h k := by
    rw [ltOf_gf] at *
    exact decide_eq_true (glt_trans (of_decide_eq_true h) (of_decide_eq_true k))
  ntrans x y z h k := by
    rw [ltOf_gf] at *
    have h := of_decide_eq_false h
    have k := of_decide_eq_false k
    refine decide_eq_false fun e => ?_
    rcases glt_total x y with l | l | l
    · exact h l
    · rw [l] at e; exact k e
    · exact k (glt_trans l e)
def coI (a b : Cn) : Int := ordI a.1 b.1
theorem ltOf_co (a b : Cn) : ltOf coI a b = decide (Lt a.1 b.1) := by
  unfold ltOf
  rw [decide_eq_decide]
  exact ordI_neg
theorem swo_co : SWO (ltOf coI) where
  irrefl x := by rw [ltOf_co]; exact decide_eq_false (lt_irrefl x.1)
  trans x y z h k := by
    rw [ltOf_co] at *
    exact decide_eq_true (lt_trans (of_decide_eq_true h) (of_decide_eq_true k))
  ntrans x y z h k := by
    rw [ltOf_co] at *
    have h := of_decide_eq_false h
    have k := of_decide_eq_false k
    refine decide_eq_false fun e => ?_
    rcases lt_total x.1 y.1 with l | l | l
    · exact h l
    · rw [l] at e; exact k e
    · exact k (lt_trans l e)

theorem or_sameC (x y : Int) (b off c : Nat) (w : World) (hx : w.cell? ⟨b, off, none⟩ = some (.int .i64 x)) (hy : w.cell? ⟨b, off + 1, none⟩ = some (.int .i64 y)) :
    Calls Try.prog 82 #[.slice (some ⟨b, off, none⟩) 2 c] w fun e w' => e = .returned (.int .i64 (orI x y)) ∧ w = w' := by
  by_cases h : x = 0
  · subst h
    by_cases k : y = 0
    · subst k
      go_enter Try.func82, Try.ntmps82
      go_wp2
      go_rounds 3
      all_goals (go_ret; exact ⟨by simp [orI], rfl⟩)
    · go_enter Try.func82, Try.ntmps82
      go_wp2
      go_rounds 3
      all_goals (go_ret; exact ⟨by simp [orI], rfl⟩)
  · have e : orI x y = x := if_neg h
    rw [e]
    go_enter Try.func82, Try.ntmps82
    go_wp2
    go_rounds 3
    all_goals (go_ret; exact ⟨by simp, rfl⟩)
theorem grown3C (w : World) (o1 o2 o3 : Obj) : ∃ q os', (((w.alloc o1).alloc o2).alloc o3).drew = grow (w.drewN q) os' :=
  ⟨1, #[o1, o2, o3], by rw [alloc_eq_grow, alloc_eq_grow, alloc_eq_grow, grow_grow, grow_grow, drew_grow]; rfl⟩
theorem rowOrderC_lays (x y : Sp) (w : World) : Calls Try.prog 76 #[.agg #[.int .i64 x.1, .int .i64 x.2], .agg #[.int .i64 y.1, .int .i64 y.2]] w fun e w' => e = .returned (.int .i64 (ordI x y)) ∧ ∃ q os', w' = grow (w.drewN q) os' := by
  obtain ⟨x, y'⟩ := x
  obtain ⟨u, v⟩ := y
  go_enter Try.func76, Try.ntmps76
  go_wp2
  go_region_held3 (fun w' => w'.cell? ⟨w.heap.size, 0, none⟩ = some (.int .i64 x) ∧ w'.cell? ⟨w.heap.size, 1, none⟩ = some (.int .i64 y') ∧ w'.cell? ⟨w.heap.size + 1, 0, none⟩ = some (.int .i64 u) ∧ w'.cell? ⟨w.heap.size + 1, 1, none⟩ = some (.int .i64 v)) (first | (simp [go_sem, World.cell?_alloc_past]; done) | exact ⟨by assumption, by assumption, by assumption, by assumption⟩)
    (first
      | (go_at_call 83; refine (compare_same _ _ _).mono ?_; rintro e w' ⟨rfl, rfl⟩)
      | (go_at_call 82; refine (or_sameC (cmpI y' v) (cmpI x u) _ 0 _ _ ?_ ?_).mono ?_; (simp [go_sem]); (simp [go_sem]); rintro e w' ⟨rfl, rfl⟩))
  go_wp2
  go_ret
  exact ⟨rfl, grown3C _ _ _ _⟩
/-- what a comparison of the sort may do: draw, and make new blocks -/
def Lays (w w' : World) : Prop := ∃ q os', w' = grow (w.drewN q) os'
theorem Lays.refl (w : World) : Lays w w := ⟨0, #[], by unfold grow; simp [World.drewN_zero]⟩
theorem Lays.alloc {w w' : World} (h : Lays w w') (o : Obj) : Lays w (w'.alloc o) := by
  obtain ⟨q, os, rfl⟩ := h
  exact ⟨q, os ++ #[o], by rw [alloc_eq_grow, grow_grow]⟩
theorem Lays.drew {w w' : World} (h : Lays w w') : Lays w w'.drew := by
  obtain ⟨q, os, rfl⟩ := h
  exact ⟨q + 1, os, rfl⟩
theorem Lays.trans {a b c : World} (h : Lays a b) (k : Lays b c) : Lays a c := by
  obtain ⟨q, os, rfl⟩ := h
  obtain ⟨q', os', rfl⟩ := k
  exact ⟨q + q', os ++ os', by rw [← World.drewN_drewN, ← grow_grow]; rfl⟩
theorem Lays.below {w w' : World} (h : Lays w w') : Below w.heap.size w w' := by
  obtain ⟨q, os', rfl⟩ := h
  exact ⟨rfl, rfl, rfl, by unfold grow; simp, fun k hk => heap_grow_old _ _ hk⟩
theorem centreOrder_lays (a b : Cn) (w : World) : Calls Try.prog 60 #[.agg #[.int .i64 a.1.1, .int .i64 a.1.2, .int .i64 a.2], .agg #[.int .i64 b.1.1, .int .i64 b.1.2, .int .i64 b.2]] w fun e w' => e = .returned (.int .i64 (coI a b)) ∧ Lays w w' := by
  obtain ⟨⟨x, y⟩, r⟩ := a
  obtain ⟨⟨u, v⟩, s⟩ := b
  have b0 := ((Lays.refl w).alloc (.cells #[.int .i64 x, .int .i64 y, .int .i64 r] 45)).alloc (.cells #[.int .i64 u, .int .i64 v, .int .i64 s] 45)
  obtain ⟨W, hW⟩ : ∃ W, W = (w.alloc (.cells #[.int .i64 x, .int .i64 y, .int .i64 r] 45)).alloc (.cells #[.int .i64 u, .int .i64 v, .int .i64 s] 45) := ⟨_, rfl⟩
  have q0 : W.cell? ⟨w.heap.size, 0, none⟩ = some (.int .i64 x) := by rw [hW]; simp [go_sem, World.cell?_alloc_past]
  have q1 : W.cell? ⟨w.heap.size, 1, none⟩ = some (.int .i64 y) := by rw [hW]; simp [go_sem, World.cell?_alloc_past]
  have q2 : W.cell? ⟨w.heap.size, 2, none⟩ = some (.int .i64 r) := by rw [hW]; simp [go_sem, World.cell?_alloc_past]
  have q3 : W.cell? ⟨w.heap.size + 1, 0, none⟩ = some (.int .i64 u) := by rw [hW]; simp [go_sem]
  have q4 : W.cell? ⟨w.heap.size + 1, 1, none⟩ = some (.int .i64 v) := by rw [hW]; simp [go_sem]
  have q5 : W.cell? ⟨w.heap.size + 1, 2, none⟩ = some (.int .i64 s) := by rw [hW]; simp [go_sem]
  have s0 : w.heap.size < W.heap.size := by rw [hW]; simp; omega
  have s1 : w.heap.size + 1 < W.heap.size := by rw [hW]; simp
  rw [← hW] at b0
  go_enter Try.func60, Try.ntmps60
  go_wp2_with (first | (rw [← hW]; clear hW) | fail)
  refine (rowOrderC_lays (x, y) (u, v) W).mono ?_
  rintro e w1 ⟨rfl, hl⟩
  have hl : Lays W w1 := hl
  go_wp2
  go_ret
  exact ⟨rfl, b0.trans hl⟩
theorem greaterFirst_lays (a b : Cn) (w : World) : Calls Try.prog 55 #[.agg #[.int .i64 a.1.1, .int .i64 a.1.2, .int .i64 a.2], .agg #[.int .i64 b.1.1, .int .i64 b.1.2, .int .i64 b.2]] w fun e w' => e = .returned (.int .i64 (gfI a b)) ∧ Lays w w' := by
  obtain ⟨⟨x, y⟩, r⟩ := a
  obtain ⟨⟨u, v⟩, s⟩ := b
  have b0 := ((Lays.refl w).alloc (.cells #[.int .i64 x, .int .i64 y, .int .i64 r] 45)).alloc (.cells #[.int .i64 u, .int .i64 v, .int .i64 s] 45)
  obtain ⟨W, hW⟩ : ∃ W, W = (w.alloc (.cells #[.int .i64 x, .int .i64 y, .int .i64 r] 45)).alloc (.cells #[.int .i64 u, .int .i64 v, .int .i64 s] 45) := ⟨_, rfl⟩
  have q0 : W.cell? ⟨w.heap.size, 0, none⟩ = some (.int .i64 x) := by rw [hW]; simp [go_sem, World.cell?_alloc_past]
  have q1 : W.cell? ⟨w.heap.size, 1, none⟩ = some (.int .i64 y) := by rw [hW]; simp [go_sem, World.cell?_alloc_past]
  have q2 : W.cell? ⟨w.heap.size, 2, none⟩ = some (.int .i64 r) := by rw [hW]; simp [go_sem, World.cell?_alloc_past]
  have q3 : W.cell? ⟨w.heap.size + 1, 0, none⟩ = some (.int .i64 u) := by rw [hW]; simp [go_sem]
  have q4 : W.cell? ⟨w.heap.size + 1, 1, none⟩ = some (.int .i64 v) := by rw [hW]; simp [go_sem]
  have q5 : W.cell? ⟨w.heap.size + 1, 2, none⟩ = some (.int .i64 s) := by rw [hW]; simp [go_sem]
  have s0 : w.heap.size < W.heap.size := by rw [hW]; simp; omega
  have s1 : w.heap.size + 1 < W.heap.size := by rw [hW]; simp
  rw [← hW] at b0
  have b0 := b0.drew
  have q0 : W.drew.cell? ⟨w.heap.size, 0, none⟩ = some (.int .i64 x) := q0
  have q1 : W.drew.cell? ⟨w.heap.size, 1, none⟩ = some (.int .i64 y) := q1
  have q2 : W.drew.cell? ⟨w.heap.size, 2, none⟩ = some (.int .i64 r) := q2
  have q3 : W.drew.cell? ⟨w.heap.size + 1, 0, none⟩ = some (.int .i64 u) := q3
  have q4 : W.drew.cell? ⟨w.heap.size + 1, 1, none⟩ = some (.int .i64 v) := q4
  have q5 : W.drew.cell? ⟨w.heap.size + 1, 2, none⟩ = some (.int .i64 s) := q5
  have s0 : w.heap.size < W.drew.heap.size := s0
  have s1 : w.heap.size + 1 < W.drew.heap.size := s1
  have HG : gfI ((x, y), r) ((u, v), s) = orI (cmpI s r) (coI ((x, y), r) ((u, v), s)) := rfl
  rw [HG]
  clear HG
  go_enter Try.func55, Try.ntmps55
  go_wp2_with (first | (rw [← hW]; clear hW) | fail)
  go_region_held3 (fun w' => w'.cell? ⟨w.heap.size, 0, none⟩ = some (.int .i64 x) ∧ w'.cell? ⟨w.heap.size, 1, none⟩ = some (.int .i64 y) ∧ w'.cell? ⟨w.heap.size, 2, none⟩ = some (.int .i64 r) ∧ w'.cell? ⟨w.heap.size + 1, 0, none⟩ = some (.int .i64 u) ∧ w'.cell? ⟨w.heap.size + 1, 1, none⟩ = some (.int .i64 v) ∧ w'.cell? ⟨w.heap.size + 1, 2, none⟩ = some (.int .i64 s)) (first | (refine ⟨?_, ?_, ?_, ?_, ?_, ?_⟩ <;> with_reducible assumption) | (refine ⟨?_, ?_, ?_, ?_, ?_, ?_⟩ <;> (refine Lib.cell?_alloc_some _ ?_; with_reducible assumption)))
    (first
      | (go_at_call 83; refine (compare_same _ _ _).mono ?_; rintro e w' ⟨rfl, rfl⟩)
      | (go_at_call 60; refine (centreOrder_lays ((x, y), r) ((u, v), s) _).mono ?_; rintro e w2 ⟨rfl, l2⟩; have h2 := l2.below; have q0 := (h2.cell (p := ⟨w.heap.size, 0, none⟩) s0).trans q0; have q1 := (h2.cell (p := ⟨w.heap.size, 1, none⟩) s0).trans q1; have q2 := (h2.cell (p := ⟨w.heap.size, 2, none⟩) s0).trans q2; have q3 := (h2.cell (p := ⟨w.heap.size + 1, 0, none⟩) s1).trans q3; have q4 := (h2.cell (p := ⟨w.heap.size + 1, 1, none⟩) s1).trans q4; have q5 := (h2.cell (p := ⟨w.heap.size + 1, 2, none⟩) s1).trans q5)
      | (go_at_call 82; refine (or_sameC (cmpI s r) (coI ((x, y), r) ((u, v), s)) _ 0 _ _ ?_ ?_).mono ?_; (simp [go_sem]); (simp [go_sem]); rintro e w' ⟨rfl, rfl⟩; have q0 := Lib.cell?_alloc_some (.cells #[.int .i64 (cmpI s r), .int .i64 (coI ((x, y), r) ((u, v), s))] 3) q0; have q1 := Lib.cell?_alloc_some (.cells #[.int .i64 (cmpI s r), .int .i64 (coI ((x, y), r) ((u, v), s))] 3) q1; have q2 := Lib.cell?_alloc_some (.cells #[.int .i64 (cmpI s r), .int .i64 (coI ((x, y), r) ((u, v), s))] 3) q2; have q3 := Lib.cell?_alloc_some (.cells #[.int .i64 (cmpI s r), .int .i64 (coI ((x, y), r) ((u, v), s))] 3) q3; have q4 := Lib.cell?_alloc_some (.cells #[.int .i64 (cmpI s r), .int .i64 (coI ((x, y), r) ((u, v), s))] 3) q4; have q5 := Lib.cell?_alloc_some (.cells #[.int .i64 (cmpI s r), .int .i64 (coI ((x, y), r) ((u, v), s))] 3) q5))
  all_goals
    go_wp2
    go_ret
    exact ⟨rfl, (b0.trans l2).alloc _⟩

theorem flatK_atC (l : List Cn) : (flatK encC 3 l.toArray).toList = flatC l := by
  apply List.ext_getElem?
  intro j
  by_cases hj : j < l.length * 3
  · obtain ⟨⟨⟨x, y⟩, r⟩, hxy⟩ : ∃ a, l[j / 3]? = some a := ⟨_, List.getElem?_eq_getElem (by omega)⟩
    have hl : (flatK encC 3 l.toArray).toList[j]? = some ((flatK encC 3 l.toArray)[j]!) := by
      rw [Array.getElem?_toList, getElem!_pos _ _ (by simpa using hj), Array.getElem?_eq_getElem (by simpa using hj)]
    have he : l.toArray[j / 3]! = ((x, y), r) := by
      have hjl : j / 3 < l.length := by omega
      rw [getElem!_pos _ _ (by simpa using hjl)]
      rw [List.getElem?_eq_getElem hjl] at hxy
      simpa using hxy
    rw [hl, get_flatK encC 3 l.toArray j (by simpa using hj), he]
    obtain ⟨f0, f1, f2⟩ := flatC_at hxy
    have hm : j % 3 = 0 ∨ j % 3 = 1 ∨ j % 3 = 2 := by omega
    rcases hm with e | e | e
    · rw [show j / 3 * 3 = j by omega] at f0
      rw [e, f0]; rfl
    · rw [show j / 3 * 3 + 1 = j by omega] at f1
      rw [e, f1]; rfl
    · rw [show j / 3 * 3 + 2 = j by omega] at f2
      rw [e, f2]; rfl
  · rw [List.getElem?_eq_none (by simp; omega), List.getElem?_eq_none (by rw [flatC_length]; omega)]
theorem take_putCells3 (cur : Array Value) (l : List Cn) (h : l.length * 3 ≤ cur.size) : (putCells id 0 (flatK encC 3 l.toArray) cur).toList.take (l.length * 3) = flatC l := by
  rw [← flatK_atC]
  apply List.ext_getElem?
  intro j
  by_cases hj : j < l.length * 3
  · rw [List.getElem?_take_of_lt hj, Array.getElem?_toList, Array.getElem?_toList]
    simp [putCells, hj, show j < cur.size by omega]
  · rw [List.getElem?_take_eq_none (by omega), List.getElem?_eq_none (by simp; omega)]
theorem holdsC_of_own {w : World} {base g n cap : Nat} {l : List Cn} (h : COwns w base (.slice (some ⟨g, 0, none⟩) n cap) l) : HoldsK encC 3 w g 0 l.toArray := by
  intro j hj
  have hj' : j < l.length * 3 := by simpa using hj
  refine ⟨?_, by rw [Nat.zero_add]; exact h.free j⟩
  have hn := h.len
  subst hn
  rw [Nat.zero_add, World.ownsRow.cellAt h j hj', ← flatK_atC, Array.getElem?_toList, Array.getElem?_eq_getElem hj, getElem!_pos (flatK encC 3 l.toArray) j hj]
  rfl
theorem sortedC_own {w : World} {base g cap k : Nat} {l l' : List Cn} {os : Array Obj} (h : COwns w base (.slice (some ⟨g, 0, none⟩) l.length cap) l) (hl : l'.length = l.length) (hbase : base ≤ w.heap.size) :
    COwns (sortWorldK encC 3 w g 0 k l'.toArray os) base (.slice (some ⟨g, 0, none⟩) l.length cap) l' ∧ Below base w (sortWorldK encC 3 w g 0 k l'.toArray os) := by
  have hlo := h.lt g rfl
  rcases h.2 with ⟨h', _⟩ | ⟨g', cap', cur, h', hb, hg, hnc, hcm, hcs, htake⟩
  · cases h'
  · cases h'
    have hh : (sortWorldK encC 3 w g 0 k l'.toArray os).heap[g]? = some (.cells (putCells id 0 (flatK encC 3 l'.toArray) cur) 45 (0, 0)) := by
      unfold sortWorldK
      rw [heap_grow_old _ _ (by unfold putRowK putRow mapBlock Sort.ahead; simpa using hlo.2)]
      simp [putRowK, putRow, mapBlock, Sort.ahead, Array.getElem?_modify, hg, onCells]
    refine ⟨⟨by rw [flatC_length], .inr ⟨g, cap, _, by rw [hl], hb, hh, by omega, hcm, by simp [putCells, hcs], take_putCells3 cur l' (by rw [hcs, hl]; exact Nat.mul_le_mul_right 3 hnc)⟩⟩, ?_⟩
    have hgr : w.grownBy (sortWorldK encC 3 w g 0 k l'.toArray os) (some g) := by
      refine ⟨rfl, rfl, rfl, by simp [sortWorldK, putRowK], fun j hj hne => ?_⟩
      unfold sortWorldK
      rw [heap_grow_old _ _ (by unfold putRowK putRow mapBlock Sort.ahead; simpa using hj)]
      have : g ≠ j := fun e => hne (by rw [e])
      simp [putRowK, putRow, mapBlock, Sort.ahead, Array.getElem?_modify, this]
    exact (Below.refl _ _).grown hgr hbase fun j hj => by cases hj; exact hb
def SortPost (cf : Cn → Cn → Int) (base : Nat) (v : Value) (l : List Cn) (w : World) (e : Ending) (w' : World) : Prop :=
  e = .returned (.tuple #[]) ∧ ∃ l' : List Cn, l'.Perm l ∧ (l'.Pairwise fun a b => ltOf cf b a = false) ∧ COwns w' base v l' ∧ Below base w w'
theorem sortC_some (cf : Cn → Cn → Int) (hO : SWO (ltOf cf)) (F : FuncId) (eF : ∀ args w, (callFunc F args).run Try.prog w = .ok (.enter F args) w)
    (hF : ∀ a b w, Calls Try.prog F #[.agg #[.int .i64 a.1.1, .int .i64 a.1.2, .int .i64 a.2], .agg #[.int .i64 b.1.1, .int .i64 b.1.2, .int .i64 b.2]] w fun e w' => e = .returned (.int .i64 (cf a b)) ∧ Lays w w')
    (g cap base : Nat) (l : List Cn) (w : World) (h : COwns w base (.slice (some ⟨g, 0, none⟩) l.length cap) l) (hbase : base ≤ w.heap.size) (hl : l.length ≤ 1000000) :
    Calls Try.prog 54 #[.slice (some ⟨g, 0, none⟩) l.length cap, .func (.func F) #[] #[]] w (SortPost cf base (.slice (some ⟨g, 0, none⟩) l.length cap) l w) := by
  have hc := AnyQ.slices_SortFunc sortC 3 Try.isAgg45 Try.sizeOf45 encC (fun _ => rfl) (fun x v hv => by simp [encC] at hv; rcases hv with rfl | rfl | rfl <;> rfl) cf hO F #[] g 0 cap l.toArray w eF
    (fun m os dk _ x y => hF x y _) (holdsC_of_own h) (h.lt g rfl).2 (by simp; omega)
  refine hc.mono ?_
  rintro e w' ⟨rfl, d', n, os, hp, hs, rfl⟩
  have e1 : d'.extract 0 l.toArray.size = d' := by rw [← hp.1]; exact Array.extract_size
  have hperm := hp.2.2
  rw [e1, Array.extract_size] at hperm
  have hperm : d'.toList.Perm l := hperm
  have hlen : d'.toList.length = l.length := hperm.length_eq
  have e2 : d' = d'.toList.toArray := by simp
  rw [e2]
  obtain ⟨h1, h2⟩ := sortedC_own (k := n) (os := os) h hlen hbase
  refine ⟨rfl, d'.toList, hperm, ?_, h1, h2⟩
  rw [List.pairwise_iff_getElem]
  intro i j hi hj hij
  have hi' : i < d'.size := by simpa using hi
  have hj' : j < d'.size := by simpa using hj
  have := hs i j (Nat.zero_le _) hij (by simp; omega)
  rw [getElem!_pos d' j hj', getElem!_pos d' i hi'] at this
  simpa using this
/-- a slice of the call's own, nil too -/
theorem sortC_any (cf : Cn → Cn → Int) (hO : SWO (ltOf cf)) (F : FuncId) (eF : ∀ args w, (callFunc F args).run Try.prog w = .ok (.enter F args) w)
    (hF : ∀ a b w, Calls Try.prog F #[.agg #[.int .i64 a.1.1, .int .i64 a.1.2, .int .i64 a.2], .agg #[.int .i64 b.1.1, .int .i64 b.1.2, .int .i64 b.2]] w fun e w' => e = .returned (.int .i64 (cf a b)) ∧ Lays w w')
    (v : Value) (base : Nat) (l : List Cn) (w : World) (h : COwns w base v l) (hbase : base ≤ w.heap.size) (hl : l.length ≤ 1000000) :
    Calls Try.prog 54 #[v, .func (.func F) #[] #[]] w (SortPost cf base v l w) := by
  rcases h.2 with ⟨rfl, h0⟩ | ⟨g, cap, cur, rfl, _⟩
  · have hn := AnyF.slices_SortFunc_none sortC none 0 (.func (.func F) #[] #[]) w
    refine hn.mono ?_
    rintro e w' ⟨rfl, rfl⟩
    obtain rfl := List.eq_nil_of_length_eq_zero h0
    exact ⟨rfl, [], .refl _, .nil, h, Below.refl _ _⟩
  · exact sortC_some cf hO F eF hF g cap base l w h hbase hl
theorem eg_co : ∀ args w, (callFunc 60 args).run Try.prog w = .ok (.enter 60 args) w := enters_of Try.func60 (by kernel_rfl) rfl
theorem eg_gf : ∀ args w, (callFunc 55 args).run Try.prog w = .ok (.enter 55 args) w := enters_of Try.func55 (by kernel_rfl) rfl
theorem sortGreater_any (v : Value) (base : Nat) (l : List Cn) (w : World) (h : COwns w base v l) (hbase : base ≤ w.heap.size) (hl : l.length ≤ 1000000) :
    Calls Try.prog 54 #[v, .func (.func 55) #[] #[]] w (SortPost gfI base v l w) := sortC_any gfI swo_gf _ eg_gf greaterFirst_lays v base l w h hbase hl
theorem sortOrder_any (v : Value) (base : Nat) (l : List Cn) (w : World) (h : COwns w base v l) (hbase : base ≤ w.heap.size) (hl : l.length ≤ 1000000) :
    Calls Try.prog 54 #[v, .func (.func 60) #[] #[]] w (SortPost coI base v l w) := sortC_any coI swo_co _ eg_co centreOrder_lays v base l w h hbase hl
end
/-! ### GreatI -/
section
open Go.RowKit Go.Sort

/-- the rule: whether the one ball is within the other -/
theorem ruleOne_any (Tb Cb : Nat) (x y r u v s way : Int) (w : World) (hw : wayOk way = true) (hc : CentIn ((x, y), r)) (hd : CentIn ((u, v), s))
    (hT : Tb < w.heap.size) (hC : Cb < w.heap.size) (cT : w.cell? ⟨Tb, 0, none⟩ = some (.func (.func (tellF way)) #[] #[])) (c0 : w.cell? ⟨Cb, 0, none⟩ = some (.int .i64 x)) (c1 : w.cell? ⟨Cb, 1, none⟩ = some (.int .i64 y)) (c2 : w.cell? ⟨Cb, 2, none⟩ = some (.int .i64 r)) {b : Bool} (hb : ruleIn way ((x, y), r) ((u, v), s) = b) :
    Calls Try.prog 85 #[.agg #[.int .i64 u, .int .i64 v, .int .i64 s], .pointer (some ⟨Tb, 0, none⟩), .pointer (some ⟨Cb, 0, none⟩)] w (Gives (.bool b) w) := by
  subst hb
  have b0 := box_below w #[.int .i64 u, .int .i64 v, .int .i64 s] 45
  have z0 : (w.alloc (.cells #[.int .i64 u, .int .i64 v, .int .i64 s] 45)).cell? ⟨w.heap.size, 0, none⟩ = some (.int .i64 u) := by simp [go_sem]
  have z1 : (w.alloc (.cells #[.int .i64 u, .int .i64 v, .int .i64 s] 45)).cell? ⟨w.heap.size, 1, none⟩ = some (.int .i64 v) := by simp [go_sem]
  have z2 : (w.alloc (.cells #[.int .i64 u, .int .i64 v, .int .i64 s] 45)).cell? ⟨w.heap.size, 2, none⟩ = some (.int .i64 s) := by simp [go_sem]
  have f0 := cell_regrown ((b0.cell (p := ⟨Tb, 0, none⟩) hT).trans cT)
  have f1 := cell_regrown ((b0.cell (p := ⟨Cb, 0, none⟩) hC).trans c0)
  have f2 := cell_regrown ((b0.cell (p := ⟨Cb, 1, none⟩) hC).trans c1)
  have f3 := cell_regrown ((b0.cell (p := ⟨Cb, 2, none⟩) hC).trans c2)
  have f4 := cell_regrown z0
  have f5 := cell_regrown z1
  have f6 := cell_regrown z2
  have i1 := hc.inr
  have i2 := hd.inr
  unfold InR at i1 i2
  have i3 := hc.lo
  have i4 := hc.hi
  have i5 := hd.lo
  have i6 := hd.hi
  simp only at i1 i2 i3 i4 i5 i6
  have cc := Lib.hid (fun w1 => between_any x y u v way w1 hw (by omega) (by omega))
  have e : ruleIn way ((x, y), r) ((u, v), s) = decide (farI (x, y) (u, v) way ≤ s - r) := rfl
  rw [e]
  clear e
  have hwx : IntKind.i64.wrap (s - r) = s - r := IntWalk.i64_in _ (by omega)
  generalize farI (x, y) (u, v) way = d at *
  clear cT c0 c1 c2 z0 z1 z2 hw hc hd i1 i2
  go_enter Try.func85, Try.ntmps85
  go_wp2
  refine wp_region_quiet_below (by kernel_rfl) (by kernel_rfl) ?_
  repeat (go_big_quiet_step (first | (go_at_call 52; with_reducible exact gives_regrown (fun w1 _ => cc.out w1) _ _)))
  refine wpQuiet_nil ?_
  intro _ hw'
  obtain ⟨⟨dq, osq⟩, hw''⟩ := hw'
  subst hw''
  go_wp2
  go_ret
  exact ⟨rfl, b0.trans ((below_regrown _ _ _).mono (by simp))⟩
def NoneCUpto (way : Int) (L : List Cn) (c : Cn) (k : Nat) : Prop := ∀ j d, j < k → L[j]? = some d → ruleIn way c d = false
theorem NoneCUpto.next {way : Int} {L : List Cn} {c d : Cn} {k : Nat} (h : NoneCUpto way L c k) (hd : L[k]? = some d) (hr : ruleIn way c d = false) : NoneCUpto way L c (k + 1) := fun j e hj he => by
  by_cases ej : j = k
  · subst ej; rw [hd] at he; cases he; exact hr
  · exact h j e (by omega) he
theorem noneC_all {way : Int} {L : List Cn} {c : Cn} (h : NoneCUpto way L c L.length) : L.any (ruleIn way c) = false := by
  rw [Bool.eq_false_iff]
  intro ha
  obtain ⟨d, hd, hr⟩ := List.any_eq_true.1 ha
  obtain ⟨j, hj⟩ := List.mem_iff_getElem?.1 hd
  rw [h j d (List.getElem?_eq_some_iff.1 hj).1 hj] at hr; cases hr
theorem anyC_at {way : Int} {L : List Cn} {c d : Cn} {k : Nat} (hd : L[k]? = some d) (hr : ruleIn way c d = true) : L.any (ruleIn way c) = true := List.any_eq_true.2 ⟨d, List.mem_of_getElem? hd, hr⟩
def IdxCPost (b : Bool) (w : World) (e : Ending) (w' : World) : Prop := ∃ i : Int, e = .returned (.int .i64 i) ∧ decide (0 ≤ i) = b ∧ Below w.heap.size w w'
set_option maxHeartbeats 800000 in
theorem ruleIndex_any (L : List Cn) (vL : Value) (Tb Cb : Nat) (x y r way : Int) (w : World) (k : CReads w w.heap.size vL L) (hw : wayOk way = true) (hc : CentIn ((x, y), r)) (hL : ∀ c ∈ L, CentIn c)
    (hT : Tb < w.heap.size) (hC : Cb < w.heap.size) (cT : w.cell? ⟨Tb, 0, none⟩ = some (.func (.func (tellF way)) #[] #[])) (c0 : w.cell? ⟨Cb, 0, none⟩ = some (.int .i64 x)) (c1 : w.cell? ⟨Cb, 1, none⟩ = some (.int .i64 y)) (c2 : w.cell? ⟨Cb, 2, none⟩ = some (.int .i64 r)) :
    Calls Try.prog 84 #[vL, .func (.func 85) #[] #[.pointer (some ⟨Tb, 0, none⟩), .pointer (some ⟨Cb, 0, none⟩)]] w (IdxCPost (L.any (ruleIn way ((x, y), r))) w) := by
  obtain ⟨A, c, rfl, hcl, hm, hA, hr⟩ := k.is
  unfold maxLen at hm
  have b0 := Below.refl w.heap.size w
  have hp0 : NoneCUpto way L ((x, y), r) 0 := fun j d hj => by omega
  go_enter Try.func84, Try.ntmps84
  go_wp2
  by_cases h0 : L.length = 0
  · obtain rfl := List.eq_nil_of_length_eq_zero h0
    refine wp_loop_rounds 1 ?_
    rw [rounds_succ]
    go_wp2
    go_ret
    exact ⟨_, rfl, by rw [List.any_nil]; rfl, b0⟩
  · obtain ⟨b, off, rfl, hb, hcell⟩ := hr (by omega)
    go_loopw [8] (fun i wr => ∃ j : Nat, j ≤ L.length ∧ i = .int .i64 j ∧ NoneCUpto way L ((x, y), r) j ∧ Below w.heap.size w wr) (fun i _ => L.length - (intOf i).toNat)
    case atStart => exact ⟨0, Nat.zero_le _, rfl, hp0, b0⟩
    case round =>
      obtain ⟨j, hj, rfl, hI, hbw⟩ := hrel
      have HI := Lib.hid hI
      clear hI hp0
      have hbs := hbw.size
      by_cases hlt : j < L.length
      · obtain ⟨⟨⟨u, v⟩, s⟩, hxy⟩ : ∃ a, L[j]? = some a := ⟨_, List.getElem?_eq_getElem hlt⟩
        obtain ⟨a0, a1, a2⟩ := hcell j u v s hxy
        have d0 := (hbw.cell (p := ⟨b, off + j * 3, none⟩) hb).trans a0
        have d1 := (hbw.cell (p := ⟨b, off + j * 3 + 1, none⟩) hb).trans a1
        have d2 := (hbw.cell (p := ⟨b, off + j * 3 + 2, none⟩) hb).trans a2
        have hn := hL _ (List.mem_of_getElem? hxy)
        have hcl := fun (bb : Bool) hb => ruleOne_any Tb Cb x y r u v s way wr hw hc hn (Nat.lt_of_lt_of_le hT hbs) (Nat.lt_of_lt_of_le hC hbs) ((hbw.cell (p := ⟨Tb, 0, none⟩) hT).trans cT) ((hbw.cell (p := ⟨Cb, 0, none⟩) hC).trans c0) ((hbw.cell (p := ⟨Cb, 1, none⟩) hC).trans c1) ((hbw.cell (p := ⟨Cb, 2, none⟩) hC).trans c2) (b := bb) hb
        rcases hin : ruleIn way ((x, y), r) ((u, v), s) with _ | _
        · have HN := Lib.hid (HI.out.next hxy hin)
          have hcl := hcl _ hin
          clear hxy a0 a1 a2 hin cT c0 c1 c2
          go_wp2_with fail
          refine hcl.mono ?_
          rintro e w1 ⟨rfl, b1⟩
          have bw1 := below_step hbw b1
          go_wp2
          go_roundw
          case rel => exact ⟨j + 1, by omega, by go_num, HN.out, bw1⟩
          case measure => simp [intOf]; omega
        · have HN := Lib.hid (anyC_at hxy hin)
          have hcl := hcl _ hin
          clear hxy a0 a1 a2 hin cT c0 c1 c2
          go_wp2_with fail
          refine hcl.mono ?_
          rintro e w1 ⟨rfl, b1⟩
          have bw1 := below_step hbw b1
          go_wp2
          go_ret
          exact ⟨_, rfl, by rw [HN.out]; simp, bw1⟩
      · obtain rfl : j = L.length := by omega
        have HN := Lib.hid (noneC_all HI.out)
        go_wp2
        go_ret
        exact ⟨_, rfl, by rw [HN.out]; rfl, hbw⟩
theorem ruleContains_any (L : List Cn) (vL : Value) (Tb Cb : Nat) (x y r way : Int) (w : World) (k : CReads w w.heap.size vL L) (hw : wayOk way = true) (hc : CentIn ((x, y), r)) (hL : ∀ c ∈ L, CentIn c)
    (hT : Tb < w.heap.size) (hC : Cb < w.heap.size) (cT : w.cell? ⟨Tb, 0, none⟩ = some (.func (.func (tellF way)) #[] #[])) (c0 : w.cell? ⟨Cb, 0, none⟩ = some (.int .i64 x)) (c1 : w.cell? ⟨Cb, 1, none⟩ = some (.int .i64 y)) (c2 : w.cell? ⟨Cb, 2, none⟩ = some (.int .i64 r)) :
    Calls Try.prog 58 #[vL, .func (.func 85) #[] #[.pointer (some ⟨Tb, 0, none⟩), .pointer (some ⟨Cb, 0, none⟩)]] w (Gives (.bool (L.any (ruleIn way ((x, y), r)))) w) := by
  have hcl := ruleIndex_any L vL Tb Cb x y r way w k hw hc hL hT hC cT c0 c1 c2
  obtain ⟨A, c, rfl, _, _⟩ := k.slice
  clear cT c0 c1 c2
  go_enter Try.func58, Try.ntmps58
  go_wp2_with fail
  refine hcl.mono ?_
  rintro e w1 ⟨i, rfl, hi, b1⟩
  have HI := Lib.hid hi
  clear hi
  go_wp2
  go_ret
  exact ⟨ret_bool HI.out, b1⟩
def RuleInPost (x y r way : Int) (w : World) (e : Ending) (w' : World) : Prop := ∃ Tb Cb : Nat, e = .returned (.func (.func 85) #[] #[.pointer (some ⟨Tb, 0, none⟩), .pointer (some ⟨Cb, 0, none⟩)]) ∧ Tb < w'.heap.size ∧ Cb < w'.heap.size ∧ w'.cell? ⟨Tb, 0, none⟩ = some (.func (.func (tellF way)) #[] #[]) ∧ w'.cell? ⟨Cb, 0, none⟩ = some (.int .i64 x) ∧ w'.cell? ⟨Cb, 1, none⟩ = some (.int .i64 y) ∧ w'.cell? ⟨Cb, 2, none⟩ = some (.int .i64 r) ∧ Below w.heap.size w w'
theorem ruleWithin_any (x y r way : Int) (w : World) : Calls Try.prog 59 #[.agg #[.int .i64 x, .int .i64 y, .int .i64 r], .func (.func (tellF way)) #[] #[]] w (RuleInPost x y r way w) := by
  have b0 := box_below w #[.int .i64 x, .int .i64 y, .int .i64 r] 45
  have z0 : (w.alloc (.cells #[.int .i64 x, .int .i64 y, .int .i64 r] 45)).cell? ⟨w.heap.size, 0, none⟩ = some (.int .i64 x) := by simp [go_sem]
  have z1 : (w.alloc (.cells #[.int .i64 x, .int .i64 y, .int .i64 r] 45)).cell? ⟨w.heap.size, 1, none⟩ = some (.int .i64 y) := by simp [go_sem]
  have z2 : (w.alloc (.cells #[.int .i64 x, .int .i64 y, .int .i64 r] 45)).cell? ⟨w.heap.size, 2, none⟩ = some (.int .i64 r) := by simp [go_sem]
  have b1 := b0.alloc (by simp) (.cells #[.func (.func (tellF way)) #[] #[]] 61)
  go_enter Try.func59, Try.ntmps59
  go_wp2
  go_ret
  exact ⟨w.heap.size + 1, w.heap.size, rfl, by simp, by simp; omega, by simp [go_sem], Lib.cell?_alloc_some _ z0, Lib.cell?_alloc_some _ z1, Lib.cell?_alloc_some _ z2, b1⟩
def StepCPost (base : Nat) (l : List Cn) (w : World) (e : Ending) (w' : World) : Prop := ∃ v', e = .returned v' ∧ COwns w' base v' l ∧ Below base w w'
set_option maxHeartbeats 800000 in
theorem keepStep_any (kept : List Cn) (vk : Value) (T0 base : Nat) (x y r way : Int) (w : World) (h : COwns w base vk kept) (hbase : base ≤ w.heap.size) (hl : kept.length ≤ 60) (hw : wayOk way = true) (hc : CentIn ((x, y), r)) (hL : ∀ c ∈ kept, CentIn c)
    (hT : T0 < w.heap.size) (cT : w.cell? ⟨T0, 0, none⟩ = some (.func (.func (tellF way)) #[] #[])) :
    Calls Try.prog 57 #[vk, .agg #[.int .i64 x, .int .i64 y, .int .i64 r], .pointer (some ⟨T0, 0, none⟩)] w (StepCPost base (keepStep way kept ((x, y), r)) w) := by
  obtain ⟨A, c, rfl, hcl, hm⟩ := h.reads.slice
  unfold maxLen at hm
  have b0 := box_below w #[.int .i64 x, .int .i64 y, .int .i64 r] 45
  have z0 : (w.alloc (.cells #[.int .i64 x, .int .i64 y, .int .i64 r] 45)).cell? ⟨w.heap.size, 0, none⟩ = some (.int .i64 x) := by simp [go_sem]
  have z1 : (w.alloc (.cells #[.int .i64 x, .int .i64 y, .int .i64 r] 45)).cell? ⟨w.heap.size, 1, none⟩ = some (.int .i64 y) := by simp [go_sem]
  have z2 : (w.alloc (.cells #[.int .i64 x, .int .i64 y, .int .i64 r] 45)).cell? ⟨w.heap.size, 2, none⟩ = some (.int .i64 r) := by simp [go_sem]
  obtain ⟨W, hW⟩ : ∃ W, W = w.alloc (.cells #[.int .i64 x, .int .i64 y, .int .i64 r] 45) := ⟨_, rfl⟩
  rw [← hW] at b0 z0 z1 z2
  have hWs : w.heap.size < W.heap.size := by rw [hW]; simp
  have ow := h.below b0
  have t0 := (b0.cell (p := ⟨T0, 0, none⟩) hT).trans cT
  clear h cT
  go_enter Try.func57, Try.ntmps57
  go_wp2_with (first | (rw [← hW]; clear hW) | fail)
  refine (ruleWithin_any x y r way W).mono ?_
  rintro e w1 ⟨Tb, Cb, rfl, hTb, hCb, cT, c0, c1, c2, b1⟩
  have ow1 := ow.below b1
  have bb := below_step b0 b1
  have hcon := ruleContains_any kept _ Tb Cb x y r way w1 ow1.reads hw hc hL hTb hCb cT c0 c1 c2
  have y0 := (b1.cell (p := ⟨w.heap.size, 0, none⟩) hWs).trans z0
  have y1 := (b1.cell (p := ⟨w.heap.size, 1, none⟩) hWs).trans z1
  have y2 := (b1.cell (p := ⟨w.heap.size, 2, none⟩) hWs).trans z2
  have hWs1 := Nat.lt_of_lt_of_le hWs b1.size
  clear cT c0 c1 c2 z0 z1 z2 t0 b0 b1
  rcases ha : kept.any (ruleIn way ((x, y), r)) with _ | _
  · have HK := Lib.hid (keepStep_no ha)
    rw [ha] at hcon
    clear ha
    go_wp2_with fail
    refine hcon.mono ?_
    rintro e w2 ⟨rfl, b2⟩
    have y0 := (b2.cell (p := ⟨w.heap.size, 0, none⟩) hWs1).trans y0
    have y1 := (b2.cell (p := ⟨w.heap.size, 1, none⟩) hWs1).trans y1
    have y2 := (b2.cell (p := ⟨w.heap.size, 2, none⟩) hWs1).trans y2
    have ow2 := ow1.below b2
    have bb2 := (below_step bb b2).mono hbase
    have hsz := bb2.size
    have hb2 : base ≤ w2.heap.size := Nat.le_trans hbase hsz
    have o3 := ow2.below (box_below w2 #[.int .i64 x, .int .i64 y, .int .i64 r] 45)
    go_wp2_with (at_builtin; refine wpList_append_cents (m := [((x, y), r)]) o3 (CReads.one (g := w2.heap.size) (by simp [go_sem]) (by simp [go_sem]) (by simp [go_sem])) (by simp only [List.length_cons, List.length_nil]; omega) (by simp only [World.size_alloc]; omega) rfl (.tmp 12) (.tmp 14) rfl rfl rfl ?_)
    intro v4 w4 o4 g4 hv4
    have bw4 := o3.below_app (bb2.alloc hb2 _) (by simp only [World.size_alloc]; omega) g4
    go_wp2
    go_ret
    exact ⟨_, rfl, by rw [HK.out]; exact o4, bw4⟩
  · have HK := Lib.hid (keepStep_yes ha)
    rw [ha] at hcon
    clear ha
    go_wp2_with fail
    refine hcon.mono ?_
    rintro e w2 ⟨rfl, b2⟩
    have ow2 := ow1.below b2
    go_wp2
    go_ret
    exact ⟨_, rfl, by rw [HK.out]; exact ow2, (below_step bb b2).mono hbase⟩
set_option maxHeartbeats 800000 in
theorem foldC_any (L : List Cn) (vL : Value) (T0 : Nat) (way : Int) (w : World) (k : CReads w w.heap.size vL L) (hl : L.length ≤ 60) (hw : wayOk way = true) (hL : ∀ c ∈ L, CentIn c)
    (hT : T0 < w.heap.size) (cT : w.cell? ⟨T0, 0, none⟩ = some (.func (.func (tellF way)) #[] #[])) :
    Calls Try.prog 56 #[vL, .slice none 0 0, .func (.func 57) #[] #[.pointer (some ⟨T0, 0, none⟩)]] w (GivesC (keepL way L) w) := by
  obtain ⟨A, c, rfl, hcl, hm, hA, hr⟩ := k.is
  unfold maxLen at hm
  by_cases h0 : L.length = 0
  · obtain rfl := List.eq_nil_of_length_eq_zero h0
    go_enter Try.func56, Try.ntmps56
    go_wp2
    refine wp_loop_rounds 1 ?_
    rw [rounds_succ]
    go_wp2
    go_ret
    exact ⟨_, rfl, COwns.nil _ _, Below.refl _ _⟩
  · obtain ⟨b, off, rfl, hb, hcell⟩ := hr (by omega)
    go_enter Try.func56, Try.ntmps56
    go_wp2
    go_loopw [7, 13] (fun o i wr => ∃ j : Nat, j ≤ L.length ∧ i = .int .i64 j ∧ COwns wr w.heap.size o (keepL way (L.take j)) ∧ Below w.heap.size w wr) (fun _ i _ => L.length - (intOf i).toNat)
    case atStart => exact ⟨0, Nat.zero_le _, rfl, by rw [keepL_zero]; exact COwns.nil _ _, Below.refl _ _⟩
    case round =>
      obtain ⟨j, hj, rfl, hown, hbw⟩ := hrel
      have hbs := hbw.size
      by_cases hlt : j < L.length
      · obtain ⟨⟨⟨x, y⟩, r⟩, hxy⟩ : ∃ a, L[j]? = some a := ⟨_, List.getElem?_eq_getElem hlt⟩
        obtain ⟨a0, a1, a2⟩ := hcell j x y r hxy
        have d0 := (hbw.cell (p := ⟨b, off + j * 3, none⟩) hb).trans a0
        have d1 := (hbw.cell (p := ⟨b, off + j * 3 + 1, none⟩) hb).trans a1
        have d2 := (hbw.cell (p := ⟨b, off + j * 3 + 2, none⟩) hb).trans a2
        have hn := hL _ (List.mem_of_getElem? hxy)
        have HK := Lib.hid (keepL_succ (way := way) hxy)
        have hlen := keepL_len way L j
        have hmem : ∀ c ∈ keepL way (L.take j), CentIn c := fun c hc => hL c (keepL_mem way L j c hc)
        have bal := box_below wr #[.int .i64 x, .int .i64 y, .int .i64 r] 45
        have bx := hbw.trans (bal.mono hbs)
        have hs := keepStep_any (keepL way (L.take j)) _ T0 w.heap.size x y r way _ (hown.below bal) bx.size (by omega) hw hn hmem (Nat.lt_of_lt_of_le hT bx.size) ((bx.cell (p := ⟨T0, 0, none⟩) hT).trans cT)
        rw [← HK.out] at hs
        clear hxy a0 a1 a2 hmem cT
        go_wp2_with fail
        refine hs.mono ?_
        rintro e w2 ⟨v2, rfl, o2, b2⟩
        have bx2 := bx.trans b2
        go_wp2
        go_roundw
        case rel => exact ⟨j + 1, by omega, by go_num, o2, bx2⟩
        case measure => simp [intOf]; omega
      · obtain rfl : j = L.length := by omega
        rw [List.take_length] at hown
        go_wp2
        go_ret
        exact ⟨_, rfl, hown, hbw⟩
set_option maxHeartbeats 800000 in
theorem implGreatest_any (ps : List Sp) (v : Value) (way : Int) (w : World) (h : Reads w w.heap.size v ps) :
    Calls Try.prog 29 #[v, .int .i64 way] w (GivesC (greatL ps way) w) := by
  obtain ⟨A, c, rfl, hc, hm⟩ := h.slice
  unfold maxLen at hm
  rcases h2 : way2 way with _ | _
  · have HN := Lib.hid (show greatL ps way = [] by unfold greatL; rw [centres_no (by rw [h2, Bool.and_false])]; rfl)
    have hs := summed_no w h2
    clear h2
    go_enter Try.func29, Try.ntmps29
    go_wp2_with fail
    refine hs.mono ?_
    rintro e w1 ⟨rfl, b1⟩
    have b2 := box_below w1 #[.nilFunc] 61
    go_wp2
    go_ret
    exact ⟨_, rfl, by rw [HN.out]; exact COwns.nil _ _, below_step b1 b2⟩
  · have HF := Lib.hid (fun (L K : List Cn) hm hs hK hKs => great_final (p := ps) (L := L) (K := K) h2 hm hs hK hKs)
    have HW := Lib.hid (way2_ok h2)
    have hcl := centres_len ps way
    have hci := centres_in (p := ps) (way := way)
    have hs := summed_yes w h2
    clear h2
    go_enter Try.func29, Try.ntmps29
    go_wp2_with fail
    refine hs.mono ?_
    rintro e w1 ⟨rfl, b1⟩
    have ba := box_below w1 #[.func (.func (tellF way)) #[] #[]] 61
    obtain ⟨W, hW⟩ : ∃ W, W = w1.alloc (.cells #[.func (.func (tellF way)) #[] #[]] 61) := ⟨_, rfl⟩
    have t0 : W.cell? ⟨w1.heap.size, 0, none⟩ = some (.func (.func (tellF way)) #[] #[]) := by rw [hW]; simp [go_sem]
    have s0 : w1.heap.size < W.heap.size := by rw [hW]; simp
    rw [← hW] at ba
    have b2 := below_step b1 ba
    have hce := implCentres_any ps _ way W (h.kept b2)
    obtain ⟨C, hC⟩ : ∃ C, centresL ps way = C := ⟨_, rfl⟩
    rw [hC] at hcl hci hce
    have HC := Lib.hid hC
    clear hC hs
    go_wp2_with (first | (rw [← hW]; clear hW) | fail)
    refine hce.mono ?_
    rintro e w3 ⟨v3, rfl, o3, b3⟩
    have t0 := (b3.cell (p := ⟨w1.heap.size, 0, none⟩) s0).trans t0
    have b23 := below_step b2 b3
    go_wp2_with fail
    refine (sortGreater_any v3 W.heap.size C w3 o3 b3.size (by omega)).mono ?_
    rintro e w4 ⟨rfl, L, hperm, hsorted, o4, b4⟩
    have t0 := (b4.cell (p := ⟨w1.heap.size, 0, none⟩) s0).trans t0
    have b24 := b23.trans (b4.mono b2.size)
    have hll : L.length ≤ 60 := by rw [hperm.length_eq]; exact hcl
    have hin : ∀ c ∈ L, CentIn c := fun c hc => hci c (hperm.mem_iff.1 hc)
    have s4 : w1.heap.size < w4.heap.size := Nat.lt_of_lt_of_le s0 (Nat.le_trans b3.size b4.size)
    have hkl := keepL_len way L L.length
    rw [List.take_length] at hkl
    go_wp2_with fail
    refine (foldC_any L v3 w1.heap.size way w4 o4.reads hll HW.out hin s4 t0).mono ?_
    rintro e w5 ⟨v5, rfl, o5, b5⟩
    have b25 := below_step b24 b5
    go_wp2_with fail
    refine (sortOrder_any v5 w4.heap.size _ w5 o5 b5.size (by omega)).mono ?_
    rintro e w6 ⟨rfl, K, hperm2, hsorted2, o6, b6⟩
    have b26 := b25.trans (b6.mono b24.size)
    have HE := Lib.hid (HF.out L K (by rw [HC.out]; exact hperm) (hsorted.imp fun e => by rw [ltOf_gf] at e; exact of_decide_eq_false e) hperm2 (hsorted2.imp fun e => by rw [ltOf_co] at e; exact of_decide_eq_false e))
    have o6 := o6.base b24.size
    rw [HE.out] at o6
    clear hsorted hsorted2 hperm hperm2 hin hci
    go_wp2
    go_ret
    exact ⟨_, rfl, o6, b26⟩
end
end Go.Proofs.Ytfofmfkdkihhbad
