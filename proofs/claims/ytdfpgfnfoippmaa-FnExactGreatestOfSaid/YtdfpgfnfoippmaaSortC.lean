/- Go's slices.SortFunc at centres with a comparison of the program's: the slice holds the same centres, none before an earlier one. No conditions but those typed. -/
import Derived.Test.YtdfpgfnfoippmaaLayC
import Derived.Test.YtdfpgfnfoippmaaGreatP
import Derived.Test.YtdfpgfnfoippmaaCents
import Derived.Test.YtdfpgfnfoippmaaBasic
namespace Go.Proofs.Ytdfpgfnfoippmaa
open Go.RowKit Go.Sort Go.Shelf

def encC (x : Cn) : List Value := [.int .i64 x.1.1, .int .i64 x.1.2, .int .i64 x.2]
theorem ltOf_gf (a b : Cn) : ltOf gfI a b = decide (GLt a b) := by
  unfold ltOf
  rw [decide_eq_decide]
  exact gfI_neg
theorem swo_gf : SWO (ltOf gfI) where
  irrefl x := by rw [ltOf_gf]; exact decide_eq_false (glt_irrefl x)
  trans x y z h k := by
    rw [ltOf_gf] at *
    exact decide_eq_true (glt_trans (of_decide_eq_true h) (of_decide_eq_true k))
  ntrans x y z h k := by
    rw [ltOf_gf] at *
    have h := of_decide_eq_false h
    have k := of_decide_eq_false k
    refine decide_eq_false fun e => ?_
    rcases glt_total x y with l | l | l
    · exact h l
    · rw [l] at e; exact k e
    · exact k (glt_trans l e)
def coI (a b : Cn) : Int := ordI a.1 b.1
theorem ltOf_co (a b : Cn) : ltOf coI a b = decide (Lt a.1 b.1) := by
  unfold ltOf
  rw [decide_eq_decide]
  exact ordI_neg
theorem swo_co : SWO (ltOf coI) where
  irrefl x := by rw [ltOf_co]; exact decide_eq_false (lt_irrefl x.1)
  trans x y z h k := by
    rw [ltOf_co] at *
    exact decide_eq_true (lt_trans (of_decide_eq_true h) (of_decide_eq_true k))
  ntrans x y z h k := by
    rw [ltOf_co] at *
    have h := of_decide_eq_false h
    have k := of_decide_eq_false k
    refine decide_eq_false fun e => ?_
    rcases lt_total x.1 y.1 with l | l | l
    · exact h l
    · rw [l] at e; exact k e
    · exact k (lt_trans l e)

theorem or_sameC (x y : Int) (b off c : Nat) (w : World) (hx : w.cell? ⟨b, off, none⟩ = some (.int .i64 x)) (hy : w.cell? ⟨b, off + 1, none⟩ = some (.int .i64 y)) :
    Calls Try.prog 87 #[.slice (some ⟨b, off, none⟩) 2 c] w fun e w' => e = .returned (.int .i64 (orI x y)) ∧ w = w' := by
  by_cases h : x = 0
  · subst h
    by_cases k : y = 0
    · subst k
      go_enter Try.func87, Try.ntmps87
      go_wp2
      go_rounds 3
      all_goals (go_ret; exact ⟨by simp [orI], rfl⟩)
    · go_enter Try.func87, Try.ntmps87
      go_wp2
      go_rounds 3
      all_goals (go_ret; exact ⟨by simp [orI], rfl⟩)
  · have e : orI x y = x := if_neg h
    rw [e]
    go_enter Try.func87, Try.ntmps87
    go_wp2
    go_rounds 3
    all_goals (go_ret; exact ⟨by simp, rfl⟩)
theorem grown3C (w : World) (o1 o2 o3 : Obj) : ∃ q os', (((w.alloc o1).alloc o2).alloc o3).drew = grow (w.drewN q) os' :=
  ⟨1, #[o1, o2, o3], by rw [alloc_eq_grow, alloc_eq_grow, alloc_eq_grow, grow_grow, grow_grow, drew_grow]; rfl⟩
theorem rowOrderC_lays (x y : Sp) (w : World) : Calls Try.prog 81 #[.agg #[.int .i64 x.1, .int .i64 x.2], .agg #[.int .i64 y.1, .int .i64 y.2]] w fun e w' => e = .returned (.int .i64 (ordI x y)) ∧ ∃ q os', w' = grow (w.drewN q) os' := by
  obtain ⟨x, y'⟩ := x
  obtain ⟨u, v⟩ := y
  go_enter Try.func81, Try.ntmps81
  go_wp2
  go_region_held3 (fun w' => w'.cell? ⟨w.heap.size, 0, none⟩ = some (.int .i64 x) ∧ w'.cell? ⟨w.heap.size, 1, none⟩ = some (.int .i64 y') ∧ w'.cell? ⟨w.heap.size + 1, 0, none⟩ = some (.int .i64 u) ∧ w'.cell? ⟨w.heap.size + 1, 1, none⟩ = some (.int .i64 v)) (first | (simp [go_sem, World.cell?_alloc_past]; done) | exact ⟨by assumption, by assumption, by assumption, by assumption⟩)
    (first
      | (go_at_call 88; refine (compare_same _ _ _).mono ?_; rintro e w' ⟨rfl, rfl⟩)
      | (go_at_call 87; refine (or_sameC (cmpI y' v) (cmpI x u) _ 0 _ _ ?_ ?_).mono ?_; (simp [go_sem]); (simp [go_sem]); rintro e w' ⟨rfl, rfl⟩))
  go_wp2
  go_ret
  exact ⟨rfl, grown3C _ _ _ _⟩
/-- what a comparison of the sort may do: draw, and make new blocks -/
def Lays (w w' : World) : Prop := ∃ q os', w' = grow (w.drewN q) os'
theorem Lays.refl (w : World) : Lays w w := ⟨0, #[], by unfold grow; simp [World.drewN_zero]⟩
theorem Lays.alloc {w w' : World} (h : Lays w w') (o : Obj) : Lays w (w'.alloc o) := by
  obtain ⟨q, os, rfl⟩ := h
  exact ⟨q, os ++ #[o], by rw [alloc_eq_grow, grow_grow]⟩
theorem Lays.drew {w w' : World} (h : Lays w w') : Lays w w'.drew := by
  obtain ⟨q, os, rfl⟩ := h
  exact ⟨q + 1, os, rfl⟩
theorem Lays.trans {a b c : World} (h : Lays a b) (k : Lays b c) : Lays a c := by
  obtain ⟨q, os, rfl⟩ := h
  obtain ⟨q', os', rfl⟩ := k
  exact ⟨q + q', os ++ os', by rw [← World.drewN_drewN, ← grow_grow]; rfl⟩
theorem Lays.below {w w' : World} (h : Lays w w') : Below w.heap.size w w' := by
  obtain ⟨q, os', rfl⟩ := h
  exact ⟨rfl, rfl, rfl, by unfold grow; simp, fun k hk => heap_grow_old _ _ hk⟩
theorem centreOrder_lays (a b : Cn) (w : World) : Calls Try.prog 62 #[.agg #[.int .i64 a.1.1, .int .i64 a.1.2, .int .i64 a.2], .agg #[.int .i64 b.1.1, .int .i64 b.1.2, .int .i64 b.2]] w fun e w' => e = .returned (.int .i64 (coI a b)) ∧ Lays w w' := by
  obtain ⟨⟨x, y⟩, r⟩ := a
  obtain ⟨⟨u, v⟩, s⟩ := b
  have b0 := ((Lays.refl w).alloc (.cells #[.int .i64 x, .int .i64 y, .int .i64 r] 38)).alloc (.cells #[.int .i64 u, .int .i64 v, .int .i64 s] 38)
  obtain ⟨W, hW⟩ : ∃ W, W = (w.alloc (.cells #[.int .i64 x, .int .i64 y, .int .i64 r] 38)).alloc (.cells #[.int .i64 u, .int .i64 v, .int .i64 s] 38) := ⟨_, rfl⟩
  have q0 : W.cell? ⟨w.heap.size, 0, none⟩ = some (.int .i64 x) := by rw [hW]; simp [go_sem, World.cell?_alloc_past]
  have q1 : W.cell? ⟨w.heap.size, 1, none⟩ = some (.int .i64 y) := by rw [hW]; simp [go_sem, World.cell?_alloc_past]
  have q2 : W.cell? ⟨w.heap.size, 2, none⟩ = some (.int .i64 r) := by rw [hW]; simp [go_sem, World.cell?_alloc_past]
  have q3 : W.cell? ⟨w.heap.size + 1, 0, none⟩ = some (.int .i64 u) := by rw [hW]; simp [go_sem]
  have q4 : W.cell? ⟨w.heap.size + 1, 1, none⟩ = some (.int .i64 v) := by rw [hW]; simp [go_sem]
  have q5 : W.cell? ⟨w.heap.size + 1, 2, none⟩ = some (.int .i64 s) := by rw [hW]; simp [go_sem]
  have s0 : w.heap.size < W.heap.size := by rw [hW]; simp; omega
  have s1 : w.heap.size + 1 < W.heap.size := by rw [hW]; simp
  rw [← hW] at b0
  go_enter Try.func62, Try.ntmps62
  go_wp2_with (first | (rw [← hW]; clear hW) | fail)
  refine (rowOrderC_lays (x, y) (u, v) W).mono ?_
  rintro e w1 ⟨rfl, hl⟩
  have hl : Lays W w1 := hl
  go_wp2
  go_ret
  exact ⟨rfl, b0.trans hl⟩
theorem greaterFirst_lays (a b : Cn) (w : World) : Calls Try.prog 57 #[.agg #[.int .i64 a.1.1, .int .i64 a.1.2, .int .i64 a.2], .agg #[.int .i64 b.1.1, .int .i64 b.1.2, .int .i64 b.2]] w fun e w' => e = .returned (.int .i64 (gfI a b)) ∧ Lays w w' := by
  obtain ⟨⟨x, y⟩, r⟩ := a
  obtain ⟨⟨u, v⟩, s⟩ := b
  have b0 := ((Lays.refl w).alloc (.cells #[.int .i64 x, .int .i64 y, .int .i64 r] 38)).alloc (.cells #[.int .i64 u, .int .i64 v, .int .i64 s] 38)
  obtain ⟨W, hW⟩ : ∃ W, W = (w.alloc (.cells #[.int .i64 x, .int .i64 y, .int .i64 r] 38)).alloc (.cells #[.int .i64 u, .int .i64 v, .int .i64 s] 38) := ⟨_, rfl⟩
  have q0 : W.cell? ⟨w.heap.size, 0, none⟩ = some (.int .i64 x) := by rw [hW]; simp [go_sem, World.cell?_alloc_past]
  have q1 : W.cell? ⟨w.heap.size, 1, none⟩ = some (.int .i64 y) := by rw [hW]; simp [go_sem, World.cell?_alloc_past]
  have q2 : W.cell? ⟨w.heap.size, 2, none⟩ = some (.int .i64 r) := by rw [hW]; simp [go_sem, World.cell?_alloc_past]
  have q3 : W.cell? ⟨w.heap.size + 1, 0, none⟩ = some (.int .i64 u) := by rw [hW]; simp [go_sem]
  have q4 : W.cell? ⟨w.heap.size + 1, 1, none⟩ = some (.int .i64 v) := by rw [hW]; simp [go_sem]
  have q5 : W.cell? ⟨w.heap.size + 1, 2, none⟩ = some (.int .i64 s) := by rw [hW]; simp [go_sem]
  have s0 : w.heap.size < W.heap.size := by rw [hW]; simp; omega
  have s1 : w.heap.size + 1 < W.heap.size := by rw [hW]; simp
  rw [← hW] at b0
  have b0 := b0.drew
  have q0 : W.drew.cell? ⟨w.heap.size, 0, none⟩ = some (.int .i64 x) := q0
  have q1 : W.drew.cell? ⟨w.heap.size, 1, none⟩ = some (.int .i64 y) := q1
  have q2 : W.drew.cell? ⟨w.heap.size, 2, none⟩ = some (.int .i64 r) := q2
  have q3 : W.drew.cell? ⟨w.heap.size + 1, 0, none⟩ = some (.int .i64 u) := q3
  have q4 : W.drew.cell? ⟨w.heap.size + 1, 1, none⟩ = some (.int .i64 v) := q4
  have q5 : W.drew.cell? ⟨w.heap.size + 1, 2, none⟩ = some (.int .i64 s) := q5
  have s0 : w.heap.size < W.drew.heap.size := s0
  have s1 : w.heap.size + 1 < W.drew.heap.size := s1
  have HG : gfI ((x, y), r) ((u, v), s) = orI (cmpI s r) (coI ((x, y), r) ((u, v), s)) := rfl
  rw [HG]
  clear HG
  go_enter Try.func57, Try.ntmps57
  go_wp2_with (first | (rw [← hW]; clear hW) | fail)
  go_region_held3 (fun w' => w'.cell? ⟨w.heap.size, 0, none⟩ = some (.int .i64 x) ∧ w'.cell? ⟨w.heap.size, 1, none⟩ = some (.int .i64 y) ∧ w'.cell? ⟨w.heap.size, 2, none⟩ = some (.int .i64 r) ∧ w'.cell? ⟨w.heap.size + 1, 0, none⟩ = some (.int .i64 u) ∧ w'.cell? ⟨w.heap.size + 1, 1, none⟩ = some (.int .i64 v) ∧ w'.cell? ⟨w.heap.size + 1, 2, none⟩ = some (.int .i64 s)) (first | (refine ⟨?_, ?_, ?_, ?_, ?_, ?_⟩ <;> with_reducible assumption) | (refine ⟨?_, ?_, ?_, ?_, ?_, ?_⟩ <;> (refine Lib.cell?_alloc_some _ ?_; with_reducible assumption)))
    (first
      | (go_at_call 88; refine (compare_same _ _ _).mono ?_; rintro e w' ⟨rfl, rfl⟩)
      | (go_at_call 62; refine (centreOrder_lays ((x, y), r) ((u, v), s) _).mono ?_; rintro e w2 ⟨rfl, l2⟩; have h2 := l2.below; have q0 := (h2.cell (p := ⟨w.heap.size, 0, none⟩) s0).trans q0; have q1 := (h2.cell (p := ⟨w.heap.size, 1, none⟩) s0).trans q1; have q2 := (h2.cell (p := ⟨w.heap.size, 2, none⟩) s0).trans q2; have q3 := (h2.cell (p := ⟨w.heap.size + 1, 0, none⟩) s1).trans q3; have q4 := (h2.cell (p := ⟨w.heap.size + 1, 1, none⟩) s1).trans q4; have q5 := (h2.cell (p := ⟨w.heap.size + 1, 2, none⟩) s1).trans q5)
      | (go_at_call 87; refine (or_sameC (cmpI s r) (coI ((x, y), r) ((u, v), s)) _ 0 _ _ ?_ ?_).mono ?_; (simp [go_sem]); (simp [go_sem]); rintro e w' ⟨rfl, rfl⟩; have q0 := Lib.cell?_alloc_some (.cells #[.int .i64 (cmpI s r), .int .i64 (coI ((x, y), r) ((u, v), s))] 3) q0; have q1 := Lib.cell?_alloc_some (.cells #[.int .i64 (cmpI s r), .int .i64 (coI ((x, y), r) ((u, v), s))] 3) q1; have q2 := Lib.cell?_alloc_some (.cells #[.int .i64 (cmpI s r), .int .i64 (coI ((x, y), r) ((u, v), s))] 3) q2; have q3 := Lib.cell?_alloc_some (.cells #[.int .i64 (cmpI s r), .int .i64 (coI ((x, y), r) ((u, v), s))] 3) q3; have q4 := Lib.cell?_alloc_some (.cells #[.int .i64 (cmpI s r), .int .i64 (coI ((x, y), r) ((u, v), s))] 3) q4; have q5 := Lib.cell?_alloc_some (.cells #[.int .i64 (cmpI s r), .int .i64 (coI ((x, y), r) ((u, v), s))] 3) q5))
  all_goals
    go_wp2
    go_ret
    exact ⟨rfl, (b0.trans l2).alloc _⟩

theorem flatK_atC (l : List Cn) : (flatK encC 3 l.toArray).toList = flatC l := by
  apply List.ext_getElem?
  intro j
  by_cases hj : j < l.length * 3
  · obtain ⟨⟨⟨x, y⟩, r⟩, hxy⟩ : ∃ a, l[j / 3]? = some a := ⟨_, List.getElem?_eq_getElem (by omega)⟩
    have hl : (flatK encC 3 l.toArray).toList[j]? = some ((flatK encC 3 l.toArray)[j]!) := by
      rw [Array.getElem?_toList, getElem!_pos _ _ (by simpa using hj), Array.getElem?_eq_getElem (by simpa using hj)]
    have he : l.toArray[j / 3]! = ((x, y), r) := by
      have hjl : j / 3 < l.length := by omega
      rw [getElem!_pos _ _ (by simpa using hjl)]
      rw [List.getElem?_eq_getElem hjl] at hxy
      simpa using hxy
    rw [hl, get_flatK encC 3 l.toArray j (by simpa using hj), he]
    obtain ⟨f0, f1, f2⟩ := flatC_at hxy
    have hm : j % 3 = 0 ∨ j % 3 = 1 ∨ j % 3 = 2 := by omega
    rcases hm with e | e | e
    · rw [show j / 3 * 3 = j by omega] at f0
      rw [e, f0]; rfl
    · rw [show j / 3 * 3 + 1 = j by omega] at f1
      rw [e, f1]; rfl
    · rw [show j / 3 * 3 + 2 = j by omega] at f2
      rw [e, f2]; rfl
  · rw [List.getElem?_eq_none (by simp; omega), List.getElem?_eq_none (by rw [flatC_length]; omega)]
theorem take_putCells3 (cur : Array Value) (l : List Cn) (h : l.length * 3 ≤ cur.size) : (putCells id 0 (flatK encC 3 l.toArray) cur).toList.take (l.length * 3) = flatC l := by
  rw [← flatK_atC]
  apply List.ext_getElem?
  intro j
  by_cases hj : j < l.length * 3
  · rw [List.getElem?_take_of_lt hj, Array.getElem?_toList, Array.getElem?_toList]
    simp [putCells, hj, show j < cur.size by omega]
  · rw [List.getElem?_take_eq_none (by omega), List.getElem?_eq_none (by simp; omega)]
theorem holdsC_of_own {w : World} {base g n cap : Nat} {l : List Cn} (h : COwns w base (.slice (some ⟨g, 0, none⟩) n cap) l) : HoldsK encC 3 w g 0 l.toArray := by
  intro j hj
  have hj' : j < l.length * 3 := by simpa using hj
  refine ⟨?_, by rw [Nat.zero_add]; exact h.free j⟩
  have hn := h.len
  subst hn
  rw [Nat.zero_add, World.ownsRow.cellAt h j hj', ← flatK_atC, Array.getElem?_toList, Array.getElem?_eq_getElem hj, getElem!_pos (flatK encC 3 l.toArray) j hj]
  rfl
theorem sortedC_own {w : World} {base g cap k : Nat} {l l' : List Cn} {os : Array Obj} (h : COwns w base (.slice (some ⟨g, 0, none⟩) l.length cap) l) (hl : l'.length = l.length) (hbase : base ≤ w.heap.size) :
    COwns (sortWorldK encC 3 w g 0 k l'.toArray os) base (.slice (some ⟨g, 0, none⟩) l.length cap) l' ∧ Below base w (sortWorldK encC 3 w g 0 k l'.toArray os) := by
  have hlo := h.lt g rfl
  rcases h.2 with ⟨h', _⟩ | ⟨g', cap', cur, h', hb, hg, hnc, hcm, hcs, htake⟩
  · cases h'
  · cases h'
    have hh : (sortWorldK encC 3 w g 0 k l'.toArray os).heap[g]? = some (.cells (putCells id 0 (flatK encC 3 l'.toArray) cur) 38 (0, 0)) := by
      unfold sortWorldK
      rw [heap_grow_old _ _ (by unfold putRowK putRow mapBlock Sort.ahead; simpa using hlo.2)]
      simp [putRowK, putRow, mapBlock, Sort.ahead, Array.getElem?_modify, hg, onCells]
    refine ⟨⟨by rw [flatC_length], .inr ⟨g, cap, _, by rw [hl], hb, hh, by omega, hcm, by simp [putCells, hcs], take_putCells3 cur l' (by rw [hcs, hl]; exact Nat.mul_le_mul_right 3 hnc)⟩⟩, ?_⟩
    have hgr : w.grownBy (sortWorldK encC 3 w g 0 k l'.toArray os) (some g) := by
      refine ⟨rfl, rfl, rfl, by simp [sortWorldK, putRowK], fun j hj hne => ?_⟩
      unfold sortWorldK
      rw [heap_grow_old _ _ (by unfold putRowK putRow mapBlock Sort.ahead; simpa using hj)]
      have : g ≠ j := fun e => hne (by rw [e])
      simp [putRowK, putRow, mapBlock, Sort.ahead, Array.getElem?_modify, this]
    exact (Below.refl _ _).grown hgr hbase fun j hj => by cases hj; exact hb
def SortPost (cf : Cn → Cn → Int) (base : Nat) (v : Value) (l : List Cn) (w : World) (e : Ending) (w' : World) : Prop :=
  e = .returned (.tuple #[]) ∧ ∃ l' : List Cn, l'.Perm l ∧ (l'.Pairwise fun a b => ltOf cf b a = false) ∧ COwns w' base v l' ∧ Below base w w'
theorem sortC_some (cf : Cn → Cn → Int) (hO : SWO (ltOf cf)) (F : FuncId) (eF : ∀ args w, (callFunc F args).run Try.prog w = .ok (.enter F args) w)
    (hF : ∀ a b w, Calls Try.prog F #[.agg #[.int .i64 a.1.1, .int .i64 a.1.2, .int .i64 a.2], .agg #[.int .i64 b.1.1, .int .i64 b.1.2, .int .i64 b.2]] w fun e w' => e = .returned (.int .i64 (cf a b)) ∧ Lays w w')
    (g cap base : Nat) (l : List Cn) (w : World) (h : COwns w base (.slice (some ⟨g, 0, none⟩) l.length cap) l) (hbase : base ≤ w.heap.size) (hl : l.length ≤ 1000000) :
    Calls Try.prog 56 #[.slice (some ⟨g, 0, none⟩) l.length cap, .func (.func F) #[] #[]] w (SortPost cf base (.slice (some ⟨g, 0, none⟩) l.length cap) l w) := by
  have hc := AnyQ.slices_SortFunc sortC 3 Try.isAgg38 Try.sizeOf38 encC (fun _ => rfl) (fun x v hv => by simp [encC] at hv; rcases hv with rfl | rfl | rfl <;> rfl) cf hO F #[] g 0 cap l.toArray w eF
    (fun m os dk _ x y => hF x y _) (holdsC_of_own h) (h.lt g rfl).2 (by simp; omega)
  refine hc.mono ?_
  rintro e w' ⟨rfl, d', n, os, hp, hs, rfl⟩
  have e1 : d'.extract 0 l.toArray.size = d' := by rw [← hp.1]; exact Array.extract_size
  have hperm := hp.2.2
  rw [e1, Array.extract_size] at hperm
  have hperm : d'.toList.Perm l := hperm
  have hlen : d'.toList.length = l.length := hperm.length_eq
  have e2 : d' = d'.toList.toArray := by simp
  rw [e2]
  obtain ⟨h1, h2⟩ := sortedC_own (k := n) (os := os) h hlen hbase
  refine ⟨rfl, d'.toList, hperm, ?_, h1, h2⟩
  rw [List.pairwise_iff_getElem]
  intro i j hi hj hij
  have hi' : i < d'.size := by simpa using hi
  have hj' : j < d'.size := by simpa using hj
  have := hs i j (Nat.zero_le _) hij (by simp; omega)
  rw [getElem!_pos d' j hj', getElem!_pos d' i hi'] at this
  simpa using this
/-- a slice of the call's own, nil too -/
theorem sortC_any (cf : Cn → Cn → Int) (hO : SWO (ltOf cf)) (F : FuncId) (eF : ∀ args w, (callFunc F args).run Try.prog w = .ok (.enter F args) w)
    (hF : ∀ a b w, Calls Try.prog F #[.agg #[.int .i64 a.1.1, .int .i64 a.1.2, .int .i64 a.2], .agg #[.int .i64 b.1.1, .int .i64 b.1.2, .int .i64 b.2]] w fun e w' => e = .returned (.int .i64 (cf a b)) ∧ Lays w w')
    (v : Value) (base : Nat) (l : List Cn) (w : World) (h : COwns w base v l) (hbase : base ≤ w.heap.size) (hl : l.length ≤ 1000000) :
    Calls Try.prog 56 #[v, .func (.func F) #[] #[]] w (SortPost cf base v l w) := by
  rcases h.2 with ⟨rfl, h0⟩ | ⟨g, cap, cur, rfl, _⟩
  · have hn := AnyF.slices_SortFunc_none sortC none 0 (.func (.func F) #[] #[]) w
    refine hn.mono ?_
    rintro e w' ⟨rfl, rfl⟩
    obtain rfl := List.eq_nil_of_length_eq_zero h0
    exact ⟨rfl, [], .refl _, .nil, h, Below.refl _ _⟩
  · exact sortC_some cf hO F eF hF g cap base l w h hbase hl
theorem eg_co : ∀ args w, (callFunc 62 args).run Try.prog w = .ok (.enter 62 args) w := enters_of Try.func62 (by kernel_rfl) rfl
theorem eg_gf : ∀ args w, (callFunc 57 args).run Try.prog w = .ok (.enter 57 args) w := enters_of Try.func57 (by kernel_rfl) rfl
theorem sortGreater_any (v : Value) (base : Nat) (l : List Cn) (w : World) (h : COwns w base v l) (hbase : base ≤ w.heap.size) (hl : l.length ≤ 1000000) :
    Calls Try.prog 56 #[v, .func (.func 57) #[] #[]] w (SortPost gfI base v l w) := sortC_any gfI swo_gf _ eg_gf greaterFirst_lays v base l w h hbase hl
theorem sortOrder_any (v : Value) (base : Nat) (l : List Cn) (w : World) (h : COwns w base v l) (hbase : base ≤ w.heap.size) (hl : l.length ≤ 1000000) :
    Calls Try.prog 56 #[v, .func (.func 62) #[] #[]] w (SortPost coI base v l w) := sortC_any coI swo_co _ eg_co centreOrder_lays v base l w h hbase hl
end Go.Proofs.Ytdfpgfnfoippmaa
