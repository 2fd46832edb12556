/- Go's slices.SortFunc at spots with the program's comparison: the slice holds the same spots, none before an earlier one. No conditions but those typed. -/
import Derived.Test.YtkiidmdgdjphjaaGreatLay
import Derived.Test.YtkiidmdgdjphjaaGreatPlain
import Derived.Test.YtkiidmdgdjphjaaGreatPicWalk
import Derived.Test.YtkiidmdgdjphjaaGreatMem
namespace Go.Proofs.YtkiidmdgdjphjaaGreat
open Go.RowKit Go.Sort Go.Shelf

def encS (x : Sp) : List Value := [.int .i64 x.1, .int .i64 x.2]
theorem ltOf_ord (a b : Sp) : ltOf ordI a b = decide (Lt a b) := by
  unfold ltOf
  rw [decide_eq_decide]
  exact ordI_neg
theorem swo_ord : SWO (ltOf ordI) where
  irrefl x := by rw [ltOf_ord]; exact decide_eq_false (lt_irrefl x)
  trans x y z h k := by
    rw [ltOf_ord] at *
    exact decide_eq_true (lt_trans (of_decide_eq_true h) (of_decide_eq_true k))
  ntrans x y z h k := by
    rw [ltOf_ord] at *
    have h := of_decide_eq_false h
    have k := of_decide_eq_false k
    refine decide_eq_false fun e => ?_
    rcases lt_total x y with l | l | l
    · exact h l
    · rw [l] at e; exact k e
    · exact k (lt_trans l e)
theorem tot_ord (x y : Sp) (h : ltOf ordI x y = false) (k : ltOf ordI y x = false) : x = y := by
  rw [ltOf_ord] at *
  rcases lt_total x y with l | l | l
  · exact absurd l (of_decide_eq_false h)
  · exact l
  · exact absurd l (of_decide_eq_false k)

theorem or_same (x y : Int) (b off c : Nat) (w : World) (hx : w.cell? ⟨b, off, none⟩ = some (.int .i64 x)) (hy : w.cell? ⟨b, off + 1, none⟩ = some (.int .i64 y)) :
    Calls Tryz.prog 76 #[.slice (some ⟨b, off, none⟩) 2 c] w fun e w' => e = .returned (.int .i64 (orI x y)) ∧ w = w' := by
  by_cases h : x = 0
  · subst h
    by_cases k : y = 0
    · subst k
      go_enter Tryz.func76, Tryz.ntmps76
      go_wp2
      go_rounds 3
      all_goals (go_ret; exact ⟨by simp [orI], rfl⟩)
    · go_enter Tryz.func76, Tryz.ntmps76
      go_wp2
      go_rounds 3
      all_goals (go_ret; exact ⟨by simp [orI], rfl⟩)
  · have e : orI x y = x := if_neg h
    rw [e]
    go_enter Tryz.func76, Tryz.ntmps76
    go_wp2
    go_rounds 3
    all_goals (go_ret; exact ⟨by simp, rfl⟩)
theorem grown3 (w : World) (o1 o2 o3 : Obj) : ∃ q os', (((w.alloc o1).alloc o2).alloc o3).drew = grow (w.drewN q) os' :=
  ⟨1, #[o1, o2, o3], by rw [alloc_eq_grow, alloc_eq_grow, alloc_eq_grow, grow_grow, grow_grow, drew_grow]; rfl⟩
theorem rowOrder_lays (x y : Sp) (w : World) : Calls Tryz.prog 52 #[.agg #[.int .i64 x.1, .int .i64 x.2], .agg #[.int .i64 y.1, .int .i64 y.2]] w fun e w' => e = .returned (.int .i64 (ordI x y)) ∧ ∃ q os', w' = grow (w.drewN q) os' := by
  obtain ⟨x, y'⟩ := x
  obtain ⟨u, v⟩ := y
  go_enter Tryz.func52, Tryz.ntmps52
  go_wp2
  go_region_held3 (fun w' => w'.cell? ⟨w.heap.size, 0, none⟩ = some (.int .i64 x) ∧ w'.cell? ⟨w.heap.size, 1, none⟩ = some (.int .i64 y') ∧ w'.cell? ⟨w.heap.size + 1, 0, none⟩ = some (.int .i64 u) ∧ w'.cell? ⟨w.heap.size + 1, 1, none⟩ = some (.int .i64 v)) (first | (simp [go_sem, World.cell?_alloc_past]; done) | exact ⟨by assumption, by assumption, by assumption, by assumption⟩)
    (first
      | (go_at_call 77; refine (compare_same _ _ _).mono ?_; rintro e w' ⟨rfl, rfl⟩)
      | (go_at_call 76; refine (or_same (cmpI y' v) (cmpI x u) _ 0 _ _ ?_ ?_).mono ?_; (simp [go_sem]); (simp [go_sem]); rintro e w' ⟨rfl, rfl⟩))
  go_wp2
  go_ret
  exact ⟨rfl, grown3 _ _ _ _⟩

theorem flatK_at (l : List Sp) : (flatK encS 2 l.toArray).toList = flat l := by
  apply List.ext_getElem?
  intro j
  by_cases hj : j < l.length * 2
  · obtain ⟨⟨x, y⟩, hxy⟩ : ∃ a, l[j / 2]? = some a := ⟨_, List.getElem?_eq_getElem (by omega)⟩
    have hl : (flatK encS 2 l.toArray).toList[j]? = some ((flatK encS 2 l.toArray)[j]!) := by
      rw [Array.getElem?_toList, getElem!_pos _ _ (by simpa using hj), Array.getElem?_eq_getElem (by simpa using hj)]
    have he : l.toArray[j / 2]! = (x, y) := by
      have hjl : j / 2 < l.length := by omega
      rw [getElem!_pos _ _ (by simpa using hjl)]
      rw [List.getElem?_eq_getElem hjl] at hxy
      simpa using hxy
    rw [hl, get_flatK encS 2 l.toArray j (by simpa using hj), he]
    rcases Nat.mod_two_eq_zero_or_one j with e | e
    · have h0 := flat_at0 hxy
      rw [show j / 2 * 2 = j by omega] at h0
      rw [e, h0]; rfl
    · have h0 := flat_at1 hxy
      rw [show j / 2 * 2 + 1 = j by omega] at h0
      rw [e, h0]; rfl
  · rw [List.getElem?_eq_none (by simp; omega), List.getElem?_eq_none (by rw [flat_length]; omega)]

theorem take_putCells2 (cur : Array Value) (l : List Sp) (h : l.length * 2 ≤ cur.size) : (putCells id 0 (flatK encS 2 l.toArray) cur).toList.take (l.length * 2) = flat l := by
  rw [← flatK_at]
  apply List.ext_getElem?
  intro j
  by_cases hj : j < l.length * 2
  · rw [List.getElem?_take_of_lt hj, Array.getElem?_toList, Array.getElem?_toList]
    simp [putCells, hj, show j < cur.size by omega]
  · rw [List.getElem?_take_eq_none (by omega), List.getElem?_eq_none (by simp; omega)]

theorem holds_of_own {w : World} {base g n cap : Nat} {l : List Sp} (h : Owns w base (.slice (some ⟨g, 0, none⟩) n cap) l) : HoldsK encS 2 w g 0 l.toArray := by
  intro j hj
  have hj' : j < l.length * 2 := by simpa using hj
  refine ⟨?_, by rw [Nat.zero_add]; exact h.free j⟩
  have hn := h.len
  subst hn
  rw [Nat.zero_add, World.ownsRow.cellAt h j hj', ← flatK_at, Array.getElem?_toList, Array.getElem?_eq_getElem hj, getElem!_pos (flatK encS 2 l.toArray) j hj]
  rfl

theorem sorted_own {w : World} {base g cap k : Nat} {l l' : List Sp} {os : Array Obj} (h : Owns w base (.slice (some ⟨g, 0, none⟩) l.length cap) l) (hl : l'.length = l.length) (hbase : base ≤ w.heap.size) :
    Owns (sortWorldK encS 2 w g 0 k l'.toArray os) base (.slice (some ⟨g, 0, none⟩) l.length cap) l' ∧ Below base w (sortWorldK encS 2 w g 0 k l'.toArray os) := by
  have hlo := h.lo
  rcases h.2 with ⟨h', _⟩ | ⟨g', cap', cur, h', hb, hg, hnc, hcm, hcs, htake⟩
  · cases h'
  · cases h'
    have hh : (sortWorldK encS 2 w g 0 k l'.toArray os).heap[g]? = some (.cells (putCells id 0 (flatK encS 2 l'.toArray) cur) 53 (0, 0)) := by
      unfold sortWorldK
      rw [heap_grow_old _ _ (by unfold putRowK putRow mapBlock Sort.ahead; simpa using hlo.2)]
      simp [putRowK, putRow, mapBlock, Sort.ahead, Array.getElem?_modify, hg, onCells]
    refine ⟨⟨by rw [flat_length], .inr ⟨g, cap, _, by rw [hl], hb, hh, by omega, hcm, by simp [putCells, hcs], take_putCells2 cur l' (by rw [hcs, hl]; omega)⟩⟩, ?_⟩
    have hgr : w.grownBy (sortWorldK encS 2 w g 0 k l'.toArray os) (some g) := by
      refine ⟨rfl, rfl, rfl, by simp [sortWorldK, putRowK], fun j hj hne => ?_⟩
      unfold sortWorldK
      rw [heap_grow_old _ _ (by unfold putRowK putRow mapBlock Sort.ahead; simpa using hj)]
      have : g ≠ j := fun e => hne (by rw [e])
      simp [putRowK, putRow, mapBlock, Sort.ahead, Array.getElem?_modify, this]
    exact (Below.refl _ _).grown hgr hbase fun j hj => by cases hj; exact hb

theorem eg_ord : ∀ args w, (callFunc 52 args).run Tryz.prog w = .ok (.enter 52 args) w := enters_of Tryz.func52 (by kernel_rfl) rfl

/-- the same spots, none before an earlier one -/
theorem sort_any (g cap base : Nat) (l : List Sp) (w : World) (h : Owns w base (.slice (some ⟨g, 0, none⟩) l.length cap) l) (hbase : base ≤ w.heap.size) (hl : l.length ≤ 1000000) :
    Calls Tryz.prog 132 #[.slice (some ⟨g, 0, none⟩) l.length cap, .func (.func 52) #[] #[]] w fun e w' =>
      e = .returned (.tuple #[]) ∧ ∃ l' : List Sp, l'.length = l.length ∧ (∀ x, x ∈ l' ↔ x ∈ l) ∧ WS l' ∧ Owns w' base (.slice (some ⟨g, 0, none⟩) l.length cap) l' ∧ Below base w w' := by
  have hc := AnyQ.slices_SortFunc_total sortS 2 Tryz.isAgg53 Tryz.sizeOf53 encS (fun _ => rfl) (fun x v hv => by simp [encS] at hv; rcases hv with rfl | rfl <;> rfl) ordI swo_ord 52 #[] g 0 cap l.toArray w eg_ord
    (fun m os dk _ x y => rowOrder_lays x y _) (holds_of_own h) h.lo.2 (by simp; omega) tot_ord
  refine hc.mono ?_
  rintro e w' ⟨rfl, n, os, rfl⟩
  have hperm := List.mergeSort_perm l fun x y => !(ltOf ordI) y x
  have hlen : (l.mergeSort fun x y => !(ltOf ordI) y x).length = l.length := hperm.length_eq
  have hso := List.pairwise_mergeSort (le := fun x y => !(ltOf ordI) y x) (fun a b c h k => by
    simp only [ltOf_ord, Bool.not_eq_true', decide_eq_false_iff_not] at *
    intro e
    rcases lt_total b c with l | l | l
    · exact h (lt_trans l e)
    · rw [l] at h; exact h e
    · exact k l) (fun a b => by
    simp only [ltOf_ord, Bool.or_eq_true, Bool.not_eq_true', decide_eq_false_iff_not]
    by_cases e : Lt b a
    · exact .inr (lt_asymm e)
    · exact .inl e) l
  obtain ⟨h1, h2⟩ := sorted_own (k := n) (os := os) h hlen hbase
  refine ⟨rfl, _, hlen, fun x => hperm.mem_iff, fun i j hij hj => ?_, h1, h2⟩
  have := List.pairwise_iff_getElem.1 hso i j (by omega) hj hij
  simp only [Bool.not_eq_true'] at this
  rw [ltOf_ord, decide_eq_false_iff_not] at this
  rw [List.getD_eq_getElem?_getD, List.getD_eq_getElem?_getD, List.getElem?_eq_getElem hj, List.getElem?_eq_getElem (show i < _ by omega)]
  exact this
end Go.Proofs.YtkiidmdgdjphjaaGreat
