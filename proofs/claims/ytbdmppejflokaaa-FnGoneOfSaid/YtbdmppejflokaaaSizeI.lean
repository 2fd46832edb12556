/- The program's SizesOf, GoneOf and SideAt. No conditions but those typed. -/
import Derived.Test.YtbdmppejflokaaaLeftI
import Derived.Test.YtbdmppejflokaaaHas2
import Derived.Maps.AppendAt
namespace Go.Proofs.Ytbdmppejflokaaa
open Go.RowKit Go.Sort
attribute [local go_sem] Oper.semAt_some

def intsZ (l : List Int) : List Value := l.map fun k => .int .i64 k
theorem intsZ_length (l : List Int) : (intsZ l).length = l.length := List.length_map _
theorem intsZ_append (l m : List Int) : intsZ (l ++ m) = intsZ l ++ intsZ m := List.map_append
/-- a list of whole numbers is handed back in new memory -/
def GivesInts (l : List Int) (w : World) (e : Ending) (w' : World) : Prop := ∃ v', e = .returned v' ∧ VOwns 3 w' w.heap.size v' (intsZ l) ∧ Below w.heap.size w w'
theorem VOwns.ofCells (T : TypeId) (base : Nat) (v : Value) (l : List Value) : OfCells fun w => VOwns T w base v l := fun A B h _ hc => by
  refine ⟨h.1, ?_⟩
  rcases h.2 with h0 | ⟨g, cap, cur, rfl, h1, hg, h2⟩
  · exact .inl h0
  · exact .inr ⟨g, cap, cur, rfl, h1, hc g _ hg rfl, h2⟩

theorem VOwns.isCells {T : TypeId} {w : World} {base g n cap : Nat} {l : List Value} (h : VOwns T w base (.slice (some ⟨g, 0, none⟩) n cap) l) {o : Obj} (ho : w.heap[g]? = some o) : o.isCells = true := by
  rcases h.2 with ⟨e, _⟩ | ⟨g', cap', cur, e, _, hg, _⟩
  · cases e
  · injection e with e1 _ _
    injection e1 with e1
    injection e1 with e1
    subst e1
    rw [ho] at hg; cases hg; rfl
theorem sizes_snoc {ps : List Sp} {k : Nat} (h : sieveOk ps ((k : Int) + 1) = true) : intsZ (sizesUpto ps (k + 1)) = intsZ (sizesUpto ps k) ++ [.int .i64 ((sieveR ps ((k : Int) + 1)).length : Int)] := by
  rw [sizesUpto_succ, intsZ_append, sieve_yes h]; rfl
theorem roundsN_yes {ps : List Sp} (h : picB ps = true) : roundsN ps = 5 := by unfold roundsN; rw [h]; rfl

set_option maxRecDepth 100000 in
set_option maxHeartbeats 1600000 in
theorem implSizes_any (ps : List Sp) (v : Value) (w : World) (h : Reads w w.heap.size v ps) : Calls Try.prog 24 #[v] w (GivesInts (sizesR ps) w) := by
  obtain ⟨A, c, rfl, hc, hm⟩ := h.slice
  obtain ⟨i0, hi, hz0, hz1, hz2⟩ := info_parts infoInt
  refine (callsIn_wide (n := 3)).1 ?_
  refine callsIn_of_wp_marks Try.func24 rfl trivial ?_
  simp only [Try.ntmps24, List.size_toArray, List.length_cons, List.length_nil, Nat.reduceAdd, Nat.reduceSub, Array.replicate_succ, Array.replicate_zero, List.push_toArray, List.append_toArray, List.nil_append, List.cons_append]
  have b1 : Below w.heap.size w (w.alloc (.cells #[.slice none 0 0] 35)) := (Below.refl _ _).alloc (Nat.le_refl _) _
  have x1 := Boxed.new w 35 (.slice none 0 0)
  obtain ⟨W1, hW1⟩ : ∃ W1, w.alloc (.cells #[.slice none 0 0] 35) = W1 := ⟨_, rfl⟩
  have s1 : W1.heap.size = w.heap.size + 1 := by rw [← hW1]; simp
  rw [hW1] at b1 x1
  gi_wp2_with (first | (rw [hW1]; clear hW1) | (gi_at_make; refine wpListIn_make_own _ rfl _ _ 35 rfl w.heap.size 3 i0 (.int .i64 0) 1 Try.underlying35 hi hz0 hz1 .i64 .i64 5 5 rfl rfl rfl (by rw [hz2]; decide) (by decide) (by omega) ?_; intro w2 o2 g2))
  refine ⟨trivial, ?_⟩
  refine (callsIn_wide.2 (leftBy_any A ps.length c _)).mono ?_
  rintro e w4 ⟨rfl, rfl⟩
  have s2 := g2.size
  have b2 : Below w.heap.size w w2 := b1.grown g2 (by omega) (fun k e => by cases e)
  have b3 : Below w.heap.size w (w2.alloc (.cells #[.slice (some ⟨w.heap.size + 1, 0, none⟩) 0 5] 35)) := b2.alloc b2.size _
  have x3 := ((x1.kept g2 (by simp)).alloc (.cells #[.slice (some ⟨w.heap.size + 1, 0, none⟩) 0 5] 35)).alloc (.cells #[.slice A ps.length c] 24)
  have y3 := (Boxed.new w2 35 (.slice (some ⟨w.heap.size + 1, 0, none⟩) 0 5)).alloc (.cells #[.slice A ps.length c] 24)
  have z3 := Boxed.new (w2.alloc (.cells #[.slice (some ⟨w.heap.size + 1, 0, none⟩) 0 5] 35)) 24 (.slice A ps.length c)
  rw [s1] at o2
  have o3 : VOwns 3 w2 w.heap.size (.slice (some ⟨w.heap.size + 1, 0, none⟩) 0 5) [] := o2
  have s2b := (o3.lt _ rfl).2
  have o4 := (o3.below ((Below.refl _ w2).alloc (Nat.le_refl _) (.cells #[.slice (some ⟨w.heap.size + 1, 0, none⟩) 0 5] 35))).below ((Below.refl _ _).alloc (Nat.le_refl _) (.cells #[.slice A ps.length c] 24))
  have b4 : Below w.heap.size w ((w2.alloc (.cells #[.slice (some ⟨w.heap.size + 1, 0, none⟩) 0 5] 35)).alloc (.cells #[.slice A ps.length c] 24)) := b3.alloc b3.size _
  have r4 := h.below b4
  have s4 : ((w2.alloc (.cells #[.slice (some ⟨w.heap.size + 1, 0, none⟩) 0 5] 35)).alloc (.cells #[.slice A ps.length c] 24)).heap.size = w2.heap.size + 2 := by simp
  obtain ⟨W4, hW4⟩ : ∃ W4, (w2.alloc (.cells #[.slice (some ⟨w.heap.size + 1, 0, none⟩) 0 5] 35)).alloc (.cells #[.slice A ps.length c] 24) = W4 := ⟨_, rfl⟩
  rw [hW4] at x3 y3 z3 o4 b4 r4 s4 ⊢
  rw [World.size_alloc] at z3
  clear hW4 o3 b3 b2 g2 o2 x1 b1
  have b2s := s2
  gi_wp2
  refine wpIn_rangeFunc_mem rfl (by omega) (gf := 76) (lb := #[.pointer (some ⟨w2.heap.size + 1, 0, none⟩)]) rfl trivial (enters_of Try.func76 (by kernel_rfl) rfl)
    (left_seq 2 w.heap.size (w2.heap.size + 1) ps _ (fun k => w.heap.size ≤ k ∧ k < w2.heap.size + 4) W4 z3 r4 b4.size (fun k h => by omega)) (fun _ => rfl) (leftIs_cells ps) (by constructor <;> omega) (by constructor <;> omega)
    (fun k W => (0 < k → picB ps = true) ∧ Boxed W w.heap.size 35 (.slice none 0 0) ∧ Boxed W w2.heap.size 35 (.slice (some ⟨w.heap.size + 1, 0, none⟩) k 5) ∧ VOwns 3 W w.heap.size (.slice (some ⟨w.heap.size + 1, 0, none⟩) k 5) (intsZ (sizesUpto ps k)))
    (fun c _ W => c = .ret ∧ picB ps = false ∧ Boxed W w.heap.size 35 (.slice none 0 0))
    (fun k => (OfCells.pure _).and ((OfCells.boxed _ _ _).and ((OfCells.boxed _ _ _).and (VOwns.ofCells _ _ _ _)))) (fun _ _ => (OfCells.pure _).and ((OfCells.pure _).and (OfCells.boxed _ _ _)))
    ⟨fun h => by omega, x3, y3, o4⟩
    (fun x => { tmps := #[.slice A ps.length c, undef, .pointer (some ⟨w.heap.size, 0, none⟩), .pointer (some ⟨w2.heap.size, 0, none⟩), x.1, .bool x.2, .slice (some ⟨w.heap.size + 1, 0, none⟩) 0 5, .slice A ps.length c, .func (.func 76) #[] #[.pointer (some ⟨w2.heap.size + 1, 0, none⟩)], x.1, .bool x.2, undef, undef, undef, undef, undef, undef, undef, undef], defers := [] }) ?assign ?body ?done ?stop
  case assign =>
    intro l x W K hK
    gi_wp2
    exact hK
  case body =>
    rintro l k ⟨u, b⟩ W ⟨hp, xR, xC, hown⟩ hk ⟨hb, ou⟩ hsv hWs
    simp only [] at hb ou
    subst hb
    obtain ⟨A', c', rfl, hc', hm'⟩ := ou.reads.slice
    unfold maxLen at hm'
    have k4 : k ≤ 4 := by have := hk; unfold roundsN at this; split at this <;> omega
    have hxR := xR.cell
    have fxR := xR.frozen
    have hxC := xC.cell
    rcases ho : sieveOk ps ((k : Int) + 1) with _ | _
    · have hpf : picB ps = false := by
        rcases hpp : picB ps with _ | _
        · rfl
        · rw [sieveOk_pic hpp k4] at ho; cases ho
      gi_wp2
      exact ⟨KeepsOthers.setCell _ _ _, Saves.set _ ⟨Nat.le_refl _, by omega⟩ _, rfl, hpf, xR.set _⟩
    · have hpt := (sieve_parts ho).2
      have HS := Lib.hid (sizes_snoc ho)
      have hrow : W.ownsRow w.heap.size 3 1 (.slice (some ⟨w.heap.size + 1, 0, none⟩) k 5) k (intsZ (sizesUpto ps k)) := by
        have h := hown
        unfold VOwns at h
        rwa [intsZ_length, length_sizesUpto] at h
      obtain ⟨ls, hls⟩ : ∃ ls, sieveR ps ((k : Int) + 1) = ls := ⟨_, rfl⟩
      rw [hls] at HS hc' ou ⊢
      clear hls
      gi_wp2_with (gi_at_builtin; refine wpListIn_append_fits _ rfl _ _ 35 rfl w.heap.size 3 i0 1 Try.underlying35 hi hz1 (w.heap.size + 1) k 5 (intsZ (sizesUpto ps k)) rfl (hrow.alloc _) ⟨W.heap.size, 0, none⟩ 1 1 [.int .i64 (ls.length : Int)] rfl rfl (cell_one_new _ _ _) (by simp [Value.oneCell']) (by omega) ?_; intro w1 o1 g1; have xC1 := (xC.alloc _).kept g1 (by simp; omega); have hc1 := xC1.cell; have hf1 := xC1.frozen)
      have o1' := o1.kept (grownBy_setCell' w1 w2.heap.size (.slice (some ⟨w.heap.size + 1, 0, none⟩) (k + 1) 5)) (.inr (by simp [Value.ownBlock]; omega))
      have oc := hown.below (Below.alloc (Below.refl _ W) (Nat.le_refl _) (.cells #[.int .i64 (ls.length : Int)] 3))
      refine ⟨((KeepsOthers.alloc W _).trans (KeepsOthers.of_grownBy g1 fun j o e hj => ?_)).trans (KeepsOthers.setCell _ _ _), ((Saves.of_below (Below.alloc (Below.refl _ W) (Nat.le_refl _) _)).trans (Saves.of_grown g1 ⟨by omega, by omega⟩)).trans (Saves.set _ ⟨by omega, by omega⟩ _), fun _ => hpt, ((xR.alloc _).kept g1 (by simp)).kept (grownBy_setCell' _ _ _) (by simp; omega), xC1.set _, ?_⟩
      · obtain rfl : w.heap.size + 1 = j := by simpa using e
        exact oc.isCells hj
      · unfold VOwns
        rw [intsZ_length, length_sizesUpto, HS.out]
        exact o1'
  case done =>
    rintro D W ⟨hp, xR, xC, hown⟩ hsv hD hK
    have hpt := hp (by unfold roundsN; split <;> omega)
    rw [roundsN_yes hpt] at xC hown
    have hxR := xR.cell
    have fxR := xR.frozen
    have hxC := xC.cell
    gi_wp2
    have hK' := (KeepsOthers.setCell W ⟨w.heap.size, 0, none⟩ (.slice (some ⟨w.heap.size + 1, 0, none⟩) 5 5)).same D _ hK rfl
    refine ⟨by simp, .inl ⟨_, _, rfl, run_takeDeferred hK', ?_⟩⟩
    have hc5 := ((OfCells.boxed _ _ _).put (.deferred none) (xR.set (.slice (some ⟨w.heap.size + 1, 0, none⟩) 5 5)) hK' rfl).cell
    have ho5 := (VOwns.ofCells _ _ _ _).put (.deferred none) (hown.grown (grownBy_setCell' W w.heap.size (.slice (some ⟨w.heap.size + 1, 0, none⟩) 5 5)) (.inr (by simp [Value.ownBlock]))) hK' rfl
    refine ⟨.slice (some ⟨w.heap.size + 1, 0, none⟩) 5 5, ?_, _, rfl, ?_, b4.trans (((hsv.trans (Saves.set W ⟨Nat.le_refl _, by omega⟩ _)).trans (Saves.put _ hD _)).below b4.size (fun k h => h.1))⟩
    · simp [results, Try.f24, go_sem, hc5]
    · unfold sizesR
      rw [hpt, if_pos rfl]
      exact ho5
  case stop =>
    rintro D c k W hk ⟨rfl, hpf, xR⟩ hsv hD hK
    gi_wp2
    refine ⟨by simp, .inl ⟨_, _, rfl, run_takeDeferred hK, ?_⟩⟩
    have hc5 := ((OfCells.boxed _ _ _).put (.deferred none) xR hK rfl).cell
    refine ⟨.slice none 0 0, ?_, _, rfl, ?_, b4.trans ((hsv.trans (Saves.put _ hD _)).below b4.size (fun k h => h.1))⟩
    · simp [results, Try.f24, go_sem, hc5]
    · unfold sizesR
      rw [hpf]
      exact VOwns.nil _ _ _
end Go.Proofs.Ytbdmppejflokaaa
