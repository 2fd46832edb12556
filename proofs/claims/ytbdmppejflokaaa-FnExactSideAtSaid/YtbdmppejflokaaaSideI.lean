/- The program's SideAt: the greatest side by which a spot is left. No conditions but those typed. -/
import Derived.Test.YtbdmppejflokaaaSizeI
namespace Go.Proofs.Ytbdmppejflokaaa
open Go.RowKit Go.Sort
attribute [local go_sem] Oper.semAt_some

theorem OfCells.or {I J : World → Prop} (h : OfCells I) (k : OfCells J) : OfCells fun w => I w ∨ J w := fun A B hi hs hc => hi.elim (fun i => .inl (h A B i hs hc)) (fun j => .inr (k A B j hs hc))
theorem KeepsOthers.of_below {A B : World} (h : Below A.heap.size A B) : KeepsOthers A B := ⟨h.size, fun k _ hk _ => (h.block k (Array.getElem?_eq_some_iff.1 hk).1).trans hk⟩
theorem sideUpto_no {ps : List Sp} {a : Sp} {k : Nat} (h : ¬ a ∈ openL ps ((k : Int) + 1)) (hk : k ≤ 4) : ∀ j, k ≤ j → j ≤ 5 → sideUpto ps a j = sideUpto ps a k
  | 0, h1, _ => by
    obtain rfl : k = 0 := by omega
    rfl
  | j + 1, h1, h2 => by
    by_cases e : k = j + 1
    · rw [e]
    · have hn : ¬ a ∈ openL ps ((j + 1 : Nat) : Int) := fun hm => h (open_less (j := (k : Int) + 1) (k := ((j + 1 : Nat) : Int)) (size_yes (by omega) (by omega)) (size_yes (by omega) (by omega)) (by omega) a hm)
      rw [sideUpto, if_neg hn]
      exact sideUpto_no h hk j (by omega) (by omega)
theorem sideUpto_yes {ps : List Sp} {a : Sp} {k : Nat} (h : a ∈ openL ps ((k : Int) + 1)) : sideUpto ps a (k + 1) = k + 1 := by
  rw [sideUpto]
  exact if_pos h

set_option maxRecDepth 100000 in
set_option maxHeartbeats 1600000 in
theorem implSide_any (ps : List Sp) (v : Value) (ax ay : Int) (w : World) (h : Reads w w.heap.size v ps) : Calls Try.prog 31 #[v, .agg #[.int .i64 ax, .int .i64 ay]] w (Gives (.int .i64 (sideR ps (ax, ay))) w) := by
  obtain ⟨A, c, rfl, hc, hm⟩ := h.slice
  refine (callsIn_wide (n := 3)).1 ?_
  refine callsIn_of_wp_marks Try.func31 rfl trivial ?_
  simp only [Try.ntmps31, List.size_toArray, List.length_cons, List.length_nil, Nat.reduceAdd, Nat.reduceSub, Array.replicate_succ, Array.replicate_zero, List.push_toArray, List.append_toArray, List.nil_append, List.cons_append]
  gi_wp2_with fail
  refine ⟨trivial, ?_⟩
  refine (callsIn_wide.2 (leftBy_any A ps.length c _)).mono ?_
  rintro e w4 ⟨rfl, rfl⟩
  have b1 : Below w.heap.size w (w.alloc (.cells #[.int .i64 ax, .int .i64 ay] 39)) := (Below.refl _ _).alloc (Nat.le_refl _) _
  have z1 := World.alloc_heap_new w (.cells #[.int .i64 ax, .int .i64 ay] 39)
  have s1 : (w.alloc (.cells #[.int .i64 ax, .int .i64 ay] 39)).heap.size = w.heap.size + 1 := by simp
  obtain ⟨W1, hW1⟩ : ∃ W1, w.alloc (.cells #[.int .i64 ax, .int .i64 ay] 39) = W1 := ⟨_, rfl⟩
  rw [hW1] at b1 z1 s1 ⊢
  clear hW1
  have x2 := ((Boxed.new W1 3 (.int .i64 0)).alloc (.cells #[.int .i64 0] 3)).alloc (.cells #[.slice A ps.length c] 24)
  have y2 := (Boxed.new (W1.alloc (.cells #[.int .i64 0] 3)) 3 (.int .i64 0)).alloc (.cells #[.slice A ps.length c] 24)
  have p2 := Boxed.new ((W1.alloc (.cells #[.int .i64 0] 3)).alloc (.cells #[.int .i64 0] 3)) 24 (.slice A ps.length c)
  have b2 : Below W1.heap.size W1 (((W1.alloc (.cells #[.int .i64 0] 3)).alloc (.cells #[.int .i64 0] 3)).alloc (.cells #[.slice A ps.length c] 24)) := (((Below.refl _ _).alloc (Nat.le_refl _) _).alloc (by simp) _).alloc (by simp; omega) _
  have s4 : (((W1.alloc (.cells #[.int .i64 0] 3)).alloc (.cells #[.int .i64 0] 3)).alloc (.cells #[.slice A ps.length c] 24)).heap.size = w.heap.size + 4 := by simp; omega
  rw [World.size_alloc] at y2
  rw [World.size_alloc, World.size_alloc] at p2
  obtain ⟨W4, hW4⟩ : ∃ W4, ((W1.alloc (.cells #[.int .i64 0] 3)).alloc (.cells #[.int .i64 0] 3)).alloc (.cells #[.slice A ps.length c] 24) = W4 := ⟨_, rfl⟩
  rw [hW4] at x2 y2 p2 b2 s4
  rw [s1] at x2 y2 p2
  have b4 : Below w.heap.size w W4 := below_step b1 b2
  have r4 := h.below b4
  have z4 := (b2.block w.heap.size (by omega)).trans z1
  have sz : ((W1.alloc (.cells #[.int .i64 0] 3)).alloc (.cells #[.int .i64 0] 3)).heap.size = w.heap.size + 3 := by simp; omega
  rw [hW4, sz]
  clear hW4 sz
  rw [show w.heap.size + 1 + 1 = w.heap.size + 2 by omega] at y2
  rw [show w.heap.size + 1 + 1 + 1 = w.heap.size + 3 by omega] at p2
  clear b2 z1 b1 s1
  gi_wp2
  refine wpIn_rangeFunc_mem rfl (by omega) (gf := 76) (lb := #[.pointer (some ⟨w.heap.size + 3, 0, none⟩)]) rfl trivial (enters_of Try.func76 (by kernel_rfl) rfl)
    (left_seq 2 w.heap.size (w.heap.size + 3) ps _ (fun k => w.heap.size + 1 ≤ k ∧ k < w.heap.size + 6) W4 p2 r4 b4.size (fun k h => by omega)) (fun _ => rfl) (leftIs_cells ps) (by constructor <;> omega) (by constructor <;> omega)
    (fun k W => (0 < k → picB ps = true) ∧ sideUpto ps (ax, ay) k = k ∧ Boxed W (w.heap.size + 1) 3 (.int .i64 0) ∧ Boxed W (w.heap.size + 2) 3 (.int .i64 (k : Int)))
    (fun c k W => (c = .ret ∧ picB ps = false ∧ Boxed W (w.heap.size + 1) 3 (.int .i64 (-1))) ∨ (c = .exit 0 ∧ picB ps = true ∧ sideUpto ps (ax, ay) 5 = k ∧ Boxed W (w.heap.size + 1) 3 (.int .i64 0) ∧ Boxed W (w.heap.size + 2) 3 (.int .i64 (k : Int))))
    (fun k => (OfCells.pure _).and ((OfCells.pure _).and ((OfCells.boxed _ _ _).and (OfCells.boxed _ _ _)))) (fun _ _ => OfCells.or ((OfCells.pure _).and ((OfCells.pure _).and (OfCells.boxed _ _ _))) ((OfCells.pure _).and ((OfCells.pure _).and ((OfCells.pure _).and ((OfCells.boxed _ _ _).and (OfCells.boxed _ _ _))))))
    ⟨fun h => by omega, rfl, x2, y2⟩
    (fun x => { tmps := #[.slice A ps.length c, .agg #[.int .i64 ax, .int .i64 ay], undef, .pointer (some ⟨w.heap.size, 0, none⟩), .pointer (some ⟨w.heap.size + 1, 0, none⟩), .pointer (some ⟨w.heap.size + 1 + 1, 0, none⟩), x.1, .bool x.2, .slice A ps.length c, .func (.func 76) #[] #[.pointer (some ⟨w.heap.size + 3, 0, none⟩)], x.1, .bool x.2, undef, undef, undef, undef, undef, undef, undef, undef, undef], defers := [] }) ?assign ?body ?done ?stop
  case assign =>
    intro l x W K hK
    gi_wp2
    exact hK
  case body =>
    rintro l k ⟨u, b⟩ W ⟨hp, hsd, xR, xC⟩ hk ⟨hb, ou⟩ hsv hWs
    simp only [] at hb ou
    subst hb
    obtain ⟨A', c', rfl, hc', hm'⟩ := ou.reads.slice
    unfold maxLen at hm'
    have k4 : k ≤ 4 := by have := hk; unfold roundsN at this; split at this <;> omega
    have hxR := xR.cell
    have fxR := xR.frozen
    have z5 := (hsv.block w.heap.size (by omega) (by intro h; omega)).trans z4
    have c0 := cell_of_row W _ 0 _ _ _ z5
    have c1 := cell_of_row W _ 1 _ _ _ z5
    simp only [List.getElem?_toArray, List.getElem?_cons_zero, List.getElem?_cons_succ] at c0 c1
    rcases ho : sieveOk ps ((k : Int) + 1) with _ | _
    · have hpf : picB ps = false := by
        rcases hpp : picB ps with _ | _
        · rfl
        · rw [sieveOk_pic hpp k4] at ho; cases ho
      gi_wp2
      exact ⟨KeepsOthers.setCell _ _ _, Saves.set _ ⟨by omega, by omega⟩ _, .inl ⟨rfl, hpf, xR.set _⟩⟩
    · have hpt := (sieve_parts ho).2
      obtain ⟨ls, hls⟩ : ∃ ls, sieveR ps ((k : Int) + 1) = ls := ⟨_, rfl⟩
      have hopen : openL ps ((k : Int) + 1) = ls := by rw [← hls, sieve_yes ho]
      have hso : Sorted ls := by rw [← hopen]; exact sorted_openL _ _
      have hln : ls.length ≤ 1000000 := by
        rw [← hopen]
        have := (picB_pic (pic_open hpt (sieve_parts ho).1)).1
        omega
      rw [hls] at hc' ou ⊢
      clear hls
      have hru := ou.reads
      by_cases hmem : (ax, ay) ∈ ls
      · have hin := gives_is (show decide ((ax, ay) ∈ ls) = true from decide_eq_true hmem) (inPicture_any ls _ ax ay W hru hso hln)
        have hnx : sideUpto ps (ax, ay) (k + 1) = k + 1 := sideUpto_yes (by rw [hopen]; exact hmem)
        clear hmem ho hopen
        gi_wp2_with fail
        refine ⟨trivial, ?_⟩
        refine (CallsIn.inRound l (callsIn_wide.2 hin)).mono ?_
        rintro e w1 ⟨rfl, b1⟩
        have xC1 : Boxed w1 (w.heap.size + 2) 3 (.int .i64 (k : Int)) := (b1.block _ xC.lt).trans xC
        have xR1 : Boxed w1 (w.heap.size + 1) 3 (.int .i64 0) := (b1.block _ xR.lt).trans xR
        have hc1 := xC1.cell
        have hf1 := xC1.frozen
        gi_wp2
        exact ⟨(KeepsOthers.of_below b1).trans (KeepsOthers.setCell _ _ _), (Saves.of_below b1).trans (Saves.set _ ⟨by omega, by omega⟩ _), fun _ => hpt, hnx, xR1.kept (grownBy_setCell' _ _ _) (by simp), xC1.set _⟩
      · have hin := gives_is (show decide ((ax, ay) ∈ ls) = false from decide_eq_false hmem) (inPicture_any ls _ ax ay W hru hso hln)
        have hnx : sideUpto ps (ax, ay) 5 = k := by rw [sideUpto_no (k := k) (by rw [hopen]; exact hmem) k4 5 (by omega) (by omega)]; exact hsd
        clear hmem ho hopen
        gi_wp2_with fail
        refine ⟨trivial, ?_⟩
        refine (CallsIn.inRound l (callsIn_wide.2 hin)).mono ?_
        rintro e w1 ⟨rfl, b1⟩
        have xC1 : Boxed w1 (w.heap.size + 2) 3 (.int .i64 (k : Int)) := (b1.block _ xC.lt).trans xC
        have xR1 : Boxed w1 (w.heap.size + 1) 3 (.int .i64 0) := (b1.block _ xR.lt).trans xR
        gi_wp2
        exact ⟨KeepsOthers.of_below b1, Saves.of_below b1, .inr ⟨rfl, hpt, hnx, xR1, xC1⟩⟩
  case done =>
    rintro D W ⟨hp, hsd, xR, xC⟩ hsv hD hK
    have hpt := hp (by unfold roundsN; split <;> omega)
    rw [roundsN_yes hpt] at xC hsd
    have HR := Lib.hid (show sideR ps (ax, ay) = 5 by unfold sideR; rw [hpt, if_pos rfl, hsd]; rfl)
    have hxR := xR.cell
    have fxR := xR.frozen
    have hxC := xC.cell
    gi_wp2
    have hK' := (KeepsOthers.setCell W ⟨w.heap.size + 1, 0, none⟩ (.int .i64 5)).same D _ hK rfl
    refine ⟨by simp, .inl ⟨_, _, rfl, run_takeDeferred hK', ?_⟩⟩
    have hc5 := ((OfCells.boxed _ _ _).put (.deferred none) (xR.set (.int .i64 5)) hK' rfl).cell
    refine ⟨.int .i64 5, ?_, by rw [HR.out], b4.trans (((hsv.trans (Saves.set W ⟨by omega, by omega⟩ _)).trans (Saves.put _ hD _)).below b4.size (fun k h => by omega))⟩
    simp [results, Try.f31, go_sem, hc5]
  case stop =>
    rintro D c k W hk hix hsv hD hK
    rcases hix with ⟨rfl, hpf, xR⟩ | ⟨rfl, hpt, hsd, xR, xC⟩
    · have HR := Lib.hid (show sideR ps (ax, ay) = -1 by unfold sideR; rw [hpf]; rfl)
      gi_wp2
      refine ⟨by simp, .inl ⟨_, _, rfl, run_takeDeferred hK, ?_⟩⟩
      have hc5 := ((OfCells.boxed _ _ _).put (.deferred none) xR hK rfl).cell
      refine ⟨.int .i64 (-1), ?_, by rw [HR.out], b4.trans ((hsv.trans (Saves.put _ hD _)).below b4.size (fun k h => by omega))⟩
      simp [results, Try.f31, go_sem, hc5]
    · have HR := Lib.hid (show sideR ps (ax, ay) = (k : Int) by unfold sideR; rw [hpt, if_pos rfl, hsd])
      have hxR := xR.cell
      have fxR := xR.frozen
      have hxC := xC.cell
      gi_wp2
      have hK' := (KeepsOthers.setCell W ⟨w.heap.size + 1, 0, none⟩ (.int .i64 (k : Int))).same D _ hK rfl
      refine ⟨by simp, .inl ⟨_, _, rfl, run_takeDeferred hK', ?_⟩⟩
      have hc5 := ((OfCells.boxed _ _ _).put (.deferred none) (xR.set (.int .i64 (k : Int))) hK' rfl).cell
      refine ⟨.int .i64 (k : Int), ?_, by rw [HR.out], b4.trans (((hsv.trans (Saves.set W ⟨by omega, by omega⟩ _)).trans (Saves.put _ hD _)).below b4.size (fun k h => by omega))⟩
      simp [results, Try.f31, go_sem, hc5]
end Go.Proofs.Ytbdmppejflokaaa
