/- LoneSpots and BorderOf of the program. No conditions but those typed. -/
import Derived.Test.YtfofmfkdkihhbacPattI
import Derived.Test.YtfofmfkdkihhbacNeigh
namespace Go.Proofs.Ytfofmfkdkihhbac
open Go.RowKit Go.Sort

theorem lone_is (p : List Sp) : foundR p [(0, 0)] ring8 = loneP p := by
  rcases hp : picB p with _ | _
  · rw [loneP_no hp, (found_no1 hp).2]
  · have hs := (picB_pic hp).2.2
    have e := lone_found hs
    have hf : picB (foundL p [(0, 0)] ring8) = true := by rw [e]; exact pic_filter hp _
    rw [(found_yes hp pat_ring hf).2, e, loneP_yes hp]
theorem pat_inside : patB (ballL 1 0) [] = true := by rw [ball_1_0]; decide
theorem border_is (p : List Sp) : thinR p (ballL 1 0) [] = borderP p := by
  rcases hp : picB p with _ | _
  · rw [borderP_no hp, (thin_no1' hp).2]
  · have hs := (picB_pic hp).2.2
    rw [(thin_yes2 hp pat_inside).2, borderP_yes hp]
    unfold borderL
    have h0 : ballL 1 0 ≠ [] := by rw [ball_1_0]; simp
    refine List.filter_congr fun x hx => ?_
    have hm : patAt p (ballL 1 0) [] x = true ↔ (x ∈ p ∧ (!borderAt p x) = true) := by
      rw [← mem_foundL h0, foundL_there hs h0, inside_is hs, List.mem_filter]
    rcases hb : borderAt p x with _ | _
    · rw [hm.2 ⟨hx, by rw [hb]; rfl⟩]; rfl
    · rcases hq : patAt p (ballL 1 0) [] x with _ | _
      · rfl
      · have := (hm.1 hq).2; rw [hb] at this; cases this
theorem Owns.set2 {w : World} {base : Nat} {v : Value} {ps : List Sp} (h : Owns w base v ps) {g n m : Nat} (hg : g < base) (x y : Value) : Owns ((w.setCell ⟨g, n, none⟩ x).setCell ⟨g, m, none⟩ y) base v ps := (h.setOther hg x).setOther hg y
theorem insidePattern_any (w : World) : Calls Try.prog 66 #[] w fun e w' => ∃ vt, e = .returned (.agg #[vt, .slice none 0 0]) ∧ Owns w' w.heap.size vt (ballL 1 0) ∧ Below w.heap.size w w' := by
  obtain ⟨W, hW⟩ : ∃ W, W = w.alloc (.cells #[.slice none 0 0, .slice none 0 0] 25) := ⟨_, rfl⟩
  have b0 : Below w.heap.size w W := by rw [hW]; exact box_below _ _ _
  have q0 : W.heap[w.heap.size]? = some (.cells #[.slice none 0 0, .slice none 0 0] 25 (0, 0)) := by rw [hW]; exact heap_alloc_new w _
  have s0 : w.heap.size < W.heap.size := by rw [hW]; simp
  go_enter Try.func66, Try.ntmps66
  go_wp2_with fail
  rw [← hW]
  clear hW
  refine (implBall_any 1 0 _).mono ?_
  rintro e w1 ⟨v1, rfl, o1, b1⟩
  have q1 := (b1.block _ s0).trans q0
  have c0 := cell_of_row w1 _ 0 _ _ _ q1
  have c1 := cell_of_row w1 _ 1 _ _ _ q1
  simp only [List.getElem?_toArray, List.getElem?_cons_zero, List.getElem?_cons_succ] at c0 c1
  have f0 := frozen_of_row w1 _ 0 _ _ q1
  have f1 := frozen_of_row w1 _ 1 _ _ q1
  obtain ⟨A1, n1, rfl, _, _⟩ := o1.reads.slice
  go_wp2
  refine bodyPost_ret (v := .agg #[.slice A1 (ballL 1 0).length n1, .slice none 0 0]) (by simp [results, Try.results66, go_sem, c0, c1]) rfl ⟨_, rfl, (o1.set2 (by omega) _ _).base (by omega), ?_⟩
  exact ((below_step b0 b1).setCell (p := ⟨w.heap.size, 0, none⟩) (Nat.le_refl _) _).setCell (p := ⟨w.heap.size, 1, none⟩) (Nat.le_refl _) _
theorem lonePattern_any (w : World) : Calls Try.prog 62 #[] w fun e w' => ∃ vt vu, e = .returned (.agg #[vt, vu]) ∧ Owns w' w.heap.size vt [(0, 0)] ∧ Owns w' w.heap.size vu ring8 ∧ Below w.heap.size w w' := by
  obtain ⟨W, hW⟩ : ∃ W, W = w.alloc (.cells #[.slice none 0 0, .slice none 0 0] 25) := ⟨_, rfl⟩
  have b0 : Below w.heap.size w W := by rw [hW]; exact box_below _ _ _
  have q0 : W.heap[w.heap.size]? = some (.cells #[.slice none 0 0, .slice none 0 0] 25 (0, 0)) := by rw [hW]; exact heap_alloc_new w _
  have s0 : w.heap.size < W.heap.size := by rw [hW]; simp
  have hWs : W.heap.size = w.heap.size + 1 := by rw [hW]; simp
  obtain ⟨V, hV⟩ : ∃ V, V = W.alloc (.cells #[.int .i64 0, .int .i64 0] 35) := ⟨_, rfl⟩
  have b01 : Below W.heap.size W V := by rw [hV]; exact box_below _ _ _
  have oV : Owns V W.heap.size (.slice (some ⟨W.heap.size, 0, none⟩) 1 1) [(0, 0)] := by
    rw [hV]; exact World.ownsRow_lit W #[.int .i64 0, .int .i64 0] 1 (Nat.le_refl _) (by simp [maxLen]) rfl
  rw [hWs] at oV
  have q1 := (b01.block _ s0).trans q0
  have s1 := Nat.lt_of_lt_of_le s0 b01.size
  have b1 := below_step b0 b01
  go_enter Try.func62, Try.ntmps62
  go_wp2_with fail
  rw [← hW, ← hV]
  clear hV hW q0 b01 b0
  refine (neighbours_any true _).mono ?_
  rintro e w2 ⟨v2, rfl, o2, b2⟩
  have o2 : Owns w2 V.heap.size v2 ring8 := o2
  have oV := oV.below b2
  have q1 := (b2.block _ s1).trans q1
  have s2 := Nat.lt_of_lt_of_le s1 (Nat.le_refl _)
  have b3 := b2
  have b2 := b1
  have c0 := cell_of_row w2 _ 0 _ _ _ q1
  have c1 := cell_of_row w2 _ 1 _ _ _ q1
  simp only [List.getElem?_toArray, List.getElem?_cons_zero, List.getElem?_cons_succ] at c0 c1
  have f0 := frozen_of_row w2 _ 0 _ _ q1
  have f1 := frozen_of_row w2 _ 1 _ _ q1
  obtain ⟨A2, n2, rfl, _, _⟩ := o2.reads.slice
  go_wp2
  refine bodyPost_ret (v := .agg #[.slice (some ⟨w.heap.size + 1, 0, none⟩) 1 1, .slice A2 ring8.length n2]) (by simp [results, Try.results62, go_sem, c0, c1]) rfl ⟨_, _, rfl, (oV.set2 (by omega) _ _).base (by omega), (o2.set2 s2 _ _).base (by omega), ?_⟩
  exact ((below_step b2 b3).setCell (p := ⟨w.heap.size, 0, none⟩) (Nat.le_refl _) _).setCell (p := ⟨w.heap.size, 1, none⟩) (Nat.le_refl _) _
theorem implLone_any (ps : List Sp) (v : Value) (w : World) (h : Reads w w.heap.size v ps) : Calls Try.prog 33 #[v] w fun e w' => ∃ v', e = .returned v' ∧ Owns w' w.heap.size v' (loneP ps) ∧ Below w.heap.size w w' := by
  rw [← lone_is]
  obtain ⟨A, c, rfl, _, _⟩ := h.slice
  go_enter Try.func33, Try.ntmps33
  go_wp2_with fail
  refine (lonePattern_any _).mono ?_
  rintro e w1 ⟨vt, vu, rfl, ot, ou, b1⟩
  have s1 := b1.size
  have hcl := implFound_any ps [(0, 0)] ring8 _ vt vu w1 (h.kept b1) ot.reads ou.reads
  go_wp2_with fail
  refine hcl.mono ?_
  rintro e w2 ⟨v2, rfl, o2, b2⟩
  go_wp2
  go_ret
  exact ⟨_, rfl, o2.base s1, below_step b1 b2⟩
theorem implBorder_any (ps : List Sp) (v : Value) (w : World) (h : Reads w w.heap.size v ps) : Calls Try.prog 36 #[v] w fun e w' => ∃ v', e = .returned v' ∧ Owns w' w.heap.size v' (borderP ps) ∧ Below w.heap.size w w' := by
  rw [← border_is]
  obtain ⟨A, c, rfl, _, _⟩ := h.slice
  go_enter Try.func36, Try.ntmps36
  go_wp2_with fail
  refine (insidePattern_any _).mono ?_
  rintro e w1 ⟨vt, rfl, ot, b1⟩
  have s1 := b1.size
  have hcl := implThin_any ps (ballL 1 0) [] _ vt _ w1 (h.kept b1) ot.reads (Reads.nil _ _)
  go_wp2_with fail
  refine hcl.mono ?_
  rintro e w2 ⟨v2, rfl, o2, b2⟩
  go_wp2
  go_ret
  exact ⟨_, rfl, o2.base s1, below_step b1 b2⟩
end Go.Proofs.Ytfofmfkdkihhbac
