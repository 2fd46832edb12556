/- The program's spotsBetween, for a rule that is fitRule's closure, or ballsBy's: all spots of a box that the rule allows, row by row. No conditions but those typed. -/
import Derived.Test.YtkiidmdgdjphjaaGreatMem
import Derived.Test.YtkiidmdgdjphjaaGreatHas
import Derived.Test.YtkiidmdgdjphjaaGreatPlain
namespace Go.Proofs.YtkiidmdgdjphjaaGreat
open Go.RowKit Go.Sort

set_option maxHeartbeats 1600000 in
theorem betw_any (f : Sp → Bool) (P Q : Nat)(lx ly gx gy : Int) (w : World) (h1 : -100 ≤ lx) (h2 : lx ≤ 100) (h3 : -100 ≤ ly) (h4 : ly ≤ 100) (h5 : -100 ≤ gx) (h6 : gx ≤ 100) (h7 : -100 ≤ gy) (h8 : gy ≤ 100)
    (hf : ∀ (x y : Int) (w1 : World), -100 ≤ x → x ≤ 100 → -100 ≤ y → y ≤ 100 → Below w.heap.size w w1 → Calls Tryz.prog 116 #[.agg #[.int .i64 x, .int .i64 y], .pointer (some ⟨Q, 0, none⟩), .pointer (some ⟨P, 0, none⟩)] w1 (Gives (.bool (f (x, y))) w1)) :
    Calls Tryz.prog 100 #[.agg #[.int .i64 lx, .int .i64 ly], .agg #[.int .i64 gx, .int .i64 gy], .func (.func 116) #[] #[.pointer (some ⟨Q, 0, none⟩), .pointer (some ⟨P, 0, none⟩)]] w
      fun e w' => ∃ v', e = .returned v' ∧ Owns w' w.heap.size v' (betw f (lx, ly) (gx, gy)) ∧ Below w.heap.size w w' := by
  have HF := Lib.hid hf
  clear hf
  have b0 : Below w.heap.size w ((w.alloc (.cells #[.int .i64 lx, .int .i64 ly] 53)).alloc (.cells #[.int .i64 gx, .int .i64 gy] 53)) := (box_below w _ _).alloc (by simp) _
  obtain ⟨W, hW⟩ : ∃ W, W = (w.alloc (.cells #[.int .i64 lx, .int .i64 ly] 53)).alloc (.cells #[.int .i64 gx, .int .i64 gy] 53) := ⟨_, rfl⟩
  have hWs : w.heap.size + 2 ≤ W.heap.size := by rw [hW]; simp
  have z0 : W.heap[w.heap.size]? = some (.cells #[.int .i64 lx, .int .i64 ly] 53 (0, 0)) := by
    rw [hW]; exact (((Below.refl _ _).alloc (Nat.le_refl _) _).block _ (by simp)).trans (heap_alloc_new w _)
  have z1 : W.heap[w.heap.size + 1]? = some (.cells #[.int .i64 gx, .int .i64 gy] 53 (0, 0)) := by
    rw [hW]
    have := heap_alloc_new (w.alloc (.cells #[.int .i64 lx, .int .i64 ly] 53)) (.cells #[.int .i64 gx, .int .i64 gy] 53)
    simpa using this
  rw [← hW] at b0
  obtain ⟨n, hn⟩ : ∃ n, n = span lx gx := ⟨_, rfl⟩
  have hn2 : n ≤ 201 := by rw [hn]; exact span_le h1 h6
  have HN := Lib.hid hn
  clear hn
  have l0 := cell_of_row W _ 0 _ _ _ z0
  have l1 := cell_of_row W _ 1 _ _ _ z0
  have g0 := cell_of_row W _ 0 _ _ _ z1
  have g1 := cell_of_row W _ 1 _ _ _ z1
  simp only [List.getElem?_toArray, List.getElem?_cons_zero, List.getElem?_cons_succ] at l0 l1 g0 g1
  have s0 : w.heap.size < W.heap.size := by omega
  have s1 : w.heap.size + 1 < W.heap.size := by omega
  clear z0 z1
  go_enter Tryz.func100, Tryz.ntmps100
  go_wp2_with (first | (rw [← hW]; clear hW) | fail)
  go_loopw [7, 8] (fun o i wr => ∃ y : Int, i = .int .i64 y ∧ ly ≤ y ∧ (y ≤ ly ∨ y ≤ gy + 1) ∧ Owns wr W.heap.size o (rowsB f lx ly n (y - ly).toNat) ∧ Below W.heap.size W wr) (fun _ i _ => (gy + 1 - intOf i).toNat)
  case atStart => exact ⟨ly, rfl, by omega, Or.inl (by omega), by rw [Int.sub_self]; exact Owns.nil _ _, Below.refl _ _⟩
  case round =>
    obtain ⟨y, rfl, hy1, hy2, hown, hbw⟩ := hrel
    have hbs := hbw.size
    by_cases hlt : y ≤ gy
    · have q1 := (hbw.cell (p := ⟨w.heap.size, 0, none⟩) s0).trans l0
      have q3 := (hbw.cell (p := ⟨w.heap.size + 1, 1, none⟩) s1).trans g1
      go_wp2
      go_loopw [7, 9] (fun o i wr => ∃ x : Int, i = .int .i64 x ∧ lx ≤ x ∧ (x ≤ lx ∨ x ≤ gx + 1) ∧ Owns wr W.heap.size o (rowsB f lx ly n (y - ly).toNat ++ rowB f lx y (x - lx).toNat) ∧ Below W.heap.size W wr) (fun _ i _ => (gx + 1 - intOf i).toNat)
      case atStart => exact ⟨lx, rfl, by omega, Or.inl (by omega), by rw [Int.sub_self]; simpa [rowB_zero] using hown, hbw⟩
      case round =>
        clear hbw hown q1 q3 hbs
        obtain ⟨x, rfl, hx1, hx2, hown, hbw⟩ := hrel
        have hbs := hbw.size
        by_cases hlx : x ≤ gx
        · have q2 := (hbw.cell (p := ⟨w.heap.size + 1, 0, none⟩) s1).trans g0
          have hlen := length_part f lx ly y x n hn2 (by omega) (by omega)
          have hW2 : Below w.heap.size w (wr.alloc (.cells #[.int .i64 x, .int .i64 y] 53)) := (b0.trans (hbw.mono b0.size)).alloc (Nat.le_trans b0.size hbs) _
          have hc := HF.out x y (wr.alloc (.cells #[.int .i64 x, .int .i64 y] 53)) (by omega) (by omega) (by omega) (by omega) hW2
          have c0 : (wr.alloc (.cells #[.int .i64 x, .int .i64 y] 53)).cell? ⟨wr.heap.size, 0, none⟩ = some (.int .i64 x) := by simp [go_sem]
          have c1 : (wr.alloc (.cells #[.int .i64 x, .int .i64 y] 53)).cell? ⟨wr.heap.size, 1, none⟩ = some (.int .i64 y) := by simp [go_sem]
          have bal : Below wr.heap.size wr (wr.alloc (.cells #[.int .i64 x, .int .i64 y] 53)) := box_below _ _ _
          have oal := hown.below bal
          have bwl := hbw.trans (bal.mono hbs)
          rcases hff : f (x, y) with _ | _
          · have HT := Lib.hid (row_no hx1 hff)
            rw [hff] at hc
            clear hff
            go_wp2_with fail
            refine hc.mono ?_
            rintro e w2 ⟨rfl, b2⟩
            have bw2 := bwl.trans (b2.mono bwl.size)
            have o2 := oal.below b2
            go_wp2
            go_roundw
            case rel => exact ⟨x + 1, rfl, by omega, Or.inr (by omega), by rw [← HT.out]; exact o2, bw2⟩
            case measure => simp [intOf]; omega
          · have HT := Lib.hid (row_yes hx1 hff)
            rw [hff] at hc
            clear hff
            go_wp2_with fail
            refine hc.mono ?_
            rintro e w2 ⟨rfl, b2⟩
            have bw2 := bwl.trans (b2.mono bwl.size)
            have o2 := oal.below b2
            have d0 := (b2.cell (p := ⟨wr.heap.size, 0, none⟩) (by simp)).trans c0
            have d1 := (b2.cell (p := ⟨wr.heap.size, 1, none⟩) (by simp)).trans c1
            have o3 := o2.below (box_below w2 #[.int .i64 x, .int .i64 y] 53)
            have s2 := bw2.size
            clear c0 c1
            go_wp2_with (at_builtin; refine wpList_append_spots (qs := [(x, y)]) o3 (Reads.one (g := w2.heap.size) (by simp [go_sem]) (by simp [go_sem])) (by simp only [List.length_cons, List.length_nil]; omega) (by simp only [World.size_alloc]; omega) rfl (.tmp 33) (.tmp 35) rfl rfl rfl ?_)
            intro v4 w4 o4 g4 hv4
            have bw4 := o3.below_app (bw2.alloc s2 _) (by simp only [World.size_alloc]; omega) g4
            go_wp2
            go_roundw
            case rel => exact ⟨x + 1, rfl, by omega, Or.inr (by omega), by rw [← HT.out]; first | exact o4 | (rw [← List.append_assoc]; exact o4), bw4⟩
            case measure => simp [intOf]; omega
        · have q2 := (hbw.cell (p := ⟨w.heap.size + 1, 0, none⟩) s1).trans g0
          have HE := Lib.hid (span_end (show gx < x by omega) hx2 hx1)
          have HR := Lib.hid (rows_next (f := f) (x := lx) (n := n) hy1)
          rw [HE.out, ← HN.out, HR.out] at hown
          go_wp2
          go_roundw
          case rel => exact ⟨y + 1, rfl, by omega, Or.inr (by omega), hown, hbw⟩
          case measure => simp [intOf]; omega
    · have q3 := (hbw.cell (p := ⟨w.heap.size + 1, 1, none⟩) s1).trans g1
      have HE := Lib.hid (span_end (show gy < y by omega) hy2 hy1)
      rw [HE.out, HN.out] at hown
      go_wp2
      go_ret
      exact ⟨_, rfl, hown.base (by omega), b0.trans (hbw.mono b0.size)⟩

set_option maxHeartbeats 1600000 in
theorem betwBall_any (f : Sp → Bool) (P Q : Nat)(lx ly gx gy : Int) (w : World) (h1 : -100 ≤ lx) (h2 : lx ≤ 100) (h3 : -100 ≤ ly) (h4 : ly ≤ 100) (h5 : -100 ≤ gx) (h6 : gx ≤ 100) (h7 : -100 ≤ gy) (h8 : gy ≤ 100)
    (hf : ∀ (x y : Int) (w1 : World), -100 ≤ x → x ≤ 100 → -100 ≤ y → y ≤ 100 → Below w.heap.size w w1 → Calls Tryz.prog 121 #[.agg #[.int .i64 x, .int .i64 y], .pointer (some ⟨Q, 0, none⟩), .pointer (some ⟨P, 0, none⟩)] w1 (Gives (.bool (f (x, y))) w1)) :
    Calls Tryz.prog 100 #[.agg #[.int .i64 lx, .int .i64 ly], .agg #[.int .i64 gx, .int .i64 gy], .func (.func 121) #[] #[.pointer (some ⟨Q, 0, none⟩), .pointer (some ⟨P, 0, none⟩)]] w
      fun e w' => ∃ v', e = .returned v' ∧ Owns w' w.heap.size v' (betw f (lx, ly) (gx, gy)) ∧ Below w.heap.size w w' := by
  have HF := Lib.hid hf
  clear hf
  have b0 : Below w.heap.size w ((w.alloc (.cells #[.int .i64 lx, .int .i64 ly] 53)).alloc (.cells #[.int .i64 gx, .int .i64 gy] 53)) := (box_below w _ _).alloc (by simp) _
  obtain ⟨W, hW⟩ : ∃ W, W = (w.alloc (.cells #[.int .i64 lx, .int .i64 ly] 53)).alloc (.cells #[.int .i64 gx, .int .i64 gy] 53) := ⟨_, rfl⟩
  have hWs : w.heap.size + 2 ≤ W.heap.size := by rw [hW]; simp
  have z0 : W.heap[w.heap.size]? = some (.cells #[.int .i64 lx, .int .i64 ly] 53 (0, 0)) := by
    rw [hW]; exact (((Below.refl _ _).alloc (Nat.le_refl _) _).block _ (by simp)).trans (heap_alloc_new w _)
  have z1 : W.heap[w.heap.size + 1]? = some (.cells #[.int .i64 gx, .int .i64 gy] 53 (0, 0)) := by
    rw [hW]
    have := heap_alloc_new (w.alloc (.cells #[.int .i64 lx, .int .i64 ly] 53)) (.cells #[.int .i64 gx, .int .i64 gy] 53)
    simpa using this
  rw [← hW] at b0
  obtain ⟨n, hn⟩ : ∃ n, n = span lx gx := ⟨_, rfl⟩
  have hn2 : n ≤ 201 := by rw [hn]; exact span_le h1 h6
  have HN := Lib.hid hn
  clear hn
  have l0 := cell_of_row W _ 0 _ _ _ z0
  have l1 := cell_of_row W _ 1 _ _ _ z0
  have g0 := cell_of_row W _ 0 _ _ _ z1
  have g1 := cell_of_row W _ 1 _ _ _ z1
  simp only [List.getElem?_toArray, List.getElem?_cons_zero, List.getElem?_cons_succ] at l0 l1 g0 g1
  have s0 : w.heap.size < W.heap.size := by omega
  have s1 : w.heap.size + 1 < W.heap.size := by omega
  clear z0 z1
  go_enter Tryz.func100, Tryz.ntmps100
  go_wp2_with (first | (rw [← hW]; clear hW) | fail)
  go_loopw [7, 8] (fun o i wr => ∃ y : Int, i = .int .i64 y ∧ ly ≤ y ∧ (y ≤ ly ∨ y ≤ gy + 1) ∧ Owns wr W.heap.size o (rowsB f lx ly n (y - ly).toNat) ∧ Below W.heap.size W wr) (fun _ i _ => (gy + 1 - intOf i).toNat)
  case atStart => exact ⟨ly, rfl, by omega, Or.inl (by omega), by rw [Int.sub_self]; exact Owns.nil _ _, Below.refl _ _⟩
  case round =>
    obtain ⟨y, rfl, hy1, hy2, hown, hbw⟩ := hrel
    have hbs := hbw.size
    by_cases hlt : y ≤ gy
    · have q1 := (hbw.cell (p := ⟨w.heap.size, 0, none⟩) s0).trans l0
      have q3 := (hbw.cell (p := ⟨w.heap.size + 1, 1, none⟩) s1).trans g1
      go_wp2
      go_loopw [7, 9] (fun o i wr => ∃ x : Int, i = .int .i64 x ∧ lx ≤ x ∧ (x ≤ lx ∨ x ≤ gx + 1) ∧ Owns wr W.heap.size o (rowsB f lx ly n (y - ly).toNat ++ rowB f lx y (x - lx).toNat) ∧ Below W.heap.size W wr) (fun _ i _ => (gx + 1 - intOf i).toNat)
      case atStart => exact ⟨lx, rfl, by omega, Or.inl (by omega), by rw [Int.sub_self]; simpa [rowB_zero] using hown, hbw⟩
      case round =>
        clear hbw hown q1 q3 hbs
        obtain ⟨x, rfl, hx1, hx2, hown, hbw⟩ := hrel
        have hbs := hbw.size
        by_cases hlx : x ≤ gx
        · have q2 := (hbw.cell (p := ⟨w.heap.size + 1, 0, none⟩) s1).trans g0
          have hlen := length_part f lx ly y x n hn2 (by omega) (by omega)
          have hW2 : Below w.heap.size w (wr.alloc (.cells #[.int .i64 x, .int .i64 y] 53)) := (b0.trans (hbw.mono b0.size)).alloc (Nat.le_trans b0.size hbs) _
          have hc := HF.out x y (wr.alloc (.cells #[.int .i64 x, .int .i64 y] 53)) (by omega) (by omega) (by omega) (by omega) hW2
          have c0 : (wr.alloc (.cells #[.int .i64 x, .int .i64 y] 53)).cell? ⟨wr.heap.size, 0, none⟩ = some (.int .i64 x) := by simp [go_sem]
          have c1 : (wr.alloc (.cells #[.int .i64 x, .int .i64 y] 53)).cell? ⟨wr.heap.size, 1, none⟩ = some (.int .i64 y) := by simp [go_sem]
          have bal : Below wr.heap.size wr (wr.alloc (.cells #[.int .i64 x, .int .i64 y] 53)) := box_below _ _ _
          have oal := hown.below bal
          have bwl := hbw.trans (bal.mono hbs)
          rcases hff : f (x, y) with _ | _
          · have HT := Lib.hid (row_no hx1 hff)
            rw [hff] at hc
            clear hff
            go_wp2_with fail
            refine hc.mono ?_
            rintro e w2 ⟨rfl, b2⟩
            have bw2 := bwl.trans (b2.mono bwl.size)
            have o2 := oal.below b2
            go_wp2
            go_roundw
            case rel => exact ⟨x + 1, rfl, by omega, Or.inr (by omega), by rw [← HT.out]; exact o2, bw2⟩
            case measure => simp [intOf]; omega
          · have HT := Lib.hid (row_yes hx1 hff)
            rw [hff] at hc
            clear hff
            go_wp2_with fail
            refine hc.mono ?_
            rintro e w2 ⟨rfl, b2⟩
            have bw2 := bwl.trans (b2.mono bwl.size)
            have o2 := oal.below b2
            have d0 := (b2.cell (p := ⟨wr.heap.size, 0, none⟩) (by simp)).trans c0
            have d1 := (b2.cell (p := ⟨wr.heap.size, 1, none⟩) (by simp)).trans c1
            have o3 := o2.below (box_below w2 #[.int .i64 x, .int .i64 y] 53)
            have s2 := bw2.size
            clear c0 c1
            go_wp2_with (at_builtin; refine wpList_append_spots (qs := [(x, y)]) o3 (Reads.one (g := w2.heap.size) (by simp [go_sem]) (by simp [go_sem])) (by simp only [List.length_cons, List.length_nil]; omega) (by simp only [World.size_alloc]; omega) rfl (.tmp 33) (.tmp 35) rfl rfl rfl ?_)
            intro v4 w4 o4 g4 hv4
            have bw4 := o3.below_app (bw2.alloc s2 _) (by simp only [World.size_alloc]; omega) g4
            go_wp2
            go_roundw
            case rel => exact ⟨x + 1, rfl, by omega, Or.inr (by omega), by rw [← HT.out]; first | exact o4 | (rw [← List.append_assoc]; exact o4), bw4⟩
            case measure => simp [intOf]; omega
        · have q2 := (hbw.cell (p := ⟨w.heap.size + 1, 0, none⟩) s1).trans g0
          have HE := Lib.hid (span_end (show gx < x by omega) hx2 hx1)
          have HR := Lib.hid (rows_next (f := f) (x := lx) (n := n) hy1)
          rw [HE.out, ← HN.out, HR.out] at hown
          go_wp2
          go_roundw
          case rel => exact ⟨y + 1, rfl, by omega, Or.inr (by omega), hown, hbw⟩
          case measure => simp [intOf]; omega
    · have q3 := (hbw.cell (p := ⟨w.heap.size + 1, 1, none⟩) s1).trans g1
      have HE := Lib.hid (span_end (show gy < y by omega) hy2 hy1)
      rw [HE.out, HN.out] at hown
      go_wp2
      go_ret
      exact ⟨_, rfl, hown.base (by omega), b0.trans (hbw.mono b0.size)⟩

set_option maxHeartbeats 1600000 in
theorem betwSquare_any (f : Sp → Bool) (lx ly gx gy : Int) (w : World) (h1 : -100 ≤ lx) (h2 : lx ≤ 100) (h3 : -100 ≤ ly) (h4 : ly ≤ 100) (h5 : -100 ≤ gx) (h6 : gx ≤ 100) (h7 : -100 ≤ gy) (h8 : gy ≤ 100)
    (hf : ∀ (x y : Int) (w1 : World), -100 ≤ x → x ≤ 100 → -100 ≤ y → y ≤ 100 → Below w.heap.size w w1 → Calls Tryz.prog 124 #[.agg #[.int .i64 x, .int .i64 y]] w1 (Gives (.bool (f (x, y))) w1)) :
    Calls Tryz.prog 100 #[.agg #[.int .i64 lx, .int .i64 ly], .agg #[.int .i64 gx, .int .i64 gy], .func (.func 124) #[] #[]] w
      fun e w' => ∃ v', e = .returned v' ∧ Owns w' w.heap.size v' (betw f (lx, ly) (gx, gy)) ∧ Below w.heap.size w w' := by
  have HF := Lib.hid hf
  clear hf
  have b0 : Below w.heap.size w ((w.alloc (.cells #[.int .i64 lx, .int .i64 ly] 53)).alloc (.cells #[.int .i64 gx, .int .i64 gy] 53)) := (box_below w _ _).alloc (by simp) _
  obtain ⟨W, hW⟩ : ∃ W, W = (w.alloc (.cells #[.int .i64 lx, .int .i64 ly] 53)).alloc (.cells #[.int .i64 gx, .int .i64 gy] 53) := ⟨_, rfl⟩
  have hWs : w.heap.size + 2 ≤ W.heap.size := by rw [hW]; simp
  have z0 : W.heap[w.heap.size]? = some (.cells #[.int .i64 lx, .int .i64 ly] 53 (0, 0)) := by
    rw [hW]; exact (((Below.refl _ _).alloc (Nat.le_refl _) _).block _ (by simp)).trans (heap_alloc_new w _)
  have z1 : W.heap[w.heap.size + 1]? = some (.cells #[.int .i64 gx, .int .i64 gy] 53 (0, 0)) := by
    rw [hW]
    have := heap_alloc_new (w.alloc (.cells #[.int .i64 lx, .int .i64 ly] 53)) (.cells #[.int .i64 gx, .int .i64 gy] 53)
    simpa using this
  rw [← hW] at b0
  obtain ⟨n, hn⟩ : ∃ n, n = span lx gx := ⟨_, rfl⟩
  have hn2 : n ≤ 201 := by rw [hn]; exact span_le h1 h6
  have HN := Lib.hid hn
  clear hn
  have l0 := cell_of_row W _ 0 _ _ _ z0
  have l1 := cell_of_row W _ 1 _ _ _ z0
  have g0 := cell_of_row W _ 0 _ _ _ z1
  have g1 := cell_of_row W _ 1 _ _ _ z1
  simp only [List.getElem?_toArray, List.getElem?_cons_zero, List.getElem?_cons_succ] at l0 l1 g0 g1
  have s0 : w.heap.size < W.heap.size := by omega
  have s1 : w.heap.size + 1 < W.heap.size := by omega
  clear z0 z1
  go_enter Tryz.func100, Tryz.ntmps100
  go_wp2_with (first | (rw [← hW]; clear hW) | fail)
  go_loopw [7, 8] (fun o i wr => ∃ y : Int, i = .int .i64 y ∧ ly ≤ y ∧ (y ≤ ly ∨ y ≤ gy + 1) ∧ Owns wr W.heap.size o (rowsB f lx ly n (y - ly).toNat) ∧ Below W.heap.size W wr) (fun _ i _ => (gy + 1 - intOf i).toNat)
  case atStart => exact ⟨ly, rfl, by omega, Or.inl (by omega), by rw [Int.sub_self]; exact Owns.nil _ _, Below.refl _ _⟩
  case round =>
    obtain ⟨y, rfl, hy1, hy2, hown, hbw⟩ := hrel
    have hbs := hbw.size
    by_cases hlt : y ≤ gy
    · have q1 := (hbw.cell (p := ⟨w.heap.size, 0, none⟩) s0).trans l0
      have q3 := (hbw.cell (p := ⟨w.heap.size + 1, 1, none⟩) s1).trans g1
      go_wp2
      go_loopw [7, 9] (fun o i wr => ∃ x : Int, i = .int .i64 x ∧ lx ≤ x ∧ (x ≤ lx ∨ x ≤ gx + 1) ∧ Owns wr W.heap.size o (rowsB f lx ly n (y - ly).toNat ++ rowB f lx y (x - lx).toNat) ∧ Below W.heap.size W wr) (fun _ i _ => (gx + 1 - intOf i).toNat)
      case atStart => exact ⟨lx, rfl, by omega, Or.inl (by omega), by rw [Int.sub_self]; simpa [rowB_zero] using hown, hbw⟩
      case round =>
        clear hbw hown q1 q3 hbs
        obtain ⟨x, rfl, hx1, hx2, hown, hbw⟩ := hrel
        have hbs := hbw.size
        by_cases hlx : x ≤ gx
        · have q2 := (hbw.cell (p := ⟨w.heap.size + 1, 0, none⟩) s1).trans g0
          have hlen := length_part f lx ly y x n hn2 (by omega) (by omega)
          have hW2 : Below w.heap.size w (wr.alloc (.cells #[.int .i64 x, .int .i64 y] 53)) := (b0.trans (hbw.mono b0.size)).alloc (Nat.le_trans b0.size hbs) _
          have hc := HF.out x y (wr.alloc (.cells #[.int .i64 x, .int .i64 y] 53)) (by omega) (by omega) (by omega) (by omega) hW2
          have c0 : (wr.alloc (.cells #[.int .i64 x, .int .i64 y] 53)).cell? ⟨wr.heap.size, 0, none⟩ = some (.int .i64 x) := by simp [go_sem]
          have c1 : (wr.alloc (.cells #[.int .i64 x, .int .i64 y] 53)).cell? ⟨wr.heap.size, 1, none⟩ = some (.int .i64 y) := by simp [go_sem]
          have bal : Below wr.heap.size wr (wr.alloc (.cells #[.int .i64 x, .int .i64 y] 53)) := box_below _ _ _
          have oal := hown.below bal
          have bwl := hbw.trans (bal.mono hbs)
          rcases hff : f (x, y) with _ | _
          · have HT := Lib.hid (row_no hx1 hff)
            rw [hff] at hc
            clear hff
            go_wp2_with fail
            refine hc.mono ?_
            rintro e w2 ⟨rfl, b2⟩
            have bw2 := bwl.trans (b2.mono bwl.size)
            have o2 := oal.below b2
            go_wp2
            go_roundw
            case rel => exact ⟨x + 1, rfl, by omega, Or.inr (by omega), by rw [← HT.out]; exact o2, bw2⟩
            case measure => simp [intOf]; omega
          · have HT := Lib.hid (row_yes hx1 hff)
            rw [hff] at hc
            clear hff
            go_wp2_with fail
            refine hc.mono ?_
            rintro e w2 ⟨rfl, b2⟩
            have bw2 := bwl.trans (b2.mono bwl.size)
            have o2 := oal.below b2
            have d0 := (b2.cell (p := ⟨wr.heap.size, 0, none⟩) (by simp)).trans c0
            have d1 := (b2.cell (p := ⟨wr.heap.size, 1, none⟩) (by simp)).trans c1
            have o3 := o2.below (box_below w2 #[.int .i64 x, .int .i64 y] 53)
            have s2 := bw2.size
            clear c0 c1
            go_wp2_with (at_builtin; refine wpList_append_spots (qs := [(x, y)]) o3 (Reads.one (g := w2.heap.size) (by simp [go_sem]) (by simp [go_sem])) (by simp only [List.length_cons, List.length_nil]; omega) (by simp only [World.size_alloc]; omega) rfl (.tmp 33) (.tmp 35) rfl rfl rfl ?_)
            intro v4 w4 o4 g4 hv4
            have bw4 := o3.below_app (bw2.alloc s2 _) (by simp only [World.size_alloc]; omega) g4
            go_wp2
            go_roundw
            case rel => exact ⟨x + 1, rfl, by omega, Or.inr (by omega), by rw [← HT.out]; first | exact o4 | (rw [← List.append_assoc]; exact o4), bw4⟩
            case measure => simp [intOf]; omega
        · have q2 := (hbw.cell (p := ⟨w.heap.size + 1, 0, none⟩) s1).trans g0
          have HE := Lib.hid (span_end (show gx < x by omega) hx2 hx1)
          have HR := Lib.hid (rows_next (f := f) (x := lx) (n := n) hy1)
          rw [HE.out, ← HN.out, HR.out] at hown
          go_wp2
          go_roundw
          case rel => exact ⟨y + 1, rfl, by omega, Or.inr (by omega), hown, hbw⟩
          case measure => simp [intOf]; omega
    · have q3 := (hbw.cell (p := ⟨w.heap.size + 1, 1, none⟩) s1).trans g1
      have HE := Lib.hid (span_end (show gy < y by omega) hy2 hy1)
      rw [HE.out, HN.out] at hown
      go_wp2
      go_ret
      exact ⟨_, rfl, hown.base (by omega), b0.trans (hbw.mono b0.size)⟩

set_option maxHeartbeats 1600000 in
theorem betwRun_any (f : Sp → Bool) (lx ly gx gy : Int) (w : World) (h1 : -100 ≤ lx) (h2 : lx ≤ 100) (h3 : -100 ≤ ly) (h4 : ly ≤ 100) (h5 : -100 ≤ gx) (h6 : gx ≤ 100) (h7 : -100 ≤ gy) (h8 : gy ≤ 100)
    (hf : ∀ (x y : Int) (w1 : World), -100 ≤ x → x ≤ 100 → -100 ≤ y → y ≤ 100 → Below w.heap.size w w1 → Calls Tryz.prog 127 #[.agg #[.int .i64 x, .int .i64 y]] w1 (Gives (.bool (f (x, y))) w1)) :
    Calls Tryz.prog 100 #[.agg #[.int .i64 lx, .int .i64 ly], .agg #[.int .i64 gx, .int .i64 gy], .func (.func 127) #[] #[]] w
      fun e w' => ∃ v', e = .returned v' ∧ Owns w' w.heap.size v' (betw f (lx, ly) (gx, gy)) ∧ Below w.heap.size w w' := by
  have HF := Lib.hid hf
  clear hf
  have b0 : Below w.heap.size w ((w.alloc (.cells #[.int .i64 lx, .int .i64 ly] 53)).alloc (.cells #[.int .i64 gx, .int .i64 gy] 53)) := (box_below w _ _).alloc (by simp) _
  obtain ⟨W, hW⟩ : ∃ W, W = (w.alloc (.cells #[.int .i64 lx, .int .i64 ly] 53)).alloc (.cells #[.int .i64 gx, .int .i64 gy] 53) := ⟨_, rfl⟩
  have hWs : w.heap.size + 2 ≤ W.heap.size := by rw [hW]; simp
  have z0 : W.heap[w.heap.size]? = some (.cells #[.int .i64 lx, .int .i64 ly] 53 (0, 0)) := by
    rw [hW]; exact (((Below.refl _ _).alloc (Nat.le_refl _) _).block _ (by simp)).trans (heap_alloc_new w _)
  have z1 : W.heap[w.heap.size + 1]? = some (.cells #[.int .i64 gx, .int .i64 gy] 53 (0, 0)) := by
    rw [hW]
    have := heap_alloc_new (w.alloc (.cells #[.int .i64 lx, .int .i64 ly] 53)) (.cells #[.int .i64 gx, .int .i64 gy] 53)
    simpa using this
  rw [← hW] at b0
  obtain ⟨n, hn⟩ : ∃ n, n = span lx gx := ⟨_, rfl⟩
  have hn2 : n ≤ 201 := by rw [hn]; exact span_le h1 h6
  have HN := Lib.hid hn
  clear hn
  have l0 := cell_of_row W _ 0 _ _ _ z0
  have l1 := cell_of_row W _ 1 _ _ _ z0
  have g0 := cell_of_row W _ 0 _ _ _ z1
  have g1 := cell_of_row W _ 1 _ _ _ z1
  simp only [List.getElem?_toArray, List.getElem?_cons_zero, List.getElem?_cons_succ] at l0 l1 g0 g1
  have s0 : w.heap.size < W.heap.size := by omega
  have s1 : w.heap.size + 1 < W.heap.size := by omega
  clear z0 z1
  go_enter Tryz.func100, Tryz.ntmps100
  go_wp2_with (first | (rw [← hW]; clear hW) | fail)
  go_loopw [7, 8] (fun o i wr => ∃ y : Int, i = .int .i64 y ∧ ly ≤ y ∧ (y ≤ ly ∨ y ≤ gy + 1) ∧ Owns wr W.heap.size o (rowsB f lx ly n (y - ly).toNat) ∧ Below W.heap.size W wr) (fun _ i _ => (gy + 1 - intOf i).toNat)
  case atStart => exact ⟨ly, rfl, by omega, Or.inl (by omega), by rw [Int.sub_self]; exact Owns.nil _ _, Below.refl _ _⟩
  case round =>
    obtain ⟨y, rfl, hy1, hy2, hown, hbw⟩ := hrel
    have hbs := hbw.size
    by_cases hlt : y ≤ gy
    · have q1 := (hbw.cell (p := ⟨w.heap.size, 0, none⟩) s0).trans l0
      have q3 := (hbw.cell (p := ⟨w.heap.size + 1, 1, none⟩) s1).trans g1
      go_wp2
      go_loopw [7, 9] (fun o i wr => ∃ x : Int, i = .int .i64 x ∧ lx ≤ x ∧ (x ≤ lx ∨ x ≤ gx + 1) ∧ Owns wr W.heap.size o (rowsB f lx ly n (y - ly).toNat ++ rowB f lx y (x - lx).toNat) ∧ Below W.heap.size W wr) (fun _ i _ => (gx + 1 - intOf i).toNat)
      case atStart => exact ⟨lx, rfl, by omega, Or.inl (by omega), by rw [Int.sub_self]; simpa [rowB_zero] using hown, hbw⟩
      case round =>
        clear hbw hown q1 q3 hbs
        obtain ⟨x, rfl, hx1, hx2, hown, hbw⟩ := hrel
        have hbs := hbw.size
        by_cases hlx : x ≤ gx
        · have q2 := (hbw.cell (p := ⟨w.heap.size + 1, 0, none⟩) s1).trans g0
          have hlen := length_part f lx ly y x n hn2 (by omega) (by omega)
          have hW2 : Below w.heap.size w (wr.alloc (.cells #[.int .i64 x, .int .i64 y] 53)) := (b0.trans (hbw.mono b0.size)).alloc (Nat.le_trans b0.size hbs) _
          have hc := HF.out x y (wr.alloc (.cells #[.int .i64 x, .int .i64 y] 53)) (by omega) (by omega) (by omega) (by omega) hW2
          have c0 : (wr.alloc (.cells #[.int .i64 x, .int .i64 y] 53)).cell? ⟨wr.heap.size, 0, none⟩ = some (.int .i64 x) := by simp [go_sem]
          have c1 : (wr.alloc (.cells #[.int .i64 x, .int .i64 y] 53)).cell? ⟨wr.heap.size, 1, none⟩ = some (.int .i64 y) := by simp [go_sem]
          have bal : Below wr.heap.size wr (wr.alloc (.cells #[.int .i64 x, .int .i64 y] 53)) := box_below _ _ _
          have oal := hown.below bal
          have bwl := hbw.trans (bal.mono hbs)
          rcases hff : f (x, y) with _ | _
          · have HT := Lib.hid (row_no hx1 hff)
            rw [hff] at hc
            clear hff
            go_wp2_with fail
            refine hc.mono ?_
            rintro e w2 ⟨rfl, b2⟩
            have bw2 := bwl.trans (b2.mono bwl.size)
            have o2 := oal.below b2
            go_wp2
            go_roundw
            case rel => exact ⟨x + 1, rfl, by omega, Or.inr (by omega), by rw [← HT.out]; exact o2, bw2⟩
            case measure => simp [intOf]; omega
          · have HT := Lib.hid (row_yes hx1 hff)
            rw [hff] at hc
            clear hff
            go_wp2_with fail
            refine hc.mono ?_
            rintro e w2 ⟨rfl, b2⟩
            have bw2 := bwl.trans (b2.mono bwl.size)
            have o2 := oal.below b2
            have d0 := (b2.cell (p := ⟨wr.heap.size, 0, none⟩) (by simp)).trans c0
            have d1 := (b2.cell (p := ⟨wr.heap.size, 1, none⟩) (by simp)).trans c1
            have o3 := o2.below (box_below w2 #[.int .i64 x, .int .i64 y] 53)
            have s2 := bw2.size
            clear c0 c1
            go_wp2_with (at_builtin; refine wpList_append_spots (qs := [(x, y)]) o3 (Reads.one (g := w2.heap.size) (by simp [go_sem]) (by simp [go_sem])) (by simp only [List.length_cons, List.length_nil]; omega) (by simp only [World.size_alloc]; omega) rfl (.tmp 33) (.tmp 35) rfl rfl rfl ?_)
            intro v4 w4 o4 g4 hv4
            have bw4 := o3.below_app (bw2.alloc s2 _) (by simp only [World.size_alloc]; omega) g4
            go_wp2
            go_roundw
            case rel => exact ⟨x + 1, rfl, by omega, Or.inr (by omega), by rw [← HT.out]; first | exact o4 | (rw [← List.append_assoc]; exact o4), bw4⟩
            case measure => simp [intOf]; omega
        · have q2 := (hbw.cell (p := ⟨w.heap.size + 1, 0, none⟩) s1).trans g0
          have HE := Lib.hid (span_end (show gx < x by omega) hx2 hx1)
          have HR := Lib.hid (rows_next (f := f) (x := lx) (n := n) hy1)
          rw [HE.out, ← HN.out, HR.out] at hown
          go_wp2
          go_roundw
          case rel => exact ⟨y + 1, rfl, by omega, Or.inr (by omega), hown, hbw⟩
          case measure => simp [intOf]; omega
    · have q3 := (hbw.cell (p := ⟨w.heap.size + 1, 1, none⟩) s1).trans g1
      have HE := Lib.hid (span_end (show gy < y by omega) hy2 hy1)
      rw [HE.out, HN.out] at hown
      go_wp2
      go_ret
      exact ⟨_, rfl, hown.base (by omega), b0.trans (hbw.mono b0.size)⟩
end Go.Proofs.YtkiidmdgdjphjaaGreat
