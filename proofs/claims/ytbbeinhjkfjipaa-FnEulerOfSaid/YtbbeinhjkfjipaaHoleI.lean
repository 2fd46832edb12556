/- Holes in the program: HolesOf. No conditions but those typed. -/
import Derived.Test.YtbbeinhjkfjipaaPieceI
import Derived.Test.YtbbeinhjkfjipaaBetwI
import Derived.Test.YtbbeinhjkfjipaaBox
import Derived.Deep.RegionHeld3
namespace Go.Proofs.Ytbbeinhjkfjipaa
open Go.RowKit Go.Sort

set_option maxRecDepth 100000 in
set_option maxHeartbeats 1600000 in
theorem betwHoles_any (f : Sp → Bool) (P : Nat) (lx ly gx gy : Int) (w : World) (h1 : -100 ≤ lx) (h2 : lx ≤ 100) (h3 : -100 ≤ ly) (h4 : ly ≤ 100) (h5 : -100 ≤ gx) (h6 : gx ≤ 100) (h7 : -100 ≤ gy) (h8 : gy ≤ 100)
    (hf : ∀ (x y : Int) (w1 : World), -100 ≤ x → x ≤ 100 → -100 ≤ y → y ≤ 100 → Below w.heap.size w w1 → Calls Try.prog 59 #[.agg #[.int .i64 x, .int .i64 y], .pointer (some ⟨P, 0, none⟩)] w1 (Gives (.bool (f (x, y))) w1)) :
    Calls Try.prog 58 #[.agg #[.int .i64 lx, .int .i64 ly], .agg #[.int .i64 gx, .int .i64 gy], .func (.func 59) #[] #[.pointer (some ⟨P, 0, none⟩)]] w
      fun e w' => ∃ v', e = .returned v' ∧ Owns w' w.heap.size v' (betw f (lx, ly) (gx, gy)) ∧ Below w.heap.size w w' := by
  have HF := Lib.hid hf
  clear hf
  have b0 : Below w.heap.size w ((w.alloc (.cells #[.int .i64 lx, .int .i64 ly] 54)).alloc (.cells #[.int .i64 gx, .int .i64 gy] 54)) := (box_below w _ _).alloc (by simp) _
  obtain ⟨W, hW⟩ : ∃ W, W = (w.alloc (.cells #[.int .i64 lx, .int .i64 ly] 54)).alloc (.cells #[.int .i64 gx, .int .i64 gy] 54) := ⟨_, rfl⟩
  have hWs : w.heap.size + 2 ≤ W.heap.size := by rw [hW]; simp
  have z0 : W.heap[w.heap.size]? = some (.cells #[.int .i64 lx, .int .i64 ly] 54 (0, 0)) := by
    rw [hW]; exact (((Below.refl _ _).alloc (Nat.le_refl _) _).block _ (by simp)).trans (heap_alloc_new w _)
  have z1 : W.heap[w.heap.size + 1]? = some (.cells #[.int .i64 gx, .int .i64 gy] 54 (0, 0)) := by
    rw [hW]
    have := heap_alloc_new (w.alloc (.cells #[.int .i64 lx, .int .i64 ly] 54)) (.cells #[.int .i64 gx, .int .i64 gy] 54)
    simpa using this
  rw [← hW] at b0
  obtain ⟨n, hn⟩ : ∃ n, n = span lx gx := ⟨_, rfl⟩
  have hn2 : n ≤ 201 := by rw [hn]; exact span_le h1 h6
  have HN := Lib.hid hn
  clear hn
  have l0 := cell_of_row W _ 0 _ _ _ z0
  have l1 := cell_of_row W _ 1 _ _ _ z0
  have g0 := cell_of_row W _ 0 _ _ _ z1
  have g1 := cell_of_row W _ 1 _ _ _ z1
  simp only [List.getElem?_toArray, List.getElem?_cons_zero, List.getElem?_cons_succ] at l0 l1 g0 g1
  have s0 : w.heap.size < W.heap.size := by omega
  have s1 : w.heap.size + 1 < W.heap.size := by omega
  clear z0 z1
  go_enter Try.func58, Try.ntmps58
  go_wp2_with (first | (rw [← hW]; clear hW) | fail)
  go_loopw [7, 8] (fun o i wr => ∃ y : Int, i = .int .i64 y ∧ ly ≤ y ∧ (y ≤ ly ∨ y ≤ gy + 1) ∧ Owns wr W.heap.size o (rowsB f lx ly n (y - ly).toNat) ∧ Below W.heap.size W wr) (fun _ i _ => (gy + 1 - intOf i).toNat)
  case atStart => exact ⟨ly, rfl, by omega, Or.inl (by omega), by rw [Int.sub_self]; exact Owns.nil _ _, Below.refl _ _⟩
  case round =>
    obtain ⟨y, rfl, hy1, hy2, hown, hbw⟩ := hrel
    have hbs := hbw.size
    by_cases hlt : y ≤ gy
    · have q1 := (hbw.cell (p := ⟨w.heap.size, 0, none⟩) s0).trans l0
      have q3 := (hbw.cell (p := ⟨w.heap.size + 1, 1, none⟩) s1).trans g1
      go_wp2
      go_loopw [7, 9] (fun o i wr => ∃ x : Int, i = .int .i64 x ∧ lx ≤ x ∧ (x ≤ lx ∨ x ≤ gx + 1) ∧ Owns wr W.heap.size o (rowsB f lx ly n (y - ly).toNat ++ rowB f lx y (x - lx).toNat) ∧ Below W.heap.size W wr) (fun _ i _ => (gx + 1 - intOf i).toNat)
      case atStart => exact ⟨lx, rfl, by omega, Or.inl (by omega), by rw [Int.sub_self]; simpa [rowB_zero] using hown, hbw⟩
      case round =>
        clear hbw hown q1 q3 hbs
        obtain ⟨x, rfl, hx1, hx2, hown, hbw⟩ := hrel
        have hbs := hbw.size
        by_cases hlx : x ≤ gx
        · have q2 := (hbw.cell (p := ⟨w.heap.size + 1, 0, none⟩) s1).trans g0
          have hlen := length_part f lx ly y x n hn2 (by omega) (by omega)
          have hW2 : Below w.heap.size w (wr.alloc (.cells #[.int .i64 x, .int .i64 y] 54)) := (b0.trans (hbw.mono b0.size)).alloc (Nat.le_trans b0.size hbs) _
          have hc := HF.out x y (wr.alloc (.cells #[.int .i64 x, .int .i64 y] 54)) (by omega) (by omega) (by omega) (by omega) hW2
          have c0 : (wr.alloc (.cells #[.int .i64 x, .int .i64 y] 54)).cell? ⟨wr.heap.size, 0, none⟩ = some (.int .i64 x) := by simp [go_sem]
          have c1 : (wr.alloc (.cells #[.int .i64 x, .int .i64 y] 54)).cell? ⟨wr.heap.size, 1, none⟩ = some (.int .i64 y) := by simp [go_sem]
          have bal : Below wr.heap.size wr (wr.alloc (.cells #[.int .i64 x, .int .i64 y] 54)) := box_below _ _ _
          have oal := hown.below bal
          have bwl := hbw.trans (bal.mono hbs)
          rcases hff : f (x, y) with _ | _
          · have HT := Lib.hid (row_no hx1 hff)
            rw [hff] at hc
            clear hff
            go_wp2_with fail
            refine hc.mono ?_
            rintro e w2 ⟨rfl, b2⟩
            have bw2 := bwl.trans (b2.mono bwl.size)
            have o2 := oal.below b2
            go_wp2
            go_roundw
            case rel => exact ⟨x + 1, rfl, by omega, Or.inr (by omega), by rw [← HT.out]; exact o2, bw2⟩
            case measure => simp [intOf]; omega
          · have HT := Lib.hid (row_yes hx1 hff)
            rw [hff] at hc
            clear hff
            go_wp2_with fail
            refine hc.mono ?_
            rintro e w2 ⟨rfl, b2⟩
            have bw2 := bwl.trans (b2.mono bwl.size)
            have o2 := oal.below b2
            have d0 := (b2.cell (p := ⟨wr.heap.size, 0, none⟩) (by simp)).trans c0
            have d1 := (b2.cell (p := ⟨wr.heap.size, 1, none⟩) (by simp)).trans c1
            have o3 := o2.below (box_below w2 #[.int .i64 x, .int .i64 y] 54)
            have s2 := bw2.size
            clear c0 c1
            go_wp2_with (at_builtin; refine wpList_append_spots (qs := [(x, y)]) o3 (Reads.one (g := w2.heap.size) (by simp [go_sem]) (by simp [go_sem])) (by simp only [List.length_cons, List.length_nil]; omega) (by simp only [World.size_alloc]; omega) rfl (.tmp 33) (.tmp 35) rfl rfl rfl ?_)
            intro v4 w4 o4 g4 hv4
            have bw4 := o3.below_app (bw2.alloc s2 _) (by simp only [World.size_alloc]; omega) g4
            go_wp2
            go_roundw
            case rel => exact ⟨x + 1, rfl, by omega, Or.inr (by omega), by rw [← HT.out]; first | exact o4 | (rw [← List.append_assoc]; exact o4), bw4⟩
            case measure => simp [intOf]; omega
        · have q2 := (hbw.cell (p := ⟨w.heap.size + 1, 0, none⟩) s1).trans g0
          have HE := Lib.hid (span_end (show gx < x by omega) hx2 hx1)
          have HR := Lib.hid (rows_next (f := f) (x := lx) (n := n) hy1)
          rw [HE.out, ← HN.out, HR.out] at hown
          go_wp2
          go_roundw
          case rel => exact ⟨y + 1, rfl, by omega, Or.inr (by omega), hown, hbw⟩
          case measure => simp [intOf]; omega
    · have q3 := (hbw.cell (p := ⟨w.heap.size + 1, 1, none⟩) s1).trans g1
      have HE := Lib.hid (span_end (show gy < y by omega) hy2 hy1)
      rw [HE.out, HN.out] at hown
      go_wp2
      go_ret
      exact ⟨_, rfl, hown.base (by omega), b0.trans (hbw.mono b0.size)⟩
set_option maxRecDepth 100000 in
set_option maxHeartbeats 800000 in
theorem spotsEdge.step (f : Sp → Bool) (L G : Nat) (R base : Nat) (acc : List Sp) (v : Value) (ax ay : Int) (w : World) (hown : Owns w base v acc) (hbase : base ≤ w.heap.size) (hR : R < base)
    (hcell : w.cell? ⟨R, 0, none⟩ = some (.func (.func 62) #[] #[.pointer (some ⟨L, 0, none⟩), .pointer (some ⟨G, 0, none⟩)])) (hl : acc.length ≤ 100000)
    (hf : ∀ w1 : World, Below w.heap.size w w1 → Calls Try.prog 62 #[.agg #[.int .i64 ax, .int .i64 ay], .pointer (some ⟨L, 0, none⟩), .pointer (some ⟨G, 0, none⟩)] w1 (Gives (.bool (f (ax, ay))) w1)) :
    Calls Try.prog 90 #[v, .agg #[.int .i64 ax, .int .i64 ay], .pointer (some ⟨R, 0, none⟩)] w fun e w' => ∃ v', e = .returned v' ∧ Owns w' base v' (acc ++ if f (ax, ay) then [(ax, ay)] else []) ∧ Below base w w' := by
  obtain ⟨A, c, rfl, hc, hm⟩ := hown.reads.slice
  unfold maxLen at hm
  have b0 := box_below w #[.int .i64 ax, .int .i64 ay] 54
  have hRw : R < w.heap.size := by omega
  obtain ⟨W, hW⟩ : ∃ W, W = w.alloc (.cells #[.int .i64 ax, .int .i64 ay] 54) := ⟨_, rfl⟩
  have q0 : W.cell? ⟨w.heap.size, 0, none⟩ = some (.int .i64 ax) := by rw [hW]; simp [go_sem]
  have q1 : W.cell? ⟨w.heap.size, 1, none⟩ = some (.int .i64 ay) := by rw [hW]; simp [go_sem]
  have s0 : w.heap.size < W.heap.size := by rw [hW]; simp
  rw [← hW] at b0
  have hcW := (b0.cell (p := ⟨R, 0, none⟩) hRw).trans hcell
  have ownW := hown.below b0
  have bW : Below base w W := b0.mono hbase
  have hbW := bW.size
  have hfW := hf W b0
  clear hf hcell
  go_enter Try.func90, Try.ntmps90
  rcases hfx : f (ax, ay) with _ | _
  · rw [hfx] at hfW
    clear hfx
    go_wp2_with (first | (rw [← hW]; clear hW) | fail)
    refine hfW.mono ?_
    rintro e w1 ⟨rfl, b1⟩
    go_wp2
    go_ret
    exact ⟨_, rfl, by simpa using ownW.below b1, bW.trans (b1.mono (by omega))⟩
  · rw [hfx] at hfW
    clear hfx
    go_wp2_with (first | (rw [← hW]; clear hW) | fail)
    refine hfW.mono ?_
    rintro e w1 ⟨rfl, b1⟩
    have q0 := (b1.cell (p := ⟨w.heap.size, 0, none⟩) s0).trans q0
    have q1 := (b1.cell (p := ⟨w.heap.size, 1, none⟩) s0).trans q1
    have own1 := ownW.below b1
    have bw1 := bW.trans (b1.mono (by omega))
    have hb1 := b1.size
    have b2 : Below w1.heap.size w1 (w1.alloc (.cells #[.int .i64 ax, .int .i64 ay] 54)) := box_below _ _ _
    have own2 := own1.below b2
    go_wp2_with (at_builtin; refine wpList_append_spots (qs := [(ax, ay)]) own2 (Reads.one (g := w1.heap.size) (by simp [go_sem]) (by simp [go_sem])) (by simp only [List.length_cons, List.length_nil]; omega) (by simp only [World.size_alloc]; omega) rfl (.tmp 9) (.tmp 11) rfl rfl rfl ?_)
    intro v4 w4 own4 g4 hv4
    have bw4 := own2.below_app (bw1.alloc (by omega) _) (by simp only [World.size_alloc]; omega) g4
    go_wp2
    go_ret
    exact ⟨_, rfl, by simpa using own4, bw4⟩
set_option maxHeartbeats 800000 in
theorem spotsEdge.fold (f : Sp → Bool) (L G : Nat) (R : Nat) (ps : List Sp) (v : Value) (w : World) (hv : Reads w w.heap.size v ps) (hR : R < w.heap.size)
    (hcell : w.cell? ⟨R, 0, none⟩ = some (.func (.func 62) #[] #[.pointer (some ⟨L, 0, none⟩), .pointer (some ⟨G, 0, none⟩)])) (hl : ps.length ≤ 100000)
    (hf : ∀ (x y : Int) (w1 : World), (x, y) ∈ ps → Below w.heap.size w w1 → Calls Try.prog 62 #[.agg #[.int .i64 x, .int .i64 y], .pointer (some ⟨L, 0, none⟩), .pointer (some ⟨G, 0, none⟩)] w1 (Gives (.bool (f (x, y))) w1)) :
    Calls Try.prog 46 #[v, .slice none 0 0, .func (.func 90) #[] #[.pointer (some ⟨R, 0, none⟩)]] w fun e w' => ∃ v', e = .returned v' ∧ Owns w' w.heap.size v' (ps.filter f) ∧ Below w.heap.size w w' := by
  obtain ⟨A, c, rfl, hc, hm, hA, hcp⟩ := hv.is
  unfold maxLen at hm
  have HF := Lib.hid hf
  clear hf
  go_enter Try.func46, Try.ntmps46
  go_wp2
  have b0 := Below.refl w.heap.size w
  by_cases h0 : ps.length = 0
  · obtain rfl := List.eq_nil_of_length_eq_zero h0
    refine wp_loop_rounds 1 ?_
    rw [rounds_succ]
    go_wp2
    go_ret
    exact ⟨_, rfl, Owns.nil _ _, b0⟩
  · obtain ⟨b, off, rfl, hb, hcp⟩ := hcp (by omega)
    go_loopw [7, 13] (fun s i wr => ∃ k : Nat, k ≤ ps.length ∧ i = .int .i64 k ∧ Owns wr w.heap.size s ((ps.take k).filter f) ∧ Below w.heap.size w wr) (fun _ i _ => ps.length - (intOf i).toNat)
    case atStart => exact ⟨0, Nat.zero_le _, rfl, Owns.nil _ _, b0⟩
    case round =>
      obtain ⟨k, hk, rfl, hown, hbw⟩ := hrel
      by_cases hlt : k < ps.length
      · obtain ⟨⟨x, y⟩, hxy⟩ : ∃ a, ps[k]? = some a := ⟨_, List.getElem?_eq_getElem hlt⟩
        obtain ⟨c0, c1⟩ := hcp k x y hxy
        have d0 := (hbw.cell (p := ⟨b, off + k * 2, none⟩) hb).trans c0
        have d1 := (hbw.cell (p := ⟨b, off + k * 2 + 1, none⟩) hb).trans c1
        have hT := Lib.hid (filt_succ (f := f) hxy)
        have hle : ((ps.take k).filter f).length ≤ 100000 := Nat.le_trans (filt_len ps f k) hl
        have hbs := hbw.size
        have hal : Below wr.heap.size wr (wr.alloc (.cells #[.int .i64 x, .int .i64 y] 54)) := (Below.refl _ _).alloc (Nat.le_refl _) _
        have bw1 := hbw.trans (hal.mono hbs)
        have own1 := hown.below hal
        have hst := spotsEdge.step f L G R w.heap.size _ _ x y (wr.alloc (.cells #[.int .i64 x, .int .i64 y] 54)) own1 bw1.size hR ((bw1.cell (p := ⟨R, 0, none⟩) hR).trans hcell) hle (fun w2 hb2 => HF.out x y w2 (List.mem_of_getElem? hxy) (bw1.trans (hb2.mono bw1.size)))
        clear c0 c1 hxy
        go_wp2_with fail
        refine hst.mono ?_
        rintro e w2 ⟨v2, rfl, own2, b2⟩
        have bw2 := bw1.trans b2
        go_wp2
        go_roundw
        case rel => exact ⟨k + 1, by omega, by go_num, by rw [hT.out]; exact own2, bw2⟩
        case measure => simp [intOf]; omega
      · obtain rfl : k = ps.length := by omega
        rw [List.take_length] at hown
        go_wp2
        go_ret
        exact ⟨_, rfl, hown, hbw⟩
theorem spotsEdge (f : Sp → Bool) (L G : Nat) (ps : List Sp) (v : Value) (w : World) (hv : Reads w w.heap.size v ps) (hl : ps.length ≤ 100000)
    (hf : ∀ (x y : Int) (w1 : World), (x, y) ∈ ps → Below w.heap.size w w1 → Calls Try.prog 62 #[.agg #[.int .i64 x, .int .i64 y], .pointer (some ⟨L, 0, none⟩), .pointer (some ⟨G, 0, none⟩)] w1 (Gives (.bool (f (x, y))) w1)) :
    Calls Try.prog 61 #[v, .func (.func 62) #[] #[.pointer (some ⟨L, 0, none⟩), .pointer (some ⟨G, 0, none⟩)]] w fun e w' => ∃ v', e = .returned v' ∧ Owns w' w.heap.size v' (ps.filter f) ∧ Below w.heap.size w w' := by
  have b0 := box_below w #[.func (.func 62) #[] #[.pointer (some ⟨L, 0, none⟩), .pointer (some ⟨G, 0, none⟩)]] 72
  obtain ⟨W, hW⟩ : ∃ W, W = w.alloc (.cells #[.func (.func 62) #[] #[.pointer (some ⟨L, 0, none⟩), .pointer (some ⟨G, 0, none⟩)]] 72) := ⟨_, rfl⟩
  have q0 : W.cell? ⟨w.heap.size, 0, none⟩ = some (.func (.func 62) #[] #[.pointer (some ⟨L, 0, none⟩), .pointer (some ⟨G, 0, none⟩)]) := by rw [hW]; simp [go_sem]
  have s0 : w.heap.size < W.heap.size := by rw [hW]; simp
  rw [← hW] at b0
  have hcl := spotsEdge.fold f L G w.heap.size ps v W (hv.kept b0) s0 q0 hl (fun x y w1 hm hb => hf x y w1 hm (below_step b0 hb))
  obtain ⟨A, c, rfl, hc, hm⟩ := hv.slice
  clear hf
  go_enter Try.func61, Try.ntmps61
  go_wp2_with (first | (rw [← hW]; clear hW) | fail)
  refine hcl.mono ?_
  rintro e w1 ⟨v1, rfl, o1, b1⟩
  go_wp2
  go_ret
  exact ⟨_, rfl, o1.base b0.size, below_step b0 b1⟩
theorem inPic_is {b : Bool} {ps : List Sp} {v : Value} {ax ay : Int} {w : World} (hk : decide ((ax, ay) ∈ ps) = b) (h : Reads w w.heap.size v ps) (hs : Sorted ps) (hl : ps.length ≤ 1000000) :
    Calls Try.prog 60 #[v, .agg #[.int .i64 ax, .int .i64 ay]] w (Gives (.bool b) w) := by
  subst hk; exact inPicture_any ps v ax ay w h hs hl
/-- whether a spot is none of the picture -/
theorem missing_any (ps : List Sp) (v : Value) (P : Nat) (x y : Int) (w : World) (h : Reads w w.heap.size v ps) (hs : Sorted ps) (hl : ps.length ≤ 60) (hP : P < w.heap.size) (cP : w.cell? ⟨P, 0, none⟩ = some v) :
    Calls Try.prog 59 #[.agg #[.int .i64 x, .int .i64 y], .pointer (some ⟨P, 0, none⟩)] w (Gives (.bool (!decide (((x, y) : Sp) ∈ ps))) w) := by
  obtain ⟨A, c, rfl, hc, hm⟩ := h.slice
  have b0 := box_below w #[.int .i64 x, .int .i64 y] 54
  have e0 := (b0.cell (p := ⟨P, 0, none⟩) hP).trans cP
  obtain ⟨b, hb⟩ : ∃ b, decide (((x, y) : Sp) ∈ ps) = b := ⟨_, rfl⟩
  have hcl := inPic_is (w := w.alloc (.cells #[.int .i64 x, .int .i64 y] 54)) hb (h.kept b0) hs (by omega)
  rw [hb]
  clear hb
  go_enter Try.func59, Try.ntmps59
  go_wp2_with fail
  refine hcl.mono ?_
  rintro e w1 ⟨rfl, b1⟩
  go_wp2
  go_ret
  exact ⟨rfl, below_step b0 b1⟩
/-- whether a spot is on the border of a box -/
theorem edge_any (L G : Nat) (lx ly gx gy x y : Int) (w : World) (hL : L < w.heap.size) (hG : G < w.heap.size) (c0 : w.cell? ⟨L, 0, none⟩ = some (.int .i64 lx)) (c1 : w.cell? ⟨L, 1, none⟩ = some (.int .i64 ly)) (c2 : w.cell? ⟨G, 0, none⟩ = some (.int .i64 gx)) (c3 : w.cell? ⟨G, 1, none⟩ = some (.int .i64 gy)) :
    Calls Try.prog 62 #[.agg #[.int .i64 x, .int .i64 y], .pointer (some ⟨L, 0, none⟩), .pointer (some ⟨G, 0, none⟩)] w (Gives (.bool (edgeB (lx, ly) (gx, gy) (x, y))) w) := by
  have b0 := box_below w #[.int .i64 x, .int .i64 y] 54
  have e0 := (b0.cell (p := ⟨L, 0, none⟩) hL).trans c0
  have e1 := (b0.cell (p := ⟨L, 1, none⟩) hL).trans c1
  have e2 := (b0.cell (p := ⟨G, 0, none⟩) hG).trans c2
  have e3 := (b0.cell (p := ⟨G, 1, none⟩) hG).trans c3
  clear c0 c1 c2 c3
  go_enter Try.func62, Try.ntmps62
  go_wp2
  all_goals
    go_ret
    exact ⟨ret_bool (by rw [Bool.eq_iff_iff]; simp [edgeB] <;> omega), box_below _ _ _⟩
theorem holesR_no {p : List Sp} (h : boxOk p = false) : holesR p = [] := by
  unfold holesR
  split
  · rename_i hp
    unfold boxOk at h
    rw [hp, Bool.true_and, decide_eq_false_iff_not, Decidable.not_not] at h
    rw [h, holesL_nil]
  · rfl
theorem length_betw61 {f : Sp → Bool} {lx ly gx gy : Int} (h1 : -30 ≤ lx) (h2 : gx ≤ 30) (h3 : -30 ≤ ly) (h4 : gy ≤ 30) : (betw f (lx, ly) (gx, gy)).length ≤ 3721 := by
  have h := length_rowsB f lx ly (span lx gx) (span ly gy)
  have e1 : span lx gx ≤ 61 := by unfold span; omega
  have e2 : span ly gy ≤ 61 := by unfold span; omega
  have := Nat.mul_le_mul e2 e1
  unfold betw
  exact Nat.le_trans h this
set_option maxRecDepth 100000 in
set_option maxHeartbeats 1600000 in
theorem implHoles_any (ps : List Sp) (v : Value) (w : World) (h : Reads w w.heap.size v ps) :
    Calls Try.prog 31 #[v] w (GivesParts (holesR ps) w) := by
  obtain ⟨A, c, rfl, hc, hm⟩ := h.slice
  have b0 := box_below w #[.slice A ps.length c] 23
  obtain ⟨W, hW⟩ : ∃ W, W = w.alloc (.cells #[.slice A ps.length c] 23) := ⟨_, rfl⟩
  have hcW : W.cell? ⟨w.heap.size, 0, none⟩ = some (.slice A ps.length c) := by rw [hW]; simp [go_sem]
  have hWs : w.heap.size < W.heap.size := by rw [hW]; simp
  rw [← hW] at b0
  have hv := h.kept b0
  rcases hb : boxOk ps with _ | _
  · rw [holesR_no hb]
    have hbx := implBox_any ps _ W hv
    rw [hb] at hbx
    have HB := Lib.hid hb
    clear hb
    go_enter Try.func31, Try.ntmps31
    go_wp2_with (first | (rw [← hW]; clear hW) | fail)
    refine hbx.mono ?_
    rintro e' w1 ⟨rfl, b1⟩
    go_wp2
    go_ret
    exact ⟨_, rfl, Parts.nil _ _, ((below_step b0 b1).alloc (below_step b0 b1).size _).alloc (by have := (below_step b0 b1).size; simp; omega) _⟩
  · have hbk := hb
    unfold boxOk at hbk
    rw [Bool.and_eq_true, decide_eq_true_eq] at hbk
    obtain ⟨hp, hne⟩ := hbk
    have hrg := box_range hp hne
    have hbr : boxR ps = boxL ps := by unfold boxR; rw [hb, if_pos rfl]
    have hhr : holesR ps = holesL ps := by unfold holesR; rw [hp, if_pos rfl]
    have hless := holes_less ps hne
    have hbx := implBox_any ps _ W hv
    rw [hb, hbr] at hbx
    have hrest : restL ps = betw (fun a => !decide (a ∈ ps)) (boxL ps).1 (boxL ps).2 := by unfold restL; rw [if_neg hne]
    have hbox := isBox_boxL hne
    have hlo : (boxL ps).1.1 ≤ (boxL ps).2.1 := by obtain ⟨a, ha, e⟩ := hbox.lx; have := hbox.all a ha; omega
    have hlo2 : (boxL ps).1.2 ≤ (boxL ps).2.2 := by obtain ⟨a, ha, e⟩ := hbox.ly; have := hbox.all a ha; omega
    obtain ⟨⟨⟨lx, ly⟩, ⟨gx, gy⟩⟩, hbl⟩ : ∃ b, boxL ps = b := ⟨_, rfl⟩
    rw [hbl] at hbx hrest hless hrg hlo hlo2
    simp only at hbx hrest hless hrg hlo hlo2
    have hsr := sorted_restL ps
    have hrl : (restL ps).length ≤ 3721 := by rw [hrest]; exact length_betw61 (by omega) (by omega) (by omega) (by omega)
    have hrn : ∀ a ∈ restL ps, NearS a := fun a ha => by
      have := ((mem_restL hne).1 ha).1
      rw [hbl] at this
      simp only at this
      unfold NearS; omega
    rw [hhr]
    have hpl := (picB_pic hp).1
    have hps := (picB_pic hp).2.2
    have HL := Lib.hid hless
    have HR := Lib.hid hrest
    have HN := Lib.hid hrn
    have hbounds : -100 ≤ lx ∧ lx ≤ 100 ∧ -100 ≤ ly ∧ ly ≤ 100 ∧ -100 ≤ gx ∧ gx ≤ 100 ∧ -100 ≤ gy ∧ gy ≤ 100 := by omega
    clear hb hhr hless hbr hrest hbox hlo hlo2 hbl hrn hp hne hrg
    go_enter Try.func31, Try.ntmps31
    go_wp2_with (first | (rw [← hW]; clear hW) | fail)
    refine hbx.mono ?_
    rintro e' w1 ⟨rfl, b1⟩
    have bb1 := below_step b0 b1
    have hc1 := (b1.cell (p := ⟨w.heap.size, 0, none⟩) hWs).trans hcW
    have hs1 := Nat.lt_of_lt_of_le hWs b1.size
    obtain ⟨V, hV⟩ : ∃ V, V = (w1.alloc (.cells #[.int .i64 lx, .int .i64 ly] 54)).alloc (.cells #[.int .i64 gx, .int .i64 gy] 54) := ⟨_, rfl⟩
    have bal : Below w1.heap.size w1 V := by rw [hV]; exact (box_below w1 _ _).alloc (by simp) _
    have a0 : V.cell? ⟨w1.heap.size, 0, none⟩ = some (.int .i64 lx) := by rw [hV]; simp [go_sem, World.cell?_alloc_past]
    have a1 : V.cell? ⟨w1.heap.size, 1, none⟩ = some (.int .i64 ly) := by rw [hV]; simp [go_sem, World.cell?_alloc_past]
    have a2 : V.cell? ⟨w1.heap.size + 1, 0, none⟩ = some (.int .i64 gx) := by rw [hV]; simp [go_sem]
    have a3 : V.cell? ⟨w1.heap.size + 1, 1, none⟩ = some (.int .i64 gy) := by rw [hV]; simp [go_sem]
    have sL : w1.heap.size < V.heap.size := by rw [hV]; simp; omega
    have sG : w1.heap.size + 1 < V.heap.size := by rw [hV]; simp
    have hcV := (bal.cell (p := ⟨w.heap.size, 0, none⟩) hs1).trans hc1
    have sV := Nat.lt_of_lt_of_le hs1 bal.size
    have bbV := below_step bb1 bal
    have hvV := h.kept bbV
    have HMISS := Lib.hid (fun (x y : Int) (w2 : World) (hb2 : Below V.heap.size V w2) => missing_any ps (.slice A ps.length c) w.heap.size x y w2 (hvV.kept hb2) hps hpl (Nat.lt_of_lt_of_le sV hb2.size) ((hb2.cell (p := ⟨w.heap.size, 0, none⟩) sV).trans hcV))
    have HEDGE := Lib.hid (fun (x y : Int) (w2 : World) (hb2 : Below V.heap.size V w2) => edge_any w1.heap.size (w1.heap.size + 1) lx ly gx gy x y w2 (Nat.lt_of_lt_of_le sL hb2.size) (Nat.lt_of_lt_of_le sG hb2.size) ((hb2.cell (p := ⟨w1.heap.size, 0, none⟩) sL).trans a0) ((hb2.cell (p := ⟨w1.heap.size, 1, none⟩) sL).trans a1) ((hb2.cell (p := ⟨w1.heap.size + 1, 0, none⟩) sG).trans a2) ((hb2.cell (p := ⟨w1.heap.size + 1, 1, none⟩) sG).trans a3))
    have hbt := betwHoles_any (fun a => !decide (a ∈ ps)) w.heap.size lx ly gx gy V (by omega) (by omega) (by omega) (by omega) (by omega) (by omega) (by omega) (by omega) (fun x y w2 _ _ _ _ hb2 => HMISS.out x y w2 hb2)
    rw [← HR.out] at hbt
    have HBT := Lib.hid hbt
    clear hbt hc1 hcW
    go_wp2_with fail
    rw [← hV]
    clear hV
    refine HBT.out.mono ?_
    rintro e' w2 ⟨v2, rfl, o2, b2⟩
    have hsp := spotsEdge (edgeB (lx, ly) (gx, gy)) w1.heap.size (w1.heap.size + 1) (restL ps) v2 w2 o2.reads (by omega) (fun x y w3 _ hb3 => HEDGE.out x y w3 (below_step b2 hb3))
    obtain ⟨A2, c2, rfl, _, _⟩ := o2.reads.slice
    have bb2 := below_step bbV b2
    go_wp2_with fail
    refine hsp.mono ?_
    rintro e' w3 ⟨v3, rfl, o3, b3⟩
    have bb3 := below_step bb2 b3
    have r3 := o2.below b3
    clear hsp
    obtain ⟨B, hB⟩ : ∃ B, (restL ps).filter (edgeB (lx, ly) (gx, gy)) = B := ⟨_, rfl⟩
    have hBl : B.length ≤ 3721 := by rw [← hB]; exact Nat.le_trans (List.length_filter_le _ _) hrl
    rw [hB] at o3
    have HBB := Lib.hid hB
    clear hB
    go_wp2_with fail
    refine (neighbours_any false _).mono ?_
    rintro e' w4 ⟨v4, rfl, o4, b4⟩
    have bb4 := below_step bb3 b4
    have r4 := r3.below b4
    have q4 := o3.below b4
    obtain ⟨A3, c3, rfl, _, _⟩ := o3.reads.slice
    obtain ⟨A4, c4, rfl, _, _⟩ := o4.reads.slice
    go_wp2_with fail
    refine (reachedIn_any false (restL ps) B _ _ _ w4 r4.reads q4.reads o4.reads hsr (by omega) (by omega) HN.out).mono ?_
    rintro e' w5 ⟨v5, rfl, o5, b5⟩
    have bb5 := below_step bb4 b5
    have r5 := r4.below b5
    have s5 := o4.below b5
    have hrs := sorted_reachL (e := false) (m := B) hsr
    have hrle := length_reachL_le false (restL ps) B
    have HRS := Lib.hid hrs
    have HLE := Lib.hid (show piecesL false (lessL (restL ps) (reachL false (restL ps) B)) = holesL ps by rw [← HBB.out]; exact HL.out)
    obtain ⟨A5, c5, rfl, _, _⟩ := o5.reads.slice
    clear hrs
    go_wp2_with fail
    refine (lessAll_any (restL ps) (reachL false (restL ps) B) _ _ w5 r5.reads o5.reads hsr HRS.out (by omega)).mono ?_
    rintro e' w6 ⟨v6, rfl, o6, b6⟩
    have bb6 := below_step bb5 b6
    have s6 := s5.below b6
    obtain ⟨A6, c6, rfl, _, _⟩ := o6.reads.slice
    have hll : (lessL (restL ps) (reachL false (restL ps) B)).length ≤ 3721 := Nat.le_trans (List.length_filter_le _ _) hrl
    have HLN := Lib.hid (fun a (ha : a ∈ lessL (restL ps) (reachL false (restL ps) B)) => HN.out a (mem_lessL.1 ha).1)
    have HLS := Lib.hid (sorted_lessL hsr (reachL false (restL ps) B))
    go_wp2_with fail
    refine (piecesIn_any false (lessL (restL ps) (reachL false (restL ps) B)) _ _ w6 o6.reads s6.reads HLS.out (by omega) HLN.out).mono ?_
    rintro e' w7 ⟨v7, rfl, o7, b7⟩
    rw [HLE.out] at o7
    go_wp2
    go_ret
    exact ⟨_, rfl, o7.lower bb6.size, below_step bb6 b7⟩
end Go.Proofs.Ytbbeinhjkfjipaa
