/- The model's chapter 10: corners, borders, sides, pieces less holes, and squares of two by two. No conditions but those typed. -/
import Derived.Test.YtbbeinhjkfjipaaCells
import Derived.Test.YtbbeinhjkfjipaaHas
import Derived.Test.YtbbeinhjkfjipaaBoxS
import Derived.Test.YtbbeinhjkfjipaaBox
import Derived.Test.YtbbeinhjkfjipaaFarS
import Derived.Test.YtbbeinhjkfjipaaOnes
import Derived.RegionTactic
namespace Go.Proofs.Ytbbeinhjkfjipaa
open Go.RowKit Go.Sort Graph

theorem has_lit {P : Program} {F : FuncId} {args : Array Value} {w : World} {p : Prop} {b : Bool} (inst : Decidable p) (hk : @decide p inst = b) (h : Calls P F args w (Gives (.bool (@decide p inst)) w)) : Calls P F args w (Gives (.bool b) w) := by
  subst hk; exact h
set_option maxRecDepth 100000 in
theorem cells_any (ps : List Sp) (v : Value) (x y : Int) (w : World) (h : Reads w w.heap.size v ps) (hs : Sorted ps) (hl : ps.length ≤ 1000000) (hx : -100 ≤ x ∧ x ≤ 100) (hy : -100 ≤ y ∧ y ≤ 100) :
    Calls Try.prog 76 #[v, .int .i64 x, .int .i64 y] w (Gives (.int .i64 (codeAt ps (x, y) : Int)) w) := by
  obtain ⟨A, c, rfl, hc, hm⟩ := h.slice
  have HB := fun (a b : Int) (w1 : World) (hb : Below w.heap.size w w1) => l1Has_any ps _ a b w1 (h.kept hb) hs hl
  have HC0 := codeK_all ps (x, y)
  obtain ⟨b0, k0⟩ : ∃ b0, bl ps (x, y) = b0 := ⟨_, rfl⟩
  obtain ⟨b1, k1⟩ : ∃ b1, br ps (x, y) = b1 := ⟨_, rfl⟩
  obtain ⟨b2, k2⟩ : ∃ b2, tl ps (x, y) = b2 := ⟨_, rfl⟩
  obtain ⟨b3, k3⟩ : ∃ b3, tr ps (x, y) = b3 := ⟨_, rfl⟩
  rw [k0, k1, k2, k3] at HC0
  unfold bl at k0
  unfold br at k1
  unfold tl at k2
  unfold tr at k3
  simp only at k0 k1 k2 k3
  have HC := Lib.hid HC0
  clear HC0
  go_enter Try.func76, Try.ntmps76
  go_wp2
  go_loopw [7, 8] (fun n k wr => ∃ j : Int, k = .int .i64 j ∧ 0 ≤ j ∧ j ≤ 4 ∧ n = .int .i64 (codeK b0 b1 b2 b3 j) ∧ Below w.heap.size w wr) (fun _ k _ => (4 - intOf k).toNat)
  case atStart => exact ⟨0, rfl, by omega, by omega, by simp [codeK], Below.refl _ _⟩
  case round =>
    obtain ⟨j, rfl, j0, j4, rfl, hbw⟩ := hrel
    obtain rfl | rfl | rfl | rfl | rfl : j = 0 ∨ j = 1 ∨ j = 2 ∨ j = 3 ∨ j = 4 := by omega
    · obtain ⟨z, hz⟩ : ∃ z, codeK b0 b1 b2 b3 0 = z := ⟨_, rfl⟩
      have hr := codeK_range b0 b1 b2 b3 0
      have hst := codeK_0 b0 b1 b2 b3
      rw [hz] at hr hst ⊢
      obtain ⟨hr1, hr2⟩ := hr
      have hb0 := k0
      clear hz
      rcases b0 with _ | _
      all_goals
        have HS := Lib.hid hst
        clear hst
        go_wp2_with fail
        refine (gives_is hb0 (HB _ _ _ hbw)).mono ?_
        rintro e w1 ⟨rfl, b1'⟩
        have bw1 := below_step hbw b1'
        go_wp2
        go_roundw
        case rel => exact ⟨1, rfl, by omega, by omega, by rw [HS.out]; simp, bw1⟩
        case measure => simp [intOf]
    · obtain ⟨z, hz⟩ : ∃ z, codeK b0 b1 b2 b3 1 = z := ⟨_, rfl⟩
      have hr := codeK_range b0 b1 b2 b3 1
      have hst := codeK_1 b0 b1 b2 b3
      rw [hz] at hr hst ⊢
      obtain ⟨hr1, hr2⟩ := hr
      have hb0 := k1
      clear hz
      rcases b1 with _ | _
      all_goals
        have HS := Lib.hid hst
        clear hst
        go_wp2_with fail
        refine (gives_is hb0 (HB _ _ _ hbw)).mono ?_
        rintro e w1 ⟨rfl, b1'⟩
        have bw1 := below_step hbw b1'
        go_wp2
        go_roundw
        case rel => exact ⟨2, rfl, by omega, by omega, by rw [HS.out]; simp, bw1⟩
        case measure => simp [intOf]
    · obtain ⟨z, hz⟩ : ∃ z, codeK b0 b1 b2 b3 2 = z := ⟨_, rfl⟩
      have hr := codeK_range b0 b1 b2 b3 2
      have hst := codeK_2 b0 b1 b2 b3
      rw [hz] at hr hst ⊢
      obtain ⟨hr1, hr2⟩ := hr
      have hb0 := k2
      clear hz
      rcases b2 with _ | _
      all_goals
        have HS := Lib.hid hst
        clear hst
        go_wp2_with fail
        refine (gives_is hb0 (HB _ _ _ hbw)).mono ?_
        rintro e w1 ⟨rfl, b1'⟩
        have bw1 := below_step hbw b1'
        go_wp2
        go_roundw
        case rel => exact ⟨3, rfl, by omega, by omega, by rw [HS.out]; simp, bw1⟩
        case measure => simp [intOf]
    · obtain ⟨z, hz⟩ : ∃ z, codeK b0 b1 b2 b3 3 = z := ⟨_, rfl⟩
      have hr := codeK_range b0 b1 b2 b3 3
      have hst := codeK_3 b0 b1 b2 b3
      rw [hz] at hr hst ⊢
      obtain ⟨hr1, hr2⟩ := hr
      have hb0 := k3
      clear hz
      rcases b3 with _ | _
      all_goals
        have HS := Lib.hid hst
        clear hst
        go_wp2_with fail
        refine (gives_is hb0 (HB _ _ _ hbw)).mono ?_
        rintro e w1 ⟨rfl, b1'⟩
        have bw1 := below_step hbw b1'
        go_wp2
        go_roundw
        case rel => exact ⟨4, rfl, by omega, by omega, by rw [HS.out]; simp, bw1⟩
        case measure => simp [intOf]
    · go_wp2
      go_ret
      exact ⟨by rw [← HC.out]; rfl, hbw⟩

/-! ### the sixteen ways -/
def cntsZ (p l : List Sp) : List Value := (cntsOf p l).map fun k => .int .i64 k
theorem cntsZ_len (p l : List Sp) : (cntsZ p l).length = 16 := by unfold cntsZ; rw [List.length_map, cnts_len]
theorem cntsZ_nil (p : List Sp) : cntsZ p [] = List.replicate 16 (.int .i64 0) := rfl
theorem cntsZ_at {p l : List Sp} {n : Nat} {c : Int} (h : (cntsOf p l)[n]? = some c) : (cntsZ p l)[n]? = some (.int .i64 c) := by unfold cntsZ; rw [List.getElem?_map, h]; rfl
theorem cntsZ_snoc (p l : List Sp) (v : Sp) : cntsZ p (l ++ [v]) = (cntsZ p l).set (codeAt p v) (.int .i64 (((l.filter fun u => decide (codeAt p u = codeAt p v)).length : Int) + 1)) := by
  unfold cntsZ
  rw [cnts_snoc, List.map_set]
theorem boxS_lit {lx ly hx hy : Int} {ok : Bool} {ps : List Sp} {v : Value} {w : World} (hb : boxR ps = ((lx, ly), (hx, hy))) (hk : boxOk ps = ok) (h : Reads w w.heap.size v ps) :
    Calls Try.prog 75 #[v] w fun e w' => e = .returned (.tuple #[.agg #[.int .i64 lx, .int .i64 ly], .agg #[.int .i64 hx, .int .i64 hy], .bool ok]) ∧ Below w.heap.size w w' := by
  have := specBox_any ps v w h
  rw [hb, hk] at this
  exact this
theorem row_kept {w1 w2 : World} {B : Nat} {o : Obj} (h : w1.heap[B]? = some o) (hb : Below w1.heap.size w1 w2) : w2.heap[B]? = some o :=
  (hb.block B (Array.getElem?_eq_some_iff.1 h).1).trans h
def GivesCnts (p l : List Sp) (w : World) (e : Ending) (w' : World) : Prop := ∃ v', e = .returned v' ∧ VOwns 3 w' w.heap.size v' (cntsZ p l) ∧ Below w.heap.size w w'
set_option maxRecDepth 100000 in
set_option maxHeartbeats 1600000 in
theorem corners_any (ps : List Sp) (v : Value) (w : World) (h : Reads w w.heap.size v ps) (hp : picB ps = true) : Calls Try.prog 43 #[v] w (GivesCnts ps (cornL ps) w) := by
  obtain ⟨A, c, rfl, hc, hm⟩ := h.slice
  by_cases h0 : ps = []
  · subst h0
    have k1 : boxOk [] = false := by decide
    have k2 := box_no k1
    go_enter Try.func43, Try.ntmps43
    go_wp2_with (at_make; refine wpList_make_Int 16 (by omega) rfl _ _ rfl _ _ rfl rfl rfl rfl ?_)
    intro w1 o1 g1
    have b1 : Below w.heap.size w w1 := (Below.refl _ _).grown g1 (Nat.le_refl _) (by simp)
    have o1 : VOwns 3 w1 w.heap.size (.slice (some ⟨w.heap.size, 0, none⟩) 16 16) (cntsZ [] []) := o1
    go_wp2_with fail
    refine (boxS_lit k2 k1 (h.kept b1)).mono ?_
    rintro e w2 ⟨rfl, b2⟩
    have bb := below_step b1 b2
    have o2 := o1.below b2
    have bW : Below w2.heap.size w2 ((w2.alloc (.cells #[.int .i64 0, .int .i64 0] 54)).alloc (.cells #[.int .i64 0, .int .i64 0] 54)) := ((Below.refl _ _).alloc (Nat.le_refl _) _).alloc (by simp) _
    go_wp2
    refine wp_loop_rounds 1 ?_
    rw [rounds_succ]
    go_wp2
    go_ret
    exact ⟨_, rfl, o2.below bW, below_step bb bW⟩
  · obtain ⟨⟨r1, r2⟩, r3, r4⟩ := box_range hp h0
    have hbx := isBox_boxL h0
    have k1 : boxOk ps = true := by unfold boxOk; rw [hp, decide_eq_true h0]; rfl
    have k2 : boxR ps = boxL ps := by unfold boxR; rw [k1]; rfl
    have HE0 := cornL_rows h0
    have r5 : (boxL ps).1.1 ≤ (boxL ps).2.1 := by obtain ⟨a, ha, e⟩ := hbx.lx; have := hbx.all a ha; omega
    have r6 : (boxL ps).1.2 ≤ (boxL ps).2.2 := by obtain ⟨a, ha, e⟩ := hbx.ly; have := hbx.all a ha; omega
    obtain ⟨⟨⟨lx, ly⟩, ⟨hx, hy⟩⟩, hB⟩ : ∃ b, boxL ps = b := ⟨_, rfl⟩
    rw [hB] at r1 r2 r3 r4 r5 r6 HE0 k2
    simp only at r1 r2 r3 r4 r5 r6 HE0
    obtain ⟨n, hn⟩ : ∃ n, span lx (hx + 1) = n := ⟨_, rfl⟩
    have hn2 : n ≤ 201 := by rw [← hn]; exact span_le (by omega) (by omega)
    rw [hn] at HE0
    have hs := (picB_pic hp).2.2
    have hl : ps.length ≤ 1000000 := by have := (picB_pic hp).1; omega
    have HE := Lib.hid HE0
    have HN := Lib.hid hn
    clear hn hB hbx h0 hp HE0
    go_enter Try.func43, Try.ntmps43
    go_wp2_with (at_make; refine wpList_make_Int 16 (by omega) rfl _ _ rfl _ _ rfl rfl rfl rfl ?_)
    intro w1 o1 g1
    have b1 : Below w.heap.size w w1 := (Below.refl _ _).grown g1 (Nat.le_refl _) (by simp)
    have o1 : VOwns 3 w1 w.heap.size (.slice (some ⟨w.heap.size, 0, none⟩) 16 16) (cntsZ ps []) := o1
    have hg1 : w.heap.size < w1.heap.size := (o1.lt w.heap.size rfl).2
    go_wp2_with fail
    refine (boxS_lit k2 k1 (h.kept b1)).mono ?_
    rintro e w2 ⟨rfl, b2⟩
    have bb := below_step b1 b2
    have o2 := o1.below b2
    have hg2 : w.heap.size < w2.heap.size := Nat.lt_of_lt_of_le hg1 b2.size
    obtain ⟨W, hW, bW, sW, q0, q1⟩ := two_boxes w2 (.int .i64 lx) (.int .i64 ly) (.int .i64 hx) (.int .i64 hy)
    have oW := o2.below bW
    have bbW := below_step bb bW
    have l0 := (cells_of_row q0).1
    have l1 := (cells_of_row q0).2
    clear o1 o2 b1 g1 bb b2 k1 k2
    go_wp2_with (first | (rw [← hW]; clear hW) | fail)
    clear l0 l1
    go_loopw [7] (fun i wr => ∃ y : Int, i = .int .i64 y ∧ ly ≤ y ∧ (y ≤ ly ∨ y ≤ hy + 1 + 1) ∧ VOwns 3 wr w.heap.size (.slice (some ⟨w.heap.size, 0, none⟩) 16 16) (cntsZ ps (rowsB (fun _ => true) lx ly n (y - ly).toNat)) ∧ Below w.heap.size w wr ∧ wr.heap[w2.heap.size]? = some (.cells #[.int .i64 lx, .int .i64 ly] 54 (0, 0)) ∧ wr.heap[w2.heap.size + 1]? = some (.cells #[.int .i64 hx, .int .i64 hy] 54 (0, 0))) (fun i _ => (hy + 2 - intOf i).toNat)
    case atStart => exact ⟨ly, rfl, by omega, Or.inl (by omega), by rw [Int.sub_self]; exact oW, bbW, q0, q1⟩
    case round =>
      clear oW bbW q0 q1
      obtain ⟨y, rfl, hy1, hy2, hown, hbw, q0, q1⟩ := hrel
      have l0 := (cells_of_row q0).1
      have l2 := (cells_of_row q1).1
      have l3 := (cells_of_row q1).2
      by_cases hlt : y ≤ hy + 1
      · have hd : decide (y ≤ hy + 1) = true := decide_eq_true hlt
        go_wp2
        clear l0 l2 l3
        go_loopw [8] (fun i wr => ∃ x : Int, i = .int .i64 x ∧ lx ≤ x ∧ (x ≤ lx ∨ x ≤ hx + 1 + 1) ∧ VOwns 3 wr w.heap.size (.slice (some ⟨w.heap.size, 0, none⟩) 16 16) (cntsZ ps (rowsB (fun _ => true) lx ly n (y - ly).toNat ++ rowB (fun _ => true) lx y (x - lx).toNat)) ∧ Below w.heap.size w wr ∧ wr.heap[w2.heap.size]? = some (.cells #[.int .i64 lx, .int .i64 ly] 54 (0, 0)) ∧ wr.heap[w2.heap.size + 1]? = some (.cells #[.int .i64 hx, .int .i64 hy] 54 (0, 0))) (fun i _ => (hx + 2 - intOf i).toNat)
        case atStart => exact ⟨lx, rfl, by omega, Or.inl (by omega), by rw [Int.sub_self]; simpa [rowB_zero] using hown, hbw, q0, q1⟩
        case round =>
          clear hown hbw q0 q1
          obtain ⟨x, rfl, hx1, hx2, hown, hbw, q0, q1⟩ := hrel
          have l2 := (cells_of_row q1).1
          by_cases hlx : x ≤ hx + 1
          · have hd2 : decide (x ≤ hx + 1) = true := decide_eq_true hlx
            have hcl := cells_any ps _ x y wr (h.kept hbw) hs hl (by omega) (by omega)
            have hlen := length_part (fun _ => true) lx ly y x n hn2 (by omega) (by omega)
            have HT := Lib.hid (row_yes (f := fun _ => true) (x := lx) (y := y) hx1 rfl)
            obtain ⟨L, hL⟩ : ∃ L, rowsB (fun _ => true) lx ly n (y - ly).toNat ++ rowB (fun _ => true) lx y (x - lx).toNat = L := ⟨_, rfl⟩
            have HL : rowsB (fun _ => true) lx ly n (y - ly).toNat ++ rowB (fun _ => true) lx y (x + 1 - lx).toNat = L ++ [(x, y)] := by rw [← HT.out, ← List.append_assoc, hL]
            rw [hL] at hown hlen
            have hrd := cnts_read ps L (x, y)
            have hsn := cntsZ_snoc ps L (x, y)
            have hm16 := codeAt_lt ps (x, y)
            have hfl := List.length_filter_le (fun u => decide (codeAt ps u = codeAt ps (x, y))) L
            obtain ⟨m, hm'⟩ : ∃ m, codeAt ps (x, y) = m := ⟨_, rfl⟩
            rw [hm'] at hcl hrd hsn hm16 hfl
            obtain ⟨z, hz⟩ : ∃ z, (L.filter fun u => decide (codeAt ps u = m)).length = z := ⟨_, rfl⟩
            rw [hz] at hrd hsn hfl
            have HL := Lib.hid HL
            have HSN := Lib.hid hsn
            have hrdz := cntsZ_at hrd
            clear hL hm' hz hrd hsn
            go_wp2_with fail
            refine hcl.mono ?_
            rintro e w5 ⟨rfl, b5⟩
            have o5 := hown.below b5
            have bw5 := below_step hbw b5
            have q0 := row_kept q0 b5
            have q1 := row_kept q1 b5
            have d0 := (o5.cell (k := m) (by rw [cntsZ_len]; exact hm16)).trans hrdz
            have fz := o5.free m
            have i0 : (0 : Int) ≤ (m : Int) := Int.natCast_nonneg _
            have i1 : (m : Int) < 16 := by omega
            clear l2 hcl hrdz hown hbw
            go_wp2
            go_roundw
            case rel =>
              refine ⟨x + 1, rfl, by omega, Or.inr (by omega), ?_, bw5.setCell (p := ⟨w.heap.size, m, none⟩) (Nat.le_refl _) _, (heap_setCell_other _ _ _ _ (show w2.heap.size ≠ w.heap.size by omega)).trans q0, (heap_setCell_other _ _ _ _ (show w2.heap.size + 1 ≠ w.heap.size by omega)).trans q1⟩
              rw [HL.out, HSN.out]
              exact o5.set m _
            case measure => simp [intOf]; omega
          · have hd2 : decide (x ≤ hx + 1) = false := decide_eq_false hlx
            have HEN := Lib.hid (span_end (show hx + 1 < x by omega) hx2 hx1)
            have HR := Lib.hid (rows_next (f := fun _ => true) (x := lx) (n := n) hy1)
            rw [HEN.out, HN.out, HR.out] at hown
            go_wp2
            go_roundw
            case rel => exact ⟨y + 1, rfl, by omega, Or.inr (by omega), hown, hbw, q0, q1⟩
            case measure => simp [intOf]; omega
      · have hd : decide (y ≤ hy + 1) = false := decide_eq_false hlt
        have HEN := Lib.hid (span_end (show hy + 1 < y by omega) hy2 hy1)
        rw [HEN.out, ← HE.out] at hown
        go_wp2
        go_ret
        exact ⟨_, rfl, hown, hbw⟩

/-! ### corners -/
set_option maxRecDepth 100000 in
set_option maxHeartbeats 1600000 in
theorem specCorners_any (ps : List Sp) (v : Value) (w : World) (h : Reads w w.heap.size v ps) : Calls Try.prog 15 #[v] w (Gives (.int .i64 (cornersR ps)) w) := by
  rcases hp : picB ps with _ | _
  · rw [cornersR_no hp]
    go_enter Try.func15, Try.ntmps15
    go_wp2_with fail
    refine (gives_is hp (specPicture_any ps _ _ h)).mono ?_
    rintro e w1 ⟨rfl, b1⟩
    go_wp2
    go_ret
    exact ⟨rfl, b1⟩
  · rw [cornersR_yes hp]
    have HW := fun j (hj : j ≤ 15) => ways_le hp hj
    have HC := fun n (h0 : 0 < n) (hn : n < 16) => cntN_le hp h0 hn
    have hcn := fun w1 (b1 : Below w.heap.size w w1) => corners_any ps v w1 (h.kept b1) hp
    have hpc := gives_is hp (specPicture_any ps _ _ h)
    clear hp
    go_enter Try.func15, Try.ntmps15
    go_wp2_with fail
    refine hpc.mono ?_
    rintro e w1 ⟨rfl, b1⟩
    go_wp2_with fail
    refine (hcn w1 b1).mono ?_
    rintro e w2 ⟨v2, rfl, o2, b2⟩
    have bb := below_step b1 b2
    obtain ⟨A2, c2, rfl, hc2, hm2, hA2⟩ := o2.shape
    rw [cntsZ_len] at o2 hc2 hA2 ⊢
    obtain ⟨g, rfl, hg1, hg2⟩ := hA2 (by omega)
    unfold maxLen at hm2
    clear hcn hpc
    go_wp2
    go_loopw [4, 5] (fun n i wr => ∃ j : Nat, i = .int .i64 ((j : Int) + 1) ∧ j ≤ 15 ∧ n = .int .i64 (waysSum ps j : Nat) ∧ Below w2.heap.size w2 wr) (fun _ i _ => (16 - intOf i).toNat)
    case atStart => exact ⟨0, rfl, by omega, rfl, Below.refl _ _⟩
    case round =>
      obtain ⟨j, rfl, hj, rfl, hbw⟩ := hrel
      by_cases hlt : j < 15
      · have hd : decide ((j : Int) + 1 < 16) = true := decide_eq_true (by omega)
        have d0 := ((o2.below hbw).cell (k := j + 1) (by rw [cntsZ_len]; omega)).trans (cntsZ_at (cnts_corn ps (n := j + 1) (by omega)))
        have HS := Lib.hid (waysSum_succ ps j)
        have w0 := HW j (by omega)
        have w1 := HC (j + 1) (by omega) (by omega)
        obtain ⟨z, hz⟩ : ∃ z, cntN ps (j + 1) = z := ⟨_, rfl⟩
        rw [hz] at d0 HS w1
        clear hz
        have i0 : (0 : Int) ≤ (j : Int) := Int.natCast_nonneg _
        have i1 : (j : Int) + 1 < 16 := by omega
        go_wp2
        go_roundw
        case rel => exact ⟨j + 1, by go_num, by omega, by rw [HS.out]; go_num, hbw⟩
        case measure => simp [intOf]; omega
      · have hd : decide ((j : Int) + 1 < 16) = false := decide_eq_false (by omega)
        obtain rfl : j = 15 := by omega
        go_wp2
        go_ret
        exact ⟨rfl, bb.trans (hbw.mono bb.size)⟩

/-! ### borders -/
theorem ret_lt {a b : Int} (h : a = b) : Value.int .i64 a = Value.int .i64 b := by rw [h]
set_option maxRecDepth 100000 in
set_option maxHeartbeats 1600000 in
theorem specBorder_any (ps : List Sp) (v : Value) (w : World) (h : Reads w w.heap.size v ps) : Calls Try.prog 21 #[v] w (Gives (.int .i64 (borderR ps)) w) := by
  obtain ⟨A, c, rfl, hc, hm, hA, hr⟩ := h.is
  unfold maxLen at hm
  rcases hp : picB ps with _ | _
  · rw [borderR_no hp]
    go_enter Try.func21, Try.ntmps21
    go_wp2_with fail
    refine (gives_is hp (specPicture_any ps _ _ h)).mono ?_
    rintro e w1 ⟨rfl, b1⟩
    go_wp2
    go_ret
    exact ⟨rfl, b1⟩
  · rw [borderR_yes hp, ← bordK_all]
    have HR := fun k j hk => bordK_range hp (k := k) (j := j) hk
    have hpl := (picB_pic hp).1
    have hin := (picB_pic hp).2.1
    have hpc := gives_is hp (specPicture_any ps _ _ h)
    clear hp
    go_enter Try.func21, Try.ntmps21
    go_wp2_with fail
    refine hpc.mono ?_
    rintro e w1 ⟨rfl, b1⟩
    clear hpc
    go_wp2
    go_loopw [3, 4] (fun n i wr => ∃ k : Nat, i = .int .i64 k ∧ k ≤ ps.length ∧ n = .int .i64 (bordK ps k 0) ∧ Below w.heap.size w wr) (fun _ i _ => ps.length - (intOf i).toNat)
    case atStart => exact ⟨0, rfl, Nat.zero_le _, ret_lt (by rw [bordK_zero]), b1⟩
    case round =>
      obtain ⟨k, rfl, hk, rfl, hbw⟩ := hrel
      by_cases hlt : k < ps.length
      · have hd : decide ((k : Int) < (ps.length : Int)) = true := decide_eq_true (by omega)
        obtain ⟨b, off, rfl, hb, hcell⟩ := hr (by omega)
        obtain ⟨⟨x, y⟩, hxy⟩ : ∃ a, ps[k]? = some a := ⟨_, List.getElem?_eq_getElem hlt⟩
        obtain ⟨c0, c1⟩ := hcell k x y hxy
        have HN := Lib.hid (bordK_next ps k)
        have HXY := Lib.hid hxy
        have hi := hin _ (List.mem_of_getElem? hxy)
        unfold InR at hi
        simp only at hi
        clear hxy
        go_wp2
        go_loopw [3, 5] (fun n i wr => ∃ j : Nat, i = .int .i64 j ∧ j ≤ ps.length ∧ n = .int .i64 (bordK ps k j) ∧ Below w.heap.size w wr) (fun _ i _ => ps.length - (intOf i).toNat)
        case atStart => exact ⟨0, rfl, Nat.zero_le _, rfl, hbw⟩
        case round =>
          clear hbw
          obtain ⟨j, rfl, hj, rfl, hbw⟩ := hrel
          have hbs := hbw.size
          by_cases hlj : j < ps.length
          · have hd2 : decide ((j : Int) < (ps.length : Int)) = true := decide_eq_true (by omega)
            obtain ⟨⟨u, v⟩, huv⟩ : ∃ a, ps[j]? = some a := ⟨_, List.getElem?_eq_getElem hlj⟩
            obtain ⟨e0, e1⟩ := hcell j u v huv
            have d0 := cell_regrown ((hbw.cell (p := ⟨b, off + k * 2, none⟩) hb).trans c0)
            have d1 := cell_regrown ((hbw.cell (p := ⟨b, off + k * 2 + 1, none⟩) hb).trans c1)
            have d2 := cell_regrown ((hbw.cell (p := ⟨b, off + j * 2, none⟩) hb).trans e0)
            have d3 := cell_regrown ((hbw.cell (p := ⟨b, off + j * 2 + 1, none⟩) hb).trans e1)
            have hi2 := hin _ (List.mem_of_getElem? huv)
            unfold InR at hi2
            simp only at hi2
            have cc := Lib.hid (fun w1 => l4Far_any x y u v 0 w1 (by omega) (by omega))
            have hst := bordK_step HXY.out huv
            have hrg := HR k j (by omega)
            obtain ⟨z, hz⟩ : ∃ z, bordK ps k j = z := ⟨_, rfl⟩
            rw [hz] at hst hrg ⊢
            obtain ⟨hrg1, hrg2⟩ := hrg
            have i0 : (0 : Int) ≤ (k : Int) := Int.natCast_nonneg _
            have i1 : (k : Int) < (ps.length : Int) := by omega
            have i2 : (0 : Int) ≤ (j : Int) := Int.natCast_nonneg _
            have i3 : (j : Int) < (ps.length : Int) := by omega
            have hnb : nearB false (x, y) (u, v) = decide (farI (x, y) (u, v) 0 = 1) := rfl
            rw [hnb] at hst
            generalize farI (x, y) (u, v) 0 = d at *
            clear hz huv e0 e1 hnb
            by_cases hd1 : d = 1
            · subst hd1
              have HS := Lib.hid (show bordK ps k (j + 1) = z - 1 by rw [hst]; simp)
              clear hst
              go_wp2
              refine wp_region_quiet_below (by kernel_rfl) (by kernel_rfl) ?_
              repeat (go_big_quiet_step (first | (go_at_call 51; with_reducible exact gives_regrown (fun w1 _ => cc.out w1) _ _)))
              refine wpQuiet_nil ?_
              intro w3 hw'
              obtain ⟨⟨dq, osq⟩, hw''⟩ := hw'
              have hq : Below wr.heap.size wr w3 := by rw [hw'']; exact below_regrown _ _ _
              clear hw'' dq osq
              have bw3 := below_step hbw hq
              go_wp2
              go_roundw
              case rel => exact ⟨j + 1, by go_num, by omega, by rw [HS.out], bw3⟩
              case measure => simp [intOf]; omega
            · have HS := Lib.hid (show bordK ps k (j + 1) = z by rw [hst]; simp [hd1])
              clear hst
              go_wp2
              refine wp_region_quiet_below (by kernel_rfl) (by kernel_rfl) ?_
              repeat (go_big_quiet_step (first | (go_at_call 51; with_reducible exact gives_regrown (fun w1 _ => cc.out w1) _ _)))
              refine wpQuiet_nil ?_
              intro w3 hw'
              obtain ⟨⟨dq, osq⟩, hw''⟩ := hw'
              have hq : Below wr.heap.size wr w3 := by rw [hw'']; exact below_regrown _ _ _
              clear hw'' dq osq
              have bw3 := below_step hbw hq
              go_wp2
              go_roundw
              case rel => exact ⟨j + 1, by go_num, by omega, by rw [HS.out], bw3⟩
              case measure => simp [intOf]; omega
          · have hd2 : decide ((j : Int) < (ps.length : Int)) = false := decide_eq_false (by omega)
            obtain rfl : j = ps.length := by omega
            go_wp2
            go_roundw
            case rel => exact ⟨k + 1, by go_num, by omega, by rw [HN.out], hbw⟩
            case measure => simp [intOf]; omega
      · have hd : decide ((k : Int) < (ps.length : Int)) = false := decide_eq_false (by omega)
        obtain rfl : k = ps.length := by omega
        go_wp2
        go_ret
        exact ⟨rfl, hbw⟩

/-! ### sides, pieces less holes, squares -/
theorem border_lit {n : Int} {ps : List Sp} {v : Value} {w : World} (hn : borderR ps = n) (h : Reads w w.heap.size v ps) : Calls Try.prog 21 #[v] w (Gives (.int .i64 n) w) := by
  subst hn; exact specBorder_any ps v w h
set_option maxRecDepth 100000 in
theorem specSides_any (ps : List Sp) (v : Value) (w : World) (h : Reads w w.heap.size v ps) : Calls Try.prog 27 #[v] w (Gives (.int .i64 (sidesR ps)) w) := by
  obtain ⟨A, c, rfl, hc, hm⟩ := h.slice
  unfold maxLen at hm
  rcases hp : picB ps with _ | _
  · rw [sidesR_no hp]
    go_enter Try.func27, Try.ntmps27
    go_wp2_with fail
    refine (gives_is hp (specPicture_any ps _ _ h)).mono ?_
    rintro e w1 ⟨rfl, b1⟩
    go_wp2
    go_ret
    exact ⟨rfl, b1⟩
  · rw [sidesR_yes hp]
    have h1 := border_range hp
    have h2 := sidesI_two (picB_pic hp).2.2
    have h3 := borderR_yes hp
    have h4 := (picB_pic hp).1
    obtain ⟨s, hs⟩ : ∃ s, sidesI ps = s := ⟨_, rfl⟩
    obtain ⟨b, hb⟩ : ∃ b, borderI ps = b := ⟨_, rfl⟩
    rw [hs] at h2 ⊢
    rw [hb] at h1 h2 h3
    obtain ⟨h11, h12⟩ := h1
    have hd : b = 2 * s - 4 * (ps.length : Int) := by omega
    subst hd
    clear hs hb h2
    go_enter Try.func27, Try.ntmps27
    go_wp2_with fail
    refine (gives_is hp (specPicture_any ps _ _ h)).mono ?_
    rintro e w1 ⟨rfl, b1⟩
    have HP := Lib.hid hp
    clear hp
    go_wp2_with fail
    refine (border_lit h3 (h.kept b1)).mono ?_
    rintro e w2 ⟨rfl, b2⟩
    have bb := below_step b1 b2
    have ht : Int.tdiv (4 * (ps.length : Int) + (2 * s - 4 * (ps.length : Int))) 2 = s := by rw [show 4 * (ps.length : Int) + (2 * s - 4 * (ps.length : Int)) = 2 * s by omega]; exact Int.mul_tdiv_cancel_left s (by decide)
    have hw : 0 ≤ s ∧ s ≤ 1000 := by omega
    obtain ⟨hw1, hw2⟩ := hw
    clear h3
    go_wp2
    go_ret
    exact ⟨by first | rfl | (apply ret_lt; omega), bb⟩
theorem corners_lit {n : Int} {ps : List Sp} {v : Value} {w : World} (hn : cornersR ps = n) (h : Reads w w.heap.size v ps) : Calls Try.prog 15 #[v] w (Gives (.int .i64 n) w) := by
  subst hn; exact specCorners_any ps v w h
theorem sides_lit {n : Int} {ps : List Sp} {v : Value} {w : World} (hn : sidesR ps = n) (h : Reads w w.heap.size v ps) : Calls Try.prog 27 #[v] w (Gives (.int .i64 n) w) := by
  subst hn; exact specSides_any ps v w h
/-- a number and whether it is told -/
def GivesN (n : Int) (b : Bool) (w : World) (e : Ending) (w' : World) : Prop := e = .returned (.tuple #[.int .i64 n, .bool b]) ∧ Below w.heap.size w w'
set_option maxRecDepth 100000 in
theorem specEuler_any (ps : List Sp) (v : Value) (w : World) (h : Reads w w.heap.size v ps) : Calls Try.prog 30 #[v] w (GivesN (eulerR ps) (picB ps) w) := by
  obtain ⟨A, c, rfl, hc, hm⟩ := h.slice
  unfold maxLen at hm
  rcases hp : picB ps with _ | _
  · rw [eulerR_no hp]
    go_enter Try.func30, Try.ntmps30
    go_wp2_with fail
    refine (gives_is hp (specPicture_any ps _ _ h)).mono ?_
    rintro e w1 ⟨rfl, b1⟩
    go_wp2
    go_ret2
    exact ⟨rfl, b1⟩
  · rw [eulerR_yes hp]
    have h1 := cornersR_yes hp
    have h2 := sidesR_yes hp
    have h3 := ways_le hp (j := 15) (by omega)
    obtain ⟨h4, h5⟩ := sides_range hp
    have h6 := (picB_pic hp).1
    obtain ⟨s, hs⟩ : ∃ s, sidesI ps = s := ⟨_, rfl⟩
    obtain ⟨z, hz⟩ : ∃ z, waysSum ps 15 = z := ⟨_, rfl⟩
    rw [hs] at h2 h4 h5 ⊢
    rw [hz] at h1 h3 ⊢
    clear hs hz
    go_enter Try.func30, Try.ntmps30
    go_wp2_with fail
    refine (gives_is hp (specPicture_any ps _ _ h)).mono ?_
    rintro e w1 ⟨rfl, b1⟩
    go_wp2_with fail
    refine (corners_lit h1 (h.kept b1)).mono ?_
    rintro e w2 ⟨rfl, b2⟩
    have bb := below_step b1 b2
    go_wp2_with fail
    refine (sides_lit h2 (h.kept bb)).mono ?_
    rintro e w3 ⟨rfl, b3⟩
    have bb3 := below_step bb b3
    clear h1 h2 hp
    go_wp2
    go_ret2
    exact ⟨rfl, bb3⟩
def GivesQuad (a b c : Int) (ok : Bool) (w : World) (e : Ending) (w' : World) : Prop := e = .returned (.tuple #[.int .i64 a, .int .i64 b, .int .i64 c, .bool ok]) ∧ Below w.heap.size w w'
theorem quads_yes {p : List Sp} (h : picB p = true) : quadA p = ((cntN p 1 + cntN p 2 + cntN p 4 + cntN p 8 : Nat) : Int) ∧ quadB p = ((cntN p 6 + cntN p 9 : Nat) : Int) ∧ quadC p = ((cntN p 7 + cntN p 11 + cntN p 13 + cntN p 14 : Nat) : Int) := by
  unfold quadA quadB quadC
  rw [h]; exact ⟨rfl, rfl, rfl⟩
theorem quads_no {p : List Sp} (h : picB p = false) : quadA p = -1 ∧ quadB p = -1 ∧ quadC p = -1 := by
  unfold quadA quadB quadC
  rw [h]; exact ⟨rfl, rfl, rfl⟩
set_option maxRecDepth 100000 in
set_option maxHeartbeats 1600000 in
theorem specQuads_any (ps : List Sp) (v : Value) (w : World) (h : Reads w w.heap.size v ps) : Calls Try.prog 34 #[v] w (GivesQuad (quadA ps) (quadB ps) (quadC ps) (picB ps) w) := by
  rcases hp : picB ps with _ | _
  · obtain ⟨h1, h2, h3⟩ := quads_no hp
    rw [h1, h2, h3]
    go_enter Try.func34, Try.ntmps34
    go_wp2_with fail
    refine (gives_is hp (specPicture_any ps _ _ h)).mono ?_
    rintro e w1 ⟨rfl, b1⟩
    go_wp2
    refine bodyPost_ret (v := .tuple #[.int .i64 (-1), .int .i64 (-1), .int .i64 (-1), .bool false]) (by simp [results, Try.results34, go_sem]) rfl ⟨rfl, b1⟩
  · obtain ⟨h1, h2, h3⟩ := quads_yes hp
    rw [h1, h2, h3]
    have HC := fun n (h0 : 0 < n) (hn : n < 16) => cntN_le hp h0 hn
    have hpc := gives_is hp (specPicture_any ps _ _ h)
    have hcn := fun w1 (b1 : Below w.heap.size w w1) => corners_any ps v w1 (h.kept b1) hp
    clear hp h1 h2 h3
    go_enter Try.func34, Try.ntmps34
    go_wp2_with fail
    refine hpc.mono ?_
    rintro e w1 ⟨rfl, b1⟩
    go_wp2_with fail
    refine (hcn w1 b1).mono ?_
    rintro e w2 ⟨v2, rfl, o2, b2⟩
    have bb := below_step b1 b2
    obtain ⟨A2, c2, rfl, hc2, hm2, hA2⟩ := o2.shape
    rw [cntsZ_len] at o2 hc2 hA2 ⊢
    obtain ⟨g, rfl, hg1, hg2⟩ := hA2 (by omega)
    unfold maxLen at hm2
    have hcell : ∀ n, n < 16 → w2.cell? ⟨g, n, none⟩ = some (.int .i64 (cntN ps n : Nat)) := fun n hn => (o2.cell (k := n) (by rw [cntsZ_len]; omega)).trans (cntsZ_at (cnts_corn ps hn))
    clear hcn hpc o2
    have d1 := cell_regrown (hcell 1 (by omega))
    have e1 := HC 1 (by omega) (by omega)
    have d2 := cell_regrown (hcell 2 (by omega))
    have e2 := HC 2 (by omega) (by omega)
    have d4 := cell_regrown (hcell 4 (by omega))
    have e4 := HC 4 (by omega) (by omega)
    have d8 := cell_regrown (hcell 8 (by omega))
    have e8 := HC 8 (by omega) (by omega)
    have d6 := cell_regrown (hcell 6 (by omega))
    have e6 := HC 6 (by omega) (by omega)
    have d9 := cell_regrown (hcell 9 (by omega))
    have e9 := HC 9 (by omega) (by omega)
    have d7 := cell_regrown (hcell 7 (by omega))
    have e7 := HC 7 (by omega) (by omega)
    have d11 := cell_regrown (hcell 11 (by omega))
    have e11 := HC 11 (by omega) (by omega)
    have d13 := cell_regrown (hcell 13 (by omega))
    have e13 := HC 13 (by omega) (by omega)
    have d14 := cell_regrown (hcell 14 (by omega))
    have e14 := HC 14 (by omega) (by omega)
    clear hcell HC
    generalize cntN ps 1 = n1 at *
    generalize cntN ps 2 = n2 at *
    generalize cntN ps 4 = n4 at *
    generalize cntN ps 8 = n8 at *
    generalize cntN ps 6 = n6 at *
    generalize cntN ps 9 = n9 at *
    generalize cntN ps 7 = n7 at *
    generalize cntN ps 11 = n11 at *
    generalize cntN ps 13 = n13 at *
    generalize cntN ps 14 = n14 at *
    go_wp2
    go_wp2
    refine wp_region_quiet_below (by kernel_rfl) (by kernel_rfl) ?_
    repeat (go_big_quiet_step (first | fail))
    refine wpQuiet_nil ?_
    intro w3 hw'
    obtain ⟨⟨dq, osq⟩, hw''⟩ := hw'
    have hq : Below w2.heap.size w2 w3 := by rw [hw'']; exact below_regrown _ _ _
    clear hw'' dq osq
    have bb3 := below_step bb hq
    go_wp2
    refine bodyPost_ret (v := .tuple #[.int .i64 ((n1 + n2 + n4 + n8 : Nat) : Int), .int .i64 ((n6 + n9 : Nat) : Int), .int .i64 ((n7 + n11 + n13 + n14 : Nat) : Int), .bool true]) (by simp [results, Try.results34, go_sem]) rfl ⟨rfl, bb3⟩
end Go.Proofs.Ytbbeinhjkfjipaa
