/- Texts of one kind, merged: RowsS, BothS. No conditions but those that stand in each theorem. -/
import Derived.Test.YtkiidmdgdjphjaaGreatPut
import Derived.Test.YtkiidmdgdjphjaaGreatPicWalk
import Derived.Test.YtkiidmdgdjphjaaGreatPlain
import Derived.Test.YtkiidmdgdjphjaaGreatParts
import Derived.Deep.RegionHeld3
namespace Go.Proofs.YtkiidmdgdjphjaaGreat
/-! ### RowsS -/
section
open Go.RowKit Go.Sort

def overUpto (ps : List Sp) (k : Nat) : List Sp := puts [] ((ps.take k).map overS)
theorem overUpto_zero (ps : List Sp) : overUpto ps 0 = [] := rfl
theorem overUpto_succ {ps : List Sp} {k : Nat} {x y : Int} (h : ps[k]? = some (x, y)) : put (overUpto ps k) (y, x) = overUpto ps (k + 1) := by
  unfold overUpto puts
  rw [List.take_add_one, h, List.map_append, List.foldl_append]; rfl
theorem overUpto_all (ps : List Sp) : overUpto ps ps.length = overL ps := by unfold overUpto overL; rw [List.take_length]
theorem overUpto_le (ps : List Sp) (k : Nat) : (overUpto ps k).length ≤ ps.length := by
  unfold overUpto
  have := length_puts_le ((ps.take k).map overS) []
  rw [List.length_map, List.length_take, List.length_nil] at this
  omega

set_option maxRecDepth 100000 in
set_option maxHeartbeats 1600000 in
theorem l9Over_any (ps : List Sp) (v : Value) (w : World) (h : Reads w w.heap.size v ps) (hl : ps.length ≤ 100000) : Calls Tryz.prog 95 #[v] w (GivesOwn (overL ps) w) := by
  obtain ⟨A, c, rfl, hc, hm, hA, hr⟩ := h.is
  unfold maxLen at hm
  have hal : Below w.heap.size w (w.alloc (.cells #[] 53)) := (Below.refl _ _).alloc (Nat.le_refl _) _
  have oE := Owns.empty w w.heap.size (Nat.le_refl _)
  by_cases h0 : ps.length = 0
  · obtain rfl := List.eq_nil_of_length_eq_zero h0
    clear h0 hr
    go_enter Tryz.func95, Tryz.ntmps95
    go_wp2
    go_rounds 2
    go_ret
    exact ⟨_, rfl, oE, hal⟩
  obtain ⟨b, off, rfl, hb, hcell⟩ := hr (by omega)
  clear h0
  have HE := Lib.hid (overUpto_all ps)
  go_enter Tryz.func95, Tryz.ntmps95
  go_wp2
  go_loopw [3, 4] (fun s i wr => ∃ k : Nat, k ≤ ps.length ∧ i = .int .i64 k ∧ Owns wr w.heap.size s (overUpto ps k) ∧ Below w.heap.size w wr) (fun _ i _ => ps.length - (intOf i).toNat)
  case atStart => exact ⟨0, Nat.zero_le _, rfl, oE, hal⟩
  case round =>
    obtain ⟨k, hk, rfl, hown, hbw⟩ := hrel
    by_cases hlt : k < ps.length
    · obtain ⟨⟨x, y⟩, hxy⟩ : ∃ a, ps[k]? = some a := ⟨_, List.getElem?_eq_getElem hlt⟩
      obtain ⟨c0, c1⟩ := hcell k x y hxy
      have hS := Lib.hid (overUpto_succ hxy)
      have hlen := Nat.le_trans (overUpto_le ps k) hl
      have d0 := (hbw.cell (p := ⟨b, off + k * 2, none⟩) hb).trans c0
      have d1 := (hbw.cell (p := ⟨b, off + k * 2 + 1, none⟩) hb).trans c1
      have hm0 : (0 : Int) ≤ (k : Int) := Int.natCast_nonneg _
      have hm1 : (k : Int) < (ps.length : Int) := by omega
      have own2 := hown.below (Below.refl wr.heap.size wr).drew
      have bw2 := hbw.drew
      have hbs2 := bw2.size
      clear hxy
      go_wp2_with fail
      go_region_held3 (fun w' => w'.cell? ⟨b, off + k * 2, none⟩ = some (.int .i64 x) ∧ w'.cell? ⟨b, off + k * 2 + 1, none⟩ = some (.int .i64 y)) (first | go_keep | exact ⟨by assumption, by assumption⟩)
        ((go_at_call 68; refine (l1Put_any _ _ y x w.heap.size _ own2 hbs2 hlen).mono ?_; rintro e w4 ⟨v4, rfl, o4, b4⟩; have bz := bw2.trans (b4.mono hbs2); have e0 := (bz.cell (p := ⟨b, off + k * 2, none⟩) hb).trans c0; have e1 := (bz.cell (p := ⟨b, off + k * 2 + 1, none⟩) hb).trans c1))
      go_wp2
      go_roundw
      case rel => exact ⟨k + 1, by omega, by go_num, by rw [← hS.out]; exact o4, bz⟩
      case measure => simp [intOf]; omega
    · have hkn : k = ps.length := by omega
      rw [hkn, HE.out] at hown
      clear hkn
      go_wp2
      go_ret
      exact ⟨_, rfl, hown, hbw⟩
set_option maxRecDepth 100000 in
theorem specOver_any (ps : List Sp) (v : Value) (w : World) (h : Reads w w.heap.size v ps) : Calls Tryz.prog 94 #[v] w (GivesOwn (overR ps) w) := by
  rcases hp : picB ps with _ | _
  · rw [overR_no hp]
    go_enter Tryz.func94, Tryz.ntmps94
    go_wp2_with fail
    refine (gives_is hp (specPicture_any ps _ _ h)).mono ?_
    rintro e w1 ⟨rfl, b1⟩
    have hle := b1.size
    go_wp2
    go_ret
    exact ⟨_, rfl, Owns.empty _ _ hle, b1.alloc hle _⟩
  · rw [overR_yes hp]
    have hl := (picB_pic hp).1
    go_enter Tryz.func94, Tryz.ntmps94
    go_wp2_with fail
    refine (gives_is hp (specPicture_any ps _ _ h)).mono ?_
    rintro e w1 ⟨rfl, b1⟩
    go_wp2_with fail
    refine (l9Over_any ps _ _ (h.kept b1) (by omega)).mono ?_
    rintro e w2 ⟨v2, rfl, o2, b2⟩
    go_wp2
    go_ret
    exact ⟨_, rfl, o2.base b1.size, below_step b1 b2⟩

def allF : Sp → Bool := fun _ => true
theorem seg_is {ps : List Sp} {k : Nat} {x y F : Int} (h : ps[k]? = some (x, y)) (hF : fromAt ps k (x, y) = F) : segAt ps k = rowB allF F y (x + 1 - F).toNat := by
  have e : ps.getD k (0, 0) = (x, y) := by rw [List.getD_eq_getElem?_getD, h]; rfl
  unfold segAt
  rw [e, hF]; rfl
theorem from_zero {ps : List Sp} {x y : Int} : fromAt ps 0 (x, y) = x := by unfold fromAt; rw [if_neg (by omega)]
theorem from_same {ps : List Sp} {j : Nat} {x y u : Int} (h : ps[j]? = some (u, y)) : fromAt ps (j + 1) (x, y) = u + 1 := by
  have e : ps.getD j (0, 0) = (u, y) := by rw [List.getD_eq_getElem?_getD, h]; rfl
  unfold fromAt
  rw [Nat.add_sub_cancel, e, if_pos ⟨by omega, rfl⟩]
theorem from_other {ps : List Sp} {j : Nat} {x y u z : Int} (h : ps[j]? = some (u, z)) (hne : ¬ z = y) : fromAt ps (j + 1) (x, y) = x := by
  have e : ps.getD j (0, 0) = (u, z) := by rw [List.getD_eq_getElem?_getD, h]; rfl
  unfold fromAt
  rw [Nat.add_sub_cancel, e, if_neg (fun k => hne k.2)]
structure SegFacts (ps : List Sp) (k : Nat) (x y F : Int) : Prop where
  le : F ≤ x
  lo : -31 ≤ F
  hi : x ≤ 30
  ylo : -30 ≤ y
  yhi : y ≤ 30
  seg : segAt ps k = rowB allF F y (x + 1 - F).toNat
theorem seg_facts {ps : List Sp} (hp : picB ps = true) {k : Nat} {x y F : Int} (h : ps[k]? = some (x, y)) (hF : fromAt ps k (x, y) = F) : SegFacts ps k x y F := by
  have hk := (List.getElem?_eq_some_iff.1 h).1
  have e : ps.getD k (0, 0) = (x, y) := by rw [List.getD_eq_getElem?_getD, h]; rfl
  have h1 := from_le (picB_pic hp).2.2 hk
  rw [e, hF] at h1
  have h2 := (picB_pic hp).2.1 _ (List.mem_of_getElem? h)
  unfold InR at h2
  refine ⟨h1, ?_, by omega, by omega, by omega, seg_is h hF⟩
  rw [← hF]
  unfold fromAt
  split
  · have := (picB_pic hp).2.1 _ (getD_mem (j := k - 1) (by omega : k - 1 < ps.length))
    unfold InR at this; omega
  · simp only []; omega
theorem row_next (F y : Int) (t : Nat) : rowB allF F y (t + 1) = rowB allF F y t ++ [(F + (t : Int), y)] := by
  rw [rowB_succ]; rfl
set_option maxRecDepth 100000 in
set_option maxHeartbeats 3200000 in
theorem l9Rows_any (ps : List Sp) (v : Value) (w : World) (h : Reads w w.heap.size v ps) (hp : picB ps = true) : Calls Tryz.prog 93 #[v] w (GivesOwn (rowsL ps) w) := by
  obtain ⟨A, c, rfl, hc, hm, hA, hr⟩ := h.is
  unfold maxLen at hm
  have hal : Below w.heap.size w (w.alloc (.cells #[] 53)) := (Below.refl _ _).alloc (Nat.le_refl _) _
  have oE := Owns.empty w w.heap.size (Nat.le_refl _)
  have hl60 := (picB_pic hp).1
  by_cases h0 : ps.length = 0
  · obtain rfl := List.eq_nil_of_length_eq_zero h0
    clear h0 hr hp
    go_enter Tryz.func93, Tryz.ntmps93
    go_wp2
    go_rounds 2
    go_ret
    exact ⟨_, rfl, oE, hal⟩
  obtain ⟨b, off, rfl, hb, hcell⟩ := hr (by omega)
  clear h0
  have HP := Lib.hid hp
  clear hp
  go_enter Tryz.func93, Tryz.ntmps93
  go_wp2
  go_loopw [3, 4] (fun s i wr => ∃ k : Nat, k ≤ ps.length ∧ i = .int .i64 k ∧ Owns wr w.heap.size s (rowsUpto ps k) ∧ Below w.heap.size w wr) (fun _ i _ => ps.length - (intOf i).toNat)
  case atStart => exact ⟨0, Nat.zero_le _, rfl, oE, hal⟩
  case round =>
    obtain ⟨k, hk, rfl, hown, hbw⟩ := hrel
    by_cases hlt : k < ps.length
    · obtain ⟨⟨x, y⟩, hxy⟩ : ∃ a, ps[k]? = some a := ⟨_, List.getElem?_eq_getElem hlt⟩
      obtain ⟨c0, c1⟩ := hcell k x y hxy
      have hbs := hbw.size
      have d0 := (hbw.cell (p := ⟨b, off + k * 2, none⟩) hb).trans c0
      have d1 := (hbw.cell (p := ⟨b, off + k * 2 + 1, none⟩) hb).trans c1
      rcases Nat.eq_zero_or_pos k with rfl | hk0
      · have HF := Lib.hid (from_zero (ps := ps) (x := x) (y := y))
        simp only [Nat.zero_mul, Nat.add_zero] at c0 c1 d0 d1
        rw [show ((0 : Nat) : Int) = 0 from rfl]
        have m0 : (0 : Int) < (ps.length : Int) := by omega
        go_wp2
        refine wp_region_quiet_below (by kernel_rfl) (by kernel_rfl) ?_
        repeat (go_big_quiet_step (first | fail))
        refine wpQuiet_nil ?_
        intro wN hw'
        obtain ⟨⟨dq, osq⟩, hw''⟩ := hw'
        have hN : Below wr.heap.size wr wN := by rw [hw'']; exact below_regrown _ _ _
        clear hw'' dq osq
        have hbw := hbw.trans (hN.mono hbs)
        have hown := hown.below hN
        clear hN d0 d1 hbs
        obtain ⟨sf1, sf2, sf3, sf4, sf5, sf6⟩ := seg_facts HP.out hxy HF.out
        have HG := Lib.hid (show rowsUpto ps (0) ++ rowB allF (x) y (x + 1 - (x)).toNat = rowsUpto ps (0 + 1) by rw [← sf6]; exact (rowsUpto_succ ps (0)).symm)
        have hl1 := length_rowsUpto HP.out (0) (by omega)
        clear sf6 HF
        go_wp2
        go_loopw [3, 6] (fun s i wr => ∃ t : Nat, i = .int .i64 ((x) + (t : Int)) ∧ (x) + (t : Int) ≤ x + 1 ∧ Owns wr w.heap.size s (rowsUpto ps (0) ++ rowB allF (x) y t) ∧ Below w.heap.size w wr) (fun _ i _ => (x + 1 - intOf i).toNat)
        case atStart => exact ⟨0, by simp, by omega, by rw [rowB_zero, List.append_nil]; exact hown, hbw⟩
        case round =>
          clear hown hbw
          obtain ⟨t, rfl, ht, hown, hbw⟩ := hrel
          have hbs := hbw.size
          have d0 := (hbw.cell (p := ⟨b, off, none⟩) hb).trans c0
          have d1 := (hbw.cell (p := ⟨b, off + 1, none⟩) hb).trans c1
          by_cases hle : (x) + (t : Int) ≤ x
          · have hd : decide ((x) + (t : Int) ≤ x) = true := decide_eq_true hle
            have HT := Lib.hid (row_next (x) y t)
            have hl2 := length_rowB allF (x) y t
            have o3 := hown.below (box_below wr #[.int .i64 ((x) + (t : Int)), .int .i64 y] 53)
            go_wp2_with (at_builtin; refine wpList_append_spots (qs := [((x) + (t : Int), y)]) o3 (Reads.one (g := wr.heap.size) (by simp [go_sem]) (by simp [go_sem])) (by simp only [List.length_cons, List.length_nil, List.length_append]; omega) (by simp only [World.size_alloc]; omega) rfl (.tmp 52) (.tmp 60) rfl rfl rfl ?_)
            intro v4 w4 o4 g4 hv4
            have bw4 := o3.below_app (hbw.alloc hbs _) (by simp only [World.size_alloc]; omega) g4
            go_wp2
            go_roundw
            case rel => exact ⟨t + 1, by go_num, by omega, by rw [HT.out]; first | exact o4 | (rw [← List.append_assoc]; exact o4), bw4⟩
            case measure => simp [intOf]; omega
          · have hd : decide ((x) + (t : Int) ≤ x) = false := decide_eq_false hle
            have htn : t = (x + 1 - (x)).toNat := by omega
            rw [htn, HG.out] at hown
            clear htn
            go_wp2
            go_roundw
            case rel => exact ⟨0 + 1, by omega, by go_num, hown, hbw⟩
            case measure => simp [intOf]; omega
      · obtain ⟨j, rfl⟩ : ∃ j, k = j + 1 := ⟨k - 1, by omega⟩
        rw [show ((j + 1 : Nat) : Int) = (j : Int) + 1 from rfl]
        obtain ⟨⟨u, z⟩, huz⟩ : ∃ a, ps[j]? = some a := ⟨_, List.getElem?_eq_getElem (by omega)⟩
        obtain ⟨e0, e1⟩ := hcell j u z huz
        have f0 := (hbw.cell (p := ⟨b, off + j * 2, none⟩) hb).trans e0
        have f1 := (hbw.cell (p := ⟨b, off + j * 2 + 1, none⟩) hb).trans e1
        have q1 := cell_regrown d1
        have r1 := cell_regrown f1
        have m0 : (0 : Int) ≤ (j : Int) := Int.natCast_nonneg _
        have m1 : (j : Int) + 1 < (ps.length : Int) := by omega
        have m2 : (j : Int) < (ps.length : Int) := by omega
        by_cases hzy : z = y
        · have hzy := hzy.symm
          subst hzy
          have HF := Lib.hid (from_same (x := x) huz)
          have hu := (picB_pic HP.out).2.1 _ (List.mem_of_getElem? huz)
          unfold InR at hu
          simp only at hu
          obtain ⟨hu1, hu2, _, _⟩ := hu
          go_wp2
          refine wp_region_quiet_below (by kernel_rfl) (by kernel_rfl) ?_
          repeat (go_big_quiet_step (first | fail))
          refine wpQuiet_nil ?_
          intro wN hw'
          obtain ⟨⟨dq, osq⟩, hw''⟩ := hw'
          have hN : Below wr.heap.size wr wN := by rw [hw'']; exact below_regrown _ _ _
          clear hw'' dq osq
          have hbw := hbw.trans (hN.mono hbs)
          have hown := hown.below hN
          have f0 := (hbw.cell (p := ⟨b, off + j * 2, none⟩) hb).trans e0
          clear hN d0 d1 q1 r1 f1 hbs
          obtain ⟨sf1, sf2, sf3, sf4, sf5, sf6⟩ := seg_facts HP.out hxy HF.out
          have HG := Lib.hid (show rowsUpto ps (j + 1) ++ rowB allF (u + 1) y (x + 1 - (u + 1)).toNat = rowsUpto ps (j + 1 + 1) by rw [← sf6]; exact (rowsUpto_succ ps (j + 1)).symm)
          have hl1 := length_rowsUpto HP.out (j + 1) (by omega)
          clear sf6 HF
          go_wp2
          go_loopw [3, 6] (fun s i wr => ∃ t : Nat, i = .int .i64 ((u + 1) + (t : Int)) ∧ (u + 1) + (t : Int) ≤ x + 1 ∧ Owns wr w.heap.size s (rowsUpto ps (j + 1) ++ rowB allF (u + 1) y t) ∧ Below w.heap.size w wr) (fun _ i _ => (x + 1 - intOf i).toNat)
          case atStart => exact ⟨0, by simp, by omega, by rw [rowB_zero, List.append_nil]; exact hown, hbw⟩
          case round =>
            clear hown hbw
            obtain ⟨t, rfl, ht, hown, hbw⟩ := hrel
            have hbs := hbw.size
            have d0 := (hbw.cell (p := ⟨b, off + (j + 1) * 2, none⟩) hb).trans c0
            have d1 := (hbw.cell (p := ⟨b, off + (j + 1) * 2 + 1, none⟩) hb).trans c1
            by_cases hle : (u + 1) + (t : Int) ≤ x
            · have hd : decide ((u + 1) + (t : Int) ≤ x) = true := decide_eq_true hle
              have HT := Lib.hid (row_next (u + 1) y t)
              have hl2 := length_rowB allF (u + 1) y t
              have o3 := hown.below (box_below wr #[.int .i64 ((u + 1) + (t : Int)), .int .i64 y] 53)
              go_wp2_with (at_builtin; refine wpList_append_spots (qs := [((u + 1) + (t : Int), y)]) o3 (Reads.one (g := wr.heap.size) (by simp [go_sem]) (by simp [go_sem])) (by simp only [List.length_cons, List.length_nil, List.length_append]; omega) (by simp only [World.size_alloc]; omega) rfl (.tmp 52) (.tmp 60) rfl rfl rfl ?_)
              intro v4 w4 o4 g4 hv4
              have bw4 := o3.below_app (hbw.alloc hbs _) (by simp only [World.size_alloc]; omega) g4
              go_wp2
              go_roundw
              case rel => exact ⟨t + 1, by go_num, by omega, by rw [HT.out]; first | exact o4 | (rw [← List.append_assoc]; exact o4), bw4⟩
              case measure => simp [intOf]; omega
            · have hd : decide ((u + 1) + (t : Int) ≤ x) = false := decide_eq_false hle
              have htn : t = (x + 1 - (u + 1)).toNat := by omega
              rw [htn, HG.out] at hown
              clear htn
              go_wp2
              go_roundw
              case rel => exact ⟨j + 1 + 1, by omega, by go_num, hown, hbw⟩
              case measure => simp [intOf]; omega
        · have hzb : (z == y) = false := beq_eq_false_iff_ne.2 hzy
          have HF := Lib.hid (from_other (x := x) huz hzy)
          go_wp2
          refine wp_region_quiet_below (by kernel_rfl) (by kernel_rfl) ?_
          repeat (go_big_quiet_step (first | fail))
          refine wpQuiet_nil ?_
          intro wN hw'
          obtain ⟨⟨dq, osq⟩, hw''⟩ := hw'
          have hN : Below wr.heap.size wr wN := by rw [hw'']; exact below_regrown _ _ _
          clear hw'' dq osq
          have hbw := hbw.trans (hN.mono hbs)
          have hown := hown.below hN
          clear hN d0 d1 q1 r1 f0 f1 hbs hzy
          obtain ⟨sf1, sf2, sf3, sf4, sf5, sf6⟩ := seg_facts HP.out hxy HF.out
          have HG := Lib.hid (show rowsUpto ps (j + 1) ++ rowB allF (x) y (x + 1 - (x)).toNat = rowsUpto ps (j + 1 + 1) by rw [← sf6]; exact (rowsUpto_succ ps (j + 1)).symm)
          have hl1 := length_rowsUpto HP.out (j + 1) (by omega)
          clear sf6 HF
          go_wp2
          go_loopw [3, 6] (fun s i wr => ∃ t : Nat, i = .int .i64 ((x) + (t : Int)) ∧ (x) + (t : Int) ≤ x + 1 ∧ Owns wr w.heap.size s (rowsUpto ps (j + 1) ++ rowB allF (x) y t) ∧ Below w.heap.size w wr) (fun _ i _ => (x + 1 - intOf i).toNat)
          case atStart => exact ⟨0, by simp, by omega, by rw [rowB_zero, List.append_nil]; exact hown, hbw⟩
          case round =>
            clear hown hbw
            obtain ⟨t, rfl, ht, hown, hbw⟩ := hrel
            have hbs := hbw.size
            have d0 := (hbw.cell (p := ⟨b, off + (j + 1) * 2, none⟩) hb).trans c0
            have d1 := (hbw.cell (p := ⟨b, off + (j + 1) * 2 + 1, none⟩) hb).trans c1
            by_cases hle : (x) + (t : Int) ≤ x
            · have hd : decide ((x) + (t : Int) ≤ x) = true := decide_eq_true hle
              have HT := Lib.hid (row_next (x) y t)
              have hl2 := length_rowB allF (x) y t
              have o3 := hown.below (box_below wr #[.int .i64 ((x) + (t : Int)), .int .i64 y] 53)
              go_wp2_with (at_builtin; refine wpList_append_spots (qs := [((x) + (t : Int), y)]) o3 (Reads.one (g := wr.heap.size) (by simp [go_sem]) (by simp [go_sem])) (by simp only [List.length_cons, List.length_nil, List.length_append]; omega) (by simp only [World.size_alloc]; omega) rfl (.tmp 52) (.tmp 60) rfl rfl rfl ?_)
              intro v4 w4 o4 g4 hv4
              have bw4 := o3.below_app (hbw.alloc hbs _) (by simp only [World.size_alloc]; omega) g4
              go_wp2
              go_roundw
              case rel => exact ⟨t + 1, by go_num, by omega, by rw [HT.out]; first | exact o4 | (rw [← List.append_assoc]; exact o4), bw4⟩
              case measure => simp [intOf]; omega
            · have hd : decide ((x) + (t : Int) ≤ x) = false := decide_eq_false hle
              have htn : t = (x + 1 - (x)).toNat := by omega
              rw [htn, HG.out] at hown
              clear htn
              go_wp2
              go_roundw
              case rel => exact ⟨j + 1 + 1, by omega, by go_num, hown, hbw⟩
              case measure => simp [intOf]; omega
    · have hkn : k = ps.length := by omega
      rw [hkn] at hown
      clear hkn
      go_wp2
      go_ret
      exact ⟨_, rfl, hown, hbw⟩
end
/-! ### BothS -/
section
open Go.RowKit Go.Sort

theorem rowsOk_pic {p : List Sp} (h : picB p = false) : rowsOk p = false := by unfold rowsOk; rw [h]; rfl
theorem rowsOk_rows {p : List Sp} (h : picB (rowsL p) = false) : rowsOk p = false := by unfold rowsOk; rw [h, Bool.and_false]
theorem rowsOk_yes {p : List Sp} (h : picB p = true) (k : picB (rowsL p) = true) : rowsOk p = true := by unfold rowsOk; rw [h, k]; rfl
set_option maxRecDepth 100000 in
theorem specRows_any (ps : List Sp) (v : Value) (w : World) (h : Reads w w.heap.size v ps) : Calls Tryz.prog 74 #[v] w (Gives2' (rowsR ps) (rowsOk ps) w) := by
  rcases hp : picB ps with _ | _
  · have e := rowsOk_pic hp
    rw [rowsR_no e, e]
    go_enter Tryz.func74, Tryz.ntmps74
    go_wp2_with fail
    refine (gives_is hp (specPicture_any ps _ _ h)).mono ?_
    rintro e w1 ⟨rfl, b1⟩
    have hle := (b1).size
    go_wp2
    go_ret2
    exact ⟨_, rfl, Owns.empty _ _ hle, (b1).alloc hle _⟩
  rcases hq : picB (rowsL ps) with _ | _
  · have e := rowsOk_rows hq
    rw [rowsR_no e, e]
    go_enter Tryz.func74, Tryz.ntmps74
    go_wp2_with fail
    refine (gives_is hp (specPicture_any ps _ _ h)).mono ?_
    rintro e w1 ⟨rfl, b1⟩
    go_wp2_with fail
    refine (l9Rows_any ps _ _ (h.kept b1) hp).mono ?_
    rintro e w2 ⟨v2, rfl, o2, b2⟩
    go_wp2_with fail
    refine (gives_is hq (specPicture_any (rowsL ps) _ _ o2.reads)).mono ?_
    rintro e w3 ⟨rfl, b3⟩
    have bw := below_step (below_step b1 b2) b3
    have hle := (bw).size
    go_wp2
    go_ret2
    exact ⟨_, rfl, Owns.empty _ _ hle, (bw).alloc hle _⟩
  · have e := rowsOk_yes hp hq
    rw [rowsR_yes e, e]
    go_enter Tryz.func74, Tryz.ntmps74
    go_wp2_with fail
    refine (gives_is hp (specPicture_any ps _ _ h)).mono ?_
    rintro e w1 ⟨rfl, b1⟩
    go_wp2_with fail
    refine (l9Rows_any ps _ _ (h.kept b1) hp).mono ?_
    rintro e w2 ⟨v2, rfl, o2, b2⟩
    go_wp2_with fail
    refine (gives_is hq (specPicture_any (rowsL ps) _ _ o2.reads)).mono ?_
    rintro e w3 ⟨rfl, b3⟩
    go_wp2
    go_ret2
    exact ⟨_, rfl, (o2.below b3).base b1.size, below_step (below_step b1 b2) b3⟩
theorem colsOk_pic {p : List Sp} (h : picB p = false) : colsOk p = false := by unfold colsOk; rw [h]; rfl
theorem colsOk_yes {p : List Sp} (h : picB p = true) : colsOk p = rowsOk (overL p) := by unfold colsOk; rw [h]; rfl
theorem rows_lit {S : FuncId} {P : Program} {p r : List Sp} {b : Bool} {v : Value} {w : World} (hb : rowsOk p = b) (hr : rowsR p = r) (h : Calls P S #[v] w (Gives2' (rowsR p) (rowsOk p) w)) : Calls P S #[v] w (Gives2' r b w) := by
  subst hb hr; exact h
set_option maxRecDepth 100000 in
theorem specCols_any (ps : List Sp) (v : Value) (w : World) (h : Reads w w.heap.size v ps) : Calls Tryz.prog 75 #[v] w (Gives2' (colsR ps) (colsOk ps) w) := by
  rcases hp : picB ps with _ | _
  · have e := colsOk_pic hp
    rw [colsR_no e, e]
    have HO := Lib.hid (overR_no hp)
    have n1 : rowsOk [] = true := rowsOk_yes (decide_eq_true pic_nil) (decide_eq_true pic_nil)
    have n2 : rowsR [] = [] := rowsR_yes n1
    go_enter Tryz.func75, Tryz.ntmps75
    go_wp2_with fail
    refine (specOver_any ps _ _ h).mono ?_
    rintro e w1 ⟨v1, rfl, o1, b1⟩
    rw [HO.out] at o1
    go_wp2_with fail
    refine (rows_lit n1 n2 (specRows_any [] _ _ o1.reads)).mono ?_
    rintro e w2 ⟨v2, rfl, o2, b2⟩
    have bb := below_step b1 b2
    clear n1 n2
    go_wp2_with fail
    refine (gives_is hp (specPicture_any ps _ _ (h.kept bb))).mono ?_
    rintro e w3 ⟨rfl, b3⟩
    have bw := below_step bb b3
    have hle := (bw).size
    go_wp2
    go_ret2
    exact ⟨_, rfl, Owns.empty _ _ hle, (bw).alloc hle _⟩
  · have HO := Lib.hid (overR_yes hp)
    rcases hq : rowsOk (overL ps) with _ | _
    · have e : colsOk ps = false := (colsOk_yes hp).trans hq
      rw [colsR_no e, e]
      clear e
      go_enter Tryz.func75, Tryz.ntmps75
      go_wp2_with fail
      refine (specOver_any ps _ _ h).mono ?_
      rintro e w1 ⟨v1, rfl, o1, b1⟩
      rw [HO.out] at o1
      go_wp2_with fail
      refine (rows_lit hq rfl (specRows_any _ _ _ o1.reads)).mono ?_
      rintro e w2 ⟨v2, rfl, o2, b2⟩
      have bw := below_step b1 b2
      have hle := (bw).size
      go_wp2
      go_ret2
      exact ⟨_, rfl, Owns.empty _ _ hle, (bw).alloc hle _⟩
    · have e : colsOk ps = true := (colsOk_yes hp).trans hq
      rw [colsR_yes e, e]
      clear e
      have hl : (rowsL (overL ps)).length ≤ 60 := (picB_pic (rows_parts hq).2).1
      go_enter Tryz.func75, Tryz.ntmps75
      go_wp2_with fail
      refine (specOver_any ps _ _ h).mono ?_
      rintro e w1 ⟨v1, rfl, o1, b1⟩
      rw [HO.out] at o1
      go_wp2_with fail
      refine (rows_lit hq (rowsR_yes hq) (specRows_any _ _ _ o1.reads)).mono ?_
      rintro e w2 ⟨v2, rfl, o2, b2⟩
      have bb := below_step b1 b2
      go_wp2_with fail
      refine (gives_is hp (specPicture_any ps _ _ (h.kept bb))).mono ?_
      rintro e w3 ⟨rfl, b3⟩
      have bw := below_step bb b3
      go_wp2_with fail
      refine (l9Over_any _ _ _ (o2.below b3).reads (by omega)).mono ?_
      rintro e w4 ⟨v4, rfl, o4, b4⟩
      go_wp2
      go_ret2
      exact ⟨_, rfl, o4.base bw.size, below_step bw b4⟩

def lenOfV : Value → Nat
  | .slice _ n _ => n
  | _ => 0
theorem both_none {p q : List Sp} (h : bothV q = bothV p) (k : stepOk q = false) : bothOk p = false ∧ bothR p = [] := by
  have := both_no k
  unfold bothOk bothR
  rw [← h, this]
  exact ⟨rfl, rfl⟩
theorem both_some {p q : List Sp} (h : bothV q = bothV p) (k : stepOk q = true) (hl : (stepL q).length = q.length) : bothOk p = true ∧ bothR p = stepL q := by
  have := both_end k hl
  unfold bothOk bothR
  rw [← h, this]
  exact ⟨rfl, rfl⟩
theorem stepOk_rows {p : List Sp} (h : rowsOk p = false) : stepOk p = false := by unfold stepOk; rw [h]; rfl
theorem stepOk_cols {p : List Sp} (h : rowsOk p = true) : stepOk p = colsOk (rowsL p) := by unfold stepOk; rw [h]; rfl
theorem cols_lit {S : FuncId} {P : Program} {p r : List Sp} {b : Bool} {v : Value} {w : World} (hb : colsOk p = b) (hr : colsR p = r) (h : Calls P S #[v] w (Gives2' (colsR p) (colsOk p) w)) : Calls P S #[v] w (Gives2' r b w) := by
  subst hb hr; exact h
set_option maxRecDepth 100000 in
set_option maxHeartbeats 1600000 in
theorem specBoth_any (ps : List Sp) (v : Value) (w : World) (h : Reads w w.heap.size v ps) (hsm : ps.length ≤ 1100000) : Calls Tryz.prog 50 #[v] w (Gives2' (bothR ps) (bothOk ps) w) := by
  obtain ⟨A, c, rfl, hc, hm⟩ := h.slice
  unfold maxLen at hm
  have b0 : Below w.heap.size w (w.alloc (.cells #[] 53)) := (Below.refl _ _).alloc (Nat.le_refl _) _
  have oE := Owns.empty w w.heap.size (Nat.le_refl _)
  have hr := h.kept b0
  go_enter Tryz.func50, Tryz.ntmps50
  go_wp2_with (at_builtin; refine wpList_append_spots (qs := ps) oE hr (by simp only [List.length_nil]; omega) b0.size rfl (.tmp 9) (.tmp 10) rfl rfl rfl ?_)
  intro v1 w1 o1 g1 hv1
  have b1 := oE.below_app b0 b0.size g1
  clear hr oE g1 hv1
  go_wp2
  go_loopw [4] (fun nv wr => ∃ qs : List Sp, Owns wr w.heap.size nv qs ∧ bothV qs = bothV ps ∧ Below w.heap.size w wr) (fun nv _ => 61 - lenOfV nv)
  case atStart => exact ⟨ps, o1, rfl, b1⟩
  case round =>
    obtain ⟨qs, hown, hV, hbw⟩ := hrel
    obtain ⟨Aq, cq, rfl, hcq, hmq⟩ := hown.reads.slice
    unfold maxLen at hmq
    have HV := Lib.hid hV
    clear hV
    rcases h1 : rowsOk qs with _ | _
    · obtain ⟨e1, e2⟩ := both_none HV.out (stepOk_rows h1)
      have HE := Lib.hid (And.intro e1 e2)
      clear e1 e2
      go_wp2_with fail
      refine (rows_lit h1 rfl (specRows_any qs _ wr hown.reads)).mono ?_
      rintro e w2 ⟨v2, rfl, o2, b2⟩
      have bw := below_step hbw b2
      have hle := bw.size
      go_wp2
      go_ret2
      exact ⟨_, by rw [HE.out.1]; rfl, by rw [HE.out.2]; exact Owns.empty _ _ hle, bw.alloc hle _⟩
    · rcases h2 : colsOk (rowsL qs) with _ | _
      · obtain ⟨e1, e2⟩ := both_none HV.out ((stepOk_cols h1).trans h2)
        have HE := Lib.hid (And.intro e1 e2)
        clear e1 e2
        go_wp2_with fail
        refine (rows_lit h1 (rowsR_yes h1) (specRows_any qs _ wr hown.reads)).mono ?_
        rintro e w2 ⟨v2, rfl, o2, b2⟩
        have bw := below_step hbw b2
        go_wp2_with fail
        refine (cols_lit h2 rfl (specCols_any _ _ w2 o2.reads)).mono ?_
        rintro e w3 ⟨v3, rfl, o3, b3⟩
        have bw := below_step bw b3
        have hle := bw.size
        go_wp2
        go_ret2
        exact ⟨_, by rw [HE.out.1]; rfl, by rw [HE.out.2]; exact Owns.empty _ _ hle, bw.alloc hle _⟩
      · have HS := Lib.hid ((stepOk_cols h1).trans h2)
        have hql : qs.length ≤ 60 := (picB_pic (rows_parts h1).1).1
        have hge := length_step (picB_pic (rows_parts h1).1).2.2
        have hnl : (stepL qs).length ≤ 60 := (picB_pic (pic_step HS.out)).1
        have HC : colsR (rowsL qs) = stepL qs := colsR_yes h2
        go_wp2_with fail
        refine (rows_lit h1 (rowsR_yes h1) (specRows_any qs _ wr hown.reads)).mono ?_
        rintro e w2 ⟨v2, rfl, o2, b2⟩
        have bw := below_step hbw b2
        have hs2 := bw.size
        go_wp2_with fail
        refine (cols_lit h2 HC (specCols_any _ _ w2 o2.reads)).mono ?_
        rintro e w3 ⟨v3, rfl, o3, b3⟩
        have bw := below_step bw b3
        obtain ⟨A3, c3, rfl, hc3, hm3⟩ := o3.reads.slice
        unfold maxLen at hm3
        clear h1 h2 HC
        by_cases he : (stepL qs).length = qs.length
        · obtain ⟨e1, e2⟩ := both_some HV.out HS.out he
          have HE := Lib.hid (And.intro e1 e2)
          have heb : (((stepL qs).length : Int) == (qs.length : Int)) = true := by rw [beq_iff_eq]; omega
          clear e1 e2 he
          go_wp2
          go_ret2
          exact ⟨_, by rw [HE.out.1]; rfl, by rw [HE.out.2]; exact o3.base hs2, bw⟩
        · have HN := Lib.hid ((both_step HS.out he).symm.trans HV.out)
          have heb : (((stepL qs).length : Int) == (qs.length : Int)) = false := by rw [beq_eq_false_iff_ne]; omega
          have hlt : qs.length < (stepL qs).length := by omega
          have HLT := Lib.hid hlt
          clear he hlt hge
          go_wp2
          go_roundw
          case rel => exact ⟨stepL qs, o3.base hs2, HN.out, bw⟩
          case measure =>
            have := HLT.out
            simp [lenOfV]; omega
end
end Go.Proofs.YtkiidmdgdjphjaaGreat
