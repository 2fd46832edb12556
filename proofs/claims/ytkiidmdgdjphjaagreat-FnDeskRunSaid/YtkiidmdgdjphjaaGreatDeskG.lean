/- Texts of one kind, merged: Clone, DeskB, DeskC, DeskG, DeskX. No conditions but those that stand in each theorem. -/
import Derived.Test.YtkiidmdgdjphjaaGreatParts
import Derived.Test.YtkiidmdgdjphjaaGreatHas
import Derived.Lib.SliceRun
import Derived.Test.YtkiidmdgdjphjaaGreatDeskM
import Derived.Test.YtkiidmdgdjphjaaGreatPicWalk
namespace Go.Proofs.YtkiidmdgdjphjaaGreat
/-! ### Clone -/
section
open Go.RowKit Go.Sort

set_option maxRecDepth 100000 in
theorem clone_any (ps : List Sp) (v : Value) (w : World) (h : Reads w w.heap.size v ps) (hl : ps.length ≤ 1000000) :
    Calls Tryz.prog 41 #[v] w (GivesOwn ps w) := by
  obtain ⟨A, c, rfl, hc, hm, hA, _⟩ := h.is
  unfold maxLen at hm
  have hnil : ∀ W, (binOp .eql 23 (.slice A ps.length c) (.slice none 0 0)).run Tryz.prog W = .ok (.bool A.isNone) W := fun W => Lib.run_eql_slice_nil W _ _ _ _ _ 0 0 Tryz.underlying23
  cases A with
  | none =>
    have hnil : ∀ W, (binOp .eql 23 (.slice none ps.length c) (.slice none 0 0)).run Tryz.prog W = .ok (.bool true) W := hnil
    have h0 : ps.length = 0 := by have := hA rfl; omega
    obtain rfl := List.eq_nil_of_length_eq_zero h0
    have hc0 : c = 0 := hA rfl
    subst hc0
    have hnil : ∀ W, (binOp .eql 23 (.slice none 0 0) (.slice none 0 0)).run Tryz.prog W = .ok (.bool true) W := hnil
    go_enter Tryz.func41, Tryz.ntmps41
    go_wp2
    go_ret
    exact ⟨_, rfl, Owns.nil _ _, Below.refl _ _⟩
  | some ad =>
    have hnil : ∀ W, (binOp .eql 23 (.slice (some ad) ps.length c) (.slice none 0 0)).run Tryz.prog W = .ok (.bool false) W := hnil
    have b0 : Below w.heap.size w (w.alloc (.cells #[] 53)) := box_below _ _ _
    have oE := Owns.empty w w.heap.size (Nat.le_refl _)
    go_enter Tryz.func41, Tryz.ntmps41
    go_wp2_with (at_builtin; refine wpList_append_spots (qs := ps) oE (h.kept b0) (by simp only [List.length_nil]; omega) b0.size rfl (.tmp 5) (.tmp 6) rfl rfl rfl ?_)
    intro v4 w4 o4 g4 hv4
    have b4 := oE.below_app b0 b0.size g4
    go_wp2
    go_ret
    exact ⟨_, rfl, by simpa using o4, b4⟩
end
/-! ### DeskB -/
section
open Go.RowKit Go.Sort

theorem notPic_any (p : List Sp) (v : Value) (w : World) (h : Reads w w.heap.size v p) : Calls Tryz.prog 28 #[v] w (Gives (.bool (!picB p)) w) := by
  obtain ⟨A, c, rfl, _, _⟩ := h.slice
  rcases hp : picB p with _ | _
  · go_enter Tryz.func28, Tryz.ntmps28
    go_wp2_with fail
    refine (gives_is hp (implPicture_any p _ _ h)).mono ?_
    rintro e w1 ⟨rfl, b1⟩
    go_wp2
    go_ret
    exact ⟨rfl, b1⟩
  · go_enter Tryz.func28, Tryz.ntmps28
    go_wp2_with fail
    refine (gives_is hp (implPicture_any p _ _ h)).mono ?_
    rintro e w1 ⟨rfl, b1⟩
    go_wp2
    go_ret
    exact ⟨rfl, b1⟩
def IdxD (b : Bool) (w : World) (e : Ending) (w' : World) : Prop := ∃ i : Int, e = .returned (.int .i64 i) ∧ decide (0 ≤ i) = b ∧ Below w.heap.size w w'
def PicUpto (ls : List (List Sp)) (k : Nat) : Prop := ∀ (j : Nat) p, j < k → ls[j]? = some p → picB p = true
theorem PicUpto.next {ls : List (List Sp)} {k : Nat} {p : List Sp} (h : PicUpto ls k) (hp : ls[k]? = some p) (hb : picB p = true) : PicUpto ls (k + 1) := fun j q hj hq => by
  by_cases e : j = k
  · subst e; rw [hp] at hq; cases hq; exact hb
  · exact h j q (by omega) hq
theorem PicUpto.all {ls : List (List Sp)} (h : PicUpto ls ls.length) : ls.all picB = true := List.all_eq_true.2 fun p hp => by
  obtain ⟨j, hj⟩ := List.mem_iff_getElem?.1 hp
  exact h j p (List.getElem?_eq_some_iff.1 hj).1 hj
theorem all_not {ls : List (List Sp)} {k : Nat} {p : List Sp} (hp : ls[k]? = some p) (hb : picB p = false) : ls.all picB = false := by
  rcases e : ls.all picB with _ | _
  · rfl
  · have := List.all_eq_true.1 e p (List.mem_of_getElem? hp)
    rw [hb] at this; cases this
set_option maxRecDepth 100000 in
set_option maxHeartbeats 800000 in
theorem idxD_any (ls : List (List Sp)) (v : Value) (w : World) (h : PReads w w.heap.size v ls) : Calls Tryz.prog 53 #[v, .func (.func 28) #[] #[]] w (IdxD (!ls.all picB) w) := by
  obtain ⟨A, c, vs, rfl, hc, hm, hvl, hcell, hin⟩ := h.is
  unfold maxLen at hm
  go_enter Tryz.func53, Tryz.ntmps53
  go_wp2
  go_loopw [8] (fun i wr => ∃ j : Nat, j ≤ ls.length ∧ i = .int .i64 j ∧ PicUpto ls j ∧ Below w.heap.size w wr) (fun i _ => ls.length - (intOf i).toNat)
  case atStart => exact ⟨0, Nat.zero_le _, rfl, fun j p hj => by omega, Below.refl _ _⟩
  case round =>
    obtain ⟨j, hj, rfl, hI, hbw⟩ := hrel
    have HI := Lib.hid hI
    clear hI
    have hbs := hbw.size
    by_cases hlt : j < ls.length
    · obtain ⟨p, hp⟩ : ∃ a, ls[j]? = some a := ⟨_, List.getElem?_eq_getElem hlt⟩
      obtain ⟨b, off, rfl, hb, hcv⟩ := hcell (by omega)
      obtain ⟨u, hu, hru⟩ := hin j p hp
      have d0 := (hbw.cell (p := ⟨b, off + j, none⟩) hb).trans (hcv j _ hu)
      have hru := hru.kept hbw
      obtain ⟨Au, cu, rfl, _, _⟩ := hru.slice
      have hm3 : (0 : Int) ≤ (j : Int) := Int.natCast_nonneg _
      have hm4 : (j : Int) < (ls.length : Int) := by omega
      rcases hpp : picB p with _ | _
      · have HN := Lib.hid (all_not hp hpp)
        have HP := Lib.hid hpp
        clear hp hu hpp
        go_wp2_with fail
        refine (gives_is (by rw [HP.out]) (notPic_any p _ wr hru)).mono ?_
        rintro e w1 ⟨rfl, b1⟩
        go_wp2
        go_ret
        exact ⟨_, rfl, by rw [HN.out]; exact decide_eq_true hm3, below_step hbw b1⟩
      · have HN := Lib.hid (HI.out.next hp hpp)
        have HP := Lib.hid hpp
        clear hp hu hpp
        go_wp2_with fail
        refine (gives_is (by rw [HP.out]) (notPic_any p _ wr hru)).mono ?_
        rintro e w1 ⟨rfl, b1⟩
        go_wp2
        go_roundw
        case rel => exact ⟨j + 1, by omega, by go_num, HN.out, below_step hbw b1⟩
        case measure => simp [intOf]; omega
    · obtain rfl : j = ls.length := by omega
      have HA := Lib.hid HI.out.all
      clear HI
      go_wp2
      go_ret
      exact ⟨_, rfl, by rw [HA.out]; rfl, hbw⟩
theorem contD_any (ls : List (List Sp)) (v : Value) (w : World) (h : PReads w w.heap.size v ls) : Calls Tryz.prog 27 #[v, .func (.func 28) #[] #[]] w (Gives (.bool (!ls.all picB)) w) := by
  obtain ⟨A, c, rfl, _, _⟩ := h.slice
  go_enter Tryz.func27, Tryz.ntmps27
  go_wp2_with fail
  refine (idxD_any ls _ w h).mono ?_
  rintro e w1 ⟨i, rfl, hi, b1⟩
  have HI := Lib.hid hi
  clear hi
  go_wp2
  go_ret
  exact ⟨ret_bool HI.out, b1⟩
set_option maxHeartbeats 1600000 in
theorem implDeskOk_any (d : Dk) (v : Value) (w : World) (h : DeskR w w.heap.size v d) : Calls Tryz.prog 9 #[v] w (Gives (.bool (deskB d)) w) := by
  obtain ⟨n, p, rfl, rn, rp⟩ := h
  obtain ⟨An, cn, rfl, _, _⟩ := rn.slice
  obtain ⟨Ap, cp, rfl, _, hmp⟩ := rp.slice
  unfold maxLen at hmp
  have b0 := box_below w #[.slice An d.1.length cn, .slice Ap d.2.length cp] 26
  obtain ⟨W, hW⟩ : ∃ W, W = w.alloc (.cells #[.slice An d.1.length cn, .slice Ap d.2.length cp] 26) := ⟨_, rfl⟩
  have q0 : W.cell? ⟨w.heap.size, 0, none⟩ = some (.slice An d.1.length cn) := by rw [hW]; simp [go_sem]
  have q1 : W.cell? ⟨w.heap.size, 1, none⟩ = some (.slice Ap d.2.length cp) := by rw [hW]; simp [go_sem]
  have s0 : w.heap.size < W.heap.size := by rw [hW]; simp
  rw [← hW] at b0
  have rn := rn.kept b0
  have rp := rp.kept b0
  rcases hp : picB d.1 with _ | _
  · have HR := Lib.hid (desk_no1 hp)
    have HP := Lib.hid hp
    clear hp
    go_enter Tryz.func9, Tryz.ntmps9
    go_wp2_with (first | (rw [← hW]; clear hW) | fail)
    refine (gives_is HP.out (implPicture_any d.1 _ _ rn)).mono ?_
    rintro e w1 ⟨rfl, b1⟩
    go_wp2
    go_ret
    exact ⟨ret_bool HR.out.symm, below_step b0 b1⟩
  · have HP := Lib.hid hp
    by_cases hl : d.2.length ≤ 8
    · rcases ha : d.2.all picB with _ | _
      · have HA := Lib.hid ha
        have HR := Lib.hid (show deskB d = false by unfold deskB; rw [ha, Bool.and_false, Bool.and_false])
        have hli : (d.2.length : Int) ≤ 8 := by omega
        clear hp ha
        go_enter Tryz.func9, Tryz.ntmps9
        go_wp2_with (first | (rw [← hW]; clear hW) | fail)
        refine (gives_is HP.out (implPicture_any d.1 _ _ rn)).mono ?_
        rintro e w1 ⟨rfl, b1⟩
        have q1 := (b1.cell (p := ⟨w.heap.size, 1, none⟩) s0).trans q1
        go_wp2_with fail
        refine (gives_is (by rw [HA.out]) (contD_any d.2 _ _ (rp.kept b1))).mono ?_
        rintro e w2 ⟨rfl, b2⟩
        go_wp2
        go_ret
        exact ⟨ret_bool HR.out.symm, below_step (below_step b0 b1) b2⟩
      · have HA := Lib.hid ha
        have HR := Lib.hid (show deskB d = true by unfold deskB; rw [ha, hp, decide_eq_true hl]; rfl)
        have hli : (d.2.length : Int) ≤ 8 := by omega
        clear hp ha
        go_enter Tryz.func9, Tryz.ntmps9
        go_wp2_with (first | (rw [← hW]; clear hW) | fail)
        refine (gives_is HP.out (implPicture_any d.1 _ _ rn)).mono ?_
        rintro e w1 ⟨rfl, b1⟩
        have q1 := (b1.cell (p := ⟨w.heap.size, 1, none⟩) s0).trans q1
        go_wp2_with fail
        refine (gives_is (by rw [HA.out]) (contD_any d.2 _ _ (rp.kept b1))).mono ?_
        rintro e w2 ⟨rfl, b2⟩
        go_wp2
        go_ret
        exact ⟨ret_bool HR.out.symm, below_step (below_step b0 b1) b2⟩
    · have HR := Lib.hid (desk_no2 hl)
      have hli : 8 < (d.2.length : Int) := by omega
      clear hp hl
      go_enter Tryz.func9, Tryz.ntmps9
      go_wp2_with (first | (rw [← hW]; clear hW) | fail)
      refine (gives_is HP.out (implPicture_any d.1 _ _ rn)).mono ?_
      rintro e w1 ⟨rfl, b1⟩
      have q1 := (b1.cell (p := ⟨w.heap.size, 1, none⟩) s0).trans q1
      go_wp2
      go_ret
      exact ⟨ret_bool HR.out.symm, below_step b0 b1⟩
set_option maxRecDepth 100000 in
set_option maxHeartbeats 1600000 in
theorem specDeskOk_any (d : Dk) (v : Value) (w : World) (h : DeskR w w.heap.size v d) : Calls Tryz.prog 15 #[v] w (Gives (.bool (deskB d)) w) := by
  obtain ⟨n, p, rfl, rn, rp⟩ := h
  obtain ⟨An, cn, rfl, _, _⟩ := rn.slice
  obtain ⟨A, c, vs, rfl, hc, hm, hvl, hcell, hin⟩ := rp.is
  unfold maxLen at hm
  have b0 := box_below w #[.slice An d.1.length cn, .slice A d.2.length c] 26
  obtain ⟨W, hW⟩ : ∃ W, W = w.alloc (.cells #[.slice An d.1.length cn, .slice A d.2.length c] 26) := ⟨_, rfl⟩
  have q0 : W.cell? ⟨w.heap.size, 0, none⟩ = some (.slice An d.1.length cn) := by rw [hW]; simp [go_sem]
  have q1 : W.cell? ⟨w.heap.size, 1, none⟩ = some (.slice A d.2.length c) := by rw [hW]; simp [go_sem]
  have s0 : w.heap.size < W.heap.size := by rw [hW]; simp
  rw [← hW] at b0
  go_enter Tryz.func15, Tryz.ntmps15
  go_wp2
  rw [← hW]
  clear hW
  go_loopw [3] (fun i wr => ∃ j : Nat, j ≤ d.2.length ∧ i = .int .i64 j ∧ PicUpto d.2 j ∧ Below W.heap.size W wr) (fun i _ => d.2.length - (intOf i).toNat)
  case atStart => exact ⟨0, Nat.zero_le _, rfl, fun j p hj => by omega, Below.refl _ _⟩
  case round =>
    obtain ⟨j, hj, rfl, hI, hbw⟩ := hrel
    have HI := Lib.hid hI
    clear hI
    have hbb := below_step b0 hbw
    have q0 := (hbw.cell (p := ⟨w.heap.size, 0, none⟩) s0).trans q0
    have q1 := (hbw.cell (p := ⟨w.heap.size, 1, none⟩) s0).trans q1
    by_cases hlt : j < d.2.length
    · obtain ⟨p, hp⟩ : ∃ a, d.2[j]? = some a := ⟨_, List.getElem?_eq_getElem hlt⟩
      obtain ⟨b, off, rfl, hb, hcv⟩ := hcell (by omega)
      obtain ⟨u, hu, hru⟩ := hin j p hp
      have d0 := (hbb.cell (p := ⟨b, off + j, none⟩) hb).trans (hcv j _ hu)
      have hru := hru.kept hbb
      obtain ⟨Au, cu, rfl, _, _⟩ := hru.slice
      have hm3 : (0 : Int) ≤ (j : Int) := Int.natCast_nonneg _
      have hm4 : (j : Int) < (d.2.length : Int) := by omega
      rcases hpp : picB p with _ | _
      · have HN := Lib.hid (desk_no3 (List.mem_of_getElem? hp) hpp)
        have HP := Lib.hid hpp
        clear hp hu hpp
        go_wp2_with fail
        refine (gives_is HP.out (specPicture_any p _ wr hru)).mono ?_
        rintro e w1 ⟨rfl, b1⟩
        go_wp2
        go_ret
        exact ⟨ret_bool HN.out.symm, below_step hbb b1⟩
      · have HN := Lib.hid (HI.out.next hp hpp)
        have HP := Lib.hid hpp
        clear hp hu hpp
        go_wp2_with fail
        refine (gives_is HP.out (specPicture_any p _ wr hru)).mono ?_
        rintro e w1 ⟨rfl, b1⟩
        go_wp2
        go_roundw
        case rel => exact ⟨j + 1, by omega, by go_num, HN.out, below_step hbw b1⟩
        case measure => simp [intOf]; omega
    · obtain rfl : j = d.2.length := by omega
      have HA := Lib.hid HI.out.all
      clear HI
      rcases hp : picB d.1 with _ | _
      · have HR := Lib.hid (desk_no1 hp)
        have HP := Lib.hid hp
        clear hp
        go_wp2_with fail
        refine (gives_is HP.out (specPicture_any d.1 _ wr (rn.kept hbb))).mono ?_
        rintro e w1 ⟨rfl, b1⟩
        go_wp2
        go_ret
        exact ⟨ret_bool HR.out.symm, below_step hbb b1⟩
      · by_cases hl : d.2.length ≤ 8
        · have HR := Lib.hid (show deskB d = true by unfold deskB; rw [HA.out, hp, decide_eq_true hl]; rfl)
          have HP := Lib.hid hp
          have hli : (d.2.length : Int) ≤ 8 := by omega
          clear hp
          go_wp2_with fail
          refine (gives_is HP.out (specPicture_any d.1 _ wr (rn.kept hbb))).mono ?_
          rintro e w1 ⟨rfl, b1⟩
          have q1 := (b1.cell (p := ⟨w.heap.size, 1, none⟩) (by have := hbw.size; simp only []; omega)).trans q1
          go_wp2
          go_ret
          exact ⟨ret_bool HR.out.symm, below_step hbb b1⟩
        · have HR := Lib.hid (desk_no2 hl)
          have HP := Lib.hid hp
          have hli : 8 < (d.2.length : Int) := by omega
          clear hp hl
          go_wp2_with fail
          refine (gives_is HP.out (specPicture_any d.1 _ wr (rn.kept hbb))).mono ?_
          rintro e w1 ⟨rfl, b1⟩
          have q1 := (b1.cell (p := ⟨w.heap.size, 1, none⟩) (by have := hbw.size; simp only []; omega)).trans q1
          go_wp2
          go_ret
          exact ⟨ret_bool (by rw [HR.out]; exact decide_eq_false (by omega)), below_step hbb b1⟩
theorem dokI_is {b : Bool} {d : Dk} {v : Value} {w : World} (hk : deskB d = b) (h : DeskR w w.heap.size v d) : Calls Tryz.prog 9 #[v] w (Gives (.bool b) w) := by
  subst hk; exact implDeskOk_any d v w h
theorem dokS_is {b : Bool} {d : Dk} {v : Value} {w : World} (hk : deskB d = b) (h : DeskR w w.heap.size v d) : Calls Tryz.prog 15 #[v] w (Gives (.bool b) w) := by
  subst hk; exact specDeskOk_any d v w h
end
/-! ### DeskC -/
section
open Go.RowKit Go.Sort

/-- what is written into a slice of slices leaves pictures as they were -/
theorem OZ.grownV {w w' : World} {lo hi b : Nat} {u v : Value} {p : List Sp} {vs : List Value} (h : OZ w lo hi u p) (hv : VOwns 23 w b v vs) (hg : w.grownBy w' v.ownBlock) : OZ w' lo hi u p := by
  rcases h with ⟨h, k⟩ | ⟨e, h, k⟩
  · exact .inl ⟨h, k.nilAny (Nat.le_refl _)⟩
  · exact .inr ⟨e, h.grown hg (hv.apartO parts_apart h), k⟩
theorem InZ.grownV {w w' : World} {lo hi b : Nat} {v : Value} {us vs : List Value} {ls : List (List Sp)} (h : InZ w lo hi us ls) (hv : VOwns 23 w b v vs) (hg : w.grownBy w' v.ownBlock) : InZ w' lo hi us ls :=
  ⟨h.len, fun k p hp => by obtain ⟨u, h1, h2⟩ := h.own k p hp; exact ⟨u, h1, h2.grownV hv hg⟩, h.ne⟩
set_option maxRecDepth 100000 in
set_option maxHeartbeats 1600000 in
theorem copied_any (d : Dk) (v : Value) (w : World) (h : DeskR w w.heap.size v d) (h1 : d.1.length ≤ 1000000) (h2 : ∀ p ∈ d.2, p.length ≤ 1000000) (h3 : d.2.length ≤ 1000000) :
    Calls Tryz.prog 21 #[v] w (GivesDesk d w) := by
  obtain ⟨n, p, rfl, rn, rp⟩ := h
  obtain ⟨An, cn, rfl, _, _⟩ := rn.slice
  obtain ⟨A, c, vs, rfl, hc, hm, hvl, hcell, hin⟩ := rp.is
  unfold maxLen at hm
  obtain ⟨W, hW⟩ : ∃ W, W = (w.alloc (.cells #[.slice An d.1.length cn, .slice A d.2.length c] 26)).alloc (.cells #[.slice none 0 0, .slice none 0 0] 26) := ⟨_, rfl⟩
  have b0 : Below w.heap.size w W := by rw [hW]; exact (box_below w _ _).alloc (by simp) _
  have q0 : W.cell? ⟨w.heap.size, 0, none⟩ = some (.slice An d.1.length cn) := by rw [hW]; simp [go_sem, World.cell?_alloc_past]
  have q1 : W.cell? ⟨w.heap.size, 1, none⟩ = some (.slice A d.2.length c) := by rw [hW]; simp [go_sem, World.cell?_alloc_past]
  have s0 : W.heap.size = w.heap.size + 2 := by rw [hW]; simp
  have r1 : W.heap[w.heap.size + 1]? = some (.cells #[.slice none 0 0, .slice none 0 0] 26 (0, 0)) := by
    rw [hW]
    have h1 := heap_alloc_new (w.alloc (.cells #[.slice An d.1.length cn, .slice A d.2.length c] 26)) (.cells #[.slice none 0 0, .slice none 0 0] 26)
    rw [World.size_alloc] at h1
    exact h1
  have hsz := Lib.hid s0
  go_enter Tryz.func21, Tryz.ntmps21
  go_wp2_with (first | (rw [← hW]; clear hW) | fail)
  go_loopw [3, 9] (fun s i wr => ∃ (k : Nat) (us : List Value), k ≤ d.2.length ∧ i = .int .i64 k ∧ us.length = k ∧ VOwns 23 wr (w.heap.size + 2) s us ∧ InZ wr (w.heap.size + 2) wr.heap.size us (d.2.take k) ∧ Below W.heap.size W wr) (fun _ i _ => d.2.length - (intOf i).toNat)
  case atStart => exact ⟨0, [], Nat.zero_le _, rfl, rfl, VOwns.nil _ _ _, InZ.nil _ _ _, Below.refl _ _⟩
  case round =>
    obtain ⟨k, us, hk, rfl, hul, hvo, hvi, hbw⟩ := hrel
    have hbs := hbw.size
    have hw2 : w.heap.size + 2 ≤ wr.heap.size := by omega
    have hbb := below_step b0 hbw
    by_cases hlt : k < d.2.length
    · obtain ⟨p, hp⟩ : ∃ a, d.2[k]? = some a := ⟨_, List.getElem?_eq_getElem hlt⟩
      obtain ⟨b, off, rfl, hb, hcv⟩ := hcell (by omega)
      obtain ⟨u, hu, hru⟩ := hin k _ hp
      have d0 := (hbb.cell (p := ⟨b, off + k, none⟩) hb).trans (hcv k _ hu)
      have hru := hru.kept hbb
      have hm3 : (0 : Int) ≤ (k : Int) := Int.natCast_nonneg _
      have hm4 : (k : Int) < (d.2.length : Int) := by omega
      have hpl := h2 p (List.mem_of_getElem? hp)
      have HP := Lib.hid hp
      have HU := Lib.hid hul
      have hul3 : us.length ≤ 1000000 := by omega
      clear hp hu hul s0
      go_wp2_with fail
      refine (clone_any p _ wr hru hpl).mono ?_
      rintro e w2 ⟨v2, rfl, o2, b2⟩
      obtain ⟨A2, c2, rfl, _, _⟩ := o2.reads.slice
      have hs2 := b2.size
      have b3 := box_below w2 #[.slice A2 p.length c2] 23
      have hvo := (hvo.below b2).below b3
      have o3 := OZ.of (hi := w2.heap.size) o2 (Nat.le_refl _)
      have hI := (hvi.keptBy (w' := w2) (fun g _ h2 _ => b2.block g h2)).snoc o3 hw2 hs2
      have hI := hI.keptBy (w' := w2.alloc (.cells #[.slice A2 p.length c2] 23)) (fun g _ h2 _ => b3.block g h2)
      rw [← take_succ_at HP.out] at hI
      have bbx := below_step hbw (below_step b2 b3)
      have hbase : w.heap.size + 2 ≤ (w2.alloc (.cells #[.slice A2 p.length c2] 23)).heap.size := by have := b3.size; omega
      have c0 : (w2.alloc (.cells #[.slice A2 p.length c2] 23)).cell? ⟨w2.heap.size, 0, none⟩ = some (.slice A2 p.length c2) := by simp [go_sem]
      clear hvi o3 o2 b2 b3
      go_wp2_with (at_builtin; refine wpList_append_Part hvo c0 rfl (by omega) hbase rfl (.tmp 13) (.tmp 16) rfl rfl rfl ?_)
      intro v4 w4 o4 g4 hv4
      have hI4 := (hI.grownV hvo g4).wider (Nat.le_refl _) (show w2.heap.size ≤ w4.heap.size by have := g4.size; have := World.size_alloc w2 (.cells #[.slice A2 p.length c2] 23); omega)
      have b4 := bbx.grown g4 (by have := bbx.size; omega) (fun g hg => by have := (hvo.lt g hg).1; have := hsz.out; omega)
      clear hI hvo bbx g4
      go_wp2
      go_roundw
      case rel => exact ⟨k + 1, _, by omega, by go_num, by rw [List.length_append, HU.out]; rfl, o4, hI4, b4⟩
      case measure => simp [intOf]; omega
    · obtain rfl : k = d.2.length := by omega
      rw [List.take_of_length_le (Nat.le_refl _)] at hvi
      have q0 := (hbw.cell (p := ⟨w.heap.size, 0, none⟩) (by simp only []; omega)).trans q0
      have r1 := (hbw.block (w.heap.size + 1) (by omega)).trans r1
      obtain ⟨As, cs, rfl, _, _⟩ := hvo.shape
      have HU := Lib.hid hul
      clear hul s0
      go_wp2_with fail
      refine (clone_any d.1 _ wr (rn.kept hbb) h1).mono ?_
      rintro e w2 ⟨v2, rfl, o2, b2⟩
      obtain ⟨A2, c2, rfl, _, _⟩ := o2.reads.slice
      have hs2 := b2.size
      have r1 := (b2.block (w.heap.size + 1) (by omega)).trans r1
      obtain ⟨d10, d11⟩ := cells_of_row r1
      have f10 := frozen_of_row w2 _ 0 _ _ r1
      have f11 := frozen_of_row w2 _ 1 _ _ r1
      have z4 : w.heap.size + 1 < w2.heap.size := by omega
      have hvo := hvo.below b2
      have hV := (VZ.of hvo (Nat.le_refl _)).keptBy (w' := (w2.setCell ⟨w.heap.size + 1, 0, none⟩ (.slice A2 d.1.length c2)).setCell ⟨w.heap.size + 1, 1, none⟩ (.slice As us.length cs)) (fun g h1 _ _ => (heap_setCell_other _ _ _ _ (by simp only []; omega)).trans (heap_setCell_other _ _ _ _ (by simp only []; omega)))
      have o3 := OZ.of (hi := w2.heap.size) o2 (Nat.le_refl _)
      have hI := ((hvi.keptBy (w' := w2) (fun g _ h2 _ => b2.block g h2)).cons o3 hw2 hs2).keptBy (w' := (w2.setCell ⟨w.heap.size + 1, 0, none⟩ (.slice A2 d.1.length c2)).setCell ⟨w.heap.size + 1, 1, none⟩ (.slice As us.length cs)) (fun g h1 _ _ => (heap_setCell_other _ _ _ _ (by simp only []; omega)).trans (heap_setCell_other _ _ _ _ (by simp only []; omega)))
      have hsz2 : ((w2.setCell ⟨w.heap.size + 1, 0, none⟩ (.slice A2 d.1.length c2)).setCell ⟨w.heap.size + 1, 1, none⟩ (.slice As us.length cs)).heap.size = w2.heap.size := by simp [World.setCell]
      have bb4 := ((below_step hbb b2).setCell (p := ⟨w.heap.size + 1, 0, none⟩) (by simp only []; omega) (.slice A2 d.1.length c2)).setCell (p := ⟨w.heap.size + 1, 1, none⟩) (by simp only []; omega) (.slice As us.length cs)
      have hO : DeskO ((w2.setCell ⟨w.heap.size + 1, 0, none⟩ (.slice A2 d.1.length c2)).setCell ⟨w.heap.size + 1, 1, none⟩ (.slice As us.length cs)) w.heap.size ((w2.setCell ⟨w.heap.size + 1, 0, none⟩ (.slice A2 d.1.length c2)).setCell ⟨w.heap.size + 1, 1, none⟩ (.slice As us.length cs)).heap.size (.agg #[.slice A2 d.1.length c2, .slice As us.length cs]) d := by
        rw [hsz2]
        exact ⟨_, _, us, rfl, hV.wider (by omega) (Nat.le_refl _), hI.wider (by omega) (Nat.le_refl _), by rw [hsz2]; exact Nat.le_refl _⟩
      clear hV hI hvo hvi o2 o3 hbb b2 hbw
      rw [← HU.out] at hk ⊢
      go_wp2
      refine bodyPost_ret (v := .agg #[.slice A2 d.1.length c2, .slice As us.length cs]) (by simp [results, Tryz.results21, go_sem, *]) rfl ⟨_, rfl, hO, bb4⟩
end
/-! ### DeskG -/
section
open Go.RowKit Go.Sort

theorem Reads.keep {w w' : World} {B : Nat} {v : Value} {p : List Sp} (h : Reads w B v p) (hb : Below B w w') (hs : B ≤ w.heap.size) : Reads w' w'.heap.size v p := (h.below hb).more (Nat.le_trans hs hb.size)
theorem three0 (w : World) (o1 o2 o3 : Obj) : (((w.alloc o1).alloc o2).alloc o3).heap[w.heap.size]? = some o1 := by
  have h1 := heap_alloc_new w o1
  exact (((Below.refl (w.heap.size + 1) (w.alloc o1)).alloc (by simp) o2).alloc (by simp) o3).block w.heap.size (by omega) |>.trans h1
theorem three1 (w : World) (o1 o2 o3 : Obj) : (((w.alloc o1).alloc o2).alloc o3).heap[w.heap.size + 1]? = some o2 := by
  have h1 := heap_alloc_new (w.alloc o1) o2
  rw [World.size_alloc] at h1
  exact ((Below.refl (w.heap.size + 2) ((w.alloc o1).alloc o2)).alloc (by simp) o3).block (w.heap.size + 1) (by omega) |>.trans h1
theorem three2 (w : World) (o1 o2 o3 : Obj) : (((w.alloc o1).alloc o2).alloc o3).heap[w.heap.size + 1 + 1]? = some o3 := by
  have h1 := heap_alloc_new ((w.alloc o1).alloc o2) o3
  rw [World.size_alloc, World.size_alloc] at h1
  exact h1
theorem cells3_of {w : World} {g : Nat} {a b c : Value} {T : TypeId} (h : w.heap[g]? = some (.cells #[a, b, c] T (0, 0))) : w.cell? ⟨g, 0, none⟩ = some a ∧ w.cell? ⟨g, 1, none⟩ = some b ∧ w.cell? ⟨g, 2, none⟩ = some c := by
  refine ⟨?_, ?_, ?_⟩ <;> simp [World.cell?, h]
/-- a desk that the call made, and a number -/
def GivesDeskN (d : Dk) (n : Int) (w : World) (e : Ending) (w' : World) : Prop := ∃ v', e = .returned (.tuple #[v', .int .i64 n]) ∧ DeskO w' w.heap.size w'.heap.size v' d ∧ Below w.heap.size w w'
theorem runR_snoc (d : Dk) (l : List Dd) (a : Dd) : runR d (l ++ [a]) = doR (runR d l) a := by rw [runR_append]; rfl
theorem runN_snoc (d : Dk) (l : List Dd) (a : Dd) : runN d (l ++ [a]) = runN d l + (if doOk (runR d l) a then 1 else 0) := by
  rw [runN_append]; rfl
theorem two0 (w : World) (o1 o2 : Obj) : ((w.alloc o1).alloc o2).heap[w.heap.size]? = some o1 := by
  have h1 := heap_alloc_new w o1
  exact ((Below.refl (w.heap.size + 1) (w.alloc o1)).alloc (by simp) o2).block w.heap.size (by omega) |>.trans h1
theorem two1 (w : World) (o1 o2 : Obj) : ((w.alloc o1).alloc o2).heap[w.heap.size + 1]? = some o2 := by
  have h1 := heap_alloc_new (w.alloc o1) o2
  rw [World.size_alloc] at h1
  exact h1
/-- a desk that the call made, and a truth -/
def GivesDesk2 (d : Dk) (b : Bool) (w : World) (e : Ending) (w' : World) : Prop := ∃ v', e = .returned (.tuple #[v', .bool b]) ∧ DeskO w' w.heap.size w'.heap.size v' d ∧ Below w.heap.size w w'
theorem desk_lens {d : Dk} (h : deskB d = true) : d.1.length ≤ 1000000 ∧ (∀ p ∈ d.2, p.length ≤ 1000000) ∧ d.2.length ≤ 1000000 := by
  have D := deskB_iff.1 h
  refine ⟨?_, fun p hp => ?_, ?_⟩
  · have := (picB_pic D.now).1; omega
  · have := (picB_pic (D.past p hp)).1; omega
  · have := D.few; omega
theorem deskDo_no {d : Dk} {a : Dd} (h : deskB d = false) : deskDoR d a = ([], []) ∧ deskDoOk d a = false := by unfold deskDoR deskDoOk; rw [h]; exact ⟨rfl, rfl⟩
theorem deskDo_yes {d : Dk} {a : Dd} (h : deskB d = true) : deskDoR d a = doR d a ∧ deskDoOk d a = doOk d a := by unfold deskDoR deskDoOk; rw [h]; exact ⟨rfl, rfl⟩
/-- a desk written into a box of before -/
theorem DeskO.boxed {w w' : World} {r lo : Nat} {v X Y : Value} {d : Dk} (h : DeskO w' lo w'.heap.size v d) (hr : r < lo) (hw : w.heap.size ≤ lo) : DeskO ((w'.setCell ⟨r, 0, none⟩ X).setCell ⟨r, 1, none⟩ Y) w.heap.size ((w'.setCell ⟨r, 0, none⟩ X).setCell ⟨r, 1, none⟩ Y).heap.size v d := by
  have h2 : DeskO ((w'.setCell ⟨r, 0, none⟩ X).setCell ⟨r, 1, none⟩ Y) lo w'.heap.size v d := h.keptBy (by simp) fun g h1 _ _ => set2_other (by omega)
  exact h2.wider hw (by simp) (Nat.le_refl _)
/-- a picture that is made, and whether it is told -/
def MadePost (p : List Sp) (a : Dd) (w : World) (e : Ending) (w' : World) : Prop :=
  (∃ m v, madeV p a = some m ∧ e = .returned (.tuple #[v, .bool true]) ∧ Owns w' w.heap.size v m ∧ Below w.heap.size w w') ∨
  (∃ v q, madeV p a = none ∧ e = .returned (.tuple #[v, .bool false]) ∧ Reads w' w'.heap.size v q ∧ q.length ≤ 60 ∧ Below w.heap.size w w')
theorem made_of2 {p m : List Sp} {a : Dd} {b : Bool} {w w1 w' : World} {e : Ending} (hb : Below w.heap.size w w1) (h : Gives2' m b w1 e w') (hm : madeV p a = if b then some m else none) (hl : m.length ≤ 60) : MadePost p a w e w' := by
  obtain ⟨v', rfl, o, b1⟩ := h
  cases b with
  | true => exact .inl ⟨m, v', hm, rfl, o.base hb.size, below_step hb b1⟩
  | false => exact .inr ⟨v', m, hm, rfl, o.reads, hl, below_step hb b1⟩
theorem unionL_le (p q : List Sp) : (unionL p q).length ≤ 60 := by
  unfold unionL
  split
  · rename_i h
    unfold unionOk at h
    rw [Bool.and_eq_true, decide_eq_true_eq] at h
    exact h.2
  · simp
theorem moveL_le (p : List Sp) (a : Sp) : (moveL p a).length ≤ 60 := by
  unfold moveL
  split
  · rename_i h
    unfold moveOk at h
    rw [Bool.and_eq_true] at h
    exact (picB_pic h.2).1
  · simp
theorem grownBallR_le (p : List Sp) (r way : Int) : (grownBallR p r way).length ≤ 60 := by
  unfold grownBallR
  split
  · exact sumR_le _ _
  · simp
theorem sieveR_le (p : List Sp) (s : Int) : (sieveR p s).length ≤ 60 := by
  rcases h : sieveOk p s with _ | _
  · rw [sieve_no h]; simp
  · exact (picB_pic (sieve_within h).2).1
theorem bothR_le' (p : List Sp) : (bothR p).length ≤ 60 := by
  rcases h : bothOk p with _ | _
  · have : bothR p = [] := by
      unfold bothOk at h
      unfold bothR
      cases e : bothV p with
      | none => rfl
      | some s => rw [e] at h; cases h
    rw [this]; simp
  · exact (picB_pic (both_is h).pics).1
theorem made0 (p : List Sp) (x y : Int) : madeV p ((0, x), y) = if unionOk p [(x, y)] then some (unionL p [(x, y)]) else none := rfl
theorem made1 (p : List Sp) (x y : Int) : madeV p ((1, x), y) = some (lessL p [(x, y)]) := rfl
theorem made2 (p : List Sp) (x y : Int) : madeV p ((2, x), y) = if moveOk p (x, y) then some (moveL p (x, y)) else none := rfl
theorem made3 (p : List Sp) (x y : Int) : madeV p ((3, x), y) = if x = 0 ∧ y = 0 then some (turnedP p) else none := rfl
theorem made4 (p : List Sp) (x y : Int) : madeV p ((4, x), y) = if (0 ≤ x ∧ x ≤ 1) ∧ y = 0 ∧ grownBallOk p 1 x = true then some (grownBallR p 1 x) else none := rfl
theorem made5 (p : List Sp) (x y : Int) : madeV p ((5, x), y) = if (0 ≤ x ∧ x ≤ 1) ∧ y = 0 ∧ shrinkOk p (ballL 1 x) = true then some (shrinkR p (ballL 1 x)) else none := rfl
theorem made6 (p : List Sp) (x y : Int) : madeV p ((6, x), y) = if y = 0 ∧ sieveOk p x = true then some (sieveR p x) else none := rfl
theorem made7 (p : List Sp) (x y : Int) : madeV p ((7, x), y) = if (x = 0 ∧ y = 0) ∧ bothOk p = true then some (bothR p) else none := rfl
theorem lessL_le {p q : List Sp} (h : picB p = true) : (lessL p q).length ≤ 60 := (picB_pic (pic_filter h _)).1
theorem MadePost.after {p : List Sp} {a : Dd} {w w1 w' : World} {e : Ending} (hb : Below w.heap.size w w1) (h : MadePost p a w1 e w') : MadePost p a w e w' := by
  rcases h with ⟨m, v, h1, h2, h3, h4⟩ | ⟨v, q, h1, h2, h3, h5, h4⟩
  · exact .inl ⟨m, v, h1, h2, h3.base hb.size, below_step hb h4⟩
  · exact .inr ⟨v, q, h1, h2, h3, h5, below_step hb h4⟩
theorem MadePost.tuple {p : List Sp} {a : Dd} {w w' : World} {e : Ending} (h : MadePost p a w e w') : ∃ v b, e = .returned (.tuple #[v, .bool b]) := by
  rcases h with ⟨m, v, h1, h2, _⟩ | ⟨v, q, h1, h2, _⟩ <;> exact ⟨_, _, h2⟩
end
/-! ### DeskX -/
section
open Go.RowKit Go.Sort

/-- the model's answer in block G4, the program's in block G7, each with memory of its own -/
structure TwoD (w wr : World) (l3 h3 l5 h5 G4 G7 : Nat) (n4 p4 n7 p7 : Value) (R Q : Dk) : Prop where
  bb : Below w.heap.size w wr
  r4 : wr.heap[G4]? = some (.cells #[n4, p4] 26 (0, 0))
  r7 : wr.heap[G7]? = some (.cells #[n7, p7] 26 (0, 0))
  ow : DeskO wr l3 h3 (.agg #[n4, p4]) R
  og : DeskO wr l5 h5 (.agg #[n7, p7]) Q
  ord : (w.heap.size ≤ l3 ∧ l3 ≤ h3 ∧ h3 ≤ l5) ∧ (w.heap.size ≤ G4 ∧ G4 < l5 ∧ l5 ≤ h5) ∧ (G7 < l5 ∨ h5 ≤ G7) ∧ G4 < wr.heap.size ∧ G7 < wr.heap.size ∧ w.heap.size ≤ G7
section
variable {w wr w' : World} {l3 h3 l5 h5 G4 G7 : Nat} {n4 p4 n7 p7 : Value} {R Q : Dk}
theorem TwoD.below (S : TwoD w wr l3 h3 l5 h5 G4 G7 n4 p4 n7 p7 R Q) (h : Below wr.heap.size wr w') : TwoD w w' l3 h3 l5 h5 G4 G7 n4 p4 n7 p7 R Q := by
  have o := S.ord
  have hs := h.size
  exact ⟨below_step S.bb h, (h.block G4 (by omega)).trans S.r4, (h.block G7 (by omega)).trans S.r7, S.ow.below h, S.og.below h, by omega⟩
/-- the program's answer written into -/
theorem TwoD.marked {Q' : Dk} (S : TwoD w wr l3 h3 l5 h5 G4 G7 n4 p4 n7 p7 R Q) (h : GrownIn l5 h5 wr w') (o' : DeskO w' l5 h5 (.agg #[n7, p7]) Q') : TwoD w w' l3 h3 l5 h5 G4 G7 n4 p4 n7 p7 R Q' := by
  have o := S.ord
  have hs := h.size
  have hb := S.bb.size
  exact ⟨S.bb.trans (h.below (by omega) (by omega)), (h.block G4 (by omega) (by omega)).trans S.r4, (h.block G7 (by omega) (by omega)).trans S.r7, S.ow.apart h (.inl (by omega)), o', by omega⟩
/-- what was handed over written into -/
theorem TwoD.other {a b : Nat} (S : TwoD w wr l3 h3 l5 h5 G4 G7 n4 p4 n7 p7 R Q) (h : GrownIn a b wr w') (ha : G4 < a) (h3a : h3 ≤ a) (hb : b ≤ l5) (hb7 : b ≤ G7) : TwoD w w' l3 h3 l5 h5 G4 G7 n4 p4 n7 p7 R Q := by
  have o := S.ord
  have hs := h.size
  have hz := S.bb.size
  exact ⟨S.bb.trans (h.below (by omega) (by omega)), (h.block G4 (by omega) (by omega)).trans S.r4, (h.block G7 (by omega) (by omega)).trans S.r7, S.ow.apart h (.inl (by omega)), S.og.apart h (.inr hb), by omega⟩
theorem TwoD.c40 (S : TwoD w wr l3 h3 l5 h5 G4 G7 n4 p4 n7 p7 R Q) : wr.cell? ⟨G4, 0, none⟩ = some n4 := (cells_of_row S.r4).1
theorem TwoD.c41 (S : TwoD w wr l3 h3 l5 h5 G4 G7 n4 p4 n7 p7 R Q) : wr.cell? ⟨G4, 1, none⟩ = some p4 := (cells_of_row S.r4).2
theorem TwoD.c70 (S : TwoD w wr l3 h3 l5 h5 G4 G7 n4 p4 n7 p7 R Q) : wr.cell? ⟨G7, 0, none⟩ = some n7 := (cells_of_row S.r7).1
theorem TwoD.c71 (S : TwoD w wr l3 h3 l5 h5 G4 G7 n4 p4 n7 p7 R Q) : wr.cell? ⟨G7, 1, none⟩ = some p7 := (cells_of_row S.r7).2
end
/-- an answer in a box -/
structure Boxd (w wr : World) (l h G : Nat) (n p : Value) (R : Dk) : Prop where
  bb : Below w.heap.size w wr
  row : wr.heap[G]? = some (.cells #[n, p] 26 (0, 0))
  own : DeskO wr l h (.agg #[n, p]) R
  ord : (w.heap.size ≤ l ∧ l ≤ h) ∧ w.heap.size ≤ G ∧ (G < l ∨ h ≤ G)
theorem Boxd.lt {w wr : World} {l h G : Nat} {n p : Value} {R : Dk} (S : Boxd w wr l h G n p R) : G < wr.heap.size := (Array.getElem?_eq_some_iff.1 S.row).1
theorem Boxd.le {w wr : World} {l h G : Nat} {n p : Value} {R : Dk} (S : Boxd w wr l h G n p R) : h ≤ wr.heap.size := S.own.fits
theorem Boxd.below {w wr w' : World} {l h G : Nat} {n p : Value} {R : Dk} (S : Boxd w wr l h G n p R) (hb : Below wr.heap.size wr w') : Boxd w w' l h G n p R :=
  ⟨below_step S.bb hb, (hb.block G S.lt).trans S.row, S.own.below hb, S.ord⟩
theorem Boxd.cells {w wr : World} {l h G : Nat} {n p : Value} {R : Dk} (S : Boxd w wr l h G n p R) : wr.cell? ⟨G, 0, none⟩ = some n ∧ wr.cell? ⟨G, 1, none⟩ = some p := cells_of_row S.row
/-- boxed behind the call -/
theorem boxd_late {w w1 w3 : World} {n p : Value} {R : Dk} (hb : Below w.heap.size w w1) (b : Below w1.heap.size w1 w3) (o : DeskO w3 w1.heap.size w3.heap.size (.agg #[n, p]) R) : Boxd w (w3.alloc (.cells #[n, p] 26)) w1.heap.size w3.heap.size w3.heap.size n p R := by
  have h1 := hb.size
  have h2 := b.size
  exact ⟨below_step (below_step hb b) (box_below _ _ _), heap_alloc_new _ _, o.below (box_below _ _ _), ⟨h1, h2⟩, by omega, .inr (Nat.le_refl _)⟩
/-- boxed ahead of the call -/
theorem boxd_early {w w1 w3 : World} {G : Nat} {n p : Value} {R : Dk} (hb : Below w.heap.size w w1) (b : Below w1.heap.size w1 w3) (o : DeskO w3 w1.heap.size w3.heap.size (.agg #[n, p]) R) (hG : w.heap.size ≤ G ∧ G < w1.heap.size) (r : w3.heap[G]? = some (.cells #[.slice none 0 0, .slice none 0 0] 26 (0, 0))) :
    Boxd w ((w3.setCell ⟨G, 0, none⟩ n).setCell ⟨G, 1, none⟩ p) w1.heap.size w3.heap.size G n p R := by
  have h1 := hb.size
  have h2 := b.size
  have hs : ((w3.setCell ⟨G, 0, none⟩ n).setCell ⟨G, 1, none⟩ p).heap.size = w3.heap.size := by simp [World.setCell]
  refine ⟨((below_step hb b).setCell (p := ⟨G, 0, none⟩) hG.1 n).setCell (p := ⟨G, 1, none⟩) hG.1 p, ?_, o.keptBy (by rw [hs]; exact Nat.le_refl _) (fun g h3 _ _ => set2_other (by omega)), ⟨h1, h2⟩, hG.1, .inl hG.2⟩
  exact (heap_setCell_same _ G 1 _ _ p ((heap_setCell_same w3 G 0 _ _ n r).trans rfl)).trans rfl
theorem desk_sum {d : Dk} (h : deskB d = true) : dsum d ≤ 1100000 := by
  have D := deskB_iff.1 h
  have h1 := (picB_pic D.now).1
  have hs : ∀ (l : List (List Sp)), (∀ p ∈ l, picB p = true) → (l.map List.length).sum ≤ 60 * l.length := fun l => by
    induction l with
    | nil => intro _; simp
    | cons p l ih =>
      intro hp
      have i1 := ih fun q hq => hp q (List.mem_cons_of_mem _ hq)
      have i2 := (picB_pic (hp p (List.mem_cons_self ..))).1
      simp only [List.map_cons, List.sum_cons, List.length_cons]
      omega
  have h2 := hs d.2 D.past
  have h3 := D.few
  unfold dsum
  omega
/-- how many spots a desk has behind a deed -/
theorem do_sum (d : Dk) (a : Dd) : dsum (deskDoR d a) ≤ 1100000 := by
  rcases hd : deskB d with _ | _
  · rw [(deskDo_no hd).1]; decide
  · rw [(deskDo_yes hd).1]
    exact desk_sum (desk_doR a hd)
theorem marksD_lens (d : Dk) (k : Int) : (marksD d k).1.length = d.1.length ∧ (marksD d k).2.length = d.2.length := ⟨marks_length _ _, marksSS_length _ _⟩
/-- a desk and a deed in boxes -/
structure Came (W X : World) (g0 g1 : Nat) (v0 v1 : Value) (k x y : Int) (d : Dk) : Prop where
  bb : Below W.heap.size W X
  p0 : X.cell? ⟨g0, 0, none⟩ = some v0
  p1 : X.cell? ⟨g0, 1, none⟩ = some v1
  k0 : X.cell? ⟨g1, 0, none⟩ = some (.int .i64 k)
  k1 : X.cell? ⟨g1, 1, none⟩ = some (.int .i64 x)
  k2 : X.cell? ⟨g1, 2, none⟩ = some (.int .i64 y)
  hd : DeskR X X.heap.size (.agg #[v0, v1]) d
  lt : g0 < X.heap.size ∧ g1 < X.heap.size
theorem Came.below {W X Y : World} {g0 g1 : Nat} {v0 v1 : Value} {k x y : Int} {d : Dk} (C : Came W X g0 g1 v0 v1 k x y d) (h : Below X.heap.size X Y) : Came W Y g0 g1 v0 v1 k x y d := by
  obtain ⟨l0, l1⟩ := C.lt
  have hs := h.size
  exact ⟨below_step C.bb h, (h.cell (p := ⟨g0, 0, none⟩) l0).trans C.p0, (h.cell (p := ⟨g0, 1, none⟩) l0).trans C.p1, (h.cell (p := ⟨g1, 0, none⟩) l1).trans C.k0, (h.cell (p := ⟨g1, 1, none⟩) l1).trans C.k1, (h.cell (p := ⟨g1, 2, none⟩) l1).trans C.k2, C.hd.kept h, by omega⟩
theorem Came.alloc {W X : World} {g0 g1 : Nat} {v0 v1 : Value} {k x y : Int} {d : Dk} (C : Came W X g0 g1 v0 v1 k x y d) (o : Obj) : Came W (X.alloc o) g0 g1 v0 v1 k x y d := C.below ((Below.refl _ _).alloc (Nat.le_refl _) o)
theorem Came.drew {W X : World} {g0 g1 : Nat} {v0 v1 : Value} {k x y : Int} {d : Dk} (C : Came W X g0 g1 v0 v1 k x y d) : Came W X.drew g0 g1 v0 v1 k x y d := C.below (Below.refl _ _).drew
end
/-! ### boxes -/
section
open Go.RowKit Go.Sort
/-- a box that holds a desk -/
structure Held (X : World) (G : Nat) (u v : Value) (d : Dk) : Prop where
  row : X.heap[G]? = some (.cells #[u, v] 26 (0, 0))
  rd : DeskR X X.heap.size (.agg #[u, v]) d
theorem Held.lt {X : World} {G : Nat} {u v : Value} {d : Dk} (H : Held X G u v d) : G < X.heap.size := (Array.getElem?_eq_some_iff.1 H.row).1
theorem Held.below {X Y : World} {G : Nat} {u v : Value} {d : Dk} (H : Held X G u v d) (h : Below X.heap.size X Y) : Held Y G u v d := ⟨(h.block G H.lt).trans H.row, H.rd.kept h⟩
theorem Held.c0 {X : World} {G : Nat} {u v : Value} {d : Dk} (H : Held X G u v d) : X.cell? ⟨G, 0, none⟩ = some u := (cells_of_row H.row).1
theorem Held.c1 {X : World} {G : Nat} {u v : Value} {d : Dk} (H : Held X G u v d) : X.cell? ⟨G, 1, none⟩ = some v := (cells_of_row H.row).2
theorem Held.now {X : World} {G : Nat} {u v : Value} {d : Dk} (H : Held X G u v d) : Reads X X.heap.size u d.1 := by
  obtain ⟨n, p, e, h, _⟩ := H.rd
  cases e
  exact h
structure Kept3 (X : World) (G : Nat) (k x y : Int) : Prop where
  row : X.heap[G]? = some (.cells #[.int .i64 k, .int .i64 x, .int .i64 y] 28 (0, 0))
theorem Kept3.lt {X : World} {G : Nat} {k x y : Int} (H : Kept3 X G k x y) : G < X.heap.size := (Array.getElem?_eq_some_iff.1 H.row).1
theorem Kept3.below {X Y : World} {G : Nat} {k x y : Int} (H : Kept3 X G k x y) (h : Below X.heap.size X Y) : Kept3 Y G k x y := ⟨(h.block G H.lt).trans H.row⟩
theorem boxd_held {w wr : World} {l h G : Nat} {n p : Value} {R : Dk} (S : Boxd w wr l h G n p R) : Held wr G n p R := ⟨S.row, S.own.rd⟩
end
end Go.Proofs.YtkiidmdgdjphjaaGreat
