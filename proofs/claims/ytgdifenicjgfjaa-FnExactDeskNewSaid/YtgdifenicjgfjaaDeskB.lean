/- DeskOk, in the program and in the model. No conditions but those typed. -/
import Derived.Test.YtgdifenicjgfjaaDeskL
import Derived.Test.YtgdifenicjgfjaaPicWalk
namespace Go.Proofs.Ytgdifenicjgfjaa
open Go.RowKit Go.Sort

theorem notPic_any (p : List Sp) (v : Value) (w : World) (h : Reads w w.heap.size v p) : Calls Try.prog 30 #[v] w (Gives (.bool (!picB p)) w) := by
  obtain ⟨A, c, rfl, _, _⟩ := h.slice
  rcases hp : picB p with _ | _
  · go_enter Try.func30, Try.ntmps30
    go_wp2_with fail
    refine (gives_is hp (implPicture_any p _ _ h)).mono ?_
    rintro e w1 ⟨rfl, b1⟩
    go_wp2
    go_ret
    exact ⟨rfl, b1⟩
  · go_enter Try.func30, Try.ntmps30
    go_wp2_with fail
    refine (gives_is hp (implPicture_any p _ _ h)).mono ?_
    rintro e w1 ⟨rfl, b1⟩
    go_wp2
    go_ret
    exact ⟨rfl, b1⟩
def IdxD (b : Bool) (w : World) (e : Ending) (w' : World) : Prop := ∃ i : Int, e = .returned (.int .i64 i) ∧ decide (0 ≤ i) = b ∧ Below w.heap.size w w'
def PicUpto (ls : List (List Sp)) (k : Nat) : Prop := ∀ (j : Nat) p, j < k → ls[j]? = some p → picB p = true
theorem PicUpto.next {ls : List (List Sp)} {k : Nat} {p : List Sp} (h : PicUpto ls k) (hp : ls[k]? = some p) (hb : picB p = true) : PicUpto ls (k + 1) := fun j q hj hq => by
  by_cases e : j = k
  · subst e; rw [hp] at hq; cases hq; exact hb
  · exact h j q (by omega) hq
theorem PicUpto.all {ls : List (List Sp)} (h : PicUpto ls ls.length) : ls.all picB = true := List.all_eq_true.2 fun p hp => by
  obtain ⟨j, hj⟩ := List.mem_iff_getElem?.1 hp
  exact h j p (List.getElem?_eq_some_iff.1 hj).1 hj
theorem all_not {ls : List (List Sp)} {k : Nat} {p : List Sp} (hp : ls[k]? = some p) (hb : picB p = false) : ls.all picB = false := by
  rcases e : ls.all picB with _ | _
  · rfl
  · have := List.all_eq_true.1 e p (List.mem_of_getElem? hp)
    rw [hb] at this; cases this
set_option maxRecDepth 100000 in
set_option maxHeartbeats 800000 in
theorem idxD_any (ls : List (List Sp)) (v : Value) (w : World) (h : PReads w w.heap.size v ls) : Calls Try.prog 50 #[v, .func (.func 30) #[] #[]] w (IdxD (!ls.all picB) w) := by
  obtain ⟨A, c, vs, rfl, hc, hm, hvl, hcell, hin⟩ := h.is
  unfold maxLen at hm
  go_enter Try.func50, Try.ntmps50
  go_wp2
  go_loopw [8] (fun i wr => ∃ j : Nat, j ≤ ls.length ∧ i = .int .i64 j ∧ PicUpto ls j ∧ Below w.heap.size w wr) (fun i _ => ls.length - (intOf i).toNat)
  case atStart => exact ⟨0, Nat.zero_le _, rfl, fun j p hj => by omega, Below.refl _ _⟩
  case round =>
    obtain ⟨j, hj, rfl, hI, hbw⟩ := hrel
    have HI := Lib.hid hI
    clear hI
    have hbs := hbw.size
    by_cases hlt : j < ls.length
    · obtain ⟨p, hp⟩ : ∃ a, ls[j]? = some a := ⟨_, List.getElem?_eq_getElem hlt⟩
      obtain ⟨b, off, rfl, hb, hcv⟩ := hcell (by omega)
      obtain ⟨u, hu, hru⟩ := hin j p hp
      have d0 := (hbw.cell (p := ⟨b, off + j, none⟩) hb).trans (hcv j _ hu)
      have hru := hru.kept hbw
      obtain ⟨Au, cu, rfl, _, _⟩ := hru.slice
      have hm3 : (0 : Int) ≤ (j : Int) := Int.natCast_nonneg _
      have hm4 : (j : Int) < (ls.length : Int) := by omega
      rcases hpp : picB p with _ | _
      · have HN := Lib.hid (all_not hp hpp)
        have HP := Lib.hid hpp
        clear hp hu hpp
        go_wp2_with fail
        refine (gives_is (by rw [HP.out]) (notPic_any p _ wr hru)).mono ?_
        rintro e w1 ⟨rfl, b1⟩
        go_wp2
        go_ret
        exact ⟨_, rfl, by rw [HN.out]; exact decide_eq_true hm3, below_step hbw b1⟩
      · have HN := Lib.hid (HI.out.next hp hpp)
        have HP := Lib.hid hpp
        clear hp hu hpp
        go_wp2_with fail
        refine (gives_is (by rw [HP.out]) (notPic_any p _ wr hru)).mono ?_
        rintro e w1 ⟨rfl, b1⟩
        go_wp2
        go_roundw
        case rel => exact ⟨j + 1, by omega, by go_num, HN.out, below_step hbw b1⟩
        case measure => simp [intOf]; omega
    · obtain rfl : j = ls.length := by omega
      have HA := Lib.hid HI.out.all
      clear HI
      go_wp2
      go_ret
      exact ⟨_, rfl, by rw [HA.out]; rfl, hbw⟩
theorem contD_any (ls : List (List Sp)) (v : Value) (w : World) (h : PReads w w.heap.size v ls) : Calls Try.prog 29 #[v, .func (.func 30) #[] #[]] w (Gives (.bool (!ls.all picB)) w) := by
  obtain ⟨A, c, rfl, _, _⟩ := h.slice
  go_enter Try.func29, Try.ntmps29
  go_wp2_with fail
  refine (idxD_any ls _ w h).mono ?_
  rintro e w1 ⟨i, rfl, hi, b1⟩
  have HI := Lib.hid hi
  clear hi
  go_wp2
  go_ret
  exact ⟨ret_bool HI.out, b1⟩
set_option maxHeartbeats 1600000 in
theorem implDeskOk_any (d : Dk) (v : Value) (w : World) (h : DeskR w w.heap.size v d) : Calls Try.prog 8 #[v] w (Gives (.bool (deskB d)) w) := by
  obtain ⟨n, p, rfl, rn, rp⟩ := h
  obtain ⟨An, cn, rfl, _, _⟩ := rn.slice
  obtain ⟨Ap, cp, rfl, _, hmp⟩ := rp.slice
  unfold maxLen at hmp
  have b0 := box_below w #[.slice An d.1.length cn, .slice Ap d.2.length cp] 26
  obtain ⟨W, hW⟩ : ∃ W, W = w.alloc (.cells #[.slice An d.1.length cn, .slice Ap d.2.length cp] 26) := ⟨_, rfl⟩
  have q0 : W.cell? ⟨w.heap.size, 0, none⟩ = some (.slice An d.1.length cn) := by rw [hW]; simp [go_sem]
  have q1 : W.cell? ⟨w.heap.size, 1, none⟩ = some (.slice Ap d.2.length cp) := by rw [hW]; simp [go_sem]
  have s0 : w.heap.size < W.heap.size := by rw [hW]; simp
  rw [← hW] at b0
  have rn := rn.kept b0
  have rp := rp.kept b0
  rcases hp : picB d.1 with _ | _
  · have HR := Lib.hid (desk_no1 hp)
    have HP := Lib.hid hp
    clear hp
    go_enter Try.func8, Try.ntmps8
    go_wp2_with (first | (rw [← hW]; clear hW) | fail)
    refine (gives_is HP.out (implPicture_any d.1 _ _ rn)).mono ?_
    rintro e w1 ⟨rfl, b1⟩
    go_wp2
    go_ret
    exact ⟨ret_bool HR.out.symm, below_step b0 b1⟩
  · have HP := Lib.hid hp
    by_cases hl : d.2.length ≤ 8
    · rcases ha : d.2.all picB with _ | _
      · have HA := Lib.hid ha
        have HR := Lib.hid (show deskB d = false by unfold deskB; rw [ha, Bool.and_false, Bool.and_false])
        have hli : (d.2.length : Int) ≤ 8 := by omega
        clear hp ha
        go_enter Try.func8, Try.ntmps8
        go_wp2_with (first | (rw [← hW]; clear hW) | fail)
        refine (gives_is HP.out (implPicture_any d.1 _ _ rn)).mono ?_
        rintro e w1 ⟨rfl, b1⟩
        have q1 := (b1.cell (p := ⟨w.heap.size, 1, none⟩) s0).trans q1
        go_wp2_with fail
        refine (gives_is (by rw [HA.out]) (contD_any d.2 _ _ (rp.kept b1))).mono ?_
        rintro e w2 ⟨rfl, b2⟩
        go_wp2
        go_ret
        exact ⟨ret_bool HR.out.symm, below_step (below_step b0 b1) b2⟩
      · have HA := Lib.hid ha
        have HR := Lib.hid (show deskB d = true by unfold deskB; rw [ha, hp, decide_eq_true hl]; rfl)
        have hli : (d.2.length : Int) ≤ 8 := by omega
        clear hp ha
        go_enter Try.func8, Try.ntmps8
        go_wp2_with (first | (rw [← hW]; clear hW) | fail)
        refine (gives_is HP.out (implPicture_any d.1 _ _ rn)).mono ?_
        rintro e w1 ⟨rfl, b1⟩
        have q1 := (b1.cell (p := ⟨w.heap.size, 1, none⟩) s0).trans q1
        go_wp2_with fail
        refine (gives_is (by rw [HA.out]) (contD_any d.2 _ _ (rp.kept b1))).mono ?_
        rintro e w2 ⟨rfl, b2⟩
        go_wp2
        go_ret
        exact ⟨ret_bool HR.out.symm, below_step (below_step b0 b1) b2⟩
    · have HR := Lib.hid (desk_no2 hl)
      have hli : 8 < (d.2.length : Int) := by omega
      clear hp hl
      go_enter Try.func8, Try.ntmps8
      go_wp2_with (first | (rw [← hW]; clear hW) | fail)
      refine (gives_is HP.out (implPicture_any d.1 _ _ rn)).mono ?_
      rintro e w1 ⟨rfl, b1⟩
      have q1 := (b1.cell (p := ⟨w.heap.size, 1, none⟩) s0).trans q1
      go_wp2
      go_ret
      exact ⟨ret_bool HR.out.symm, below_step b0 b1⟩
set_option maxRecDepth 100000 in
set_option maxHeartbeats 1600000 in
theorem specDeskOk_any (d : Dk) (v : Value) (w : World) (h : DeskR w w.heap.size v d) : Calls Try.prog 9 #[v] w (Gives (.bool (deskB d)) w) := by
  obtain ⟨n, p, rfl, rn, rp⟩ := h
  obtain ⟨An, cn, rfl, _, _⟩ := rn.slice
  obtain ⟨A, c, vs, rfl, hc, hm, hvl, hcell, hin⟩ := rp.is
  unfold maxLen at hm
  have b0 := box_below w #[.slice An d.1.length cn, .slice A d.2.length c] 26
  obtain ⟨W, hW⟩ : ∃ W, W = w.alloc (.cells #[.slice An d.1.length cn, .slice A d.2.length c] 26) := ⟨_, rfl⟩
  have q0 : W.cell? ⟨w.heap.size, 0, none⟩ = some (.slice An d.1.length cn) := by rw [hW]; simp [go_sem]
  have q1 : W.cell? ⟨w.heap.size, 1, none⟩ = some (.slice A d.2.length c) := by rw [hW]; simp [go_sem]
  have s0 : w.heap.size < W.heap.size := by rw [hW]; simp
  rw [← hW] at b0
  go_enter Try.func9, Try.ntmps9
  go_wp2
  rw [← hW]
  clear hW
  go_loopw [3] (fun i wr => ∃ j : Nat, j ≤ d.2.length ∧ i = .int .i64 j ∧ PicUpto d.2 j ∧ Below W.heap.size W wr) (fun i _ => d.2.length - (intOf i).toNat)
  case atStart => exact ⟨0, Nat.zero_le _, rfl, fun j p hj => by omega, Below.refl _ _⟩
  case round =>
    obtain ⟨j, hj, rfl, hI, hbw⟩ := hrel
    have HI := Lib.hid hI
    clear hI
    have hbb := below_step b0 hbw
    have q0 := (hbw.cell (p := ⟨w.heap.size, 0, none⟩) s0).trans q0
    have q1 := (hbw.cell (p := ⟨w.heap.size, 1, none⟩) s0).trans q1
    by_cases hlt : j < d.2.length
    · obtain ⟨p, hp⟩ : ∃ a, d.2[j]? = some a := ⟨_, List.getElem?_eq_getElem hlt⟩
      obtain ⟨b, off, rfl, hb, hcv⟩ := hcell (by omega)
      obtain ⟨u, hu, hru⟩ := hin j p hp
      have d0 := (hbb.cell (p := ⟨b, off + j, none⟩) hb).trans (hcv j _ hu)
      have hru := hru.kept hbb
      obtain ⟨Au, cu, rfl, _, _⟩ := hru.slice
      have hm3 : (0 : Int) ≤ (j : Int) := Int.natCast_nonneg _
      have hm4 : (j : Int) < (d.2.length : Int) := by omega
      rcases hpp : picB p with _ | _
      · have HN := Lib.hid (desk_no3 (List.mem_of_getElem? hp) hpp)
        have HP := Lib.hid hpp
        clear hp hu hpp
        go_wp2_with fail
        refine (gives_is HP.out (specPicture_any p _ wr hru)).mono ?_
        rintro e w1 ⟨rfl, b1⟩
        go_wp2
        go_ret
        exact ⟨ret_bool HN.out.symm, below_step hbb b1⟩
      · have HN := Lib.hid (HI.out.next hp hpp)
        have HP := Lib.hid hpp
        clear hp hu hpp
        go_wp2_with fail
        refine (gives_is HP.out (specPicture_any p _ wr hru)).mono ?_
        rintro e w1 ⟨rfl, b1⟩
        go_wp2
        go_roundw
        case rel => exact ⟨j + 1, by omega, by go_num, HN.out, below_step hbw b1⟩
        case measure => simp [intOf]; omega
    · obtain rfl : j = d.2.length := by omega
      have HA := Lib.hid HI.out.all
      clear HI
      rcases hp : picB d.1 with _ | _
      · have HR := Lib.hid (desk_no1 hp)
        have HP := Lib.hid hp
        clear hp
        go_wp2_with fail
        refine (gives_is HP.out (specPicture_any d.1 _ wr (rn.kept hbb))).mono ?_
        rintro e w1 ⟨rfl, b1⟩
        go_wp2
        go_ret
        exact ⟨ret_bool HR.out.symm, below_step hbb b1⟩
      · by_cases hl : d.2.length ≤ 8
        · have HR := Lib.hid (show deskB d = true by unfold deskB; rw [HA.out, hp, decide_eq_true hl]; rfl)
          have HP := Lib.hid hp
          have hli : (d.2.length : Int) ≤ 8 := by omega
          clear hp
          go_wp2_with fail
          refine (gives_is HP.out (specPicture_any d.1 _ wr (rn.kept hbb))).mono ?_
          rintro e w1 ⟨rfl, b1⟩
          have q1 := (b1.cell (p := ⟨w.heap.size, 1, none⟩) (by have := hbw.size; simp only []; omega)).trans q1
          go_wp2
          go_ret
          exact ⟨ret_bool HR.out.symm, below_step hbb b1⟩
        · have HR := Lib.hid (desk_no2 hl)
          have HP := Lib.hid hp
          have hli : 8 < (d.2.length : Int) := by omega
          clear hp hl
          go_wp2_with fail
          refine (gives_is HP.out (specPicture_any d.1 _ wr (rn.kept hbb))).mono ?_
          rintro e w1 ⟨rfl, b1⟩
          have q1 := (b1.cell (p := ⟨w.heap.size, 1, none⟩) (by have := hbw.size; simp only []; omega)).trans q1
          go_wp2
          go_ret
          exact ⟨ret_bool (by rw [HR.out]; exact decide_eq_false (by omega)), below_step hbb b1⟩
theorem dokI_is {b : Bool} {d : Dk} {v : Value} {w : World} (hk : deskB d = b) (h : DeskR w w.heap.size v d) : Calls Try.prog 8 #[v] w (Gives (.bool b) w) := by
  subst hk; exact implDeskOk_any d v w h
theorem dokS_is {b : Bool} {d : Dk} {v : Value} {w : World} (hk : deskB d = b) (h : DeskR w w.heap.size v d) : Calls Try.prog 9 #[v] w (Gives (.bool b) w) := by
  subst hk; exact specDeskOk_any d v w h
end Go.Proofs.Ytgdifenicjgfjaa
