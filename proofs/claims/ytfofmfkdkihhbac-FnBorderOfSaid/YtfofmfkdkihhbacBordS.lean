/- LoneSpots and BorderOf of the model. No conditions but those typed. -/
import Derived.Test.YtfofmfkdkihhbacPlain
import Derived.Test.YtfofmfkdkihhbacFarS
import Derived.Test.YtfofmfkdkihhbacPicWalk
import Derived.Test.YtfofmfkdkihhbacHas
namespace Go.Proofs.Ytfofmfkdkihhbac
open Go.RowKit Go.Sort

theorem far_in {a b : Sp} (h : InR a) (k : InR b) : (-1000 ≤ a.1 ∧ a.1 ≤ 1000 ∧ -1000 ≤ a.2 ∧ a.2 ≤ 1000) ∧ (-1000 ≤ b.1 ∧ b.1 ≤ 1000 ∧ -1000 ≤ b.2 ∧ b.2 ≤ 1000) := by
  unfold InR at h k; omega
theorem far_lit {n x y u v way : Int} {w : World} (hk : farI (x, y) (u, v) way = n) (h : InR (x, y)) (k : InR (u, v)) : Calls Try.prog 63 #[.agg #[.int .i64 x, .int .i64 y], .agg #[.int .i64 u, .int .i64 v], .int .i64 way] w (Gives (.int .i64 n) w) := by
  subst hk; exact l4Far_any x y u v way w (far_in h k).1 (far_in h k).2

set_option maxHeartbeats 1600000 in
theorem specLone_any (ps : List Sp) (v : Value) (w : World) (h : Reads w w.heap.size v ps) : Calls Try.prog 34 #[v] w fun e w' => ∃ v', e = .returned v' ∧ Owns w' w.heap.size v' (loneP ps) ∧ Below w.heap.size w w' := by
  obtain ⟨A, c, rfl, hc, hm, hA, hr⟩ := h.is
  unfold maxLen at hm
  have oE := Owns.empty w w.heap.size (Nat.le_refl _)
  have bE := (Below.refl w.heap.size w).alloc (Nat.le_refl _) (.cells #[] 35)
  by_cases h0 : ps.length = 0
  · obtain rfl := List.eq_nil_of_length_eq_zero h0
    rw [loneP_yes (show picB [] = true by decide)]
    go_enter Try.func34, Try.ntmps34
    go_wp2
    refine wp_loop_rounds 1 ?_
    rw [rounds_succ]
    go_wp2
    go_ret
    exact ⟨_, rfl, oE, bE⟩
  have hlp : 0 < ps.length := by omega
  rcases hp : picB ps with _ | _
  · rw [loneP_no hp]
    have HP := Lib.hid hp
    clear hp
    have hd : decide (0 < ps.length) = true := decide_eq_true hlp
    go_enter Try.func34, Try.ntmps34
    go_wp2
    refine wp_loop_rounds 1 ?_
    rw [rounds_succ]
    go_wp2_with fail
    refine (gives_is HP.out (specPicture_any ps _ _ (h.kept bE))).mono ?_
    rintro e w1 ⟨rfl, b1⟩
    go_wp2
    go_ret
    exact ⟨_, rfl, oE.below b1, below_step bE b1⟩
  obtain ⟨b, off, rfl, hb, hcell⟩ := hr (by omega)
  rw [loneP_yes hp]
  have HP := Lib.hid hp
  have hpic := picB_pic hp
  have hpl := hpic.1
  have hin := hpic.2.1
  have HS := Lib.hid hpic.2.2
  clear hp hpic
  obtain ⟨F, hF⟩ : ∃ F, F = loneAt ps := ⟨_, rfl⟩
  have HF := Lib.hid hF
  have hL : loneL ps = ps.filter F := by rw [hF]; rfl
  rw [hL]
  clear hF hL
  go_enter Try.func34, Try.ntmps34
  go_wp2
  go_loopw [3, 4] (fun o i wr => ∃ k : Nat, k ≤ ps.length ∧ i = .int .i64 k ∧ Owns wr w.heap.size o ((ps.take k).filter F) ∧ Below w.heap.size w wr) (fun _ i _ => ps.length - (intOf i).toNat)
  case atStart => exact ⟨0, Nat.zero_le _, rfl, oE, bE⟩
  case round =>
    clear oE bE
    obtain ⟨k, hk, rfl, hown, hbw⟩ := hrel
    by_cases hlt : k < ps.length
    · obtain ⟨⟨ax, ay⟩, hxy⟩ : ∃ a, ps[k]? = some a := ⟨_, List.getElem?_eq_getElem hlt⟩
      obtain ⟨c0, c1⟩ := hcell k ax ay hxy
      have HX := Lib.hid hxy
      have hia := hin _ (List.mem_of_getElem? hxy)
      clear hxy
      go_wp2_with fail
      refine (gives_is HP.out (specPicture_any ps _ _ (h.kept hbw))).mono ?_
      rintro e w1 ⟨rfl, b1⟩
      have bw1 := below_step hbw b1
      have own1 := hown.below b1
      clear hown hbw b1
      go_wp2
      go_loopw [5, 6] (fun l i wr => ∃ j : Nat, j ≤ ps.length ∧ i = .int .i64 j ∧ l = .bool (loneU ps (ax, ay) k j) ∧ Below w1.heap.size w1 wr) (fun _ i _ => ps.length - (intOf i).toNat)
      case atStart => exact ⟨0, Nat.zero_le _, rfl, by rw [loneU_zero], Below.refl _ _⟩
      case round =>
        obtain ⟨j, hj, rfl, rfl, hb2⟩ := hrel
        have hbs2 := hb2.size
        by_cases hlj : j < ps.length
        · rcases hal : loneU ps (ax, ay) k j with _ | _
          · have hN := Lib.hid (loneU_no hal)
            clear hal
            go_wp2
            refine wp_region_quiet_below (by kernel_rfl) (by kernel_rfl) ?_
            repeat (go_big_quiet_step (first | fail))
            refine wpQuiet_nil ?_
            intro _ hw'
            obtain ⟨⟨dq, osq⟩, hw''⟩ := hw'
            subst hw''
            go_wp2
            go_roundw
            case rel => exact ⟨j + 1, by omega, by go_num, by rw [hN.out], hb2.trans ((below_regrown _ _ _).mono hbs2)⟩
            case measure => simp [intOf]; omega
          · by_cases hjk : j = k
            · subst hjk
              have hN := Lib.hid (loneU_same hal)
              clear hal
              go_wp2
              refine wp_region_quiet_below (by kernel_rfl) (by kernel_rfl) ?_
              repeat (go_big_quiet_step (first | fail))
              refine wpQuiet_nil ?_
              intro _ hw'
              obtain ⟨⟨dq, osq⟩, hw''⟩ := hw'
              subst hw''
              go_wp2
              go_roundw
              case rel => exact ⟨j + 1, by omega, by go_num, by rw [hN.out], hb2.trans ((below_regrown _ _ _).mono hbs2)⟩
              case measure => simp [intOf]; omega
            · obtain ⟨⟨x, y⟩, hxy⟩ : ∃ a, ps[j]? = some a := ⟨_, List.getElem?_eq_getElem hlj⟩
              have hib := hin _ (List.mem_of_getElem? hxy)
              have hN := Lib.hid (loneU_far hal hjk hxy)
              obtain ⟨c2, c3⟩ := hcell j x y hxy
              have hw2 := below_step bw1 hb2
              have f0 := cell_regrown ((hw2.cell (p := ⟨b, off + k * 2, none⟩) hb).trans c0)
              have f1 := cell_regrown ((hw2.cell (p := ⟨b, off + k * 2 + 1, none⟩) hb).trans c1)
              have f2 := cell_regrown ((hw2.cell (p := ⟨b, off + j * 2, none⟩) hb).trans c2)
              have f3 := cell_regrown ((hw2.cell (p := ⟨b, off + j * 2 + 1, none⟩) hb).trans c3)
              have e1 : ((j : Int) == (k : Int)) = false := by rw [beq_eq_false_iff_ne]; omega
              have e2 : (j == k) = false := by rw [beq_eq_false_iff_ne]; exact hjk
              have hm3 : (0 : Int) ≤ (j : Int) := Int.natCast_nonneg _
              have hm4 : (j : Int) < (ps.length : Int) := by omega
              have hm5 : (0 : Int) ≤ (k : Int) := Int.natCast_nonneg _
              have hm6 : (k : Int) < (ps.length : Int) := by omega
              obtain ⟨n, hn⟩ : ∃ n, farI (ax, ay) (x, y) 1 = n := ⟨_, rfl⟩
              have HN := Lib.hid hn
              rw [hn] at hN
              clear hxy c2 c3 hal hw2 hjk hn
              go_wp2
              refine wp_region_quiet_below (by kernel_rfl) (by kernel_rfl) ?_
              repeat (go_big_quiet_step (first | (go_at_call 63; exact gives_regrown (fun w1 _ => far_lit HN.out hia hib) _ _)))
              refine wpQuiet_nil ?_
              intro _ hw'
              obtain ⟨⟨dq, osq⟩, hw''⟩ := hw'
              subst hw''
              go_wp2
              go_roundw
              case rel => exact ⟨j + 1, by omega, by go_num, by rw [hN.out], hb2.trans ((below_regrown _ _ _).mono hbs2)⟩
              case measure => simp [intOf]; omega
        · obtain rfl : j = ps.length := by omega
          have bw2 := below_step bw1 hb2
          have own2 := own1.below hb2
          have HA := Lib.hid (loneU_all HS.out HX.out)
          rcases hff : loneU ps (ax, ay) k ps.length with _ | _
          · have HT := Lib.hid (filt_no (f := F) HX.out (by rw [HF.out, ← HA.out, hff]))
            clear hff
            go_wp2
            go_roundw
            case rel => exact ⟨k + 1, by omega, by go_num, by rw [← HT.out]; exact own2, bw2⟩
            case measure => simp [intOf]; omega
          · have HT := Lib.hid (filt_yes (f := F) HX.out (by rw [HF.out, ← HA.out, hff]))
            clear hff
            have hw2 := bw2
            have d0 := (bw2.cell (p := ⟨b, off + k * 2, none⟩) hb).trans c0
            have d1 := (bw2.cell (p := ⟨b, off + k * 2 + 1, none⟩) hb).trans c1
            have hlen := filt_len ps F k
            have o3 := own2.below (box_below wr #[.int .i64 ax, .int .i64 ay] 35)
            have s2 := bw2.size
            go_wp2_with (at_builtin; refine wpList_append_spots (qs := [(ax, ay)]) o3 (Reads.one (g := wr.heap.size) (by simp [go_sem]) (by simp [go_sem])) (by simp only [List.length_cons, List.length_nil]; omega) (by simp only [World.size_alloc]; omega) rfl (.tmp 43) (.tmp 48) rfl rfl rfl ?_)
            intro v4 w4 o4 g4 hv4
            have bw4 := o3.below_app (bw2.alloc s2 _) (by simp only [World.size_alloc]; omega) g4
            go_wp2
            go_roundw
            case rel => exact ⟨k + 1, by omega, by go_num, by rw [← HT.out]; exact o4, bw4⟩
            case measure => simp [intOf]; omega
    · obtain rfl : k = ps.length := by omega
      rw [List.take_length] at hown
      go_wp2
      go_ret
      exact ⟨_, rfl, hown, hbw⟩

set_option maxHeartbeats 1600000 in
theorem specBorder_any (ps : List Sp) (v : Value) (w : World) (h : Reads w w.heap.size v ps) : Calls Try.prog 38 #[v] w fun e w' => ∃ v', e = .returned v' ∧ Owns w' w.heap.size v' (borderP ps) ∧ Below w.heap.size w w' := by
  obtain ⟨A, c, rfl, hc, hm, hA, hr⟩ := h.is
  unfold maxLen at hm
  have oE := Owns.empty w w.heap.size (Nat.le_refl _)
  have bE := (Below.refl w.heap.size w).alloc (Nat.le_refl _) (.cells #[] 35)
  by_cases h0 : ps.length = 0
  · obtain rfl := List.eq_nil_of_length_eq_zero h0
    rw [borderP_yes (show picB [] = true by decide)]
    go_enter Try.func38, Try.ntmps38
    go_wp2
    refine wp_loop_rounds 1 ?_
    rw [rounds_succ]
    go_wp2
    go_ret
    exact ⟨_, rfl, oE, bE⟩
  have hlp : 0 < ps.length := by omega
  rcases hp : picB ps with _ | _
  · rw [borderP_no hp]
    have HP := Lib.hid hp
    clear hp
    have hd : decide (0 < ps.length) = true := decide_eq_true hlp
    go_enter Try.func38, Try.ntmps38
    go_wp2
    refine wp_loop_rounds 1 ?_
    rw [rounds_succ]
    go_wp2_with fail
    refine (gives_is HP.out (specPicture_any ps _ _ (h.kept bE))).mono ?_
    rintro e w1 ⟨rfl, b1⟩
    go_wp2
    go_ret
    exact ⟨_, rfl, oE.below b1, below_step bE b1⟩
  obtain ⟨b, off, rfl, hb, hcell⟩ := hr (by omega)
  rw [borderP_yes hp]
  have HP := Lib.hid hp
  have hpic := picB_pic hp
  have hpl := hpic.1
  have hin := hpic.2.1
  have HS := Lib.hid hpic.2.2
  clear hp hpic
  obtain ⟨F, hF⟩ : ∃ F, F = borderAt ps := ⟨_, rfl⟩
  have HF := Lib.hid hF
  have hL : borderL ps = ps.filter F := by rw [hF]; rfl
  rw [hL]
  clear hF hL
  go_enter Try.func38, Try.ntmps38
  go_wp2
  go_loopw [3, 4] (fun o i wr => ∃ k : Nat, k ≤ ps.length ∧ i = .int .i64 k ∧ Owns wr w.heap.size o ((ps.take k).filter F) ∧ Below w.heap.size w wr) (fun _ i _ => ps.length - (intOf i).toNat)
  case atStart => exact ⟨0, Nat.zero_le _, rfl, oE, bE⟩
  case round =>
    clear oE bE
    obtain ⟨k, hk, rfl, hown, hbw⟩ := hrel
    by_cases hlt : k < ps.length
    · obtain ⟨⟨ax, ay⟩, hxy⟩ : ∃ a, ps[k]? = some a := ⟨_, List.getElem?_eq_getElem hlt⟩
      obtain ⟨c0, c1⟩ := hcell k ax ay hxy
      have HX := Lib.hid hxy
      have hia := hin _ (List.mem_of_getElem? hxy)
      clear hxy
      go_wp2_with fail
      refine (gives_is HP.out (specPicture_any ps _ _ (h.kept hbw))).mono ?_
      rintro e w1 ⟨rfl, b1⟩
      have bw1 := below_step hbw b1
      have own1 := hown.below b1
      clear hown hbw b1
      go_wp2
      go_loopw [5, 6] (fun l i wr => ∃ (j m : Nat), j ≤ ps.length ∧ i = .int .i64 j ∧ l = .int .i64 m ∧ m = besU ps (ax, ay) j ∧ m ≤ ps.length ∧ Below w1.heap.size w1 wr) (fun _ i _ => ps.length - (intOf i).toNat)
      case atStart => exact ⟨0, 0, Nat.zero_le _, rfl, rfl, rfl, Nat.zero_le _, Below.refl _ _⟩
      case round =>
        obtain ⟨j, m, hj, rfl, rfl, hm0, hml, hb2⟩ := hrel
        have HM := Lib.hid hm0
        clear hm0
        have hbs2 := hb2.size
        by_cases hlj : j < ps.length
        · obtain ⟨⟨x, y⟩, hxy⟩ : ∃ a, ps[j]? = some a := ⟨_, List.getElem?_eq_getElem hlj⟩
          have hib := hin _ (List.mem_of_getElem? hxy)
          obtain ⟨c2, c3⟩ := hcell j x y hxy
          have hw2 := below_step bw1 hb2
          have f0 := cell_regrown ((hw2.cell (p := ⟨b, off + k * 2, none⟩) hb).trans c0)
          have f1 := cell_regrown ((hw2.cell (p := ⟨b, off + k * 2 + 1, none⟩) hb).trans c1)
          have f2 := cell_regrown ((hw2.cell (p := ⟨b, off + j * 2, none⟩) hb).trans c2)
          have f3 := cell_regrown ((hw2.cell (p := ⟨b, off + j * 2 + 1, none⟩) hb).trans c3)
          have hm3 : (0 : Int) ≤ (j : Int) := Int.natCast_nonneg _
          have hm4 : (j : Int) < (ps.length : Int) := by omega
          have hm5 : (0 : Int) ≤ (k : Int) := Int.natCast_nonneg _
          have hm6 : (k : Int) < (ps.length : Int) := by omega
          obtain ⟨n, hn⟩ : ∃ n, farI (ax, ay) (x, y) 0 = n := ⟨_, rfl⟩
          have HN := Lib.hid hn
          by_cases h1 : n = 1
          · have HT := Lib.hid (besU_yes hxy (hn.trans h1))
            have e1 : (n == 1) = true := by simpa using h1
            have hlen := besU_le ps (ax, ay) (j + 1)
            have hml2 : m + 1 ≤ ps.length := by have := HT.out; have := HM.out; omega
            clear hxy c2 c3 hw2 hn h1 hlen
            go_wp2
            refine wp_region_quiet_below (by kernel_rfl) (by kernel_rfl) ?_
            repeat (go_big_quiet_step (first | (go_at_call 63; exact gives_regrown (fun w1 _ => far_lit HN.out hia hib) _ _)))
            refine wpQuiet_nil ?_
            intro _ hw'
            obtain ⟨⟨dq, osq⟩, hw''⟩ := hw'
            subst hw''
            go_wp2
            go_roundw
            case rel => exact ⟨j + 1, m + 1, by omega, by go_num, by go_num, by rw [HT.out, ← HM.out], hml2, hb2.trans ((below_regrown _ _ _).mono hbs2)⟩
            case measure => simp [intOf]; omega
          · have HT := Lib.hid (besU_no hxy (show ¬ farI (ax, ay) (x, y) 0 = 1 by rw [hn]; exact h1))
            have e1 : (n == 1) = false := by simpa using h1
            clear hxy c2 c3 hw2 hn h1
            go_wp2
            refine wp_region_quiet_below (by kernel_rfl) (by kernel_rfl) ?_
            repeat (go_big_quiet_step (first | (go_at_call 63; exact gives_regrown (fun w1 _ => far_lit HN.out hia hib) _ _)))
            refine wpQuiet_nil ?_
            intro _ hw'
            obtain ⟨⟨dq, osq⟩, hw''⟩ := hw'
            subst hw''
            go_wp2
            go_roundw
            case rel => exact ⟨j + 1, m, by omega, by go_num, rfl, by rw [HT.out, ← HM.out], hml, hb2.trans ((below_regrown _ _ _).mono hbs2)⟩
            case measure => simp [intOf]; omega
        · obtain rfl : j = ps.length := by omega
          have bw2 := below_step bw1 hb2
          have own2 := own1.below hb2
          have HA := Lib.hid (HM.out.trans (besU_all ps (ax, ay)))
          by_cases hff : m < 4
          · have e1 : decide ((m : Int) < 4) = true := decide_eq_true (by omega)
            have e2 : (m : Int) < 4 := by omega
            have HT := Lib.hid (filt_yes (f := F) HX.out (by rw [HF.out]; unfold borderAt; rw [← HA.out]; exact decide_eq_true hff))
            have hw2 := bw2
            have d0 := (bw2.cell (p := ⟨b, off + k * 2, none⟩) hb).trans c0
            have d1 := (bw2.cell (p := ⟨b, off + k * 2 + 1, none⟩) hb).trans c1
            have hlen := filt_len ps F k
            have o3 := own2.below (box_below wr #[.int .i64 ax, .int .i64 ay] 35)
            have s2 := bw2.size
            go_wp2_with (at_builtin; refine wpList_append_spots (qs := [(ax, ay)]) o3 (Reads.one (g := wr.heap.size) (by simp [go_sem]) (by simp [go_sem])) (by simp only [List.length_cons, List.length_nil]; omega) (by simp only [World.size_alloc]; omega) rfl (.tmp 38) (.tmp 43) rfl rfl rfl ?_)
            intro v4 w4 o4 g4 hv4
            have bw4 := o3.below_app (bw2.alloc s2 _) (by simp only [World.size_alloc]; omega) g4
            go_wp2
            go_roundw
            case rel => exact ⟨k + 1, by omega, by go_num, by rw [← HT.out]; exact o4, bw4⟩
            case measure => simp [intOf]; omega
          · have e1 : decide ((m : Int) < 4) = false := decide_eq_false (by omega)
            have e2 : ¬ (m : Int) < 4 := by omega
            have HT := Lib.hid (filt_no (f := F) HX.out (by rw [HF.out]; unfold borderAt; rw [← HA.out]; exact decide_eq_false hff))
            go_wp2
            go_roundw
            case rel => exact ⟨k + 1, by omega, by go_num, by rw [← HT.out]; exact own2, bw2⟩
            case measure => simp [intOf]; omega
    · obtain rfl : k = ps.length := by omega
      rw [List.take_length] at hown
      go_wp2
      go_ret
      exact ⟨_, rfl, hown, hbw⟩
end Go.Proofs.Ytfofmfkdkihhbac
