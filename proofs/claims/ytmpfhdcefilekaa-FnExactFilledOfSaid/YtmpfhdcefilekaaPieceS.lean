/- PiecesOf and CountPieces of the model. No conditions but those typed. -/
import Derived.Test.YtmpfhdcefilekaaMarkS
import Derived.Test.YtmpfhdcefilekaaParts
namespace Go.Proofs.Ytmpfhdcefilekaa
open Go.RowKit Go.Sort

theorem l1Has_is {b : Bool} {ps : List Sp} {v : Value} {ax ay : Int} {w : World} (hk : decide ((ax, ay) ∈ ps) = b) (h : Reads w w.heap.size v ps) (hs : Sorted ps) (hl : ps.length ≤ 1000000) : Calls Try.prog 58 #[v, .agg #[.int .i64 ax, .int .i64 ay]] w (Gives (.bool b) w) := by
  subst hk; exact l1Has_any ps v ax ay w h hs hl
/-- whether one of the first j lists has a spot -/
def anyUpto (ls : List (List Sp)) (a : Sp) (j : Nat) : Bool := (ls.take j).any fun q => decide (a ∈ q)
theorem anyUpto_zero (ls : List (List Sp)) (a : Sp) : anyUpto ls a 0 = false := rfl
theorem anyUpto_succ {ls : List (List Sp)} {a : Sp} {j : Nat} {q : List Sp} (h : ls[j]? = some q) : anyUpto ls a (j + 1) = (anyUpto ls a j || decide (a ∈ q)) := by
  unfold anyUpto
  rw [List.take_add_one, h, List.any_append]
  simp
theorem anyUpto_all (ls : List (List Sp)) (a : Sp) : anyUpto ls a ls.length = ls.any fun q => decide (a ∈ q) := by unfold anyUpto; rw [List.take_length]
theorem anyUpto_yes {ls : List (List Sp)} {a : Sp} {j : Nat} {q : List Sp} (h : ls[j]? = some q) (k : anyUpto ls a j = true) : anyUpto ls a (j + 1) = true := by rw [anyUpto_succ h, k]; rfl
theorem anyUpto_no {ls : List (List Sp)} {a : Sp} {j : Nat} {q : List Sp} {b : Bool} (h : ls[j]? = some q) (k : anyUpto ls a j = false) (hb : decide (a ∈ q) = b) : anyUpto ls a (j + 1) = b := by rw [anyUpto_succ h, k, hb]; rfl
theorem piecesR_yes {e : Bool} {p : List Sp} (h : picB p = true) : piecesR e p = piecesL e p := by unfold piecesR; rw [h]; rfl
theorem piecesR_no {e : Bool} {p : List Sp} (h : picB p = false) : piecesR e p = [] := by unfold piecesR; rw [h]; rfl
set_option maxRecDepth 100000 in
set_option maxHeartbeats 1600000 in
theorem specPieces_any (e : Bool) (ps : List Sp) (v : Value) (w : World) (h : Reads w w.heap.size v ps) :
    Calls Try.prog 22 #[v, .bool e] w (GivesParts (piecesR e ps) w) := by
  obtain ⟨A, c, rfl, hc, hm, hA, hr⟩ := h.is
  unfold maxLen at hm
  have b0 : Below w.heap.size w (w.alloc (.cells #[] 23)) := (Below.refl _ _).alloc (Nat.le_refl _) _
  have oE := Parts.empty w w.heap.size (Nat.le_refl _)
  by_cases h0 : ps.length = 0
  · obtain rfl := List.eq_nil_of_length_eq_zero h0
    have e0 : piecesR e [] = [] := by unfold piecesR; split <;> rfl
    rw [e0]
    go_enter Try.func22, Try.ntmps22
    go_wp2
    refine wp_loop_rounds 1 ?_
    rw [rounds_succ]
    go_wp2
    go_ret
    exact ⟨_, rfl, oE, b0⟩
  have hlp : 0 < ps.length := by omega
  have hd : decide (0 < ps.length) = true := decide_eq_true hlp
  have hr0 := h.kept b0
  rcases hp : picB ps with _ | _
  · rw [piecesR_no hp]
    have HP := Lib.hid hp
    clear hp
    go_enter Try.func22, Try.ntmps22
    go_wp2
    refine wp_loop_rounds 1 ?_
    rw [rounds_succ]
    go_wp2_with fail
    refine (gives_is HP.out (specPicture_any ps _ _ hr0)).mono ?_
    rintro e' w1 ⟨rfl, b1⟩
    go_wp2
    go_ret
    exact ⟨_, rfl, oE.below b1, below_step b0 b1⟩
  · rw [piecesR_yes hp]
    have HE := Lib.hid (piecesUpto_all e ps)
    have HP := Lib.hid hp
    have HN := Lib.hid (nearS_pic hp)
    have hpl := (picB_pic hp).1
    have hps := (picB_pic hp).2.2
    obtain ⟨b, off, rfl, hb, hcell⟩ := hr (by omega)
    clear hp hr0
    go_enter Try.func22, Try.ntmps22
    go_wp2
    go_loopw [5, 6] (fun o i wr => ∃ k : Nat, k ≤ ps.length ∧ i = .int .i64 k ∧ Parts wr w.heap.size o (piecesUpto e ps k) ∧ Below w.heap.size w wr) (fun _ i _ => ps.length - (intOf i).toNat)
    case atStart => exact ⟨0, Nat.zero_le _, rfl, oE, b0⟩
    case round =>
      clear oE
      obtain ⟨k, hk, rfl, hown, hbw⟩ := hrel
      by_cases hlk : k < ps.length
      · obtain ⟨⟨x, y⟩, hxy⟩ : ∃ a, ps[k]? = some a := ⟨_, List.getElem?_eq_getElem hlk⟩
        obtain ⟨c0, c1⟩ := hcell k x y hxy
        have hlen := length_piecesUpto e ps k
        have hall := anyUpto_all (piecesUpto e ps k) (x, y)
        rw [piecesUpto_has hps hxy] at hall
        have hsort : ∀ q ∈ piecesUpto e ps k, Sorted q ∧ q.length ≤ ps.length := fun q hq => piece_upto_sorted hps hq
        have HS := Lib.hid hsort
        have HALL := Lib.hid hall
        have HX := Lib.hid hxy
        have hm3 : (0 : Int) ≤ (k : Int) := Int.natCast_nonneg _
        have hm4 : (k : Int) < (ps.length : Int) := by omega
        obtain ⟨ls, hls⟩ : ∃ ls, piecesUpto e ps k = ls := ⟨_, rfl⟩
        rw [hls] at hown hlen HS HALL
        have HLS := Lib.hid hls
        obtain ⟨Ao, co, rfl, hco, hcm⟩ := hown.reads.slice
        unfold maxLen at hcm
        clear hxy hsort hall hls
        go_wp2_with fail
        refine (gives_is HP.out (specPicture_any ps _ _ (h.kept hbw))).mono ?_
        rintro e' w1 ⟨rfl, b1⟩
        have bb := below_step hbw b1
        have o1 := hown.below b1
        clear hown hbw b1
        go_wp2
        go_loopw [7, 8] (fun s i wr => ∃ j : Nat, j ≤ ls.length ∧ i = .int .i64 j ∧ s = .bool (anyUpto ls (x, y) j) ∧ Below w1.heap.size w1 wr) (fun _ i _ => ls.length - (intOf i).toNat)
        case atStart => exact ⟨0, Nat.zero_le _, rfl, rfl, Below.refl _ _⟩
        case round =>
          obtain ⟨j, hj, rfl, rfl, hbw⟩ := hrel
          have bbr := below_step bb hbw
          have or := o1.below hbw
          by_cases hlj : j < ls.length
          · obtain ⟨A2, c2, vs, he, _, _, hvl, hcv, hin⟩ := or.reads.is
            cases he
            obtain ⟨bo, rfl, hbo, hcv⟩ := hcv (by omega)
            obtain ⟨q, hq⟩ : ∃ q, ls[j]? = some q := ⟨_, List.getElem?_eq_getElem hlj⟩
            obtain ⟨u, hu, hru⟩ := hin j q hq
            have hqs := HS.out q (List.mem_of_getElem? hq)
            have hql : q.length ≤ 1000000 := by have := hqs.2; omega
            have hqsort := hqs.1
            obtain ⟨Au, cu, rfl, _, _⟩ := hru.slice
            have d0 := cell_regrown ((bbr.cell (p := ⟨b, off + k * 2, none⟩) hb).trans c0)
            have d1 := cell_regrown ((bbr.cell (p := ⟨b, off + k * 2 + 1, none⟩) hb).trans c1)
            have d2 := cell_regrown (hcv j _ hu)
            have hj0 : (0 : Int) ≤ (j : Int) := Int.natCast_nonneg _
            have hj1 : (j : Int) < (ls.length : Int) := by omega
            have hbs := hbw.size
            rcases hany : anyUpto ls (x, y) j with _ | _
            · obtain ⟨z, hz⟩ : ∃ z, decide ((x, y) ∈ q) = z := ⟨_, rfl⟩
              have HT := Lib.hid (anyUpto_no hq hany hz)
              have HZ := Lib.hid hz
              clear hany hz hq hu hin hcv hqs
              go_wp2
              refine wp_region_quiet_below (by kernel_rfl) (by kernel_rfl) ?_
              repeat (go_big_quiet_step (first | (go_at_call 58; with_reducible exact gives_regrown (fun w1 hb1 => l1Has_is HZ.out (hru.kept hb1) hqsort hql) _ _)))
              refine wpQuiet_nil ?_
              intro w2 hw'
              obtain ⟨⟨dq, osq⟩, hw''⟩ := hw'
              have hb2 : Below wr.heap.size wr w2 := by rw [hw'']; exact below_regrown _ _ _
              clear hw'' dq osq
              go_wp2
              go_roundw
              case rel => exact ⟨j + 1, by omega, by go_num, by rw [HT.out], below_step hbw hb2⟩
              case measure => simp [intOf]; omega
            · have HT := Lib.hid (anyUpto_yes hq hany)
              clear hany hq hu hin hcv hqs
              go_wp2
              refine wp_region_quiet_below (by kernel_rfl) (by kernel_rfl) ?_
              repeat (go_big_quiet_step (first | fail))
              refine wpQuiet_nil ?_
              intro w2 hw'
              obtain ⟨⟨dq, osq⟩, hw''⟩ := hw'
              have hb2 : Below wr.heap.size wr w2 := by rw [hw'']; exact below_regrown _ _ _
              clear hw'' dq osq
              go_wp2
              go_roundw
              case rel => exact ⟨j + 1, by omega, by go_num, by rw [HT.out], below_step hbw hb2⟩
              case measure => simp [intOf]; omega
          · obtain rfl : j = ls.length := by omega
            rw [HALL.out]
            rcases hf : firstB e ps (x, y) with _ | _
            · have HT := Lib.hid (piecesUpto_no HX.out hf)
              clear hf
              go_wp2
              go_roundw
              case rel => exact ⟨k + 1, by omega, by go_num, by rw [← HT.out, HLS.out]; exact or, bbr⟩
              case measure => simp [intOf]; omega
            · have HT := Lib.hid (piecesUpto_yes HX.out hf)
              clear hf
              have d0 := (bbr.cell (p := ⟨b, off + k * 2, none⟩) hb).trans c0
              have d1 := (bbr.cell (p := ⟨b, off + k * 2 + 1, none⟩) hb).trans c1
              have bal := box_below wr #[.int .i64 x, .int .i64 y] 42
              have ba := below_step bbr bal
              have hsub : Sub [(x, y)] ps := fun a ha => by rw [List.mem_singleton] at ha; subst ha; exact List.mem_of_getElem? HX.out
              have HSUB := Lib.hid hsub
              have hone : Reads (wr.alloc (.cells #[.int .i64 x, .int .i64 y] 42)) (wr.alloc (.cells #[.int .i64 x, .int .i64 y] 42)).heap.size (.slice (some ⟨wr.heap.size, 0, none⟩) 1 1) [(x, y)] := Reads.one (by simp [go_sem]) (by simp [go_sem])
              obtain ⟨vs, hvo, hvi⟩ := or.below bal
              have hvl := hvi.len
              have hold := fun (k : Nat) u' (hu : vs[k]? = some u') g hg => (hvi.lt hu g hg).2
              have HOLD := Lib.hid hold
              clear hsub hold
              go_wp2_with fail
              refine (l7Reach_any e ps [(x, y)] _ _ _ (h.kept ba) hone hps (by omega) HN.out HSUB.out).mono ?_
              rintro e' w2 ⟨v2, rfl, o2, b2⟩
              have hvo := hvo.below b2
              have hvi := hvi.below b2
              have hba2 := below_step ba b2
              obtain ⟨A2, c2, rfl, _, _⟩ := o2.reads.slice
              have bal2 := box_below w2 #[.slice A2 (reachL e ps [(x, y)]).length c2] 23
              have hvo5 := hvo.below bal2
              have hvi5 := hvi.below bal2
              have o5 := o2.below bal2
              have hba5 := below_step hba2 bal2
              have hs5 := hba5.size
              have hsa := ba.size
              go_wp2_with (at_builtin; refine wpList_append_Part (g := w2.heap.size) (x := .slice A2 (reachL e ps [(x, y)]).length c2) hvo5 (by simp [go_sem]) rfl (by omega) hs5 rfl (.tmp 40) (.tmp 49) rfl rfl rfl ?_)
              intro v6 w6 hv6 g6 hb6
              have hp6 := parts_push hvo5 hvi5 (o5.base hsa) (fun g hg => (o5.lt g hg).1) HOLD.out hv6 g6
              have hw6 := hba5.grown g6 hs5 (fun k hk => (hvo5.lt k hk).1)
              go_wp2
              go_roundw
              case rel => exact ⟨k + 1, by omega, by go_num, by rw [← HT.out, HLS.out]; exact hp6, hw6⟩
              case measure => simp [intOf]; omega
      · obtain rfl : k = ps.length := by omega
        rw [HE.out] at hown
        go_wp2
        go_ret
        exact ⟨_, rfl, hown, hbw⟩
theorem countR_yes {e : Bool} {p : List Sp} (h : picB p = true) : countR e p = (piecesL e p).length := by unfold countR; rw [h]; rfl
theorem countR_no {e : Bool} {p : List Sp} (h : picB p = false) : countR e p = -1 := by unfold countR; rw [h]; rfl
theorem specCount7_any (e : Bool) (ps : List Sp) (v : Value) (w : World) (h : Reads w w.heap.size v ps) :
    Calls Try.prog 27 #[v, .bool e] w (Gives (.int .i64 (countR e ps)) w) := by
  obtain ⟨A, c, rfl, hc, hm⟩ := h.slice
  rcases hp : picB ps with _ | _
  · rw [countR_no hp]
    go_enter Try.func27, Try.ntmps27
    go_wp2_with fail
    refine (gives_is hp (specPicture_any ps _ _ h)).mono ?_
    rintro e' w1 ⟨rfl, b1⟩
    go_wp2
    go_ret
    exact ⟨rfl, b1⟩
  · have HC := Lib.hid (show countR e ps = ((piecesR e ps).length : Int) by rw [countR_yes hp, piecesR_yes hp])
    have HP := Lib.hid hp
    clear hp
    go_enter Try.func27, Try.ntmps27
    go_wp2_with fail
    refine (gives_is HP.out (specPicture_any ps _ _ h)).mono ?_
    rintro e' w1 ⟨rfl, b1⟩
    go_wp2_with fail
    refine (specPieces_any e ps _ w1 (h.kept b1)).mono ?_
    rintro e' w2 ⟨v2, rfl, o2, b2⟩
    obtain ⟨A2, c2, rfl, _, _⟩ := o2.reads.slice
    go_wp2
    go_ret
    exact ⟨ret_int HC.out.symm, below_step b1 b2⟩
end Go.Proofs.Ytmpfhdcefilekaa
