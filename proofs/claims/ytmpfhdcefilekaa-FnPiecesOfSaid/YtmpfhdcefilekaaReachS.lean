/- What is reached, in the model: l7Reach, ReachedOf. No conditions but those typed. -/
import Derived.Test.YtmpfhdcefilekaaMarkS
import Derived.Test.YtmpfhdcefilekaaCommonS
namespace Go.Proofs.Ytmpfhdcefilekaa
open Go.RowKit Go.Sort

theorem Owns.apartV {w : World} {base' g n cap : Nat} {u : Value} {ps : List Sp} (k : Owns w base' u ps) (hg : g < base') : (Value.slice (some ⟨g, 0, none⟩) n cap).ownBlock = none ∨ (Value.slice (some ⟨g, 0, none⟩) n cap).ownBlock ≠ u.ownBlock :=
  .inr fun e => by have := (k.lt g e.symm).1; omega
/-- what is handed back in new memory -/
def GivesOwn (ps : List Sp) (w : World) (e : Ending) (w' : World) : Prop := ∃ v', e = .returned v' ∧ Owns w' w.heap.size v' ps ∧ Below w.heap.size w w'
set_option maxRecDepth 100000 in
set_option maxHeartbeats 1600000 in
theorem l7Reach_any (e : Bool) (ps ms : List Sp) (v u : Value) (w : World) (h : Reads w w.heap.size v ps) (k : Reads w w.heap.size u ms) (hs : Sorted ps) (hl : ps.length ≤ 10000) (hn : ∀ a ∈ ps, NearS a) (hsub : Sub ms ps) :
    Calls Try.prog 54 #[v, u, .bool e] w (GivesOwn (reachL e ps ms) w) := by
  obtain ⟨A, c, rfl, hc, hm, hA, hr⟩ := h.is
  obtain ⟨A', c', rfl, hc', hm', hA', hr'⟩ := k.is
  unfold maxLen at hm hm'
  have HD := Lib.hid (fun (sn : List Bool) (hh : Says ps sn (reachB e ps (ms.take ms.length))) => (by rw [List.take_length] at hh; exact hh : Says ps sn (reachB e ps ms)))
  go_enter Try.func54, Try.ntmps54
  go_wp2_with (at_make; refine wpList_make_Bool ps.length (by omega) rfl _ _ rfl _ _ rfl rfl rfl rfl ?_; intro w1 ho1 hg1)
  have hb1 : Below w.heap.size w w1 := (Below.refl _ _).grown hg1 (Nat.le_refl _) (by simp)
  rw [boolsV_replicate] at ho1
  have hs0 : Says ps (List.replicate ps.length false) (reachB e ps (ms.take 0)) := by rw [List.take_zero]; exact says_none
  clear hg1
  go_loopw [8] (fun i wr => ∃ (k : Nat) (sn : List Bool), k ≤ ms.length ∧ i = .int .i64 k ∧ Says ps sn (reachB e ps (ms.take k)) ∧ VOwns 4 wr w.heap.size (.slice (some ⟨w.heap.size, 0, none⟩) ps.length ps.length) (boolsV sn) ∧ Below w.heap.size w wr) (fun i _ => ms.length - (intOf i).toNat)
  case atStart => exact ⟨0, _, Nat.zero_le _, rfl, hs0, ho1, hb1⟩
  case round =>
    clear hs0 ho1 hb1
    obtain ⟨i, sn, hi, rfl, hsay, hown, hbw⟩ := hrel
    have hrp := (h.below hbw)
    by_cases hlt : i < ms.length
    · obtain ⟨⟨x, y⟩, hxy⟩ : ∃ a, ms[i]? = some a := ⟨_, List.getElem?_eq_getElem hlt⟩
      obtain ⟨j, hj⟩ := List.mem_iff_getElem?.1 (hsub _ (List.mem_of_getElem? hxy))
      obtain ⟨b, off, rfl, hb, hcell⟩ := hr' (by omega)
      obtain ⟨c0, c1⟩ := hcell i x y hxy
      have d0 := (hbw.cell (p := ⟨b, off + i * 2, none⟩) hb).trans c0
      have d1 := (hbw.cell (p := ⟨b, off + i * 2 + 1, none⟩) hb).trans c1
      have hjl := (List.getElem?_eq_some_iff.1 hj).1
      obtain ⟨z, hz⟩ : ∃ z, sn[j]? = some z := ⟨_, List.getElem?_eq_getElem (by rw [hsay.1]; exact hjl)⟩
      have hm3 : (0 : Int) ≤ (i : Int) := Int.natCast_nonneg _
      have hm4 : (i : Int) < (ms.length : Int) := by omega
      have hj0 : (0 : Int) ≤ (j : Int) := Int.natCast_nonneg _
      have hj1 : (j : Int) < (ps.length : Int) := by omega
      have HX := Lib.hid (And.intro hxy (And.intro hj hz))
      have HS := Lib.hid hsay
      clear c0 c1 hxy hj hsay
      go_wp2_with fail
      refine (l7Place_yes HX.out.2.1 (hrp.more hbw.size) hs (by omega)).mono ?_
      rintro e' w2 ⟨rfl, hb2⟩
      have hw2 := below_step hbw hb2
      have hown2 := hown.below hb2
      have hcz := (hown2.cell (k := j) (by rw [boolsV_length, HS.out.1]; exact hjl)).trans (boolsV_at hz)
      clear hz hown hbw
      cases z
      · have hcl := reachB_closed HS.out
        have HCL := Lib.hid hcl
        clear hcl
        go_wp2_with fail
        refine (l7Mark_any e ps _ sn j w.heap.size w.heap.size ps.length ps.length (x, y) w2 (h.below hw2) hs hl hn hown2 HS.out.1 HX.out.2.1 HCL.out).mono ?_
        rintro e' w3 ⟨rfl, sn3, k3, hI3, hown3, hg3⟩
        have hw3 := hw2.grown hg3 hw2.size (fun k hk => by cases hk; exact Nat.le_refl _)
        have HT := Lib.hid (says_mark HS.out hs HX.out.1 hI3)
        clear hI3 hcz
        go_wp2
        go_roundw
        case rel => exact ⟨i + 1, sn3, by omega, by go_num, HT.out, hown3, hw3⟩
        case measure => simp [intOf]; omega
      · have HT := Lib.hid (says_skip HS.out HX.out.1 HX.out.2.1 HX.out.2.2)
        go_wp2
        go_roundw
        case rel => exact ⟨i + 1, sn, by omega, by go_num, HT.out, hown2, hw2⟩
        case measure => simp [intOf]; omega
    · obtain rfl : i = ms.length := by omega
      have hsay := HD.out sn hsay
      have HS := Lib.hid hsay
      clear hsay
      have hal : Below wr.heap.size wr (wr.alloc (.cells #[] 42)) := (Below.refl _ _).alloc (Nat.le_refl _) _
      have hoE := Owns.empty wr wr.heap.size (Nat.le_refl _)
      have hsO := hown.below hal
      have hwO := below_step hbw hal
      have hwlt : w.heap.size < wr.heap.size := (hown.lt w.heap.size rfl).2
      go_wp2
      go_loopw [10, 11] (fun o i wr' => ∃ k : Nat, k ≤ ps.length ∧ i = .int .i64 k ∧ Owns wr' wr.heap.size o ((ps.take k).filter (reachB e ps ms)) ∧ VOwns 4 wr' w.heap.size (.slice (some ⟨w.heap.size, 0, none⟩) ps.length ps.length) (boolsV sn) ∧ Below w.heap.size w wr' ∧ wr.heap.size ≤ wr'.heap.size) (fun _ i _ => ps.length - (intOf i).toNat)
      case atStart => exact ⟨0, Nat.zero_le _, rfl, hoE, hsO, hwO, by simp⟩
      case round =>
        rename_i wq _ _ _ _
        clear hoE hsO hwO hown hbw hal hrp
        obtain ⟨k, hk, rfl, hown, hsn, hbw, hge⟩ := hrel
        by_cases hlk : k < ps.length
        · obtain ⟨⟨x, y⟩, hxy⟩ : ∃ a, ps[k]? = some a := ⟨_, List.getElem?_eq_getElem hlk⟩
          obtain ⟨b, off, rfl, hb, hcell⟩ := hr (by omega)
          obtain ⟨c0, c1⟩ := hcell k x y hxy
          have d0 := (hbw.cell (p := ⟨b, off + k * 2, none⟩) hb).trans c0
          have d1 := (hbw.cell (p := ⟨b, off + k * 2 + 1, none⟩) hb).trans c1
          have hcz := (hsn.cell (k := k) (by rw [boolsV_length, HS.out.1]; exact hlk)).trans (boolsV_at (HS.out.2 k _ hxy))
          have hm3 : (0 : Int) ≤ (k : Int) := Int.natCast_nonneg _
          have hm4 : (k : Int) < (ps.length : Int) := by omega
          have hlen := filt_len ps (reachB e ps ms) k
          rcases hf : reachB e ps ms (x, y) with _ | _
          · rw [hf] at hcz
            have HT := Lib.hid (filt_no hxy hf)
            clear c0 c1 hxy hf
            go_wp2
            go_roundw
            case rel => exact ⟨k + 1, by omega, by go_num, by rw [← HT.out]; exact hown, hsn, hbw, hge⟩
            case measure => simp [intOf]; omega
          · rw [hf] at hcz
            have HT := Lib.hid (filt_yes hxy hf)
            clear c0 c1 hxy hf
            have bal := box_below wr #[.int .i64 x, .int .i64 y] 42
            have o2 := hown.below bal
            have s2 := hsn.below bal
            have b2 := below_step hbw bal
            clear hown hsn hbw
            go_wp2_with (at_builtin; refine wpList_append_spots (qs := [(x, y)]) o2 (Reads.one (g := wr.heap.size) (by simp [go_sem]) (by simp [go_sem])) (by simp only [List.length_cons, List.length_nil]; omega) (by simp only [World.size_alloc]; omega) rfl (.tmp 48) (.tmp 53) rfl rfl rfl ?_)
            intro v4 w4 o4 g4 hv4
            have s4 := s2.grown g4 (Owns.apartV o2 hwlt)
            have b4 := b2.grown g4 b2.size (fun k hk => by have := (o2.lt k hk).1; omega)
            have hge4 := Nat.le_trans (Nat.le_trans hge bal.size) g4.size
            go_wp2
            go_roundw
            case rel => exact ⟨k + 1, by omega, by go_num, by rw [← HT.out]; exact o4, s4, b4, hge4⟩
            case measure => simp [intOf]; omega
        · obtain rfl : k = ps.length := by omega
          rw [List.take_length] at hown
          go_wp2
          go_ret
          exact ⟨_, rfl, hown.base (Nat.le_of_lt hwlt), hbw⟩
theorem specReached_any (e : Bool) (ps ms : List Sp) (v u : Value) (w : World) (h : Reads w w.heap.size v ps) (k : Reads w w.heap.size u ms) :
    Calls Try.prog 15 #[v, u, .bool e] w (Gives2' (reachR e ps ms) (withinB ms ps) w) := by
  obtain ⟨A, c, rfl, hc, hm⟩ := h.slice
  obtain ⟨A', c', rfl, hc', hm'⟩ := k.slice
  rcases hw : withinB ms ps with _ | _
  · rw [show reachR e ps ms = [] by unfold reachR; rw [hw]; rfl]
    go_enter Try.func15, Try.ntmps15
    go_wp2_with fail
    refine (gives_is hw (specWithin_any ms ps _ _ _ k h)).mono ?_
    rintro e' w1 ⟨rfl, b1⟩
    go_wp2
    go_ret2
    exact ⟨_, rfl, Owns.empty _ _ b1.size, b1.alloc b1.size _⟩
  · rw [show reachR e ps ms = reachL e ps ms by unfold reachR; rw [hw]; rfl]
    have hwi := within_parts hw
    have hpp := picB_pic hwi.2.1
    have HN := Lib.hid (nearS_pic hwi.2.1)
    have HS := Lib.hid hwi.2.2
    have hpl := hpp.1
    have hps := hpp.2.2
    clear hwi hpp
    go_enter Try.func15, Try.ntmps15
    go_wp2_with fail
    refine (gives_is hw (specWithin_any ms ps _ _ _ k h)).mono ?_
    rintro e' w1 ⟨rfl, b1⟩
    clear hw
    go_wp2_with fail
    refine (l7Reach_any e ps ms _ _ w1 (h.kept b1) (k.kept b1) hps (by omega) HN.out HS.out).mono ?_
    rintro e' w2 ⟨v2, rfl, o2, b2⟩
    go_wp2
    go_ret2
    exact ⟨_, rfl, o2.base b1.size, below_step b1 b2⟩
end Go.Proofs.Ytmpfhdcefilekaa
