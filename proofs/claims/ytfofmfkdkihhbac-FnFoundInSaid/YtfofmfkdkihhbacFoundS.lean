/- FoundIn of the model. No conditions but those typed. -/
import Derived.Test.YtfofmfkdkihhbacPattT
import Derived.Test.YtfofmfkdkihhbacPlain
import Derived.Deep.RegionHeld3
namespace Go.Proofs.Ytfofmfkdkihhbac
open Go.RowKit Go.Sort

set_option maxRecDepth 100000 in
set_option maxHeartbeats 3200000 in
theorem found_loop (ps t u : List Sp) (v vt vu : Value) (w : World) (h : Reads w w.heap.size v ps) (ht : Reads w w.heap.size vt t) (hu : Reads w w.heap.size vu u) (hlt : t.length ≤ 1100000) (hlu : u.length ≤ 1100000) (hp : picB ps = true) (hk : patB t u = true) {fb : Bool} {L : List Sp} (hf : picB (foundL ps t u) = fb) (hy : fb = true → L = foundL ps t u) (hn : fb = false → L = []) :
    Calls Try.prog 13 #[v, .agg #[vt, vu]] w (Gives2' L fb w) := by
  obtain ⟨A, c, rfl, hc, hm, hA, hr⟩ := h.is
  obtain ⟨At, ct, rfl, hct, hmt⟩ := ht.slice
  obtain ⟨Au, cu, rfl, hcu, hmu⟩ := hu.slice
  unfold maxLen at hm hmt hmu
  obtain ⟨W, hW⟩ : ∃ W, W = (w.alloc (.cells #[.slice At t.length ct, .slice Au u.length cu] 25)).alloc (.cells #[] 35) := ⟨_, rfl⟩
  have bb : Below w.heap.size w W := by rw [hW]; exact (box_below w _ _).alloc (by simp) _
  have q0 : W.cell? ⟨w.heap.size, 0, none⟩ = some (.slice At t.length ct) := by rw [hW]; simp [go_sem, World.cell?_alloc_past]
  have q1 : W.cell? ⟨w.heap.size, 1, none⟩ = some (.slice Au u.length cu) := by rw [hW]; simp [go_sem, World.cell?_alloc_past]
  have s0 : w.heap.size < W.heap.size := by rw [hW]; simp; omega
  have oE : Owns W (w.heap.size + 1) (.slice (some ⟨w.heap.size + 1, 0, none⟩) 0 0) [] := by
    have e : (w.alloc (.cells #[.slice At t.length ct, .slice Au u.length cu] 25)).heap.size = w.heap.size + 1 := by simp
    rw [hW, ← e]; exact Owns.empty _ _ (by simp)
  have rp := h.kept bb
  have rt := ht.kept bb
  have ru := hu.kept bb
  obtain ⟨At', ct', he, _, _, _, hrt⟩ := ht.is
  cases he
  obtain ⟨htn, hun⟩ := pat_near hk
  have ht1 := (patB_iff.1 hk).t1
  obtain ⟨bt, offt, rfl, hbt, hcellt⟩ := hrt (by omega)
  obtain ⟨⟨cx, cy⟩, hcc⟩ : ∃ a, t[0]? = some a := ⟨_, List.getElem?_eq_getElem (by omega)⟩
  obtain ⟨e0, e1⟩ := hcellt 0 cx cy hcc
  simp only [Nat.zero_mul, Nat.add_zero] at e0 e1
  have hnc := (patB_iff.1 hk).small _ (List.mem_append_left _ (List.mem_of_getElem? hcc))
  simp only at hnc
  have hAll := Lib.hid (foundUpto_all (p := ps) (u := u) hcc)
  have hpic := picB_pic hp
  have hpl := hpic.1
  have hin := hpic.2.1
  have hsort := hpic.2.2
  have hm2 : (0 : Int) < (t.length : Int) := by omega
  have hm5 : 0 < t.length := by omega
  have HP := Lib.hid hp
  have HK := Lib.hid hk
  have HF := Lib.hid hf
  have HY := Lib.hid hy
  have HNO := Lib.hid hn
  clear hp hk hf hpic hrt hcellt hcc hy hn
  go_enter Try.func13, Try.ntmps13
  go_wp2_with (first | (rw [← hW]; clear hW) | fail)
  refine (gives_is HP.out (specPicture_any ps _ _ rp)).mono ?_
  rintro e w1 ⟨rfl, bn⟩
  have bb := below_step bb bn
  have rp := rp.kept bn
  have rt := rt.kept bn
  have ru := ru.kept bn
  have oE := oE.below bn
  have q0 := (bn.cell (p := ⟨w.heap.size, 0, none⟩) s0).trans q0
  have q1 := (bn.cell (p := ⟨w.heap.size, 1, none⟩) s0).trans q1
  have s0 := Nat.lt_of_lt_of_le s0 bn.size
  clear bn
  go_wp2_with fail
  refine (pattern_lit HK.out rt ru hlt hlu).mono ?_
  rintro e w2 ⟨rfl, bn⟩
  have bb := below_step bb bn
  have rp := rp.kept bn
  have rt := rt.kept bn
  have ru := ru.kept bn
  have oE := oE.below bn
  have q0 := (bn.cell (p := ⟨w.heap.size, 0, none⟩) s0).trans q0
  have q1 := (bn.cell (p := ⟨w.heap.size, 1, none⟩) s0).trans q1
  have s0 := Nat.lt_of_lt_of_le s0 bn.size
  clear bn
  go_wp2
  by_cases h0 : ps.length = 0
  · obtain rfl := List.eq_nil_of_length_eq_zero h0
    have hL0 : foundL [] t u = [] := by have e := hAll.out; rw [List.length_nil, foundUpto_zero] at e; exact e.symm
    have hf := HF.out
    rw [hL0] at hf
    have hfb : fb = true := by rw [← hf]; decide
    have HL := Lib.hid (show L = [] by rw [HY.out hfb, hL0])
    have HP3 := Lib.hid (show picB [] = true by decide)
    clear hL0 hf
    subst hfb
    refine wp_loop_rounds 1 ?_
    rw [rounds_succ]
    go_wp2_with fail
    refine (gives_is HP3.out (specPicture_any [] _ _ oE.reads)).mono ?_
    rintro e w3 ⟨rfl, b3⟩
    go_wp2
    go_ret2
    exact ⟨_, rfl, by rw [HL.out]; exact (oE.below b3).base (Nat.le_succ _), below_step bb b3⟩
  obtain ⟨b, off, rfl, hb, hcell⟩ := hr (by omega)
  go_loopw [6, 7] (fun o i wr => ∃ k : Nat, k ≤ ps.length ∧ i = .int .i64 k ∧ Owns wr (w.heap.size + 1) o (foundUpto ps t u (cx, cy) k) ∧ Below (w.heap.size + 1) w2 wr) (fun _ i _ => ps.length - (intOf i).toNat)
  case atStart => exact ⟨0, Nat.zero_le _, rfl, oE, Below.refl _ _⟩
  case round =>
    clear oE
    obtain ⟨k, hk, rfl, hown, hbw⟩ := hrel
    have bbr := bb.trans (hbw.mono (Nat.le_succ _))
    have hbs := hbw.size
    by_cases hlk : k < ps.length
    · obtain ⟨⟨x, y⟩, hxy⟩ : ∃ a, ps[k]? = some a := ⟨_, List.getElem?_eq_getElem hlk⟩
      obtain ⟨c0, c1⟩ := hcell k x y hxy
      have hna := hin _ (List.mem_of_getElem? hxy)
      unfold InR at hna
      simp only at hna
      have d0 := (bbr.cell (p := ⟨b, off + k * 2, none⟩) hb).trans c0
      have d1 := (bbr.cell (p := ⟨b, off + k * 2 + 1, none⟩) hb).trans c1
      have d2 := (bbr.cell (p := ⟨bt, offt, none⟩) hbt).trans e0
      have d3 := (bbr.cell (p := ⟨bt, offt + 1, none⟩) hbt).trans e1
      have d4 := (hbw.cell (p := ⟨w.heap.size, 0, none⟩) (Nat.lt_succ_self _)).trans q0
      have d5 := (hbw.cell (p := ⟨w.heap.size, 1, none⟩) (Nat.lt_succ_self _)).trans q1
      have hwx : IntKind.i64.wrap (x - cx) = x - cx := IntWalk.i64_in _ (by omega)
      have hwy : IntKind.i64.wrap (y - cy) = y - cy := IntWalk.i64_in _ (by omega)
      have ne0 := World.new_ne wr _ d0
      have ne1 := World.new_ne wr _ d1
      have ne2 := World.new_ne wr _ d2
      have ne3 := World.new_ne wr _ d3
      have ne4 := World.new_ne wr _ d4
      have ne5 := World.new_ne wr _ d5
      have hm3 : (0 : Int) ≤ (k : Int) := Int.natCast_nonneg _
      have hm4 : (k : Int) < (ps.length : Int) := by omega
      have hn : NearS (x - cx, y - cy) := by unfold NearS; simp only []; omega
      have HX := Lib.hid hxy
      clear hxy c0 c1
      go_wp2_with fail
      go_region_held3 (fun w' => w'.cell? ⟨b, off + k * 2, none⟩ = some (.int .i64 x) ∧ w'.cell? ⟨b, off + k * 2 + 1, none⟩ = some (.int .i64 y) ∧ w'.cell? ⟨bt, offt, none⟩ = some (.int .i64 cx) ∧ w'.cell? ⟨bt, offt + 1, none⟩ = some (.int .i64 cy) ∧ w'.cell? ⟨w.heap.size, 0, none⟩ = some (.slice (some ⟨bt, offt, none⟩) t.length ct) ∧ w'.cell? ⟨w.heap.size, 1, none⟩ = some (.slice Au u.length cu)) (go_keep) (fail)
      have hbW : Below wr.heap.size wr ((wr.alloc (.cells #[.int .i64 (x - cx), .int .i64 (y - cy)] 35)).drew) := ((Below.refl _ _).alloc (Nat.le_refl _) _).drew
      have g0 : ((wr.alloc (.cells #[.int .i64 (x - cx), .int .i64 (y - cy)] 35)).drew).cell? ⟨wr.heap.size, 0, none⟩ = some (.int .i64 (x - cx)) := by simp [go_sem]
      have g1 : ((wr.alloc (.cells #[.int .i64 (x - cx), .int .i64 (y - cy)] 35)).drew).cell? ⟨wr.heap.size, 1, none⟩ = some (.int .i64 (y - cy)) := by simp [go_sem]
      have hgs : wr.heap.size < ((wr.alloc (.cells #[.int .i64 (x - cx), .int .i64 (y - cy)] 35)).drew).heap.size := by simp [go_sem]
      have hwg : w.heap.size + 1 ≤ wr.heap.size := Nat.le_trans (show w.heap.size + 1 ≤ w2.heap.size from s0) hbs
      have d4 := (hbW.cell (p := ⟨w.heap.size, 0, none⟩) (by simp only []; omega)).trans d4
      have d5 := (hbW.cell (p := ⟨w.heap.size, 1, none⟩) (by simp only []; omega)).trans d5
      have hWb := hbw.trans (hbW.mono hwg)
      have hWo := hown.below hbW
      have bbW := below_step bbr hbW
      have rp2 := h.kept bbW
      have rt2 := ht.kept bbW
      have ru2 := hu.kept bbW
      have hlen := length_foundUpto_le ps t u (cx, cy) k
      go_wp2_with fail
      generalize (wr.alloc (.cells #[.int .i64 (x - cx), .int .i64 (y - cy)] 35)).drew = W1 at hbW g0 g1 hgs d4 d5 hWb hWo bbW rp2 rt2 ru2 ⊢
      generalize wr.heap.size = g at g0 g1 hgs hwg ⊢
      clear hown hbw hbW d0 d1 d2 d3 ne0 ne1 ne2 ne3 ne4 ne5 hwx hwy
      rcases hat : patAt ps t u (x - cx, y - cy) with _ | _
      · have HT := Lib.hid (foundUpto_no (c := (cx, cy)) HX.out hat)
        have HA := Lib.hid hat
        clear hat
        refine (l5At_lit HA.out rp2 rt2 ru2 hsort hpl hn htn hun).mono ?_
        rintro e w3 ⟨rfl, b3⟩
        go_wp2
        go_roundw
        case rel => exact ⟨k + 1, by omega, by go_num, by rw [← HT.out]; exact hWo.below b3, hWb.trans (b3.mono (by have := hWb.size; have := bb.size; omega))⟩
        case measure => simp [intOf]; omega
      · have HT := Lib.hid (foundUpto_yes (c := (cx, cy)) HX.out hat)
        have HA := Lib.hid hat
        clear hat
        refine (l5At_lit HA.out rp2 rt2 ru2 hsort hpl hn htn hun).mono ?_
        rintro e w3 ⟨rfl, b3⟩
        have f0 := (b3.cell (p := ⟨g, 0, none⟩) hgs).trans g0
        have f1 := (b3.cell (p := ⟨g, 1, none⟩) hgs).trans g1
        have o3 := (hWo.below b3).below (box_below w3 #[.int .i64 (x - cx), .int .i64 (y - cy)] 35)
        have bw3 := hWb.trans (b3.mono (by have := hWb.size; have := bb.size; omega))
        have s2 := bw3.size
        have s1 : w.heap.size + 1 ≤ w2.heap.size := s0
        clear g0 g1
        go_wp2_with (at_builtin; refine wpList_append_spots (qs := [(x - cx, y - cy)]) o3 (Reads.one (g := w3.heap.size) (by simp [go_sem]) (by simp [go_sem])) (by simp only [List.length_cons, List.length_nil]; omega) (by simp only [World.size_alloc]; omega) rfl (.tmp 52) (.tmp 54) rfl rfl rfl ?_)
        intro v4 w4 o4 g4 hv4
        have bw4 := o3.below_app (bw3.alloc (Nat.le_trans s1 s2) _) (by simp only [World.size_alloc]; omega) g4
        go_wp2
        go_roundw
        case rel => exact ⟨k + 1, by omega, by go_num, by rw [← HT.out]; exact o4, bw4⟩
        case measure => simp [intOf]; omega
    · obtain rfl : k = ps.length := by omega
      rw [hAll.out] at hown
      obtain ⟨Ao, co, rfl, _, _⟩ := hown.reads.slice
      rcases hfb : fb with _ | _
      · have hp3 := HF.out
        rw [hfb] at hp3
        have HL := Lib.hid (HNO.out hfb)
        subst hfb
        go_wp2_with fail
        refine (gives_is hp3 (specPicture_any _ _ _ hown.reads)).mono ?_
        rintro e w3 ⟨rfl, b3⟩
        have bw3 := below_step bbr b3
        clear hp3
        go_wp2
        go_ret2
        exact ⟨_, rfl, by rw [HL.out]; exact Owns.empty _ _ bw3.size, bw3.alloc bw3.size _⟩
      · have hp3 := HF.out
        rw [hfb] at hp3
        have HL := Lib.hid (HY.out hfb)
        subst hfb
        go_wp2_with fail
        refine (gives_is hp3 (specPicture_any _ _ _ hown.reads)).mono ?_
        rintro e w3 ⟨rfl, b3⟩
        have bw3 := below_step bbr b3
        clear hp3
        go_wp2
        go_ret2
        exact ⟨_, rfl, by rw [HL.out]; exact (hown.below b3).base (Nat.le_succ _), bw3⟩
theorem specFound_any (ps t u : List Sp) (v vt vu : Value) (w : World) (h : Reads w w.heap.size v ps) (ht : Reads w w.heap.size vt t) (hu : Reads w w.heap.size vu u) (hlt : t.length ≤ 1100000) (hlu : u.length ≤ 1100000) :
    Calls Try.prog 13 #[v, .agg #[vt, vu]] w (Gives2' (foundR ps t u) (foundOk ps t u) w) := by
  rcases hp : picB ps with _ | _
  · obtain ⟨e1, e2⟩ := found_no1 (t := t) (u := u) hp
    rw [e1, e2]
    obtain ⟨A, c, rfl, hc, hm, hA, hr⟩ := h.is
    obtain ⟨At, ct, rfl, hct, hmt⟩ := ht.slice
    obtain ⟨Au, cu, rfl, hcu, hmu⟩ := hu.slice
    unfold maxLen at hm hmt hmu
    obtain ⟨W, hW⟩ : ∃ W, W = (w.alloc (.cells #[.slice At t.length ct, .slice Au u.length cu] 25)).alloc (.cells #[] 35) := ⟨_, rfl⟩
    have bb : Below w.heap.size w W := by rw [hW]; exact (box_below w _ _).alloc (by simp) _
    have q0 : W.cell? ⟨w.heap.size, 0, none⟩ = some (.slice At t.length ct) := by rw [hW]; simp [go_sem, World.cell?_alloc_past]
    have q1 : W.cell? ⟨w.heap.size, 1, none⟩ = some (.slice Au u.length cu) := by rw [hW]; simp [go_sem, World.cell?_alloc_past]
    have s0 : w.heap.size < W.heap.size := by rw [hW]; simp; omega
    have oE : Owns W (w.heap.size + 1) (.slice (some ⟨w.heap.size + 1, 0, none⟩) 0 0) [] := by
      have e : (w.alloc (.cells #[.slice At t.length ct, .slice Au u.length cu] 25)).heap.size = w.heap.size + 1 := by simp
      rw [hW, ← e]; exact Owns.empty _ _ (by simp)
    have rp := h.kept bb
    have rt := ht.kept bb
    have ru := hu.kept bb
    clear e1 e2
    go_enter Try.func13, Try.ntmps13
    go_wp2_with (first | (rw [← hW]; clear hW) | fail)
    refine (gives_is hp (specPicture_any ps _ _ rp)).mono ?_
    rintro e w1 ⟨rfl, bn⟩
    have bb := below_step bb bn
    have rp := rp.kept bn
    have rt := rt.kept bn
    have ru := ru.kept bn
    have oE := oE.below bn
    have q0 := (bn.cell (p := ⟨w.heap.size, 0, none⟩) s0).trans q0
    have q1 := (bn.cell (p := ⟨w.heap.size, 1, none⟩) s0).trans q1
    have s0 := Nat.lt_of_lt_of_le s0 bn.size
    clear bn
    go_wp2
    go_ret2
    exact ⟨_, rfl, oE.base (Nat.le_succ _), bb⟩
  rcases hk : patB t u with _ | _
  · obtain ⟨e1, e2⟩ := found_no2 (p := ps) hk
    rw [e1, e2]
    obtain ⟨A, c, rfl, hc, hm, hA, hr⟩ := h.is
    obtain ⟨At, ct, rfl, hct, hmt⟩ := ht.slice
    obtain ⟨Au, cu, rfl, hcu, hmu⟩ := hu.slice
    unfold maxLen at hm hmt hmu
    obtain ⟨W, hW⟩ : ∃ W, W = (w.alloc (.cells #[.slice At t.length ct, .slice Au u.length cu] 25)).alloc (.cells #[] 35) := ⟨_, rfl⟩
    have bb : Below w.heap.size w W := by rw [hW]; exact (box_below w _ _).alloc (by simp) _
    have q0 : W.cell? ⟨w.heap.size, 0, none⟩ = some (.slice At t.length ct) := by rw [hW]; simp [go_sem, World.cell?_alloc_past]
    have q1 : W.cell? ⟨w.heap.size, 1, none⟩ = some (.slice Au u.length cu) := by rw [hW]; simp [go_sem, World.cell?_alloc_past]
    have s0 : w.heap.size < W.heap.size := by rw [hW]; simp; omega
    have oE : Owns W (w.heap.size + 1) (.slice (some ⟨w.heap.size + 1, 0, none⟩) 0 0) [] := by
      have e : (w.alloc (.cells #[.slice At t.length ct, .slice Au u.length cu] 25)).heap.size = w.heap.size + 1 := by simp
      rw [hW, ← e]; exact Owns.empty _ _ (by simp)
    have rp := h.kept bb
    have rt := ht.kept bb
    have ru := hu.kept bb
    have HK := Lib.hid hk
    clear hk e1 e2
    go_enter Try.func13, Try.ntmps13
    go_wp2_with (first | (rw [← hW]; clear hW) | fail)
    refine (gives_is hp (specPicture_any ps _ _ rp)).mono ?_
    rintro e w1 ⟨rfl, bn⟩
    have bb := below_step bb bn
    have rp := rp.kept bn
    have rt := rt.kept bn
    have ru := ru.kept bn
    have oE := oE.below bn
    have q0 := (bn.cell (p := ⟨w.heap.size, 0, none⟩) s0).trans q0
    have q1 := (bn.cell (p := ⟨w.heap.size, 1, none⟩) s0).trans q1
    have s0 := Nat.lt_of_lt_of_le s0 bn.size
    clear bn
    clear hp
    go_wp2_with fail
    refine (pattern_lit HK.out rt ru hlt hlu).mono ?_
    rintro e w2 ⟨rfl, bn⟩
    have bb := below_step bb bn
    have rp := rp.kept bn
    have rt := rt.kept bn
    have ru := ru.kept bn
    have oE := oE.below bn
    have q0 := (bn.cell (p := ⟨w.heap.size, 0, none⟩) s0).trans q0
    have q1 := (bn.cell (p := ⟨w.heap.size, 1, none⟩) s0).trans q1
    have s0 := Nat.lt_of_lt_of_le s0 bn.size
    clear bn
    go_wp2
    go_ret2
    exact ⟨_, rfl, oE.base (Nat.le_succ _), bb⟩
  rcases hf : picB (foundL ps t u) with _ | _
  · obtain ⟨e1, e2⟩ := found_no3 hf
    rw [e1, e2]
    exact found_loop ps t u v vt vu w h ht hu hlt hlu hp hk hf (fun e => by cases e) (fun _ => rfl)
  · obtain ⟨e1, e2⟩ := found_yes hp hk hf
    rw [e1, e2]
    exact found_loop ps t u v vt vu w h ht hu hlt hlu hp hk hf (fun _ => rfl) (fun e => by cases e)
end Go.Proofs.Ytfofmfkdkihhbac
