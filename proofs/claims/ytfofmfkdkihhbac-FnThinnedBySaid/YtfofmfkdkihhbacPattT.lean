/- FoundIn and ThinnedBy of the model. No conditions but those typed. -/
import Derived.Test.YtfofmfkdkihhbacPattS
namespace Go.Proofs.Ytfofmfkdkihhbac
open Go.RowKit Go.Sort

theorem pattern_lit {b : Bool} {t u : List Sp} {vt vu : Value} {w : World} (hk : patB t u = b) (ht : Reads w w.heap.size vt t) (hu : Reads w w.heap.size vu u) (hlt : t.length ≤ 1100000) (hlu : u.length ≤ 1100000) : Calls Try.prog 49 #[.agg #[vt, vu]] w (Gives (.bool b) w) := by
  subst hk; exact specPattern_any t u vt vu w ht hu hlt hlu
theorem l5At_lit {b : Bool} {ps t u : List Sp} {v vt vu : Value} {ax ay : Int} {w : World} (hk : patAt ps t u (ax, ay) = b) (h : Reads w w.heap.size v ps) (ht : Reads w w.heap.size vt t) (hu : Reads w w.heap.size vu u) (hs : Sorted ps) (hl : ps.length ≤ 60) (ha : NearS (ax, ay)) (htn : ∀ b ∈ t, NearS b) (hun : ∀ b ∈ u, NearS b) :
    Calls Try.prog 50 #[v, .agg #[vt, vu], .agg #[.int .i64 ax, .int .i64 ay]] w (Gives (.bool b) w) := by
  subst hk; exact l5At_any ps t u v vt vu ax ay w h ht hu hs hl ha htn hun
theorem pat_near {t u : List Sp} (h : patB t u = true) : (∀ b ∈ t, NearS b) ∧ ∀ b ∈ u, NearS b := by
  have k := (patB_iff.1 h).small
  constructor
  · intro b hb
    have := k b (List.mem_append_left _ hb)
    unfold NearS; omega
  · intro b hb
    have := k b (List.mem_append_right _ hb)
    unfold NearS; omega
theorem thin_no1 {p t u : List Sp} (h : picB p = false) : thinOk p t u = false ∧ thinR p t u = [] := by
  have : thinOk p t u = false := by unfold thinOk; rw [h]; rfl
  exact ⟨this, thin_no this⟩
theorem thin_no2 {p t u : List Sp} (h : patB t u = false) : thinOk p t u = false ∧ thinR p t u = [] := by
  have : thinOk p t u = false := by unfold thinOk; rw [h, Bool.and_false]
  exact ⟨this, thin_no this⟩
theorem thin_yes' {p t u : List Sp} (h : picB p = true) (k : patB t u = true) : thinOk p t u = true ∧ thinR p t u = thinL p t u := by
  have : thinOk p t u = true := by unfold thinOk; rw [h, k]; rfl
  exact ⟨this, thin_yes this⟩
set_option maxHeartbeats 1600000 in
theorem specThin_any (ps t u : List Sp) (v vt vu : Value) (w : World) (h : Reads w w.heap.size v ps) (ht : Reads w w.heap.size vt t) (hu : Reads w w.heap.size vu u) (hlt : t.length ≤ 1100000) (hlu : u.length ≤ 1100000) :
    Calls Try.prog 30 #[v, .agg #[vt, vu]] w (Gives2' (thinR ps t u) (thinOk ps t u) w) := by
  obtain ⟨A, c, rfl, hc, hm, hA, hr⟩ := h.is
  obtain ⟨At, ct, rfl, hct, hmt⟩ := ht.slice
  obtain ⟨Au, cu, rfl, hcu, hmu⟩ := hu.slice
  unfold maxLen at hm hmt hmu
  obtain ⟨W, hW⟩ : ∃ W, W = (w.alloc (.cells #[.slice At t.length ct, .slice Au u.length cu] 25)).alloc (.cells #[] 35) := ⟨_, rfl⟩
  have bb : Below w.heap.size w W := by rw [hW]; exact (box_below w _ _).alloc (by simp) _
  have q0 : W.cell? ⟨w.heap.size, 0, none⟩ = some (.slice At t.length ct) := by rw [hW]; simp [go_sem, World.cell?_alloc_past]
  have q1 : W.cell? ⟨w.heap.size, 1, none⟩ = some (.slice Au u.length cu) := by rw [hW]; simp [go_sem, World.cell?_alloc_past]
  have s0 : w.heap.size < W.heap.size := by rw [hW]; simp; omega
  have oE : Owns W (w.heap.size + 1) (.slice (some ⟨w.heap.size + 1, 0, none⟩) 0 0) [] := by
    have e : (w.alloc (.cells #[.slice At t.length ct, .slice Au u.length cu] 25)).heap.size = w.heap.size + 1 := by simp
    rw [hW, ← e]; exact Owns.empty _ _ (by simp)
  have rp := h.kept bb
  have rt := ht.kept bb
  have ru := hu.kept bb
  rcases hp : picB ps with _ | _
  · obtain ⟨e1, e2⟩ := thin_no1 (t := t) (u := u) hp
    rw [e1, e2]
    go_enter Try.func30, Try.ntmps30
    go_wp2_with (first | (rw [← hW]; clear hW) | fail)
    refine (gives_is hp (specPicture_any ps _ _ rp)).mono ?_
    rintro e w1 ⟨rfl, bn⟩
    have bb := below_step bb bn
    have rp := rp.kept bn
    have rt := rt.kept bn
    have ru := ru.kept bn
    have oE := oE.below bn
    have q0 := (bn.cell (p := ⟨w.heap.size, 0, none⟩) s0).trans q0
    have q1 := (bn.cell (p := ⟨w.heap.size, 1, none⟩) s0).trans q1
    have s0 := Nat.lt_of_lt_of_le s0 bn.size
    clear bn
    go_wp2
    go_ret2
    exact ⟨_, rfl, oE.base (Nat.le_succ _), bb⟩
  rcases hk : patB t u with _ | _
  · obtain ⟨e1, e2⟩ := thin_no2 (p := ps) hk
    rw [e1, e2]
    have HK := Lib.hid hk
    clear hk
    go_enter Try.func30, Try.ntmps30
    go_wp2_with (first | (rw [← hW]; clear hW) | fail)
    refine (gives_is hp (specPicture_any ps _ _ rp)).mono ?_
    rintro e w1 ⟨rfl, bn⟩
    have bb := below_step bb bn
    have rp := rp.kept bn
    have rt := rt.kept bn
    have ru := ru.kept bn
    have oE := oE.below bn
    have q0 := (bn.cell (p := ⟨w.heap.size, 0, none⟩) s0).trans q0
    have q1 := (bn.cell (p := ⟨w.heap.size, 1, none⟩) s0).trans q1
    have s0 := Nat.lt_of_lt_of_le s0 bn.size
    clear bn
    clear hp
    go_wp2_with fail
    refine (pattern_lit HK.out rt ru hlt hlu).mono ?_
    rintro e w2 ⟨rfl, bn⟩
    have bb := below_step bb bn
    have rp := rp.kept bn
    have rt := rt.kept bn
    have ru := ru.kept bn
    have oE := oE.below bn
    have q0 := (bn.cell (p := ⟨w.heap.size, 0, none⟩) s0).trans q0
    have q1 := (bn.cell (p := ⟨w.heap.size, 1, none⟩) s0).trans q1
    have s0 := Nat.lt_of_lt_of_le s0 bn.size
    clear bn
    go_wp2
    go_ret2
    exact ⟨_, rfl, oE.base (Nat.le_succ _), bb⟩
  · obtain ⟨e1, e2⟩ := thin_yes' hp hk
    rw [e1, e2]
    obtain ⟨htn, hun⟩ := pat_near hk
    have hpic := picB_pic hp
    have hpl := hpic.1
    have hin := hpic.2.1
    have hsort := hpic.2.2
    obtain ⟨F, hF⟩ : ∃ F : Sp → Bool, F = fun x => !patAt ps t u x := ⟨_, rfl⟩
    have HF := Lib.hid hF
    have hL : thinL ps t u = ps.filter F := by rw [hF]; rfl
    rw [hL]
    have HP := Lib.hid hp
    have HK := Lib.hid hk
    clear hF hL e1 e2 hp hk hpic
    go_enter Try.func30, Try.ntmps30
    go_wp2_with (first | (rw [← hW]; clear hW) | fail)
    refine (gives_is HP.out (specPicture_any ps _ _ rp)).mono ?_
    rintro e w1 ⟨rfl, bn⟩
    have bb := below_step bb bn
    have rp := rp.kept bn
    have rt := rt.kept bn
    have ru := ru.kept bn
    have oE := oE.below bn
    have q0 := (bn.cell (p := ⟨w.heap.size, 0, none⟩) s0).trans q0
    have q1 := (bn.cell (p := ⟨w.heap.size, 1, none⟩) s0).trans q1
    have s0 := Nat.lt_of_lt_of_le s0 bn.size
    clear bn
    go_wp2_with fail
    refine (pattern_lit HK.out rt ru hlt hlu).mono ?_
    rintro e w2 ⟨rfl, bn⟩
    have bb := below_step bb bn
    have rp := rp.kept bn
    have rt := rt.kept bn
    have ru := ru.kept bn
    have oE := oE.below bn
    have q0 := (bn.cell (p := ⟨w.heap.size, 0, none⟩) s0).trans q0
    have q1 := (bn.cell (p := ⟨w.heap.size, 1, none⟩) s0).trans q1
    have s0 := Nat.lt_of_lt_of_le s0 bn.size
    clear bn
    go_wp2
    by_cases h0 : ps.length = 0
    · obtain rfl := List.eq_nil_of_length_eq_zero h0
      refine wp_loop_rounds 1 ?_
      rw [rounds_succ]
      go_wp2
      go_ret2
      exact ⟨_, rfl, oE.base (Nat.le_succ _), bb⟩
    obtain ⟨b, off, rfl, hb, hcell⟩ := hr (by omega)
    go_loopw [6, 7] (fun o i wr => ∃ k : Nat, k ≤ ps.length ∧ i = .int .i64 k ∧ Owns wr (w.heap.size + 1) o ((ps.take k).filter F) ∧ Below (w.heap.size + 1) w2 wr) (fun _ i _ => ps.length - (intOf i).toNat)
    case atStart => exact ⟨0, Nat.zero_le _, rfl, oE, Below.refl _ _⟩
    case round =>
      clear oE
      obtain ⟨k, hk, rfl, hown, hbw⟩ := hrel
      have bbr := bb.trans (hbw.mono (Nat.le_succ _))
      have hbs := hbw.size
      by_cases hlk : k < ps.length
      · obtain ⟨⟨x, y⟩, hxy⟩ : ∃ a, ps[k]? = some a := ⟨_, List.getElem?_eq_getElem hlk⟩
        obtain ⟨c0, c1⟩ := hcell k x y hxy
        have d0 := (bbr.cell (p := ⟨b, off + k * 2, none⟩) hb).trans c0
        have d1 := (bbr.cell (p := ⟨b, off + k * 2 + 1, none⟩) hb).trans c1
        have f0 := cell_regrown d0
        have f1 := cell_regrown d1
        have f2 := cell_regrown ((hbw.cell (p := ⟨w.heap.size, 0, none⟩) (Nat.lt_succ_self _)).trans q0)
        have f3 := cell_regrown ((hbw.cell (p := ⟨w.heap.size, 1, none⟩) (Nat.lt_succ_self _)).trans q1)
        have hn : NearS (x, y) := by have := hin _ (List.mem_of_getElem? hxy); unfold InR at this; unfold NearS; omega
        have rp2 := h.kept bbr
        have rt2 := ht.kept bbr
        have ru2 := hu.kept bbr
        have hm3 : (0 : Int) ≤ (k : Int) := Int.natCast_nonneg _
        have hm4 : (k : Int) < (ps.length : Int) := by omega
        rcases hat : patAt ps t u (x, y) with _ | _
        · have HT := Lib.hid (filt_yes (f := F) hxy (by rw [HF.out]; simp only []; rw [hat]; rfl))
          have HA := Lib.hid hat
          clear hat hxy c0 c1
          go_wp2
          refine wp_region_quiet_below (by kernel_rfl) (by kernel_rfl) ?_
          repeat (go_big_quiet_step (first | (go_at_call 50; exact gives_regrown (fun w1 hb1 => l5At_lit HA.out (rp2.kept hb1) (rt2.kept hb1) (ru2.kept hb1) hsort hpl hn htn hun) _ _)))
          refine wpQuiet_nil ?_
          intro w5 hw'
          obtain ⟨⟨dq, osq⟩, hw''⟩ := hw'
          have hN : Below wr.heap.size wr w5 := by rw [hw'']; exact below_regrown _ _ _
          clear hw'' dq osq
          have bw2 := hbw.trans (hN.mono (Nat.le_trans (show w.heap.size + 1 ≤ w2.heap.size from s0) hbs))
          have own2 := hown.below hN
          have d0 := (hN.cell (p := ⟨b, off + k * 2, none⟩) (Nat.lt_of_lt_of_le hb bbr.size)).trans d0
          have d1 := (hN.cell (p := ⟨b, off + k * 2 + 1, none⟩) (Nat.lt_of_lt_of_le hb bbr.size)).trans d1
          have hlen := filt_len ps F k
          have o3 := own2.below (box_below w5 #[.int .i64 x, .int .i64 y] 35)
          have s2 := bw2.size
          have s1 : w.heap.size + 1 ≤ w2.heap.size := s0
          clear f0 f1 f2 f3 hN
          go_wp2_with (at_builtin; refine wpList_append_spots (qs := [(x, y)]) o3 (Reads.one (g := w5.heap.size) (by simp [go_sem]) (by simp [go_sem])) (by simp only [List.length_cons, List.length_nil]; omega) (by simp only [World.size_alloc]; omega) rfl (.tmp 32) (.tmp 37) rfl rfl rfl ?_)
          intro v4 w4 o4 g4 hv4
          have bw4 := o3.below_app (bw2.alloc (Nat.le_trans s1 s2) _) (by simp only [World.size_alloc]; omega) g4
          go_wp2
          go_roundw
          case rel => exact ⟨k + 1, by omega, by go_num, by rw [← HT.out]; exact o4, bw4⟩
          case measure => simp [intOf]; omega
        · have HT := Lib.hid (filt_no (f := F) hxy (by rw [HF.out]; simp only []; rw [hat]; rfl))
          have HA := Lib.hid hat
          clear hat hxy c0 c1
          go_wp2
          refine wp_region_quiet_below (by kernel_rfl) (by kernel_rfl) ?_
          repeat (go_big_quiet_step (first | (go_at_call 50; exact gives_regrown (fun w1 hb1 => l5At_lit HA.out (rp2.kept hb1) (rt2.kept hb1) (ru2.kept hb1) hsort hpl hn htn hun) _ _)))
          refine wpQuiet_nil ?_
          intro w5 hw'
          obtain ⟨⟨dq, osq⟩, hw''⟩ := hw'
          have hN : Below wr.heap.size wr w5 := by rw [hw'']; exact below_regrown _ _ _
          clear hw'' dq osq
          have s1 : w.heap.size + 1 ≤ w2.heap.size := s0
          have bw2 := hbw.trans (hN.mono (Nat.le_trans s1 hbs))
          have own2 := hown.below hN
          clear f0 f1 f2 f3 hN
          go_wp2
          go_roundw
          case rel => exact ⟨k + 1, by omega, by go_num, by rw [← HT.out]; exact own2, bw2⟩
          case measure => simp [intOf]; omega
      · obtain rfl : k = ps.length := by omega
        rw [List.take_length] at hown
        go_wp2
        go_ret2
        exact ⟨_, rfl, hown.base (Nat.le_succ _), bbr⟩
end Go.Proofs.Ytfofmfkdkihhbac
