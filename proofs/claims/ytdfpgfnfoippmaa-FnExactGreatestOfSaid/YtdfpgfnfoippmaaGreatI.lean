/- GreatestOf of the program: sorted by radius, each held against the kept ones, in order again. No conditions but those typed. -/
import Derived.Test.YtdfpgfnfoippmaaRadJ
import Derived.Test.YtdfpgfnfoippmaaSortC
namespace Go.Proofs.Ytdfpgfnfoippmaa
open Go.RowKit Go.Sort

/-- the rule: whether the one ball is within the other -/
theorem ruleOne_any (Tb Cb : Nat) (x y r u v s way : Int) (w : World) (hw : wayOk way = true) (hc : CentIn ((x, y), r)) (hd : CentIn ((u, v), s))
    (hT : Tb < w.heap.size) (hC : Cb < w.heap.size) (cT : w.cell? ⟨Tb, 0, none⟩ = some (.func (.func (tellF way)) #[] #[])) (c0 : w.cell? ⟨Cb, 0, none⟩ = some (.int .i64 x)) (c1 : w.cell? ⟨Cb, 1, none⟩ = some (.int .i64 y)) (c2 : w.cell? ⟨Cb, 2, none⟩ = some (.int .i64 r)) {b : Bool} (hb : ruleIn way ((x, y), r) ((u, v), s) = b) :
    Calls Try.prog 90 #[.agg #[.int .i64 u, .int .i64 v, .int .i64 s], .pointer (some ⟨Tb, 0, none⟩), .pointer (some ⟨Cb, 0, none⟩)] w (Gives (.bool b) w) := by
  subst hb
  have b0 := box_below w #[.int .i64 u, .int .i64 v, .int .i64 s] 38
  have z0 : (w.alloc (.cells #[.int .i64 u, .int .i64 v, .int .i64 s] 38)).cell? ⟨w.heap.size, 0, none⟩ = some (.int .i64 u) := by simp [go_sem]
  have z1 : (w.alloc (.cells #[.int .i64 u, .int .i64 v, .int .i64 s] 38)).cell? ⟨w.heap.size, 1, none⟩ = some (.int .i64 v) := by simp [go_sem]
  have z2 : (w.alloc (.cells #[.int .i64 u, .int .i64 v, .int .i64 s] 38)).cell? ⟨w.heap.size, 2, none⟩ = some (.int .i64 s) := by simp [go_sem]
  have f0 := cell_regrown ((b0.cell (p := ⟨Tb, 0, none⟩) hT).trans cT)
  have f1 := cell_regrown ((b0.cell (p := ⟨Cb, 0, none⟩) hC).trans c0)
  have f2 := cell_regrown ((b0.cell (p := ⟨Cb, 1, none⟩) hC).trans c1)
  have f3 := cell_regrown ((b0.cell (p := ⟨Cb, 2, none⟩) hC).trans c2)
  have f4 := cell_regrown z0
  have f5 := cell_regrown z1
  have f6 := cell_regrown z2
  have i1 := hc.inr
  have i2 := hd.inr
  unfold InR at i1 i2
  have i3 := hc.lo
  have i4 := hc.hi
  have i5 := hd.lo
  have i6 := hd.hi
  simp only at i1 i2 i3 i4 i5 i6
  have cc := Lib.hid (fun w1 => between_any x y u v way w1 hw (by omega) (by omega))
  have e : ruleIn way ((x, y), r) ((u, v), s) = decide (farI (x, y) (u, v) way ≤ s - r) := rfl
  rw [e]
  clear e
  have hwx : IntKind.i64.wrap (s - r) = s - r := IntWalk.i64_in _ (by omega)
  generalize farI (x, y) (u, v) way = d at *
  clear cT c0 c1 c2 z0 z1 z2 hw hc hd i1 i2
  go_enter Try.func90, Try.ntmps90
  go_wp2
  refine wp_region_quiet_below (by kernel_rfl) (by kernel_rfl) ?_
  repeat (go_big_quiet_step (first | (go_at_call 55; with_reducible exact gives_regrown (fun w1 _ => cc.out w1) _ _)))
  refine wpQuiet_nil ?_
  intro _ hw'
  obtain ⟨⟨dq, osq⟩, hw''⟩ := hw'
  subst hw''
  go_wp2
  go_ret
  exact ⟨rfl, b0.trans ((below_regrown _ _ _).mono (by simp))⟩
def NoneCUpto (way : Int) (L : List Cn) (c : Cn) (k : Nat) : Prop := ∀ j d, j < k → L[j]? = some d → ruleIn way c d = false
theorem NoneCUpto.next {way : Int} {L : List Cn} {c d : Cn} {k : Nat} (h : NoneCUpto way L c k) (hd : L[k]? = some d) (hr : ruleIn way c d = false) : NoneCUpto way L c (k + 1) := fun j e hj he => by
  by_cases ej : j = k
  · subst ej; rw [hd] at he; cases he; exact hr
  · exact h j e (by omega) he
theorem noneC_all {way : Int} {L : List Cn} {c : Cn} (h : NoneCUpto way L c L.length) : L.any (ruleIn way c) = false := by
  rw [Bool.eq_false_iff]
  intro ha
  obtain ⟨d, hd, hr⟩ := List.any_eq_true.1 ha
  obtain ⟨j, hj⟩ := List.mem_iff_getElem?.1 hd
  rw [h j d (List.getElem?_eq_some_iff.1 hj).1 hj] at hr; cases hr
theorem anyC_at {way : Int} {L : List Cn} {c d : Cn} {k : Nat} (hd : L[k]? = some d) (hr : ruleIn way c d = true) : L.any (ruleIn way c) = true := List.any_eq_true.2 ⟨d, List.mem_of_getElem? hd, hr⟩
def IdxCPost (b : Bool) (w : World) (e : Ending) (w' : World) : Prop := ∃ i : Int, e = .returned (.int .i64 i) ∧ decide (0 ≤ i) = b ∧ Below w.heap.size w w'
set_option maxHeartbeats 800000 in
theorem ruleIndex_any (L : List Cn) (vL : Value) (Tb Cb : Nat) (x y r way : Int) (w : World) (k : CReads w w.heap.size vL L) (hw : wayOk way = true) (hc : CentIn ((x, y), r)) (hL : ∀ c ∈ L, CentIn c)
    (hT : Tb < w.heap.size) (hC : Cb < w.heap.size) (cT : w.cell? ⟨Tb, 0, none⟩ = some (.func (.func (tellF way)) #[] #[])) (c0 : w.cell? ⟨Cb, 0, none⟩ = some (.int .i64 x)) (c1 : w.cell? ⟨Cb, 1, none⟩ = some (.int .i64 y)) (c2 : w.cell? ⟨Cb, 2, none⟩ = some (.int .i64 r)) :
    Calls Try.prog 89 #[vL, .func (.func 90) #[] #[.pointer (some ⟨Tb, 0, none⟩), .pointer (some ⟨Cb, 0, none⟩)]] w (IdxCPost (L.any (ruleIn way ((x, y), r))) w) := by
  obtain ⟨A, c, rfl, hcl, hm, hA, hr⟩ := k.is
  unfold maxLen at hm
  have b0 := Below.refl w.heap.size w
  have hp0 : NoneCUpto way L ((x, y), r) 0 := fun j d hj => by omega
  go_enter Try.func89, Try.ntmps89
  go_wp2
  by_cases h0 : L.length = 0
  · obtain rfl := List.eq_nil_of_length_eq_zero h0
    refine wp_loop_rounds 1 ?_
    rw [rounds_succ]
    go_wp2
    go_ret
    exact ⟨_, rfl, by rw [List.any_nil]; rfl, b0⟩
  · obtain ⟨b, off, rfl, hb, hcell⟩ := hr (by omega)
    go_loopw [8] (fun i wr => ∃ j : Nat, j ≤ L.length ∧ i = .int .i64 j ∧ NoneCUpto way L ((x, y), r) j ∧ Below w.heap.size w wr) (fun i _ => L.length - (intOf i).toNat)
    case atStart => exact ⟨0, Nat.zero_le _, rfl, hp0, b0⟩
    case round =>
      obtain ⟨j, hj, rfl, hI, hbw⟩ := hrel
      have HI := Lib.hid hI
      clear hI hp0
      have hbs := hbw.size
      by_cases hlt : j < L.length
      · obtain ⟨⟨⟨u, v⟩, s⟩, hxy⟩ : ∃ a, L[j]? = some a := ⟨_, List.getElem?_eq_getElem hlt⟩
        obtain ⟨a0, a1, a2⟩ := hcell j u v s hxy
        have d0 := (hbw.cell (p := ⟨b, off + j * 3, none⟩) hb).trans a0
        have d1 := (hbw.cell (p := ⟨b, off + j * 3 + 1, none⟩) hb).trans a1
        have d2 := (hbw.cell (p := ⟨b, off + j * 3 + 2, none⟩) hb).trans a2
        have hn := hL _ (List.mem_of_getElem? hxy)
        have hcl := fun (bb : Bool) hb => ruleOne_any Tb Cb x y r u v s way wr hw hc hn (Nat.lt_of_lt_of_le hT hbs) (Nat.lt_of_lt_of_le hC hbs) ((hbw.cell (p := ⟨Tb, 0, none⟩) hT).trans cT) ((hbw.cell (p := ⟨Cb, 0, none⟩) hC).trans c0) ((hbw.cell (p := ⟨Cb, 1, none⟩) hC).trans c1) ((hbw.cell (p := ⟨Cb, 2, none⟩) hC).trans c2) (b := bb) hb
        rcases hin : ruleIn way ((x, y), r) ((u, v), s) with _ | _
        · have HN := Lib.hid (HI.out.next hxy hin)
          have hcl := hcl _ hin
          clear hxy a0 a1 a2 hin cT c0 c1 c2
          go_wp2_with fail
          refine hcl.mono ?_
          rintro e w1 ⟨rfl, b1⟩
          have bw1 := below_step hbw b1
          go_wp2
          go_roundw
          case rel => exact ⟨j + 1, by omega, by go_num, HN.out, bw1⟩
          case measure => simp [intOf]; omega
        · have HN := Lib.hid (anyC_at hxy hin)
          have hcl := hcl _ hin
          clear hxy a0 a1 a2 hin cT c0 c1 c2
          go_wp2_with fail
          refine hcl.mono ?_
          rintro e w1 ⟨rfl, b1⟩
          have bw1 := below_step hbw b1
          go_wp2
          go_ret
          exact ⟨_, rfl, by rw [HN.out]; simp, bw1⟩
      · obtain rfl : j = L.length := by omega
        have HN := Lib.hid (noneC_all HI.out)
        go_wp2
        go_ret
        exact ⟨_, rfl, by rw [HN.out]; rfl, hbw⟩
theorem ruleContains_any (L : List Cn) (vL : Value) (Tb Cb : Nat) (x y r way : Int) (w : World) (k : CReads w w.heap.size vL L) (hw : wayOk way = true) (hc : CentIn ((x, y), r)) (hL : ∀ c ∈ L, CentIn c)
    (hT : Tb < w.heap.size) (hC : Cb < w.heap.size) (cT : w.cell? ⟨Tb, 0, none⟩ = some (.func (.func (tellF way)) #[] #[])) (c0 : w.cell? ⟨Cb, 0, none⟩ = some (.int .i64 x)) (c1 : w.cell? ⟨Cb, 1, none⟩ = some (.int .i64 y)) (c2 : w.cell? ⟨Cb, 2, none⟩ = some (.int .i64 r)) :
    Calls Try.prog 60 #[vL, .func (.func 90) #[] #[.pointer (some ⟨Tb, 0, none⟩), .pointer (some ⟨Cb, 0, none⟩)]] w (Gives (.bool (L.any (ruleIn way ((x, y), r)))) w) := by
  have hcl := ruleIndex_any L vL Tb Cb x y r way w k hw hc hL hT hC cT c0 c1 c2
  obtain ⟨A, c, rfl, _, _⟩ := k.slice
  clear cT c0 c1 c2
  go_enter Try.func60, Try.ntmps60
  go_wp2_with fail
  refine hcl.mono ?_
  rintro e w1 ⟨i, rfl, hi, b1⟩
  have HI := Lib.hid hi
  clear hi
  go_wp2
  go_ret
  exact ⟨ret_bool HI.out, b1⟩
def RuleInPost (x y r way : Int) (w : World) (e : Ending) (w' : World) : Prop := ∃ Tb Cb : Nat, e = .returned (.func (.func 90) #[] #[.pointer (some ⟨Tb, 0, none⟩), .pointer (some ⟨Cb, 0, none⟩)]) ∧ Tb < w'.heap.size ∧ Cb < w'.heap.size ∧ w'.cell? ⟨Tb, 0, none⟩ = some (.func (.func (tellF way)) #[] #[]) ∧ w'.cell? ⟨Cb, 0, none⟩ = some (.int .i64 x) ∧ w'.cell? ⟨Cb, 1, none⟩ = some (.int .i64 y) ∧ w'.cell? ⟨Cb, 2, none⟩ = some (.int .i64 r) ∧ Below w.heap.size w w'
theorem ruleWithin_any (x y r way : Int) (w : World) : Calls Try.prog 61 #[.agg #[.int .i64 x, .int .i64 y, .int .i64 r], .func (.func (tellF way)) #[] #[]] w (RuleInPost x y r way w) := by
  have b0 := box_below w #[.int .i64 x, .int .i64 y, .int .i64 r] 38
  have z0 : (w.alloc (.cells #[.int .i64 x, .int .i64 y, .int .i64 r] 38)).cell? ⟨w.heap.size, 0, none⟩ = some (.int .i64 x) := by simp [go_sem]
  have z1 : (w.alloc (.cells #[.int .i64 x, .int .i64 y, .int .i64 r] 38)).cell? ⟨w.heap.size, 1, none⟩ = some (.int .i64 y) := by simp [go_sem]
  have z2 : (w.alloc (.cells #[.int .i64 x, .int .i64 y, .int .i64 r] 38)).cell? ⟨w.heap.size, 2, none⟩ = some (.int .i64 r) := by simp [go_sem]
  have b1 := b0.alloc (by simp) (.cells #[.func (.func (tellF way)) #[] #[]] 65)
  go_enter Try.func61, Try.ntmps61
  go_wp2
  go_ret
  exact ⟨w.heap.size + 1, w.heap.size, rfl, by simp, by simp; omega, by simp [go_sem], Lib.cell?_alloc_some _ z0, Lib.cell?_alloc_some _ z1, Lib.cell?_alloc_some _ z2, b1⟩
def StepCPost (base : Nat) (l : List Cn) (w : World) (e : Ending) (w' : World) : Prop := ∃ v', e = .returned v' ∧ COwns w' base v' l ∧ Below base w w'
set_option maxHeartbeats 800000 in
theorem keepStep_any (kept : List Cn) (vk : Value) (T0 base : Nat) (x y r way : Int) (w : World) (h : COwns w base vk kept) (hbase : base ≤ w.heap.size) (hl : kept.length ≤ 60) (hw : wayOk way = true) (hc : CentIn ((x, y), r)) (hL : ∀ c ∈ kept, CentIn c)
    (hT : T0 < w.heap.size) (cT : w.cell? ⟨T0, 0, none⟩ = some (.func (.func (tellF way)) #[] #[])) :
    Calls Try.prog 59 #[vk, .agg #[.int .i64 x, .int .i64 y, .int .i64 r], .pointer (some ⟨T0, 0, none⟩)] w (StepCPost base (keepStep way kept ((x, y), r)) w) := by
  obtain ⟨A, c, rfl, hcl, hm⟩ := h.reads.slice
  unfold maxLen at hm
  have b0 := box_below w #[.int .i64 x, .int .i64 y, .int .i64 r] 38
  have z0 : (w.alloc (.cells #[.int .i64 x, .int .i64 y, .int .i64 r] 38)).cell? ⟨w.heap.size, 0, none⟩ = some (.int .i64 x) := by simp [go_sem]
  have z1 : (w.alloc (.cells #[.int .i64 x, .int .i64 y, .int .i64 r] 38)).cell? ⟨w.heap.size, 1, none⟩ = some (.int .i64 y) := by simp [go_sem]
  have z2 : (w.alloc (.cells #[.int .i64 x, .int .i64 y, .int .i64 r] 38)).cell? ⟨w.heap.size, 2, none⟩ = some (.int .i64 r) := by simp [go_sem]
  obtain ⟨W, hW⟩ : ∃ W, W = w.alloc (.cells #[.int .i64 x, .int .i64 y, .int .i64 r] 38) := ⟨_, rfl⟩
  rw [← hW] at b0 z0 z1 z2
  have hWs : w.heap.size < W.heap.size := by rw [hW]; simp
  have ow := h.below b0
  have t0 := (b0.cell (p := ⟨T0, 0, none⟩) hT).trans cT
  clear h cT
  go_enter Try.func59, Try.ntmps59
  go_wp2_with (first | (rw [← hW]; clear hW) | fail)
  refine (ruleWithin_any x y r way W).mono ?_
  rintro e w1 ⟨Tb, Cb, rfl, hTb, hCb, cT, c0, c1, c2, b1⟩
  have ow1 := ow.below b1
  have bb := below_step b0 b1
  have hcon := ruleContains_any kept _ Tb Cb x y r way w1 ow1.reads hw hc hL hTb hCb cT c0 c1 c2
  have y0 := (b1.cell (p := ⟨w.heap.size, 0, none⟩) hWs).trans z0
  have y1 := (b1.cell (p := ⟨w.heap.size, 1, none⟩) hWs).trans z1
  have y2 := (b1.cell (p := ⟨w.heap.size, 2, none⟩) hWs).trans z2
  have hWs1 := Nat.lt_of_lt_of_le hWs b1.size
  clear cT c0 c1 c2 z0 z1 z2 t0 b0 b1
  rcases ha : kept.any (ruleIn way ((x, y), r)) with _ | _
  · have HK := Lib.hid (keepStep_no ha)
    rw [ha] at hcon
    clear ha
    go_wp2_with fail
    refine hcon.mono ?_
    rintro e w2 ⟨rfl, b2⟩
    have y0 := (b2.cell (p := ⟨w.heap.size, 0, none⟩) hWs1).trans y0
    have y1 := (b2.cell (p := ⟨w.heap.size, 1, none⟩) hWs1).trans y1
    have y2 := (b2.cell (p := ⟨w.heap.size, 2, none⟩) hWs1).trans y2
    have ow2 := ow1.below b2
    have bb2 := (below_step bb b2).mono hbase
    have hsz := bb2.size
    have hb2 : base ≤ w2.heap.size := Nat.le_trans hbase hsz
    have o3 := ow2.below (box_below w2 #[.int .i64 x, .int .i64 y, .int .i64 r] 38)
    go_wp2_with (at_builtin; refine wpList_append_cents (m := [((x, y), r)]) o3 (CReads.one (g := w2.heap.size) (by simp [go_sem]) (by simp [go_sem]) (by simp [go_sem])) (by simp only [List.length_cons, List.length_nil]; omega) (by simp only [World.size_alloc]; omega) rfl (.tmp 12) (.tmp 14) rfl rfl rfl ?_)
    intro v4 w4 o4 g4 hv4
    have bw4 := o3.below_app (bb2.alloc hb2 _) (by simp only [World.size_alloc]; omega) g4
    go_wp2
    go_ret
    exact ⟨_, rfl, by rw [HK.out]; exact o4, bw4⟩
  · have HK := Lib.hid (keepStep_yes ha)
    rw [ha] at hcon
    clear ha
    go_wp2_with fail
    refine hcon.mono ?_
    rintro e w2 ⟨rfl, b2⟩
    have ow2 := ow1.below b2
    go_wp2
    go_ret
    exact ⟨_, rfl, by rw [HK.out]; exact ow2, (below_step bb b2).mono hbase⟩
set_option maxHeartbeats 800000 in
theorem foldC_any (L : List Cn) (vL : Value) (T0 : Nat) (way : Int) (w : World) (k : CReads w w.heap.size vL L) (hl : L.length ≤ 60) (hw : wayOk way = true) (hL : ∀ c ∈ L, CentIn c)
    (hT : T0 < w.heap.size) (cT : w.cell? ⟨T0, 0, none⟩ = some (.func (.func (tellF way)) #[] #[])) :
    Calls Try.prog 58 #[vL, .slice none 0 0, .func (.func 59) #[] #[.pointer (some ⟨T0, 0, none⟩)]] w (GivesC (keepL way L) w) := by
  obtain ⟨A, c, rfl, hcl, hm, hA, hr⟩ := k.is
  unfold maxLen at hm
  by_cases h0 : L.length = 0
  · obtain rfl := List.eq_nil_of_length_eq_zero h0
    go_enter Try.func58, Try.ntmps58
    go_wp2
    refine wp_loop_rounds 1 ?_
    rw [rounds_succ]
    go_wp2
    go_ret
    exact ⟨_, rfl, COwns.nil _ _, Below.refl _ _⟩
  · obtain ⟨b, off, rfl, hb, hcell⟩ := hr (by omega)
    go_enter Try.func58, Try.ntmps58
    go_wp2
    go_loopw [7, 13] (fun o i wr => ∃ j : Nat, j ≤ L.length ∧ i = .int .i64 j ∧ COwns wr w.heap.size o (keepL way (L.take j)) ∧ Below w.heap.size w wr) (fun _ i _ => L.length - (intOf i).toNat)
    case atStart => exact ⟨0, Nat.zero_le _, rfl, by rw [keepL_zero]; exact COwns.nil _ _, Below.refl _ _⟩
    case round =>
      obtain ⟨j, hj, rfl, hown, hbw⟩ := hrel
      have hbs := hbw.size
      by_cases hlt : j < L.length
      · obtain ⟨⟨⟨x, y⟩, r⟩, hxy⟩ : ∃ a, L[j]? = some a := ⟨_, List.getElem?_eq_getElem hlt⟩
        obtain ⟨a0, a1, a2⟩ := hcell j x y r hxy
        have d0 := (hbw.cell (p := ⟨b, off + j * 3, none⟩) hb).trans a0
        have d1 := (hbw.cell (p := ⟨b, off + j * 3 + 1, none⟩) hb).trans a1
        have d2 := (hbw.cell (p := ⟨b, off + j * 3 + 2, none⟩) hb).trans a2
        have hn := hL _ (List.mem_of_getElem? hxy)
        have HK := Lib.hid (keepL_succ (way := way) hxy)
        have hlen := keepL_len way L j
        have hmem : ∀ c ∈ keepL way (L.take j), CentIn c := fun c hc => hL c (keepL_mem way L j c hc)
        have bal := box_below wr #[.int .i64 x, .int .i64 y, .int .i64 r] 38
        have bx := hbw.trans (bal.mono hbs)
        have hs := keepStep_any (keepL way (L.take j)) _ T0 w.heap.size x y r way _ (hown.below bal) bx.size (by omega) hw hn hmem (Nat.lt_of_lt_of_le hT bx.size) ((bx.cell (p := ⟨T0, 0, none⟩) hT).trans cT)
        rw [← HK.out] at hs
        clear hxy a0 a1 a2 hmem cT
        go_wp2_with fail
        refine hs.mono ?_
        rintro e w2 ⟨v2, rfl, o2, b2⟩
        have bx2 := bx.trans b2
        go_wp2
        go_roundw
        case rel => exact ⟨j + 1, by omega, by go_num, o2, bx2⟩
        case measure => simp [intOf]; omega
      · obtain rfl : j = L.length := by omega
        rw [List.take_length] at hown
        go_wp2
        go_ret
        exact ⟨_, rfl, hown, hbw⟩
set_option maxHeartbeats 800000 in
theorem implGreatest_any (ps : List Sp) (v : Value) (way : Int) (w : World) (h : Reads w w.heap.size v ps) :
    Calls Try.prog 22 #[v, .int .i64 way] w (GivesC (greatL ps way) w) := by
  obtain ⟨A, c, rfl, hc, hm⟩ := h.slice
  unfold maxLen at hm
  rcases h2 : way2 way with _ | _
  · have HN := Lib.hid (show greatL ps way = [] by unfold greatL; rw [centres_no (by rw [h2, Bool.and_false])]; rfl)
    have hs := summed_no w h2
    clear h2
    go_enter Try.func22, Try.ntmps22
    go_wp2_with fail
    refine hs.mono ?_
    rintro e w1 ⟨rfl, b1⟩
    have b2 := box_below w1 #[.nilFunc] 65
    go_wp2
    go_ret
    exact ⟨_, rfl, by rw [HN.out]; exact COwns.nil _ _, below_step b1 b2⟩
  · have HF := Lib.hid (fun (L K : List Cn) hm hs hK hKs => great_final (p := ps) (L := L) (K := K) h2 hm hs hK hKs)
    have HW := Lib.hid (way2_ok h2)
    have hcl := centres_len ps way
    have hci := centres_in (p := ps) (way := way)
    have hs := summed_yes w h2
    clear h2
    go_enter Try.func22, Try.ntmps22
    go_wp2_with fail
    refine hs.mono ?_
    rintro e w1 ⟨rfl, b1⟩
    have ba := box_below w1 #[.func (.func (tellF way)) #[] #[]] 65
    obtain ⟨W, hW⟩ : ∃ W, W = w1.alloc (.cells #[.func (.func (tellF way)) #[] #[]] 65) := ⟨_, rfl⟩
    have t0 : W.cell? ⟨w1.heap.size, 0, none⟩ = some (.func (.func (tellF way)) #[] #[]) := by rw [hW]; simp [go_sem]
    have s0 : w1.heap.size < W.heap.size := by rw [hW]; simp
    rw [← hW] at ba
    have b2 := below_step b1 ba
    have hce := implCentres_any ps _ way W (h.kept b2)
    obtain ⟨C, hC⟩ : ∃ C, centresL ps way = C := ⟨_, rfl⟩
    rw [hC] at hcl hci hce
    have HC := Lib.hid hC
    clear hC hs
    go_wp2_with (first | (rw [← hW]; clear hW) | fail)
    refine hce.mono ?_
    rintro e w3 ⟨v3, rfl, o3, b3⟩
    have t0 := (b3.cell (p := ⟨w1.heap.size, 0, none⟩) s0).trans t0
    have b23 := below_step b2 b3
    go_wp2_with fail
    refine (sortGreater_any v3 W.heap.size C w3 o3 b3.size (by omega)).mono ?_
    rintro e w4 ⟨rfl, L, hperm, hsorted, o4, b4⟩
    have t0 := (b4.cell (p := ⟨w1.heap.size, 0, none⟩) s0).trans t0
    have b24 := b23.trans (b4.mono b2.size)
    have hll : L.length ≤ 60 := by rw [hperm.length_eq]; exact hcl
    have hin : ∀ c ∈ L, CentIn c := fun c hc => hci c (hperm.mem_iff.1 hc)
    have s4 : w1.heap.size < w4.heap.size := Nat.lt_of_lt_of_le s0 (Nat.le_trans b3.size b4.size)
    have hkl := keepL_len way L L.length
    rw [List.take_length] at hkl
    go_wp2_with fail
    refine (foldC_any L v3 w1.heap.size way w4 o4.reads hll HW.out hin s4 t0).mono ?_
    rintro e w5 ⟨v5, rfl, o5, b5⟩
    have b25 := below_step b24 b5
    go_wp2_with fail
    refine (sortOrder_any v5 w4.heap.size _ w5 o5 b5.size (by omega)).mono ?_
    rintro e w6 ⟨rfl, K, hperm2, hsorted2, o6, b6⟩
    have b26 := b25.trans (b6.mono b24.size)
    have HE := Lib.hid (HF.out L K (by rw [HC.out]; exact hperm) (hsorted.imp fun e => by rw [ltOf_gf] at e; exact of_decide_eq_false e) hperm2 (hsorted2.imp fun e => by rw [ltOf_co] at e; exact of_decide_eq_false e))
    have o6 := o6.base b24.size
    rw [HE.out] at o6
    clear hsorted hsorted2 hperm hperm2 hin hci
    go_wp2
    go_ret
    exact ⟨_, rfl, o6, b26⟩
end Go.Proofs.Ytdfpgfnfoippmaa
