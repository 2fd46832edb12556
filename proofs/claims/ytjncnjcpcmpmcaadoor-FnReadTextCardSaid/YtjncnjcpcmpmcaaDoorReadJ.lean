/- The program's ReadText: the spots that rows tell, and the text held against theirs. No conditions but those typed: what the library's variables hold ('PowOk', 'ErrOk'). -/
import Derived.Test.YtjncnjcpcmpmcaaDoorReadI
namespace Go.Proofs.YtjncnjcpcmpmcaaDoor
open Go.RowKit Go.Sort

def SpotsPost (g : Nat) (s : Bs) (w : World) (e : Ending) (w' : World) : Prop := w.grownBy w' (some g) ∧ ∃ v' ps ok, e = .returned (.tuple #[v', .bool ok]) ∧ Owns w' w.heap.size v' ps ∧ (ok = true → s ≠ []) ∧ ∀ q, picB q = true → q ≠ [] → textT q = s → ok = true ∧ ps = q
set_option maxRecDepth 100000 in
set_option maxHeartbeats 3200000 in
theorem readSpots_any (g : Nat) (s : Bs) (w : World) (h : ScanAt w g s) (hl : s.length ≤ 1000000000) (he : ErrOk w) : Calls Tryd.prog 45 #[upV g] w (SpotsPost g s w) := by
  have hg := h.lt
  go_enter Tryd.func45, Tryd.ntmps45
  go_wp2_with fail
  refine (upOne_any 44 (by decide) g s w h hl).mono ?_
  rintro e w1 ⟨g1, x, s1, r1, hc1, rfl, sc1⟩
  have he1 := he.grown h g1
  obtain ⟨l1, l2⟩ := cut2_le hc1
  have HC1 := Lib.hid hc1
  clear hc1 h he
  go_wp2_with fail
  refine (upOne_any 58 (by decide) g r1 w1 sc1 (by omega)).mono ?_
  rintro e w2 ⟨g2, y, s2, r2, hc2, rfl, sc2⟩
  have he2 := he1.grown sc1 g2
  have hgr2 := grown_trans g1 g2
  obtain ⟨l3, l4⟩ := cut2_le hc2
  have HC2 := Lib.hid hc2
  clear hc2 he1 g1 g2 sc1
  go_wp2_with fail
  refine (nearSpot_any x y w2 (by omega) (by omega) he2).mono ?_
  rintro e w3 ⟨ax, ay, ok1, rfl, b3, hn1, hn2⟩
  have b4 := b3.alloc b3.size (.cells #[.int .i64 ax, .int .i64 ay] 32)
  have sc4 := sc2.below b4
  have hgr4 := grown_below hgr2 b4
  have hL := heap_alloc_new w3 (.cells #[.int .i64 ax, .int .i64 ay] 32)
  have HN1 := Lib.hid hn1
  have HN2 := Lib.hid hn2
  have hw3 := b3.size
  have hwl := hgr2.size
  clear hn1 hn2 b3 b4 sc2 hgr2 he2
  go_wp2_with fail
  generalize w3.alloc (.cells #[.int .i64 ax, .int .i64 ay] 32) = W4 at *
  obtain ⟨bL, hbL⟩ : ∃ bL, w3.heap.size = bL := ⟨_, rfl⟩
  rw [hbL] at hL
  refine (readRows_any g r2 W4 sc4 (by omega)).mono ?_
  rintro e w5 ⟨g5, v5, ok2, rfl, hok2, o5⟩
  have hgr5 := grown_trans hgr4 g5
  have hLlt : bL < W4.heap.size := (Array.getElem?_eq_some_iff.1 hL).1
  have hL5 := (g5.block bL hLlt (fun e => by have := Option.some.inj e; omega)).trans hL
  have HOK := Lib.hid hok2
  have HNear := Lib.hid (show ∀ q, picB q = true → q ≠ [] → textT q = s → ok1 = true ∧ ok2 = true ∧ ax = (boxL q).1.1 ∧ ay = (boxL q).1.2 ∧ cutB 47 r2 = rowsT q from fun q hq h0 ht => by
    obtain ⟨e1, e2, e3⟩ := text_cut hq h0 ht HC1.out HC2.out
    obtain ⟨k1, k2⟩ := box_in hq h0
    obtain ⟨n1, n2, n3⟩ := HN2.out (boxL q).1.1 (boxL q).1.2 (by rw [e1]; exact atoi_numB (by omega)) (by rw [e2]; exact atoi_numB (by omega)) (by omega)
    refine ⟨n1, ?_, n2, n3, e3⟩
    rw [HOK.out]
    refine decT ?_
    rw [e3]
    exact rowsT_bound hq h0)
  have HNe := Lib.hid (show ok1 = true → s ≠ [] from fun k e => by
    have h1 := (HN1.out k).1
    have : x = [] := by
      rcases HC1.out with ⟨_, e1, _⟩ | ⟨b, _, e1, _⟩
      · rw [e1, e]
      · rw [e] at e1; simp at e1
    rw [this] at h1
    cases h1)
  have HBox := Lib.hid (show ok1 = true → (-30 ≤ ax ∧ ax ≤ 30) ∧ -30 ≤ ay ∧ ay ≤ 30 from fun k => (HN1.out k).2)
  clear HN1 HN2 HC1 HC2 hok2 sc4 hgr4 l1 l2 l3 l4
  cases ok1 with
  | false =>
    go_wp2
    all_goals
      go_ret2
      exact ⟨hgr5, _, [], false, rfl, Owns.nil _ _, fun k => (by cases k), fun q hq h0 ht => absurd (HNear.out q hq h0 ht).1 Bool.false_ne_true⟩
  | true =>
    cases ok2 with
    | false =>
      go_wp2
      all_goals
        go_ret2
        exact ⟨hgr5, _, [], false, rfl, Owns.nil _ _, fun k => (by cases k), fun q hq h0 ht => absurd (HNear.out q hq h0 ht).2.1 Bool.false_ne_true⟩
    | true =>
      obtain ⟨hx0, hy0⟩ := HBox.out rfl
      have hfew := of_decide_eq_true (HOK.out.symm : fewT r2 = true)
      rw [if_pos rfl] at o5
      obtain ⟨R, hR⟩ : ∃ R, cutB 47 r2 = R := ⟨_, rfl⟩
      have hRne : R ≠ [] := by rw [← hR]; exact cutB_ne 47 r2
      rw [hR] at hfew o5 HNear
      obtain ⟨hR61, hRl⟩ := hfew
      have HRl := Lib.hid hRl
      obtain ⟨A5, c5, rfl, hc5, hm5, _⟩ := o5.shape
      rw [strZ_len] at hc5 o5 ⊢
      have hW4 : w.heap.size ≤ W4.heap.size := by omega
      clear hR hRl HOK HBox
      go_wp2_with fail
      refine (reverse_any R _ _ w5 o5 hRne (by omega)).mono ?_
      rintro e w6 ⟨rfl, o6, g6⟩
      have hL6 := (g6.block bL (Nat.lt_of_lt_of_le hLlt g5.size) (fun e => by have := (o5.lt bL e.symm).1; omega)).trans hL5
      have hgr6 := grown_app hgr5 g6 (fun k hk => by have := (o5.lt k hk).1; omega)
      obtain ⟨RR, hRR⟩ : ∃ RR, R.reverse = RR := ⟨_, rfl⟩
      have hlen : RR.length = R.length := by rw [← hRR, List.length_reverse]
      rw [hRR] at o6
      have HRR := Lib.hid hRR
      have HAll := Lib.hid (show ∀ l ∈ RR, l.length ≤ 61 from fun l hl => HRl.out l (by rw [← hRR] at hl; exact List.mem_reverse.1 hl))
      have hm61 : RR.length ≤ 61 := by omega
      rw [← hlen] at o6 hc5 ⊢
      obtain ⟨A6, c6, h6, hc6, hm6, hg6⟩ := o6.shape
      rw [strZ_len] at h6 hc6 hg6
      obtain ⟨gr, hgr, _, hgl⟩ := hg6 (by rw [hlen]; exact List.length_pos_iff.2 hRne)
      cases h6
      subst hgr
      have HW := Lib.hid (fun k (l : Bs) (hk : RR[k]? = some l) => (o6.cell (k := k) (by rw [strZ_len]; exact (List.getElem?_eq_some_iff.1 hk).1)).trans (strZ_at hk))
      have hLl : bL < w6.heap.size := (Array.getElem?_eq_some_iff.1 hL6).1
      obtain ⟨c0, c1⟩ := cells_of_row hL6
      have on := Owns.nil w6 w6.heap.size
      clear hlen hRR hRne hR61 o5 o6 g5 g6 hL hL5 hL6 hLlt hc5 hm5
      unfold maxLen at hm6
      go_wp2
      go_loopw [12, 47] (fun o i wr => ∃ k : Nat, k ≤ RR.length ∧ i = .int .i64 (k : Int) ∧ Owns wr w6.heap.size o (upK ax ay RR k 0) ∧ Below w6.heap.size w6 wr) (fun _ i _ => RR.length - (intOf i).toNat)
      case atStart => exact ⟨0, Nat.zero_le _, rfl, by rw [upK_zero]; exact on, Below.refl _ _⟩
      case round =>
        clear on
        obtain ⟨k, hk, rfl, own, hbw⟩ := hrel
        by_cases hlt : k < RR.length
        · have hd : decide ((k : Int) < (RR.length : Int)) = true := decT (by omega)
          obtain ⟨l, hl⟩ : ∃ l, RR[k]? = some l := ⟨_, List.getElem?_eq_getElem hlt⟩
          have hl61 := HAll.out l (List.mem_of_getElem? hl)
          have dl := (hbw.cell (p := ⟨gr, k, none⟩) hgl).trans (HW.out k l hl)
          have hsl := bs_size l
          have i0 : (0 : Int) ≤ (k : Int) := Int.natCast_nonneg _
          have i1 : (k : Int) < (RR.length : Int) := by omega
          have HL := Lib.hid hl
          clear hl
          generalize wr = wo at *
          go_wp2
          go_loopw [12, 54] (fun o i wr => ∃ j : Nat, j ≤ l.length ∧ i = .int .i64 (j : Int) ∧ Owns wr w6.heap.size o (upK ax ay RR k j) ∧ Below w6.heap.size w6 wr) (fun _ i _ => l.length - (intOf i).toNat)
          case atStart => exact ⟨0, Nat.zero_le _, rfl, own, hbw⟩
          case round =>
            clear own hbw dl
            obtain ⟨j, hj, rfl, ow, hb⟩ := hrel
            obtain ⟨Ao, co, rfl, hco, hmo⟩ := ow.reads.slice
            unfold maxLen at hmo
            have hole := upK_le (x := ax) (y := ay) (k := k) (j := j) HAll.out
            by_cases hjl : j < l.length
            · have hd2 : decide ((j : Int) < (l.length : Int)) = true := decT (by omega)
              obtain ⟨b, hbk⟩ : ∃ b, l[j]? = some b := ⟨_, List.getElem?_eq_getElem hjl⟩
              have HK := Lib.hid (upK_step (x := ax) (y := ay) HL.out hbk)
              have hex := bs_byte hbk
              have hbt : (bs [b]).toList = [b] := ByteArray.toList_mk _
              have j0 : (0 : Int) ≤ (j : Int) := Int.natCast_nonneg _
              have j1 : (j : Int) ≤ (l.length : Int) := by omega
              have j2 : (j : Int) + 1 ≤ (l.length : Int) := by omega
              have j3 : (0 : Int) ≤ (j : Int) + 1 := by omega
              have j4 : ((j : Int) + 1).toNat = j + 1 := by omega
              have j5 : (j : Int) ≤ (j : Int) + 1 := by omega
              have j6 : j ≤ j + 1 := by omega
              have j7 : j + 1 ≤ l.length := by omega
              have d0 := (hb.cell (p := ⟨bL, 0, none⟩) hLl).trans c0
              have d1 := (hb.cell (p := ⟨bL, 1, none⟩) hLl).trans c1
              generalize upK ax ay RR k j = Q at *
              clear hbk
              by_cases h35 : b = 35
              · have hq : ([b] == [(35 : UInt8)]) = true := by rw [h35]; rfl
                rw [if_pos h35] at HK
                clear h35
                go_wp2_with fail
                refine (added_in ax ay (j : Int) (k : Int) wr (by omega) (by omega)).mono ?_
                rintro e w8 ⟨rfl, b8⟩
                have o8 := ow.below b8
                have o9 := o8.below ((Below.refl _ w8).alloc (Nat.le_refl _) (.cells #[.int .i64 (ax + (j : Int)), .int .i64 (ay + (k : Int))] 32))
                have hb8 := hb.trans (b8.mono hb.size)
                have hs8 := hb8.size
                have hb9 := hb8.alloc hs8 (.cells #[.int .i64 (ax + (j : Int)), .int .i64 (ay + (k : Int))] 32)
                clear ow o8 b8
                go_wp2_with (at_builtin; refine wpList_append_spots (qs := [(ax + (j : Int), ay + (k : Int))]) o9 (Reads.one (g := w8.heap.size) (by simp [go_sem]) (by simp [go_sem])) (by simp only [List.length_cons, List.length_nil]; omega) (by simp only [World.size_alloc]; omega) rfl (.tmp 63) (.tmp 69) rfl rfl rfl ?_)
                intro v4 w4 o4 g4 hv4
                have hb4 := o9.below_app hb9 (by simp only [World.size_alloc]; omega) g4
                go_wp2
                go_roundw
                case rel => exact ⟨j + 1, by omega, by go_num, by rw [HK.out]; exact o4, hb4⟩
                case measure => simp [intOf]; omega
              · have hq : ([b] == [(35 : UInt8)]) = false := by rw [beq_eq_false_iff_ne]; intro e; exact h35 (List.cons.inj e).1
                rw [if_neg h35, List.append_nil] at HK
                clear h35
                go_wp2
                go_roundw
                case rel => exact ⟨j + 1, by omega, by go_num, by rw [HK.out]; exact ow, hb⟩
                case measure => simp [intOf]; omega
            · have hd2 : decide ((j : Int) < (l.length : Int)) = false := decF (by omega)
              obtain rfl : j = l.length := by omega
              have HK := Lib.hid (upK_next (x := ax) (y := ay) HL.out)
              go_wp2
              go_roundw
              case rel => exact ⟨k + 1, by omega, by go_num, by rw [← HK.out]; exact ow, hb⟩
              case measure => simp [intOf]; omega
        · have hd : decide ((k : Int) < (RR.length : Int)) = false := decF (by omega)
          obtain rfl : k = RR.length := by omega
          rw [upK_all] at own
          go_wp2
          go_ret2
          exact ⟨grown_below hgr6 hbw, _, _, true, rfl, own.base hgr6.size, (fun _ => HNe.out trivial), fun q hq h0 ht => (by
            obtain ⟨_, _, e1, e2, e3⟩ := HNear.out q hq h0 ht
            refine ⟨rfl, ?_⟩
            rw [← HRR.out, e1, e2, e3]
            exact scanUp_rows hq h0)⟩
theorem textI_lit {p : List Sp} {s : Bs} {v : Value} {w : World} (h : Reads w w.heap.size v p) (hs : textT p = s) (hp : PowOk w) : Calls Tryd.prog 12 #[v] w (Gives (strV s) w) := by
  subst hs; exact implTextT_any p v w h hp
set_option maxRecDepth 100000 in
set_option maxHeartbeats 1600000 in
theorem implRead_any (l : Bs) (w : World) (hl : l.length ≤ 1048577) (hp : PowOk w) (he : ErrOk w) : Calls Tryd.prog 16 #[.string (bs l)] w (Gives2' (readR l) (readOk l) w) := by
  have hlt : (bs l).toList = l := ByteArray.toList_mk l
  by_cases h45 : l = [45]
  · have hq : (l == [(45 : UInt8)]) = true := by rw [h45]; rfl
    obtain ⟨e1, e2⟩ := read_yes (p := []) (s := l) (by decide) (by rw [h45]; rfl)
    rw [e1, e2]
    clear h45 e1 e2
    go_enter Tryd.func16, Tryd.ntmps16
    go_wp2
    go_ret2
    exact ⟨_, rfl, Owns.nil _ _, Below.refl _ _⟩
  · have hq : (l == [(45 : UInt8)]) = false := by rw [beq_eq_false_iff_ne]; exact h45
    have b0 := (Below.refl w.heap.size w).alloc (Nat.le_refl _) (.cells #[.string (bs l)] 61)
    have s0 := scan_new w l
    have e0 := he.below b0
    have H45 := Lib.hid h45
    clear h45
    go_enter Tryd.func16, Tryd.ntmps16
    go_wp2_with fail
    refine (readSpots_any _ l _ s0 (by omega) e0).mono ?_
    rintro e w1 ⟨g1, v1, ps, ok, rfl, o1, hne, hall⟩
    have b1 := below_grown1 b0 g1 (Nat.le_refl _)
    have hp1 := hp.below b1
    have HNe := Lib.hid hne
    have HAll := Lib.hid hall
    have HNil := Lib.hid (show ∀ q, picB q = true → textT q = l → q ≠ [] from fun q _ ht e => H45.out (by rw [← ht, e]; rfl))
    have o1 := o1.base b0.size
    clear hne hall g1 s0 e0 hp b0
    cases ok with
    | false =>
      have HN := Lib.hid (read_no (s := l) (fun q hq ht => absurd (HAll.out q hq (HNil.out q hq ht) ht).1 Bool.false_ne_true))
      go_wp2
      all_goals
        go_ret2
        exact ⟨_, by rw [HN.out.2]; rfl, by rw [HN.out.1]; exact Owns.nil _ _, b1⟩
    | true =>
      obtain ⟨X, hX⟩ : ∃ X, textT ps = X := ⟨_, rfl⟩
      have htx : (bs X).toList = X := ByteArray.toList_mk X
      have ct := Lib.hid (fun W (hW : Below w1.heap.size w1 W) => textI_lit (o1.reads.kept hW) hX (hp1.below hW))
      obtain ⟨A1, c1, rfl, hc1, hm1⟩ := o1.reads.slice
      by_cases hXl : X = l
      · have hpic : picB ps = true := by
          cases h : picB ps with
          | true => rfl
          | false => exact absurd (hXl.symm.trans (hX.symm.trans (textT_no h))) (HNe.out rfl)
        have HN := Lib.hid (read_yes hpic (hX.trans hXl))
        have hxl : (X == l) = true := by rw [hXl]; simp
        clear hX hXl hpic
        go_wp2_with fail
        refine (ct.out _ (Below.refl _ _)).mono ?_
        rintro e w2 ⟨rfl, b2⟩
        go_wp2
        go_ret2
        exact ⟨_, by rw [HN.out.2]; rfl, by rw [HN.out.1]; exact o1.below b2, below_step b1 b2⟩
      · have HN := Lib.hid (read_no (s := l) (fun q hq ht => hXl (by rw [← hX, (HAll.out q hq (HNil.out q hq ht) ht).2]; exact ht)))
        have hxl : (X == l) = false := by rw [beq_eq_false_iff_ne]; exact hXl
        clear hX hXl
        go_wp2_with fail
        refine (ct.out _ (Below.refl _ _)).mono ?_
        rintro e w2 ⟨rfl, b2⟩
        go_wp2
        all_goals
          go_ret2
          exact ⟨_, by rw [HN.out.2]; rfl, by rw [HN.out.1]; exact Owns.nil _ _, below_step b1 b2⟩
end Go.Proofs.YtjncnjcpcmpmcaaDoor
