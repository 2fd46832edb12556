/- The model's DeskRun. No conditions but those typed. -/
import Derived.Test.YtkiidmdgdjphjaaGreatDeskZ
import Derived.Test.YtkiidmdgdjphjaaGreatDeedL
import Derived.Deep.RegionHeld3
import Derived.Deep.CutRange
namespace Go.Proofs.YtkiidmdgdjphjaaGreat
open Go.RowKit Go.Sort

set_option maxRecDepth 100000 in
set_option maxHeartbeats 1600000 in
theorem specRun_no1 (d : Dk) (v vl : Value) (w : World) (h : DeskR w w.heap.size v d) (hd : deskB d = false) : Calls Tryz.prog 14 #[v, vl] w (GivesDeskN ([], []) 0 w) := by
  have hD0 := h
  obtain ⟨nv, pv, rfl, rn, rp⟩ := h
  obtain ⟨An, cn, rfl, _, _⟩ := rn.slice
  obtain ⟨Ap, cp, rfl, _, _⟩ := rp.slice
  obtain ⟨W, hW⟩ : ∃ W, W = (w.alloc (.cells #[.slice An d.1.length cn, .slice Ap d.2.length cp] 26)).alloc (.cells #[.slice none 0 0, .slice none 0 0] 26) := ⟨_, rfl⟩
  have b0 : Below w.heap.size w W := by rw [hW]; exact (box_below w _ _).alloc (by simp) _
  have r0 : W.heap[w.heap.size]? = some (.cells #[.slice An d.1.length cn, .slice Ap d.2.length cp] 26 (0, 0)) := by rw [hW]; exact two0 w _ _
  have r1 : W.heap[w.heap.size + 1]? = some (.cells #[.slice none 0 0, .slice none 0 0] 26 (0, 0)) := by rw [hW]; exact two1 w _ _
  have s0 : W.heap.size = w.heap.size + 2 := by rw [hW]; simp
  obtain ⟨c0, c1⟩ := cells_of_row r0
  have hDk := hD0.kept b0
  go_enter Tryz.func14, Tryz.ntmps14
  go_wp2_with (first | (rw [← hW]; clear hW) | fail)
  refine (specDeskOk_any d _ _ hDk).mono ?_
  rintro e w1 ⟨rfl, b1⟩
  have r1 := (b1.block (w.heap.size + 1) (by omega)).trans r1
  have bb := below_step b0 b1
  have hz1 := b1.size
  obtain ⟨d10, d11⟩ := cells_of_row r1
  have f10 := frozen_of_row w1 _ 0 _ _ r1
  have f11 := frozen_of_row w1 _ 1 _ _ r1
  have b6 := (bb.setCell (p := ⟨w.heap.size + 1, 0, none⟩) (by simp only []; omega) (.slice none 0 0)).setCell (p := ⟨w.heap.size + 1, 1, none⟩) (by simp only []; omega) (.slice none 0 0)
  have hO := DeskO.zero ((w1.setCell ⟨w.heap.size + 1, 0, none⟩ (.slice none 0 0)).setCell ⟨w.heap.size + 1, 1, none⟩ (.slice none 0 0)) w.heap.size ((w1.setCell ⟨w.heap.size + 1, 0, none⟩ (.slice none 0 0)).setCell ⟨w.heap.size + 1, 1, none⟩ (.slice none 0 0)).heap.size b6.size (Nat.le_refl _)
  go_wp2
  exact bodyPost_ret (v := .tuple #[.agg #[.slice none 0 0, .slice none 0 0], .int .i64 0]) (by simp [results, Tryz.results14, go_sem, *]) rfl ⟨_, rfl, hO, b6⟩
set_option maxRecDepth 100000 in
set_option maxHeartbeats 1600000 in
theorem specRun_no2 (d : Dk) (l : List Dd) (v vl : Value) (w : World) (h : DeskR w w.heap.size v d) (hl : CReads w w.heap.size vl l) (hd : deskB d = true) (hn : 40 < l.length) : Calls Tryz.prog 14 #[v, vl] w (GivesDeskN ([], []) 0 w) := by
  obtain ⟨Al, cl, rfl, hl1, hl2⟩ := hl.slice
  unfold maxLen at hl2
  have hn1 : decide ((40 : Int) < (l.length : Int)) = true := decide_eq_true (by omega)
  have hn2 : (40 : Int) < (l.length : Int) := by omega
  have hD0 := h
  obtain ⟨nv, pv, rfl, rn, rp⟩ := h
  obtain ⟨An, cn, rfl, _, _⟩ := rn.slice
  obtain ⟨Ap, cp, rfl, _, _⟩ := rp.slice
  obtain ⟨W, hW⟩ : ∃ W, W = (w.alloc (.cells #[.slice An d.1.length cn, .slice Ap d.2.length cp] 26)).alloc (.cells #[.slice none 0 0, .slice none 0 0] 26) := ⟨_, rfl⟩
  have b0 : Below w.heap.size w W := by rw [hW]; exact (box_below w _ _).alloc (by simp) _
  have r0 : W.heap[w.heap.size]? = some (.cells #[.slice An d.1.length cn, .slice Ap d.2.length cp] 26 (0, 0)) := by rw [hW]; exact two0 w _ _
  have r1 : W.heap[w.heap.size + 1]? = some (.cells #[.slice none 0 0, .slice none 0 0] 26 (0, 0)) := by rw [hW]; exact two1 w _ _
  have s0 : W.heap.size = w.heap.size + 2 := by rw [hW]; simp
  obtain ⟨c0, c1⟩ := cells_of_row r0
  have hDk := hD0.kept b0
  go_enter Tryz.func14, Tryz.ntmps14
  go_wp2_with (first | (rw [← hW]; clear hW) | fail)
  refine (specDeskOk_any d _ _ hDk).mono ?_
  rintro e w1 ⟨rfl, b1⟩
  have r1 := (b1.block (w.heap.size + 1) (by omega)).trans r1
  have bb := below_step b0 b1
  have hz1 := b1.size
  obtain ⟨d10, d11⟩ := cells_of_row r1
  have f10 := frozen_of_row w1 _ 0 _ _ r1
  have f11 := frozen_of_row w1 _ 1 _ _ r1
  have b6 := (bb.setCell (p := ⟨w.heap.size + 1, 0, none⟩) (by simp only []; omega) (.slice none 0 0)).setCell (p := ⟨w.heap.size + 1, 1, none⟩) (by simp only []; omega) (.slice none 0 0)
  have hO := DeskO.zero ((w1.setCell ⟨w.heap.size + 1, 0, none⟩ (.slice none 0 0)).setCell ⟨w.heap.size + 1, 1, none⟩ (.slice none 0 0)) w.heap.size ((w1.setCell ⟨w.heap.size + 1, 0, none⟩ (.slice none 0 0)).setCell ⟨w.heap.size + 1, 1, none⟩ (.slice none 0 0)).heap.size b6.size (Nat.le_refl _)
  go_wp2
  exact bodyPost_ret (v := .tuple #[.agg #[.slice none 0 0, .slice none 0 0], .int .i64 0]) (by simp [results, Tryz.results14, go_sem, *]) rfl ⟨_, rfl, hO, b6⟩
set_option maxRecDepth 100000 in
set_option maxHeartbeats 3200000 in
theorem specRun_yes (d : Dk) (l : List Dd) (v vl : Value) (w : World) (h : DeskR w w.heap.size v d) (hl : CReads w w.heap.size vl l) (hd : deskB d = true) (hn : l.length ≤ 40) : Calls Tryz.prog 14 #[v, vl] w (GivesDeskN (runR d l) (runN d l) w) := by
  obtain ⟨Al, cl, rfl, hl1, hl2, hl3, hl4⟩ := hl.is
  unfold maxLen at hl2
  have hn1 : decide ((40 : Int) < (l.length : Int)) = false := decide_eq_false (by omega)
  have hn2 : ¬ (40 : Int) < (l.length : Int) := by omega
  have hD0 := h
  obtain ⟨nv, pv, rfl, rn, rp⟩ := h
  obtain ⟨An, cn, rfl, _, _⟩ := rn.slice
  obtain ⟨Ap, cp, rfl, _, _⟩ := rp.slice
  obtain ⟨W, hW⟩ : ∃ W, W = (w.alloc (.cells #[.slice An d.1.length cn, .slice Ap d.2.length cp] 26)).alloc (.cells #[.slice none 0 0, .slice none 0 0] 26) := ⟨_, rfl⟩
  have b0 : Below w.heap.size w W := by rw [hW]; exact (box_below w _ _).alloc (by simp) _
  have r0 : W.heap[w.heap.size]? = some (.cells #[.slice An d.1.length cn, .slice Ap d.2.length cp] 26 (0, 0)) := by rw [hW]; exact two0 w _ _
  have r1 : W.heap[w.heap.size + 1]? = some (.cells #[.slice none 0 0, .slice none 0 0] 26 (0, 0)) := by rw [hW]; exact two1 w _ _
  have s0 : W.heap.size = w.heap.size + 2 := by rw [hW]; simp
  obtain ⟨c0, c1⟩ := cells_of_row r0
  have hDk := hD0.kept b0
  obtain ⟨l1, l2, l3⟩ := desk_lens hd
  go_enter Tryz.func14, Tryz.ntmps14
  go_wp2_with (first | (rw [← hW]; clear hW) | fail)
  refine (dokS_is hd hDk).mono ?_
  rintro e w1 ⟨rfl, b1⟩
  have r0 := (b1.block w.heap.size (by omega)).trans r0
  have r1 := (b1.block (w.heap.size + 1) (by omega)).trans r1
  obtain ⟨c0, c1⟩ := cells_of_row r0
  have bb := below_step b0 b1
  have hz1 := b1.size
  have hDk := hDk.kept b1
  go_wp2_with fail
  refine (l12Copy_any d _ _ hDk l1 l2 l3).mono ?_
  rintro e w2 ⟨v2, rfl, hV, b2⟩
  have o2 := hV.o
  clear hV
  have r1 := (b2.block (w.heap.size + 1) (by omega)).trans r1
  have bb := below_step bb b2
  have hz2 := b2.size
  obtain ⟨nx, px, ex, rnx, rpx⟩ := (o2).rd
  subst ex
  obtain ⟨A6, c6, rfl, _, _⟩ := rnx.slice
  obtain ⟨P6, d6, rfl, _, _⟩ := rpx.slice
  clear rnx rpx
  obtain ⟨W6, hW6⟩ : ∃ W, W = (w2).alloc (.cells #[.slice A6 (d).1.length c6, .slice P6 (d).2.length d6] 26) := ⟨_, rfl⟩
  have bx6 : Below (w2).heap.size w2 W6 := by rw [hW6]; exact box_below _ _ _
  have r6 : (W6).heap[(w2).heap.size]? = some (.cells #[.slice A6 (d).1.length c6, .slice P6 (d).2.length d6] 26 (0, 0)) := by rw [hW6]; exact heap_alloc_new _ _
  have s6 : (w2).heap.size + 1 = (W6).heap.size := by rw [hW6]; simp
  have o6 := (o2).below bx6
  have r1 := (bx6.block (w.heap.size + 1) (by omega)).trans r1
  have bb := below_step bb bx6
  obtain ⟨B, hB⟩ : ∃ B, w2.heap.size = B := ⟨_, rfl⟩
  go_wp2_with fail
  rw [← hW6]
  clear hW6
  rw [hB] at r6 s6 o6
  try rw [hB]
  clear rn rp hD0 hDk r0 c0 c1 b1 b0 b2 bx6 o2
  go_loopw [7, 8] (fun c i wr => ∃ (k : Nat) (s1 s2 : Value) (lo hi : Nat), k ≤ l.length ∧ i = .int .i64 k ∧ c = .int .i64 (runN d (l.take k) : Nat) ∧ wr.heap[B]? = some (.cells #[s1, s2] 26 (0, 0)) ∧ DeskO wr lo hi (.agg #[s1, s2]) (runR d (l.take k)) ∧ (w.heap.size + 1 < lo ∧ lo ≤ hi ∧ (B < lo ∨ hi ≤ B)) ∧ wr.heap[w.heap.size + 1]? = some (.cells #[.slice none 0 0, .slice none 0 0] 26 (0, 0)) ∧ w.heap.size + 1 < B ∧ Below w.heap.size w wr) (fun _ i _ => l.length - (intOf i).toNat)
  case atStart => exact ⟨0, _, _, _, _, Nat.zero_le _, rfl, rfl, r6, o6, by omega, r1, by omega, bb⟩
  case round =>
    clear r6 o6 r1 bb
    obtain ⟨k, s1, s2, lo, hi, hk, rfl, rfl, r6, oz, hord, r1, hwB, hbw⟩ := hrel
    obtain ⟨z, hzz⟩ : ∃ z, z = runR d (l.take k) := ⟨_, rfl⟩
    have hzd : deskB z = true := by rw [hzz]; exact desk_runR _ hd
    obtain ⟨N, hN⟩ : ∃ N, N = runN d (l.take k) := ⟨_, rfl⟩
    have hNle : N ≤ 40 := by have := runN_le d (l.take k); rw [List.length_take] at this; omega
    rw [← hzz] at oz
    rw [← hN]
    replace hzz := Lib.hid hzz
    replace hN := Lib.hid hN
    obtain ⟨n1, p1, e1, rn1, rp1⟩ := oz.rd
    cases e1
    obtain ⟨An1, cn1, rfl, _, _⟩ := rn1.slice
    obtain ⟨Ap1, cp1, rfl, _, _⟩ := rp1.slice
    clear rn1 rp1
    have hBl : B < wr.heap.size := (Array.getElem?_eq_some_iff.1 r6).1
    by_cases hlt : k < l.length
    · obtain ⟨⟨⟨kd, x⟩, y⟩, ha⟩ : ∃ a, l[k]? = some a := ⟨_, List.getElem?_eq_getElem hlt⟩
      obtain ⟨g, off, rfl, hg, hcv⟩ := hl4 (by omega)
      have t3 := (hcv _ _ _ _ ha).below hbw hg
      obtain ⟨t0, t1, t2⟩ := t3
      have hm3 : (0 : Int) ≤ (k : Int) := Int.natCast_nonneg _
      have hm4 : (k : Int) < (l.length : Int) := by omega
      have hm5 : (k : Int) < (cl : Int) := by omega
      obtain ⟨R, hR⟩ : ∃ R, doR z ((kd, x), y) = R := ⟨_, rfl⟩
      obtain ⟨OK, hOK⟩ : ∃ bo, doOk z ((kd, x), y) = bo := ⟨_, rfl⟩
      have hR' := (deskDo_yes (a := ((kd, x), y)) hzd).1.trans hR
      have hOK' := (deskDo_yes (a := ((kd, x), y)) hzd).2.trans hOK
      have HT : l.take (k + 1) = l.take k ++ [((kd, x), y)] := by rw [List.take_add_one, ha]; rfl
      have HR : R = runR d (l.take (k + 1)) := by rw [HT, runR_snoc, ← hzz.out, hR]
      have HNN : N + (if OK then 1 else 0) = runN d (l.take (k + 1)) := by rw [HT, runN_snoc, ← hzz.out, hOK, hN.out]
      have HZ : OK = false → R = z := fun e => by rw [← hR]; exact do_not (hOK.trans e)
      replace HR := Lib.hid HR
      replace HNN := Lib.hid HNN
      replace HZ := Lib.hid HZ
      clear HT ha hcv hl4
      have HR' := Lib.hid (And.intro hR' hOK')
      clear hR hOK hR' hOK'
      have hgw : g < wr.heap.size := Nat.lt_of_lt_of_le hg hbw.size
      have zo := oz.rd
      have D0 : Below wr.heap.size wr wr.drew := (Below.refl _ _).drew
      have D0a : Below wr.heap.size wr (wr.alloc (.cells #[.slice none 0 0, .slice none 0 0] 26)).drew := (box_below _ _ _).drew
      have ta0 := (D0.cell (p := ⟨B, 0, none⟩) hBl).trans (cells_of_row r6).1
      have ta1 := (D0.cell (p := ⟨B, 1, none⟩) hBl).trans (cells_of_row r6).2
      have ta2 := (D0.cell (p := ⟨g, off + k * 3, none⟩) hgw).trans t0
      have ta3 := (D0.cell (p := ⟨g, off + k * 3 + 1, none⟩) hgw).trans t1
      have ta4 := (D0.cell (p := ⟨g, off + k * 3 + 2, none⟩) hgw).trans t2
      have tb0 := (D0a.cell (p := ⟨B, 0, none⟩) hBl).trans (cells_of_row r6).1
      have tb1 := (D0a.cell (p := ⟨B, 1, none⟩) hBl).trans (cells_of_row r6).2
      have tb2 := (D0a.cell (p := ⟨g, off + k * 3, none⟩) hgw).trans t0
      have tb3 := (D0a.cell (p := ⟨g, off + k * 3 + 1, none⟩) hgw).trans t1
      have tb4 := (D0a.cell (p := ⟨g, off + k * 3 + 2, none⟩) hgw).trans t2
      have za := zo.kept D0
      have zb := zo.kept D0a
      have rGa : (wr.alloc (.cells #[.slice none 0 0, .slice none 0 0] 26)).drew.heap[wr.heap.size]? = some (.cells #[.slice none 0 0, .slice none 0 0] 26 (0, 0)) := heap_alloc_new wr _
      have lGa : wr.heap.size < (wr.alloc (.cells #[.slice none 0 0, .slice none 0 0] 26)).drew.heap.size := by simp
      have n1 : B ≠ wr.heap.size := by omega
      have n2 := Ne.symm n1
      have n3 : g ≠ wr.heap.size := by omega
      have n4 := Ne.symm n3
      clear t0 t1 t2
      go_upto_region 8 with fail
      go_cut [9, 10] from 22 to 40 (fun s9 s10 wx => ∃ l' h' G A c P b, s9 = .pointer (some ⟨G, 0, none⟩) ∧ s10 = .bool OK ∧ wx.heap[G]? = some (.cells #[.slice A R.1.length c, .slice P R.2.length b] 26 (0, 0)) ∧ DeskO wx l' h' (.agg #[.slice A R.1.length c, .slice P R.2.length b]) R ∧ (wr.heap.size ≤ l' ∧ l' ≤ h' ∧ wr.heap.size ≤ G ∧ (G < l' ∨ h' ≤ G)) ∧ Below wr.heap.size wr wx)
      case first =>
        go_region_held3 (fun w' => w'.cell? ⟨B, 0, none⟩ = some (.slice An1 z.1.length cn1) ∧ w'.cell? ⟨B, 1, none⟩ = some (.slice Ap1 z.2.length cp1) ∧ w'.cell? ⟨g, off + k * 3, none⟩ = some (.int .i64 kd) ∧ w'.cell? ⟨g, off + k * 3 + 1, none⟩ = some (.int .i64 x) ∧ w'.cell? ⟨g, off + k * 3 + 2, none⟩ = some (.int .i64 y)) (first | (refine ⟨?_, ?_, ?_, ?_, ?_⟩ <;> with_reducible assumption) | go_keep)
          (first
            | (go_at_call 7; have cI := specDeskDo_any z kd x y _ wr.drew za; rw [HR'.out.1, HR'.out.2] at cI; (with_reducible refine cI.mono ?_); rintro e wc ⟨vw, rfl, ow, bn⟩; have bX := below_step D0 bn; have hX : wr.heap.size ≤ wr.drew.heap.size := D0.size; have bnn := bn; have ta0 := (bn.cell (p := ⟨B, 0, none⟩) (Nat.lt_of_lt_of_le hBl D0.size)).trans ta0; have ta1 := (bn.cell (p := ⟨B, 1, none⟩) (Nat.lt_of_lt_of_le hBl D0.size)).trans ta1; have ta2 := (bn.cell (p := ⟨g, off + k * 3, none⟩) (Nat.lt_of_lt_of_le hgw D0.size)).trans ta2; have ta3 := (bn.cell (p := ⟨g, off + k * 3 + 1, none⟩) (Nat.lt_of_lt_of_le hgw D0.size)).trans ta3; have ta4 := (bn.cell (p := ⟨g, off + k * 3 + 2, none⟩) (Nat.lt_of_lt_of_le hgw D0.size)).trans ta4; obtain ⟨nx, px, ex, rnx, rpx⟩ := ow.rd; subst ex; obtain ⟨Aw, cw, rfl, _, _⟩ := rnx.slice; obtain ⟨Pw, dw, rfl, _, _⟩ := rpx.slice; clear rnx rpx cI)
            | (go_at_call 7; have cI := specDeskDo_any z kd x y _ (wr.alloc (.cells #[.slice none 0 0, .slice none 0 0] 26)).drew zb; rw [HR'.out.1, HR'.out.2] at cI; (with_reducible refine cI.mono ?_); rintro e wc ⟨vw, rfl, ow, bn⟩; have bX := below_step D0a bn; have hX : wr.heap.size ≤ (wr.alloc (.cells #[.slice none 0 0, .slice none 0 0] 26)).drew.heap.size := D0a.size; have bnn := bn; have ta0 := (bn.cell (p := ⟨B, 0, none⟩) (Nat.lt_of_lt_of_le hBl D0a.size)).trans tb0; have ta1 := (bn.cell (p := ⟨B, 1, none⟩) (Nat.lt_of_lt_of_le hBl D0a.size)).trans tb1; have ta2 := (bn.cell (p := ⟨g, off + k * 3, none⟩) (Nat.lt_of_lt_of_le hgw D0a.size)).trans tb2; have ta3 := (bn.cell (p := ⟨g, off + k * 3 + 1, none⟩) (Nat.lt_of_lt_of_le hgw D0a.size)).trans tb3; have ta4 := (bn.cell (p := ⟨g, off + k * 3 + 2, none⟩) (Nat.lt_of_lt_of_le hgw D0a.size)).trans tb4; obtain ⟨nx, px, ex, rnx, rpx⟩ := ow.rd; subst ex; obtain ⟨Aw, cw, rfl, _, _⟩ := rnx.slice; obtain ⟨Pw, dw, rfl, _, _⟩ := rpx.slice; clear rnx rpx cI; have rG := (bn.block _ lGa).trans rGa; have g0 := (cells_of_row rG).1; have g1 := (cells_of_row rG).2; have fr0 := frozen_of_row wc _ 0 _ _ rG; have fr1 := frozen_of_row wc _ 1 _ _ rG))
        all_goals
          go_wp2_with fail
          go_meet
          case rel =>
            have z2 := bnn.size
            first
              | exact ⟨_, _, _, Aw, cw, Pw, dw, rfl, rfl, heap_alloc_new _ _, ow.below (box_below _ _ _), ⟨hX, z2, (by omega), .inr (Nat.le_refl _)⟩, below_step bX (box_below _ _ _)⟩
              | exact ⟨_, _, wr.heap.size, Aw, cw, Pw, dw, rfl, rfl, (heap_setCell_same _ _ 1 _ _ _ ((heap_setCell_same wc _ 0 _ _ _ rG).trans rfl)).trans rfl, ow.keptBy (by simp [World.setCell]) (fun q h3 _ _ => set2_other (by omega)), ⟨hX, z2, Nat.le_refl _, .inl lGa⟩, (bX.setCell (p := ⟨wr.heap.size, 0, none⟩) (Nat.le_refl _) _).setCell (p := ⟨wr.heap.size, 1, none⟩) (Nat.le_refl _) _⟩
      case rest =>
        obtain ⟨l', h', G, A, c, P, b, rfl, rfl, rG, oR, ho', bX⟩ := hcut
        clear ta0 ta1 ta2 ta3 ta4 tb0 tb1 tb2 tb3 tb4 za zb rGa lGa D0 D0a zo n1 n2 n3 n4
        have hX := bX.size
        have r6 := (bX.block B hBl).trans r6
        have r1 := (bX.block (w.heap.size + 1) (by omega)).trans r1
        have bb := hbw.trans (bX.mono (by have := hbw.size; omega))
        obtain ⟨q0, q1⟩ := cells_of_row r6
        have f0 := frozen_of_row wc _ 0 _ _ r6
        have f1 := frozen_of_row wc _ 1 _ _ r6
        obtain ⟨g0, g1⟩ := cells_of_row rG
        cases OK with
        | true =>
          have bF := (bb.setCell (p := ⟨B, 0, none⟩) (by simp only []; omega) (.slice A R.1.length c)).setCell (p := ⟨B, 1, none⟩) (by simp only []; omega) (.slice P R.2.length b)
          have rF := (heap_setCell_same _ B 1 _ _ (.slice P R.2.length b) ((heap_setCell_same wc B 0 _ _ (.slice A R.1.length c) r6).trans rfl)).trans (show _ = some (Obj.cells #[.slice A R.1.length c, .slice P R.2.length b] 26 (0, 0)) from rfl)
          have oF := oR.keptBy (w' := (wc.setCell ⟨B, 0, none⟩ (.slice A R.1.length c)).setCell ⟨B, 1, none⟩ (.slice P R.2.length b)) (by simp [World.setCell]) (fun q h3 _ _ => set2_other (by omega))
          have r1F := (set2_other (w := wc) (g := B) (k := w.heap.size + 1) (a := .slice A R.1.length c) (b := .slice P R.2.length b) (by omega)).trans r1
          have hR1 := Lib.hid (show ∃ k' s1 s2 lo hi, k' ≤ l.length ∧ Value.int .i64 ((k : Int) + 1) = .int .i64 (k' : Nat) ∧ Value.int .i64 ((N : Int) + 1) = .int .i64 (runN d (l.take k') : Nat) ∧ ((wc.setCell ⟨B, 0, none⟩ (.slice A R.1.length c)).setCell ⟨B, 1, none⟩ (.slice P R.2.length b)).heap[B]? = some (.cells #[s1, s2] 26 (0, 0)) ∧ DeskO ((wc.setCell ⟨B, 0, none⟩ (.slice A R.1.length c)).setCell ⟨B, 1, none⟩ (.slice P R.2.length b)) lo hi (.agg #[s1, s2]) (runR d (l.take k')) ∧ (w.heap.size + 1 < lo ∧ lo ≤ hi ∧ (B < lo ∨ hi ≤ B)) ∧ ((wc.setCell ⟨B, 0, none⟩ (.slice A R.1.length c)).setCell ⟨B, 1, none⟩ (.slice P R.2.length b)).heap[w.heap.size + 1]? = some (.cells #[.slice none 0 0, .slice none 0 0] 26 (0, 0)) ∧ w.heap.size + 1 < B ∧ Below w.heap.size w ((wc.setCell ⟨B, 0, none⟩ (.slice A R.1.length c)).setCell ⟨B, 1, none⟩ (.slice P R.2.length b)) from
            ⟨k + 1, _, _, l', h', hlt, rfl, by rw [← HNN.out]; rfl, rF, by rw [← HR.out]; exact oF, by omega, r1F, hwB, bF⟩)
          clear rF oF r1F bF oR r6 r1 rG
          go_wp2
          go_roundw
          case rel => exact hR1.out
          case measure => simp only [intOf]; omega
        | false =>
          have oF := oz.below bX
          have hR1 := Lib.hid (show ∃ k' s1 s2 lo hi, k' ≤ l.length ∧ Value.int .i64 ((k : Int) + 1) = .int .i64 (k' : Nat) ∧ Value.int .i64 (N : Int) = .int .i64 (runN d (l.take k') : Nat) ∧ wc.heap[B]? = some (.cells #[s1, s2] 26 (0, 0)) ∧ DeskO wc lo hi (.agg #[s1, s2]) (runR d (l.take k')) ∧ (w.heap.size + 1 < lo ∧ lo ≤ hi ∧ (B < lo ∨ hi ≤ B)) ∧ wc.heap[w.heap.size + 1]? = some (.cells #[.slice none 0 0, .slice none 0 0] 26 (0, 0)) ∧ w.heap.size + 1 < B ∧ Below w.heap.size w wc from
            ⟨k + 1, _, _, lo, hi, hlt, rfl, by rw [← HNN.out]; rfl, r6, by rw [← HR.out, HZ.out rfl]; exact oF, hord, r1, hwB, bb⟩)
          clear oF oR r6 r1 rG
          go_wp2
          go_roundw
          case rel => exact hR1.out
          case measure => simp only [intOf]; omega
    · obtain rfl : k = l.length := by omega
      have hRn : z = runR d l := by rw [hzz.out, List.take_length]
      have hNn : N = runN d l := by rw [hN.out, List.take_length]
      replace hRn := Lib.hid hRn
      replace hNn := Lib.hid hNn
      clear hzz hN
      obtain ⟨q0, q1⟩ := cells_of_row r6
      obtain ⟨d10, d11⟩ := cells_of_row r1
      have f10 := frozen_of_row wr _ 0 _ _ r1
      have f11 := frozen_of_row wr _ 1 _ _ r1
      have b6 := (hbw.setCell (p := ⟨w.heap.size + 1, 0, none⟩) (by simp only []; omega) (.slice An1 z.1.length cn1)).setCell (p := ⟨w.heap.size + 1, 1, none⟩) (by simp only []; omega) (.slice Ap1 z.2.length cp1)
      have hO := (oz.wider (Nat.le_refl _) oz.fits (Nat.le_refl _)).boxed (w := w) (r := w.heap.size + 1) (X := .slice An1 z.1.length cn1) (Y := .slice Ap1 z.2.length cp1) (by omega) (by omega)
      go_wp2
      exact bodyPost_ret (v := .tuple #[.agg #[.slice An1 z.1.length cn1, .slice Ap1 z.2.length cp1], .int .i64 (N : Int)]) (by simp [results, Tryz.results14, go_sem, *]) rfl ⟨_, by rw [← hNn.out], by rw [← hRn.out]; exact hO, b6⟩
theorem specDeskRun_any (d : Dk) (l : List Dd) (v vl : Value) (w : World) (h : DeskR w w.heap.size v d) (hl : CReads w w.heap.size vl l) : Calls Tryz.prog 14 #[v, vl] w (GivesDeskN (deskRunR d l) (deskRunN d l) w) := by
  cases hr : runB d l with
  | false =>
    rw [(run_no hr).1, (run_no hr).2]
    cases hd : deskB d with
    | false => exact specRun_no1 d v vl w h hd
    | true =>
      unfold runB at hr
      rw [hd, Bool.true_and] at hr
      exact specRun_no2 d l v vl w h hl hd (by have := of_decide_eq_false hr; omega)
  | true =>
    rw [(run_yes hr).1, (run_yes hr).2]
    exact specRun_yes d l v vl w h hl (run_parts hr).1 (run_parts hr).2
end Go.Proofs.YtkiidmdgdjphjaaGreat
