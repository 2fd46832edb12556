/- The draw of a desk: the walk. No conditions but those typed. -/
import Derived.Test.YtkiidmdgdjphjaaGreatDrawK
import Derived.Deep.RegionHeld3
import Derived.Deep.CutRange
namespace Go.Proofs.YtkiidmdgdjphjaaGreat
open Go.RowKit Go.Sort

set_option maxRecDepth 100000 in
set_option maxHeartbeats 6400000 in
theorem desk_any (g n c p : Nat) (A : Option Addr) (N : Int) (w : World) (hr : Rd w g A n c p) (h1 : 0 ≤ N) (h2 : N ≤ 1000) (hp : p ≤ 50000) :
    Calls Tryz.prog 18 #[.pointer (some ⟨g, 0, none⟩), .int .i64 N] w fun e w' => ∃ v d q lo hi, e = .returned v ∧ DDr w w' lo hi v d ∧ Rd w' g A n c q ∧ q ≤ p + 200 ∧ w.grownBy w' (some g) := by
  have hg := hr.lt
  obtain ⟨W, hW⟩ : ∃ W, W = w.alloc (.cells #[.slice none 0 0, .slice none 0 0] 26) := ⟨_, rfl⟩
  have rW : W.heap[w.heap.size]? = some (.cells #[.slice none 0 0, .slice none 0 0] 26 (0, 0)) := by rw [hW]; exact heap_alloc_new w _
  have r0 : Rd W g A n c p := by rw [hW]; exact hr.al _
  have g0 : w.grownBy W (some g) := by rw [hW]; exact grown_al ⟨rfl, rfl, rfl, Nat.le_refl _, fun _ _ _ => rfl⟩ _
  have sW : W.heap.size = w.heap.size + 1 := by rw [hW]; simp
  clear hr
  go_enter Tryz.func18, Tryz.ntmps18
  go_wp2_with (first | (rw [← hW]; clear hW) | fail)
  refine (ring_any g n c p A 0 _ r0 (by omega) (by omega) (by omega)).mono ?_
  rintro e w1 ⟨v1, ps, q1, rfl, I, hl1, hq1⟩
  have o1 := I.own
  have r1 := I.rd
  have g1 := I.grown
  have z1 := g1.size
  clear I
  go_wp2_with fail
  refine (specDeskNewP_any ps _ w1 o1.reads).mono ?_
  rintro e w2 ⟨n2, rfl, o2, b2⟩
  have z2 := b2.size
  obtain ⟨hD, hD2⟩ := desk_new ps
  obtain ⟨d0, hd0⟩ : ∃ d0, deskNewR ps = d0 := ⟨_, rfl⟩
  rw [hd0] at o2 hD hD2
  have oV := newV o2 hD2
  obtain ⟨nx, px, ex, rnx, rpx⟩ := o2.rd
  cases ex
  obtain ⟨A2, c2, rfl, _, _⟩ := rnx.slice
  clear rnx rpx o2
  obtain ⟨W3, hW3⟩ : ∃ W3, W3 = w2.alloc (.cells #[.slice A2 d0.1.length c2, .slice none 0 0] 26) := ⟨_, rfl⟩
  have b3 : Below w2.heap.size w2 W3 := by rw [hW3]; exact box_below _ _ _
  have J3 : KSt w W3 g n c A q1 w2.heap.size w1.heap.size w2.heap.size (.slice A2 d0.1.length c2) (.slice none 0 0) d0 := by
    have bb := below_step b2 b3
    refine ⟨r1.below bb, grown_below (grown_trans g0 g1) bb, ((bb.block _ (by omega)).trans (g1.block _ (by omega) (fun e => by injection e with e; omega))).trans rW, by rw [hW3]; exact heap_alloc_new w2 _, oV.below b3, by omega⟩
  have hl3 : d0.2.length = 0 := by rw [hD2]; rfl
  obtain ⟨B, hB⟩ : ∃ B, w2.heap.size = B := ⟨_, rfl⟩
  rw [hB] at J3
  replace hB := Lib.hid hB
  clear r0 g0 rW r1 g1 o1 oV b2 b3 hd0 hD2
  replace sW := Lib.hid sW
  have H3 := Lib.hid (And.intro hD hl3)
  clear hD hl3
  go_wp2_with (first | (rw [← hW3]; clear hW3) | fail)
  try rw [hB.out]
  refine (pick_any g n c q1 A 6 _ J3.rd (by omega) (by omega) (by omega)).mono ?_
  rintro e w4 ⟨z4, rfl, z4a, z4b, r4, g4⟩
  have J4 := J3.pick r4 g4
  obtain ⟨k4, rfl⟩ := Int.eq_ofNat_of_zero_le z4a
  clear J3 r4 g4
  go_wp2
  go_loopw [7] (fun i wr => ∃ (k q lo hi : Nat) (s1 s2 : Value) (d : Dk), i = .int .i64 (k : Int) ∧ k ≤ 5 ∧ KSt w wr g n c A q B lo hi s1 s2 d ∧ deskB d = true ∧ d.2.length + k ≤ 5 ∧ q + 8 * k ≤ p + 180) (fun i _ => (intOf i).toNat)
  case atStart => exact ⟨k4, q1 + 1, _, _, _, _, d0, rfl, by omega, J4, H3.out.1, by have := H3.out.2; omega, by omega⟩
  case round =>
    clear J4 z4a z4b
    obtain ⟨k, q, lo, hi, s1, s2, d, rfl, hk, J, hD, hlk, hq⟩ := hrel
    have few := J.ord
    have hBl := J.lt
    obtain ⟨n1, p1, e1, rn1, rp1⟩ := J.own.o.rd
    cases e1
    obtain ⟨An1, cn1, rfl, _, _⟩ := rn1.slice
    obtain ⟨Ap1, cp1, rfl, _, _⟩ := rp1.slice
    clear rn1 rp1
    replace hlk := Lib.hid hlk
    by_cases hk0 : 0 < k
    · have hd : decide ((0 : Int) < (k : Int)) = true := decide_eq_true (by omega)
      have hki : (0 : Int) < (k : Int) := by omega
      have J0 := J.drew
      have J0a := (J.al (.cells #[.slice none 0 0, .slice none 0 0] 26)).drew
      have ta0 := J0.cells.1
      have ta1 := J0.cells.2
      have tb0 := J0a.cells.1
      have tb1 := J0a.cells.2
      have hl60 : d.1.length ≤ 100000 := by have := (desk_lens61 hD).1; omega
      have hfit := J.own.o.fits
      have rGa : (wr.alloc (.cells #[.slice none 0 0, .slice none 0 0] 26)).drew.heap[wr.heap.size]? = some (.cells #[.slice none 0 0, .slice none 0 0] 26 (0, 0)) := heap_alloc_new wr _
      have lGa : wr.heap.size < (wr.alloc (.cells #[.slice none 0 0, .slice none 0 0] 26)).drew.heap.size := by simp
      have n1 : B ≠ wr.heap.size := by omega
      have n2 := Ne.symm n1
      have hgr := J.rd.lt
      go_wp2_with fail
      go_upto_region 5 with fail
      go_cut [8, 9] from 18 to 32 (fun s8 s9 wx => ∃ (q' l h G : Nat) (A' P : Option Addr) (ca cb : Nat) (R : Dk) (OK : Bool), s8 = .pointer (some ⟨G, 0, none⟩) ∧ s9 = .bool OK ∧ wx.heap[G]? = some (.cells #[.slice A' R.1.length ca, .slice P R.2.length cb] 26 (0, 0)) ∧ DeskQ wx l h (.agg #[.slice A' R.1.length ca, .slice P R.2.length cb]) R ∧ (wr.heap.size ≤ l ∧ l ≤ h ∧ wr.heap.size ≤ G) ∧ KSt w wx g n c A q' B lo hi (.slice An1 d.1.length cn1) (.slice Ap1 d.2.length cp1) d ∧ q' ≤ q + 8 ∧ deskB R = true ∧ R.2.length ≤ d.2.length + 1)
      case first =>
        go_region_held3 (fun w' => w'.cell? ⟨B, 0, none⟩ = some (.slice An1 d.1.length cn1) ∧ w'.cell? ⟨B, 1, none⟩ = some (.slice Ap1 d.2.length cp1)) (first | (refine ⟨?_, ?_⟩ <;> with_reducible assumption) | go_keep)
          (first
            | (go_at_call 19; (with_reducible refine (deed_any g n c q A d.1 _ wr.drew J0.rd J0.now hl60 (by omega)).mono ?_); rintro e wa ⟨kd, x, y, qa, rfl, ra, hqa, ga⟩; have J1 := J0.pick ra ga; have ta0 := J1.cells.1; have ta1 := J1.cells.2; have J1a := J1.al (.cells #[.slice none 0 0, .slice none 0 0] 26); have tc0 := J1a.cells.1; have tc1 := J1a.cells.2; have mG : wr.heap.size ≤ wa.heap.size := ga.size; have n3 : B ≠ wa.heap.size := (by omega); have n4 := Ne.symm n3)
            | (go_at_call 19; (with_reducible refine (deed_any g n c q A d.1 _ (wr.alloc (.cells #[.slice none 0 0, .slice none 0 0] 26)).drew J0a.rd J0a.now hl60 (by omega)).mono ?_); rintro e wa ⟨kd, x, y, qa, rfl, ra, hqa, ga⟩; have J1 := J0a.pick ra ga; have ta0 := J1.cells.1; have ta1 := J1.cells.2; have mG : wr.heap.size ≤ wa.heap.size := Nat.le_trans (Nat.le_of_lt lGa) ga.size; have n3 : B ≠ wa.heap.size := (by omega); have n4 := Ne.symm n3; have rG := (ga.block _ lGa (fun e => (by injection e with e; omega))).trans rGa; have gG := Nat.lt_of_lt_of_le lGa ga.size)
            | (go_at_call 7; (with_reducible refine (specDeskDoQ_any d kd x y _ wa J1.own.o.rd).mono ?_); rintro e wb ⟨vw, rfl, ow, bn⟩; have J2 := J1.below bn; have J3 := J1; have bnn := bn; have ta0 := J2.cells.1; have ta1 := J2.cells.2; obtain ⟨nx, px, ex, rnx, rpx⟩ := ow.1.rd; subst ex; obtain ⟨Aw, cw, rfl, _, _⟩ := rnx.slice; obtain ⟨Pw, dw, rfl, _, _⟩ := rpx.slice; clear rnx rpx; (try have rG := (bn.block _ gG).trans rG); (try have g0 := (cells_of_row rG).1); (try have g1 := (cells_of_row rG).2); (try have fr0 := frozen_of_row wb _ 0 _ _ rG); (try have fr1 := frozen_of_row wb _ 1 _ _ rG))
            | (go_at_call 7; (with_reducible refine (specDeskDoQ_any d kd x y _ (wa.alloc (.cells #[.slice none 0 0, .slice none 0 0] 26)) J1a.own.o.rd).mono ?_); rintro e wb ⟨vw, rfl, ow, bn⟩; have J2 := J1a.below bn; have J3 := J1a; have bnn := bn; have ta0 := J2.cells.1; have ta1 := J2.cells.2; obtain ⟨nx, px, ex, rnx, rpx⟩ := ow.1.rd; subst ex; obtain ⟨Aw, cw, rfl, _, _⟩ := rnx.slice; obtain ⟨Pw, dw, rfl, _, _⟩ := rpx.slice; clear rnx rpx; have rG := (bn.block wa.heap.size (by simp)).trans (heap_alloc_new wa _); have gG : wa.heap.size < (wa.alloc (.cells #[.slice none 0 0, .slice none 0 0] 26)).heap.size := (by simp); have g0 := (cells_of_row rG).1; have g1 := (cells_of_row rG).2; have fr0 := frozen_of_row wb _ 0 _ _ rG; have fr1 := frozen_of_row wb _ 1 _ _ rG))
        all_goals
          have hRd := desk_doR ((kd, x), y) hD
          have hRl := do_more d ((kd, x), y)
          rw [← (deskDo_yes hD).1] at hRd hRl
          go_wp2_with fail
          go_meet
          case rel =>
            have z2 := bnn.size
            first
              | exact ⟨qa, _, _, _, Aw, Pw, cw, dw, _, _, rfl, rfl, heap_alloc_new _ _, ⟨ow.1.below (box_below _ _ _), fun hc => (ow.2 hc).below (box_below _ _ _)⟩, ⟨(by first | omega | (simp; omega)), z2, (by first | omega | (simp; omega))⟩, J2.below (box_below _ _ _), hqa, hRd, hRl⟩
              | exact ⟨qa, _, _, _, Aw, Pw, cw, dw, _, _, rfl, rfl, (heap_setCell_same _ _ 1 _ _ _ ((heap_setCell_same wb _ 0 _ _ _ rG).trans rfl)).trans rfl, ⟨ow.1.keptBy (by simp [World.setCell]) (fun q h3 _ _ => set2_other (by omega)), fun hc => (ow.2 hc).keptBy (by simp [World.setCell]) (fun q h3 _ _ => set2_other (by omega))⟩, ⟨(by first | omega | (simp; omega)), z2, (by first | omega | (simp; omega))⟩, J2.aside (by omega) (by omega), hqa, hRd, hRl⟩
      case rest =>
        obtain ⟨q', l, h, G, A', P, ca, cb, R, OK, rfl, rfl, rG, oQ, hlG, J', hq', hR, hRl⟩ := hcut
        clear J0 J0a ta0 ta1 tb0 tb1 rGa lGa n1 n2 hgr J
        obtain ⟨tb0, tb1⟩ := J'.cells
        have fb0 := frozen_of_row wc _ 0 _ _ J'.box
        have fb1 := frozen_of_row wc _ 1 _ _ J'.box
        obtain ⟨tg0, tg1⟩ := cells_of_row rG
        have nGB : G ≠ B := by omega
        have nBG : B ≠ G := by omega
        have hlk2 := hlk.out
        cases OK with
        | true =>
          have JP := J'.put (oQ.2 (by omega)) (by omega)
          go_wp2
          go_roundw
          case rel => exact ⟨k - 1, q', l, h, _, _, R, by go_num, by omega, JP, hR, by omega, by omega⟩
          case measure => simp [intOf]; omega
        | false =>
          go_wp2
          go_roundw
          case rel => exact ⟨k - 1, q', lo, hi, _, _, d, by go_num, by omega, J', hD, by omega, by omega⟩
          case measure => simp [intOf]; omega
    · have hd : decide ((0 : Int) < (k : Int)) = false := decide_eq_false (by omega)
      have hd5 : d.2.length ≤ 5 := by have := hlk.out; omega
      have hq2 : q ≤ p + 180 := by omega
      obtain rfl : k = 0 := by omega
      clear hlk hk hk0 hq hd
      go_wp2_with fail
      refine (odd_any g n c q A N _ J.rd h1 h2 (by omega)).mono ?_
      rintro e w8 ⟨zo, q8, rfl, hq8, r8, g8⟩
      have J8 := J.pick r8 g8
      have few8 := J8.ord
      clear J r8 g8
      replace hd5 := Lib.hid hd5
      cases zo with
      | false =>
        obtain ⟨tb0, tb1⟩ := J8.cells
        obtain ⟨d20, d21⟩ := cells_of_row J8.row
        have f20 := frozen_of_row w8 _ 0 _ _ J8.row
        have f21 := frozen_of_row w8 _ 1 _ _ J8.row
        have n1 : B ≠ w.heap.size := by omega
        have n2 := Ne.symm n1
        obtain ⟨D, RD, GD⟩ := J8.out hD (by have := hd5.out; omega)
        go_wp2
        exact bodyPost_ret (v := .agg #[.slice An1 d.1.length cn1, .slice Ap1 d.2.length cp1]) (by simp [results, Tryz.results18, go_sem, *]) rfl ⟨_, _, q8, lo, hi, rfl, D, RD, by omega, GD⟩
      | true =>
        go_wp2_with fail
        refine (pick_any g n c q8 A 2 _ J8.rd (by omega) (by omega) (by omega)).mono ?_
        rintro e w9 ⟨z9, rfl, z9a, z9b, r9, g9⟩
        have J9 := J8.pick r9 g9
        obtain ⟨tb0, tb1⟩ := J9.cells
        have fb0 := frozen_of_row w9 _ 0 _ _ J9.box
        have fb1 := frozen_of_row w9 _ 1 _ _ J9.box
        have l9 := J9.lt
        obtain ⟨d20, d21⟩ := cells_of_row J9.row
        have f20 := frozen_of_row w9 _ 0 _ _ J9.row
        have f21 := frozen_of_row w9 _ 1 _ _ J9.row
        have n1 : B ≠ w.heap.size := by omega
        have n2 := Ne.symm n1
        clear J8 r9 g9
        by_cases hz : z9 = 0
        · have hzb : (z9 == 0) = true := by rw [beq_iff_eq]; exact hz
          clear hz
          obtain ⟨D, RD, GD⟩ := J9.newNow hD (by have := hd5.out; omega) rfl
          have bA := box_below w9 #[.int .i64 31, .int .i64 0] 53
          have JA := J9.below bA
          obtain ⟨Y, hY⟩ : ∃ Y, Y = w9.alloc (.cells #[.int .i64 31, .int .i64 0] 53) := ⟨_, rfl⟩
          rw [← hY] at D RD GD JA
          clear bA tb0 tb1 fb0 fb1 d20 d21 f20 f21
          obtain ⟨tb0, tb1⟩ := JA.cells
          have fb0 := frozen_of_row Y _ 0 _ _ JA.box
          have fb1 := frozen_of_row Y _ 1 _ _ JA.box
          obtain ⟨d20, d21⟩ := cells_of_row JA.row
          have f20 := frozen_of_row Y _ 0 _ _ JA.row
          have f21 := frozen_of_row Y _ 1 _ _ JA.row
          go_wp2_with (first | (rw [← hY]; clear hY) | fail)
          exact bodyPost_ret (v := .agg #[.slice (some ⟨w9.heap.size, 0, none⟩) 1 1, .slice Ap1 d.2.length cp1]) (by simp [results, Tryz.results18, go_sem, *]) rfl ⟨_, _, _, _, _, rfl, D, RD, by omega, GD⟩
        · have hzb : (z9 == 0) = false := beq_eq_false_iff_ne.2 hz
          clear hz
          obtain ⟨vs, ⟨hv1, hv2⟩, hI, hf⟩ := J9.vals
          have bA := box_below w9 #[.int .i64 1, .int .i64 0, .int .i64 0, .int .i64 0] 53
          have zA := World.size_alloc w9 (.cells #[.int .i64 1, .int .i64 0, .int .i64 0, .int .i64 0] 53)
          obtain ⟨Y1, hY1⟩ : ∃ Y1, Y1 = w9.alloc (.cells #[.int .i64 1, .int .i64 0, .int .i64 0, .int .i64 0] 53) := ⟨_, rfl⟩
          have hu : Owns Y1 w9.heap.size (.slice (some ⟨w9.heap.size, 0, none⟩) 2 2) [(1, 0), (0, 0)] := by rw [hY1]; exact World.ownsRow_lit w9 #[.int .i64 1, .int .i64 0, .int .i64 0, .int .i64 0] 2 (Nat.le_refl _) (by simp [maxLen]) rfl
          rw [← hY1] at bA zA
          obtain ⟨Y2, hY2⟩ : ∃ Y2, Y2 = Y1.alloc (.cells #[.slice (some ⟨w9.heap.size, 0, none⟩) 2 2] 23) := ⟨_, rfl⟩
          have bB : Below Y1.heap.size Y1 Y2 := by rw [hY2]; exact box_below _ _ _
          have e0 : Y2.cell? ⟨Y1.heap.size, 0, none⟩ = some (.slice (some ⟨w9.heap.size, 0, none⟩) 2 2) := by rw [hY2]; exact one_at' _ _ _
          have bY := below_step bA bB
          have hu2 := hu.below bB
          have hvY := hv1.below bY
          have rB := (J9.below bY).box
          have zY := bY.size
          have zB := bB.size
          have hvl2 : vs.length = d.2.length := by have := hI.len; simpa using this
          have few9 := J9.ord
          obtain ⟨tb0, tb1⟩ := cells_of_row rB
          have hvl3 : vs.length ≤ 4000000000000 := by have := hd5.out; omega
          have hlo : lo ≤ Y2.heap.size := by omega
          clear hu bA bB hv1 fb0 fb1 d20 d21 f20 f21 zA hvl2
          go_wp2_with (first | (rw [← hY1]; clear hY1) | (rw [← hY2]; clear hY2) | (at_builtin; refine wpList_append_Part hvY e0 rfl hvl3 hlo rfl (.tmp 43) (.tmp 47) rfl rfl rfl ?_))
          intro v5 w5 o5 g5 hv5
          have z5 := g5.size
          have r5 := (g5.block B (by omega) (fun e => by have := hv2 _ e.symm; have := (hvY.lt _ e.symm).1; omega)).trans rB
          obtain ⟨t50, t51⟩ := cells_of_row r5
          have fb0 := frozen_of_row w5 _ 0 _ _ r5
          have fb1 := frozen_of_row w5 _ 1 _ _ r5
          have rR := (g5.block w.heap.size (by omega) (fun e => by have := (hvY.lt _ e.symm).1; omega)).trans (J9.below bY).row
          obtain ⟨d50, d51⟩ := cells_of_row rR
          have f20 := frozen_of_row w5 _ 0 _ _ rR
          have f21 := frozen_of_row w5 _ 1 _ _ rR
          obtain ⟨D, RD, GD⟩ := J9.morePast hD (by have := hd5.out; omega) hI hv2 hvY bY hu2 (by simp) o5 g5 hv5 rfl
          clear tb0 tb1
          obtain ⟨A5, c5, e5, _, _, _⟩ := o5.shape
          generalize (vs ++ [Value.slice (some ⟨w9.heap.size, 0, none⟩) 2 2]).length = L5 at e5
          clear o5 g5 hv5
          subst e5
          go_wp2
          exact bodyPost_ret (v := .agg #[.slice An1 d.1.length cn1, .slice A5 L5 c5]) (by simp [results, Tryz.results18, go_sem, *]) rfl ⟨_, _, _, _, _, rfl, D, RD, by omega, GD⟩
end Go.Proofs.YtkiidmdgdjphjaaGreat
