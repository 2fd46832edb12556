/-
  Proved: the law of DeskDo (FnDeskDo) returns true for every code, and the code reads afterwards as it read before. No conditions.
-/
import Derived.Test.YtkiidmdgdjphjaaGreatDeskE
import Derived.Test.YtkiidmdgdjphjaaGreatDeskZ
import Derived.Test.YtkiidmdgdjphjaaGreatDeskG
import Derived.Test.YtkiidmdgdjphjaaGreatDrawDo
namespace Go.Proofs.YtkiidmdgdjphjaaGreat.fnDeskDo
open Go.ChangeShapes Go.WideShapes Go.ChangeAt Go.RowKit

theorem within_is {b : Bool} {p q : List Sp} {v v' : Value} {w : World} (hk : withinB p q = b) (h : Reads w w.heap.size v p) (h' : Reads w w.heap.size v' q) : Calls Tryz.prog 11 #[v, v'] w (Gives (.bool b) w) := by
  subst hk; exact implWithin_any p q v v' w h h'
theorem kind_in {d : Dk} {k x y : Int} (h : deskDoOk d ((k, x), y) = true) : deskB d = true ∧ doOk d ((k, x), y) = true := by
  unfold deskDoOk at h
  rwa [Bool.and_eq_true] at h
set_option maxRecDepth 100000 in
set_option maxHeartbeats 6400000 in
theorem walk (A : Option Addr) (n c : Nat) (w : World) (hb : Bytes w w.heap.size A n) (hn : n ≤ c) (hc : c ≤ 9223372036854775807) :
    Calls Tryz.prog 3 #[.slice A n c] w (Gives (.bool true) w) := by
  by_cases hbig : 1048576 < n
  · go_enter Tryz.func3, Tryz.ntmps3
    go_wp2
    go_ret
    exact ⟨rfl, Below.refl _ _⟩
  · go_enter Tryz.func3, Tryz.ntmps3
    go_wp2_with fail
    refine (drawDo_any A n c _ hb hn hc).mono ?_
    rintro e w1 ⟨v, d, lo, hi, k, x, y, rfl, oD, bb⟩
    have rD := oD.rd
    obtain ⟨n2, p2, e2, rn, rp⟩ := oD.rd
    subst e2
    obtain ⟨An, cn, rfl, _, _⟩ := rn.slice
    obtain ⟨Ap, cp, rfl, _, _⟩ := rp.slice
    clear rn rp oD hb hn hc
    obtain ⟨W, hW⟩ : ∃ W, W = (w1.alloc (.cells #[.slice An d.1.length cn, .slice Ap d.2.length cp] 26)).alloc (.cells #[.int .i64 k, .int .i64 x, .int .i64 y] 28) := ⟨_, rfl⟩
    have bW : Below w1.heap.size w1 W := by rw [hW]; exact (box_below w1 _ _).alloc (by simp) _
    have HD : Held W w1.heap.size (.slice An d.1.length cn) (.slice Ap d.2.length cp) d := ⟨by rw [hW]; exact two0 w1 _ _, rD.kept bW⟩
    have HK : Kept3 W (w1.heap.size + 1) k x y := ⟨by rw [hW]; exact two1 w1 _ _⟩
    replace bb := below_step bb bW
    clear bW rD
    have a0 := HD.c0
    have a1 := HD.c1
    have k0 := (cells3_of HK.row).1
    have k1 := (cells3_of HK.row).2.1
    have k2 := (cells3_of HK.row).2.2
    obtain ⟨R, hR⟩ : ∃ R, deskDoR d ((k, x), y) = R := ⟨_, rfl⟩
    rcases hO : deskDoOk d ((k, x), y) with _ | _
    all_goals
      go_wp2_with (first | (rw [← hW]; clear hW) | fail)
      have cI := implDeskDo_any d k x y _ W HD.rd
      rw [hR, hO] at cI
      refine cI.mono ?_
      rintro e w2 ⟨vg, rfl, og, b2⟩
      clear cI
      replace bb := below_step bb b2
      replace HD := HD.below b2
      replace HK := HK.below b2
      clear a0 a1 k0 k1 k2
      have a0 := HD.c0
      have a1 := HD.c1
      have k0 := (cells3_of HK.row).1
      have k1 := (cells3_of HK.row).2.1
      have k2 := (cells3_of HK.row).2.2
      obtain ⟨nx, px, ex, rnx, rpx⟩ := (og).rd
      subst ex
      obtain ⟨A5, c5, rfl, _, _⟩ := rnx.slice
      obtain ⟨P5, d5, rfl, _, _⟩ := rpx.slice
      clear rnx rpx
      obtain ⟨W5, hW5⟩ : ∃ W, W = (w2).alloc (.cells #[.slice A5 (R).1.length c5, .slice P5 (R).2.length d5] 26) := ⟨_, rfl⟩
      have bx5 : Below (w2).heap.size w2 W5 := by rw [hW5]; exact box_below _ _ _
      have r5 : (W5).heap[(w2).heap.size]? = some (.cells #[.slice A5 (R).1.length c5, .slice P5 (R).2.length d5] 26 (0, 0)) := by rw [hW5]; exact heap_alloc_new _ _
      have s5 : (w2).heap.size + 1 = (W5).heap.size := by rw [hW5]; simp
      have o5 := (og).below bx5
      have HX : Held W5 w2.heap.size _ _ R := ⟨r5, o5.rd⟩
      replace bb := below_step bb bx5
      replace HD := HD.below bx5
      replace HK := HK.below bx5
      clear a0 a1 k0 k1 k2
      have a0 := HD.c0
      have a1 := HD.c1
      have k0 := (cells3_of HK.row).1
      have k1 := (cells3_of HK.row).2.1
      have k2 := (cells3_of HK.row).2.2
      have x0 := HX.c0
      have x1 := HX.c1
      clear o5 r5 og s5
      go_wp2_with (first | (rw [← hW5]; clear hW5) | fail)
      have cS := specDeskDo_any d k x y _ W5 HD.rd
      rw [hR, hO] at cS
      refine cS.mono ?_
      rintro e w3 ⟨vw, rfl, ow, b3⟩
      clear cS
      replace bb := below_step bb b3
      replace HD := HD.below b3
      replace HK := HK.below b3
      clear a0 a1 k0 k1 k2
      have a0 := HD.c0
      have a1 := HD.c1
      have k0 := (cells3_of HK.row).1
      have k1 := (cells3_of HK.row).2.1
      have k2 := (cells3_of HK.row).2.2
      replace HX := HX.below b3
      clear x0 x1
      have x0 := HX.c0
      have x1 := HX.c1
      obtain ⟨nx, px, ex, rnx, rpx⟩ := (ow).rd
      subst ex
      obtain ⟨A7, c7, rfl, _, _⟩ := rnx.slice
      obtain ⟨P7, d7, rfl, _, _⟩ := rpx.slice
      clear rnx rpx
      obtain ⟨W7, hW7⟩ : ∃ W, W = (w3).alloc (.cells #[.slice A7 (R).1.length c7, .slice P7 (R).2.length d7] 26) := ⟨_, rfl⟩
      have bx7 : Below (w3).heap.size w3 W7 := by rw [hW7]; exact box_below _ _ _
      have r7 : (W7).heap[(w3).heap.size]? = some (.cells #[.slice A7 (R).1.length c7, .slice P7 (R).2.length d7] 26 (0, 0)) := by rw [hW7]; exact heap_alloc_new _ _
      have s7 : (w3).heap.size + 1 = (W7).heap.size := by rw [hW7]; simp
      have o7 := (ow).below bx7
      have HY : Held W7 w3.heap.size _ _ R := ⟨r7, o7.rd⟩
      replace bb := below_step bb bx7
      replace HD := HD.below bx7
      replace HK := HK.below bx7
      clear a0 a1 k0 k1 k2
      have a0 := HD.c0
      have a1 := HD.c1
      have k0 := (cells3_of HK.row).1
      have k1 := (cells3_of HK.row).2.1
      have k2 := (cells3_of HK.row).2.2
      replace HX := HX.below bx7
      clear x0 x1
      have x0 := HX.c0
      have x1 := HX.c1
      have y0 := HY.c0
      have y1 := HY.c1
      clear o7 r7 ow s7
      go_wp2_with (first | (rw [← hW7]; clear hW7) | fail)
      refine (sameD_is (b := true) (by simp) HX.rd HY.rd).mono ?_
      rintro e w4 ⟨rfl, bn⟩
      replace bb := below_step bb bn
      replace HD := HD.below bn
      replace HK := HK.below bn
      clear a0 a1 k0 k1 k2
      have a0 := HD.c0
      have a1 := HD.c1
      have k0 := (cells3_of HK.row).1
      have k1 := (cells3_of HK.row).2.1
      have k2 := (cells3_of HK.row).2.2
      replace HX := HX.below bn
      clear x0 x1
      have x0 := HX.c0
      have x1 := HX.c1
      clear HY y0 y1 bn bx5 bx7 b2 b3
    · rcases hdk : deskB d with _ | _
      · rcases hsd : decide (R = d) with _ | _
        all_goals
          have HS := Lib.hid hsd
          clear hsd
          go_wp2_with fail
          refine (sameD_is HS.out HX.rd HD.rd).mono ?_
          rintro e w5 ⟨rfl, bn⟩
          replace bb := below_step bb bn
          replace HD := HD.below bn
          replace HK := HK.below bn
          clear a0 a1 k0 k1 k2
          have a0 := HD.c0
          have a1 := HD.c1
          have k0 := (cells3_of HK.row).1
          have k1 := (cells3_of HK.row).2.1
          have k2 := (cells3_of HK.row).2.2
          replace HX := HX.below bn
          clear x0 x1
          have x0 := HX.c0
          have x1 := HX.c1
          clear bn
        · go_wp2_with fail
          refine (dokI_is hdk HD.rd).mono ?_
          rintro e w6 ⟨rfl, bn⟩
          replace bb := below_step bb bn
          replace HD := HD.below bn
          replace HK := HK.below bn
          clear a0 a1 k0 k1 k2
          have a0 := HD.c0
          have a1 := HD.c1
          have k0 := (cells3_of HK.row).1
          have k1 := (cells3_of HK.row).2.1
          have k2 := (cells3_of HK.row).2.2
          clear bn
          go_wp2_with fail
          refine (alive_any _).mono ?_
          rintro e w7 ⟨rfl, bn⟩
          go_wp2
          go_ret
          exact ⟨rfl, below_step bb bn⟩
        · go_wp2_with fail
          refine (alive_any _).mono ?_
          rintro e w7 ⟨rfl, bn⟩
          go_wp2
          go_ret
          exact ⟨rfl, below_step bb bn⟩
      · have hsd : decide (R = d) = true := by
          rw [decide_eq_true_eq, ← hR]
          rw [(deskDo_yes hdk).2] at hO
          rw [(deskDo_yes hdk).1, do_not hO]
        go_wp2_with fail
        refine (sameD_is hsd HX.rd HD.rd).mono ?_
        rintro e w5 ⟨rfl, bn⟩
        replace bb := below_step bb bn
        replace HD := HD.below bn
        replace HK := HK.below bn
        clear a0 a1 k0 k1 k2
        have a0 := HD.c0
        have a1 := HD.c1
        have k0 := (cells3_of HK.row).1
        have k1 := (cells3_of HK.row).2.1
        have k2 := (cells3_of HK.row).2.2
        clear bn
        go_wp2_with fail
        refine (alive_any _).mono ?_
        rintro e w7 ⟨rfl, bn⟩
        go_wp2
        go_ret
        exact ⟨rfl, below_step bb bn⟩
    · obtain ⟨hdk, hdo⟩ := kind_in hO
      have hRd : doR d ((k, x), y) = R := by rw [← hR, (deskDo_yes hdk).1]
      have hRok : deskB R = true := by rw [← hRd]; exact desk_doR _ hdk
      have hgrow : k = 4 → withinB d.1 R.1 = true := fun e => by rw [← hRd]; exact do_grows hdk hdo e
      have hshr : k = 5 ∨ k = 6 → withinB R.1 d.1 = true := fun e => by rw [← hRd]; exact do_shrinks hdk hdo e
      have hback : k ≠ 8 → d.2.length < 8 → deskDoR R ((8, 0), 0) = d ∧ deskDoOk R ((8, 0), 0) = true := fun e1 e2 => by
        have hv := do_back hdo e1 e2
        rw [hRd] at hv
        rw [(deskDo_yes hRok).1, (deskDo_yes hRok).2, (do_yes hv).1, (do_yes hv).2]
        exact ⟨rfl, rfl⟩
      replace hR := Lib.hid hR
      replace hRd := Lib.hid hRd
      replace hO := Lib.hid hO
      replace hdo := Lib.hid hdo
      obtain ⟨Q, hQ⟩ : ∃ Q, deskDoR R ((8, 0), 0) = Q := ⟨_, rfl⟩
      obtain ⟨C, hC⟩ : ∃ C, deskDoOk R ((8, 0), 0) = C := ⟨_, rfl⟩
      go_wp2_with fail
      have cI := implDeskDo_any R 8 0 0 _ _ HX.rd
      rw [hQ, hC] at cI
      refine cI.mono ?_
      rintro e w6 ⟨vb, rfl, ob, b6⟩
      clear cI
      replace bb := below_step bb b6
      replace HD := HD.below b6
      replace HK := HK.below b6
      clear a0 a1 k0 k1 k2
      have a0 := HD.c0
      have a1 := HD.c1
      have k0 := (cells3_of HK.row).1
      have k1 := (cells3_of HK.row).2.1
      have k2 := (cells3_of HK.row).2.2
      replace HX := HX.below b6
      clear x0 x1
      have x0 := HX.c0
      have x1 := HX.c1
      obtain ⟨nx, px, ex, rnx, rpx⟩ := (ob).rd
      subst ex
      obtain ⟨A9, c9, rfl, _, _⟩ := rnx.slice
      obtain ⟨P9, d9, rfl, _, _⟩ := rpx.slice
      clear rnx rpx
      obtain ⟨W9, hW9⟩ : ∃ W, W = (w6).alloc (.cells #[.slice A9 (Q).1.length c9, .slice P9 (Q).2.length d9] 26) := ⟨_, rfl⟩
      have bx9 : Below (w6).heap.size w6 W9 := by rw [hW9]; exact box_below _ _ _
      have r9 : (W9).heap[(w6).heap.size]? = some (.cells #[.slice A9 (Q).1.length c9, .slice P9 (Q).2.length d9] 26 (0, 0)) := by rw [hW9]; exact heap_alloc_new _ _
      have s9 : (w6).heap.size + 1 = (W9).heap.size := by rw [hW9]; simp
      have o9 := (ob).below bx9
      have HB : Held W9 w6.heap.size _ _ Q := ⟨r9, o9.rd⟩
      replace bb := below_step bb bx9
      replace HD := HD.below bx9
      replace HK := HK.below bx9
      clear a0 a1 k0 k1 k2
      have a0 := HD.c0
      have a1 := HD.c1
      have k0 := (cells3_of HK.row).1
      have k1 := (cells3_of HK.row).2.1
      have k2 := (cells3_of HK.row).2.2
      replace HX := HX.below bx9
      clear x0 x1
      have x0 := HX.c0
      have x1 := HX.c1
      have z0 := HB.c0
      have z1 := HB.c1
      clear o9 r9 ob s9 bx9 b6
      rw [hQ, hC] at hback
      replace hQ := Lib.hid hQ
      replace hC := Lib.hid hC
      by_cases e8 : k = 8
      · subst e8
        clear hgrow hshr hback
        go_wp2_with (first | (rw [← hW9]; clear hW9) | fail)
        refine (dokI_is hRok HX.rd).mono ?_
        rintro e w11 ⟨rfl, bn⟩
        replace bb := below_step bb bn
        replace HD := HD.below bn
        replace HK := HK.below bn
        clear a0 a1 k0 k1 k2
        have a0 := HD.c0
        have a1 := HD.c1
        have k0 := (cells3_of HK.row).1
        have k1 := (cells3_of HK.row).2.1
        have k2 := (cells3_of HK.row).2.2
        replace HX := HX.below bn
        clear x0 x1
        have x0 := HX.c0
        have x1 := HX.c1
        replace HB := HB.below bn
        clear z0 z1
        have z0 := HB.c0
        have z1 := HB.c1
        clear bn
        go_wp2_with fail
        refine (alive_any _).mono ?_
        rintro e w13 ⟨rfl, bn⟩
        go_wp2
        go_ret
        exact ⟨rfl, below_step bb bn⟩
      · have f8 : (k == 8) = false := beq_eq_false_iff_ne.2 e8
        by_cases e4 : k = 4
        · subst e4
          have hs := hgrow rfl
          go_wp2_with (first | (rw [← hW9]; clear hW9) | fail)
          refine (within_is hs HD.now HX.now).mono ?_
          rintro e w10 ⟨rfl, bn⟩
          replace bb := below_step bb bn
          replace HD := HD.below bn
          replace HK := HK.below bn
          clear a0 a1 k0 k1 k2
          have a0 := HD.c0
          have a1 := HD.c1
          have k0 := (cells3_of HK.row).1
          have k1 := (cells3_of HK.row).2.1
          have k2 := (cells3_of HK.row).2.2
          replace HX := HX.below bn
          clear x0 x1
          have x0 := HX.c0
          have x1 := HX.c1
          replace HB := HB.below bn
          clear z0 z1
          have z0 := HB.c0
          have z1 := HB.c1
          clear bn hgrow hshr
          · go_wp2_with (first | (rw [← hW9]; clear hW9) | fail)
            refine (dokI_is hRok HX.rd).mono ?_
            rintro e w11 ⟨rfl, bn⟩
            replace bb := below_step bb bn
            replace HD := HD.below bn
            replace HK := HK.below bn
            clear a0 a1 k0 k1 k2
            have a0 := HD.c0
            have a1 := HD.c1
            have k0 := (cells3_of HK.row).1
            have k1 := (cells3_of HK.row).2.1
            have k2 := (cells3_of HK.row).2.2
            replace HX := HX.below bn
            clear x0 x1
            have x0 := HX.c0
            have x1 := HX.c1
            replace HB := HB.below bn
            clear z0 z1
            have z0 := HB.c0
            have z1 := HB.c1
            clear bn
            rcases hl8 : decide ((8 : Int) ≤ (d.2.length : Int)) with _ | _
            · obtain ⟨hq1, hq2⟩ := hback e8 (by have := of_decide_eq_false hl8; omega)
              subst hq2
              have hs : decide (Q = d) = true := decide_eq_true hq1
              clear hq1 hback
              go_wp2_with fail
              refine (sameD_is hs HB.rd HD.rd).mono ?_
              rintro e w12 ⟨rfl, bn⟩
              replace bb := below_step bb bn
              clear bn
              go_wp2_with fail
              refine (alive_any _).mono ?_
              rintro e w13 ⟨rfl, bn⟩
              go_wp2
              go_ret
              exact ⟨rfl, below_step bb bn⟩
            · go_wp2_with fail
              refine (alive_any _).mono ?_
              rintro e w13 ⟨rfl, bn⟩
              go_wp2
              go_ret
              exact ⟨rfl, below_step bb bn⟩
        · have f4 : (k == 4) = false := beq_eq_false_iff_ne.2 e4
          by_cases e5 : k = 5
          · subst e5
            have hs := hshr (.inl rfl)
            go_wp2_with (first | (rw [← hW9]; clear hW9) | fail)
            refine (within_is hs HX.now HD.now).mono ?_
            rintro e w10 ⟨rfl, bn⟩
            replace bb := below_step bb bn
            replace HD := HD.below bn
            replace HK := HK.below bn
            clear a0 a1 k0 k1 k2
            have a0 := HD.c0
            have a1 := HD.c1
            have k0 := (cells3_of HK.row).1
            have k1 := (cells3_of HK.row).2.1
            have k2 := (cells3_of HK.row).2.2
            replace HX := HX.below bn
            clear x0 x1
            have x0 := HX.c0
            have x1 := HX.c1
            replace HB := HB.below bn
            clear z0 z1
            have z0 := HB.c0
            have z1 := HB.c1
            clear bn hgrow hshr
            · go_wp2_with (first | (rw [← hW9]; clear hW9) | fail)
              refine (dokI_is hRok HX.rd).mono ?_
              rintro e w11 ⟨rfl, bn⟩
              replace bb := below_step bb bn
              replace HD := HD.below bn
              replace HK := HK.below bn
              clear a0 a1 k0 k1 k2
              have a0 := HD.c0
              have a1 := HD.c1
              have k0 := (cells3_of HK.row).1
              have k1 := (cells3_of HK.row).2.1
              have k2 := (cells3_of HK.row).2.2
              replace HX := HX.below bn
              clear x0 x1
              have x0 := HX.c0
              have x1 := HX.c1
              replace HB := HB.below bn
              clear z0 z1
              have z0 := HB.c0
              have z1 := HB.c1
              clear bn
              rcases hl8 : decide ((8 : Int) ≤ (d.2.length : Int)) with _ | _
              · obtain ⟨hq1, hq2⟩ := hback e8 (by have := of_decide_eq_false hl8; omega)
                subst hq2
                have hs : decide (Q = d) = true := decide_eq_true hq1
                clear hq1 hback
                go_wp2_with fail
                refine (sameD_is hs HB.rd HD.rd).mono ?_
                rintro e w12 ⟨rfl, bn⟩
                replace bb := below_step bb bn
                clear bn
                go_wp2_with fail
                refine (alive_any _).mono ?_
                rintro e w13 ⟨rfl, bn⟩
                go_wp2
                go_ret
                exact ⟨rfl, below_step bb bn⟩
              · go_wp2_with fail
                refine (alive_any _).mono ?_
                rintro e w13 ⟨rfl, bn⟩
                go_wp2
                go_ret
                exact ⟨rfl, below_step bb bn⟩
          · have f5 : (k == 5) = false := beq_eq_false_iff_ne.2 e5
            by_cases e6 : k = 6
            · subst e6
              have hs := hshr (.inr rfl)
              go_wp2_with (first | (rw [← hW9]; clear hW9) | fail)
              refine (within_is hs HX.now HD.now).mono ?_
              rintro e w10 ⟨rfl, bn⟩
              replace bb := below_step bb bn
              replace HD := HD.below bn
              replace HK := HK.below bn
              clear a0 a1 k0 k1 k2
              have a0 := HD.c0
              have a1 := HD.c1
              have k0 := (cells3_of HK.row).1
              have k1 := (cells3_of HK.row).2.1
              have k2 := (cells3_of HK.row).2.2
              replace HX := HX.below bn
              clear x0 x1
              have x0 := HX.c0
              have x1 := HX.c1
              replace HB := HB.below bn
              clear z0 z1
              have z0 := HB.c0
              have z1 := HB.c1
              clear bn hgrow hshr
              · go_wp2_with (first | (rw [← hW9]; clear hW9) | fail)
                refine (dokI_is hRok HX.rd).mono ?_
                rintro e w11 ⟨rfl, bn⟩
                replace bb := below_step bb bn
                replace HD := HD.below bn
                replace HK := HK.below bn
                clear a0 a1 k0 k1 k2
                have a0 := HD.c0
                have a1 := HD.c1
                have k0 := (cells3_of HK.row).1
                have k1 := (cells3_of HK.row).2.1
                have k2 := (cells3_of HK.row).2.2
                replace HX := HX.below bn
                clear x0 x1
                have x0 := HX.c0
                have x1 := HX.c1
                replace HB := HB.below bn
                clear z0 z1
                have z0 := HB.c0
                have z1 := HB.c1
                clear bn
                rcases hl8 : decide ((8 : Int) ≤ (d.2.length : Int)) with _ | _
                · obtain ⟨hq1, hq2⟩ := hback e8 (by have := of_decide_eq_false hl8; omega)
                  subst hq2
                  have hs : decide (Q = d) = true := decide_eq_true hq1
                  clear hq1 hback
                  go_wp2_with fail
                  refine (sameD_is hs HB.rd HD.rd).mono ?_
                  rintro e w12 ⟨rfl, bn⟩
                  replace bb := below_step bb bn
                  clear bn
                  go_wp2_with fail
                  refine (alive_any _).mono ?_
                  rintro e w13 ⟨rfl, bn⟩
                  go_wp2
                  go_ret
                  exact ⟨rfl, below_step bb bn⟩
                · go_wp2_with fail
                  refine (alive_any _).mono ?_
                  rintro e w13 ⟨rfl, bn⟩
                  go_wp2
                  go_ret
                  exact ⟨rfl, below_step bb bn⟩
            · have f6 : (k == 6) = false := beq_eq_false_iff_ne.2 e6
              clear hgrow hshr
              · go_wp2_with (first | (rw [← hW9]; clear hW9) | fail)
                refine (dokI_is hRok HX.rd).mono ?_
                rintro e w11 ⟨rfl, bn⟩
                replace bb := below_step bb bn
                replace HD := HD.below bn
                replace HK := HK.below bn
                clear a0 a1 k0 k1 k2
                have a0 := HD.c0
                have a1 := HD.c1
                have k0 := (cells3_of HK.row).1
                have k1 := (cells3_of HK.row).2.1
                have k2 := (cells3_of HK.row).2.2
                replace HX := HX.below bn
                clear x0 x1
                have x0 := HX.c0
                have x1 := HX.c1
                replace HB := HB.below bn
                clear z0 z1
                have z0 := HB.c0
                have z1 := HB.c1
                clear bn
                rcases hl8 : decide ((8 : Int) ≤ (d.2.length : Int)) with _ | _
                · obtain ⟨hq1, hq2⟩ := hback e8 (by have := of_decide_eq_false hl8; omega)
                  subst hq2
                  have hs : decide (Q = d) = true := decide_eq_true hq1
                  clear hq1 hback
                  go_wp2_with fail
                  refine (sameD_is hs HB.rd HD.rd).mono ?_
                  rintro e w12 ⟨rfl, bn⟩
                  replace bb := below_step bb bn
                  clear bn
                  go_wp2_with fail
                  refine (alive_any _).mono ?_
                  rintro e w13 ⟨rfl, bn⟩
                  go_wp2
                  go_ret
                  exact ⟨rfl, below_step bb bn⟩
                · go_wp2_with fail
                  refine (alive_any _).mono ?_
                  rintro e w13 ⟨rfl, bn⟩
                  go_wp2
                  go_ret
                  exact ⟨rfl, below_step bb bn⟩
set_option maxRecDepth 100000 in
theorem lifted (os : Os) (started : os.Started) (H : Type) (enc : TypeId × Value → H) :
    ReturnsInHanded {} Tryz.checked os 3 .any (Rows.fnDeskDoSpec.pre6 enc Tryz.prog Tryz.f3 Rows.fnDeskDoRow.domain false) (Rows.fnDeskDoSpec.post enc Tryz.prog Tryz.f3 false true false false) := by
  refine returnsInHanded_of_change (C := Tryz.checked) own started (by kernel_rfl) Tryz.func3
    (ChangeSpec.witness6 (enc := enc) (C := Tryz.checked) false ⟨#[], #[.slice none 0 0], []⟩ 8 (by kernel_rfl) (by kernel_rfl) (by kernel_rfl) (by kernel_rfl)) ?_
  intro W base args ds gs before hval0 hW _ _
  have hval : ∀ (j : Nat) t v, Tryz.f3.params[j]? = some t → args[j]? = some v → Value.okWide Tryz.prog W .any base t v := hval0
  have hW' := hW
  obtain ⟨p, q, hA0, hV, rfl, _, _⟩ := hW
  have hA : DataW.TrodAll enc Tryz.prog W 0 (fun _ => true) true Tryz.f3.params.toList args.toList ds p := hA0
  rw [Tryz.params3] at hA hval
  obtain ⟨v0, d0, rfl, rfl, h0⟩ := trodAll_one hA
  obtain ⟨rfl, rfl⟩ := trodVars_none hV
  clear hA0 hval0
  simp only [List.append_nil] at hW'
  have hlt : ∀ x ∈ p, x.block < W.heap.size := fun x hx => by simpa using hW'.lt x hx
  have r0 := open_bytes (hval 0 22 v0 rfl rfl) h0 hlt
  obtain ⟨⟨bA, bn, bc⟩, rfl, rb, rn, rc⟩ := r0
  simp only at rb rn rc
  refine (walk bA bn bc W rb rn rc).mono fun e W' hg => ?_
  obtain ⟨he, hb⟩ := hg
  subst he
  exact ⟨_, rfl, _, _, _, [], p, [], hW', trodAll_mk1 (shut_bool Tryz.underlying4 _), trodAll_mk1 (kept_arg (by kernel_rfl) (of_decide_eq_true (by kernel_rfl)) h0 hb hlt), rfl, hb.frame _, fun h => by cases h⟩

theorem holds : Rows.FnDeskDoSaid :=
  OpenClaim.holds_of_wide 3 Tryz.f3 rfl rfl rfl rfl rfl rfl rfl ⟨rfl, rfl, rfl, rfl, rfl⟩ rfl rfl rfl rfl rfl (by kernel_rfl) Tryz.func3 (by kernel_rfl)
    (of_decide_eq_true (by kernel_rfl)) (by unfold Func.isWrapper; first | (rw [if_pos (by decide +kernel)]; kernel_rfl) | (rw [if_neg (by decide +kernel)]; exact ⟨rfl, rfl⟩))
    (fun os started H enc _ => lifted os started H enc)
end Go.Proofs.YtkiidmdgdjphjaaGreat.fnDeskDo
